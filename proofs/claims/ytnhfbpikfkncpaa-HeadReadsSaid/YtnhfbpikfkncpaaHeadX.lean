/-
  The document's side of blocks: ReadHead.
-/
import Derived.Test.YtnhfbpikfkncpaaHeadR
namespace Go.Proofs.Ytnhfbpikfkncpaa
open Go.RowKit
set_option linter.unusedVariables false
set_option linter.unusedSimpArgs false

def aN (i : Nat) : Nat := ([100, 108, 116, 124, 136, 329, 337] : List Nat).getD i 0
def dN (i : Nat) : Nat := ([8, 8, 8, 12, 12, 8, 8] : List Nat).getD i 0
def rN (bs : List Int) (i : Nat) : Int × Bool := readS (seg bs (aN i) (dN i))
def rowN (bs : List Int) (i j : Nat) : Value := if j < i then .int .i64 (rN bs j).1 else .int .i64 0
def cellsN (bs : List Int) (i : Nat) : Array Value := #[rowN bs i 0, rowN bs i 1, rowN bs i 2, rowN bs i 3, rowN bs i 4, rowN bs i 5, rowN bs i 6]
theorem cellsN_set (bs : List Int) (i : Nat) (hi : i < 7) : (cellsN bs i).setIfInBounds i (.int .i64 (rN bs i).1) = cellsN bs (i + 1) := by
  rcases (by omega : i = 0 ∨ i = 1 ∨ i = 2 ∨ i = 3 ∨ i = 4 ∨ i = 5 ∨ i = 6) with rfl | rfl | rfl | rfl | rfl | rfl | rfl <;> rfl
theorem cellsN_at (bs : List Int) (i : Nat) (hi : i < 7) : ∃ v, (cellsN bs i)[i]? = some v := by
  rcases (by omega : i = 0 ∨ i = 1 ∨ i = 2 ∨ i = 3 ∨ i = 4 ∨ i = 5 ∨ i = 6) with rfl | rfl | rfl | rfl | rfl | rfl | rfl <;> exact ⟨_, rfl⟩
theorem nums_split (bs : List Int) : numsOk bs = ((rN bs 0).2 && (rN bs 1).2 && (rN bs 2).2 && (rN bs 3).2 && (rN bs 4).2 && (rN bs 5).2 && (rN bs 6).2) := rfl
theorem nums_no (bs : List Int) (i : Nat) (hi : i < 7) (h : (rN bs i).2 = false) : numsOk bs = false := by
  rw [nums_split]
  rcases (by omega : i = 0 ∨ i = 1 ∨ i = 2 ∨ i = 3 ∨ i = 4 ∨ i = 5 ∨ i = 6) with rfl | rfl | rfl | rfl | rfl | rfl | rfl <;> rw [h] <;> simp
theorem aN_le (i : Nat) (hi : i < 7) : aN i + dN i ≤ 512 ∧ 100 ≤ aN i ∧ 8 ≤ dN i ∧ dN i ≤ 12 := by
  rcases (by omega : i = 0 ∨ i = 1 ∨ i = 2 ∨ i = 3 ∨ i = 4 ∨ i = 5 ∨ i = 6) with rfl | rfl | rfl | rfl | rfl | rfl | rfl <;> decide
theorem rhd_end {t : Array Value} {R : Nat} {k : Int} {D : HdP} {wz : World} {Q : Ending → World → Prop} (h2 : t.getD 2 undef = .pointer (some ⟨R, 0, none⟩)) (h3 : t.getD 3 undef = .int .i64 k)
    (hz : wz.heap[R]? = some (.cells (hdC D) 23 (0, 0))) (hq : Q (.returned (.tuple #[hdV D, .int .i64 k])) wz) : bodyPost Try.prog Try.f13 Q .ret ⟨t, []⟩ wz := by
  unfold hdC at hz
  obtain ⟨k0, k1, k2, k3, k4, k5, k6, k7, k8, k9, k10, k11⟩ := hd_cells hz
  have h2' : t[2]?.getD undef = .pointer (some ⟨R, 0, none⟩) := by simpa using h2
  have h3' : t[3]?.getD undef = .int .i64 k := by simpa using h3
  refine bodyPost_ret (v := .tuple #[hdV D, .int .i64 k]) ?_ rfl hq
  simp [results, Try.results13, go_sem, h2', h3', k0, k1, k2, k3, k4, k5, k6, k7, k8, k9, k10, k11]
  rfl
set_option maxRecDepth 100000 in
set_option maxHeartbeats 4000000 in
theorem rreadhead_any (bs : List Int) (w : World) (hb : AllB bs) (hl : bs.length ≤ 1000000) : Calls Try.prog 13 #[.string (strOfNums bs)] w (DecHR w bs) := by
  obtain ⟨R, hR⟩ : ∃ R, R = w.heap.size := ⟨_, rfl⟩
  obtain ⟨wA, hwA⟩ : ∃ wA, wA = w.alloc (.cells #[.string ⟨#[]⟩, .string ⟨#[]⟩, .string ⟨#[]⟩, .int .u8 0, .bool false, .int .i64 0, .int .i64 0, .int .i64 0, .int .i64 0, .int .i64 0, .int .i64 0, .int .i64 0] 23) := ⟨_, rfl⟩
  have hkA : Kept NoB w wA := by rw [hwA]; exact (Kept.refl NoB w).alloc _
  have hRA : wA.heap[R]? = some (.cells #[.string ⟨#[]⟩, .string ⟨#[]⟩, .string ⟨#[]⟩, .int .u8 0, .bool false, .int .i64 0, .int .i64 0, .int .i64 0, .int .i64 0, .int .i64 0, .int .i64 0, .int .i64 0] 23 (0, 0)) := by rw [hwA, hR]; exact heap_alloc_new _ _
  have HRw : Hid (w.heap.size ≤ R) := Lib.hid (by omega)
  have HRA := Lib.hid hRA; have HKA := Lib.hid hkA
  obtain ⟨n, hn⟩ : ∃ n, n = bs.length := ⟨_, rfl⟩
  obtain ⟨S, hS⟩ : ∃ S, S = strOfNums bs := ⟨_, rfl⟩
  have hz : S.size = n := by rw [hS, strOfNums_size, hn]
  have HS := Lib.hid hS
  rw [← hS]
  clear hS
  by_cases h5 : n = 512
  · subst h5
    have hp := str_eq (a := seg bs 257 8) (b := magB false) (seg_all hb _ _) (allB_mag _)
    have hq := str_eq (a := seg bs 257 8) (b := magB true) (seg_all hb _ _) (allB_mag _)
    have hmag : magOk bs = ((seg bs 257 8 == magB false) || (seg bs 257 8 == magB true)) := rfl
    have hgnu : gnuOf bs = (seg bs 257 8 == magB true) := rfl
    rw [num_list (magB false)] at hp
    rw [num_list (magB true)] at hq
    have hp : ((strOfNums (seg bs 257 8)).toList == [117, 115, 116, 97, 114, 0, 48, 48]) = _ := hp
    have hq : ((strOfNums (seg bs 257 8)).toList == [117, 115, 116, 97, 114, 32, 32, 0]) = _ := hq
    obtain ⟨M, hM⟩ : ∃ M, M = strOfNums (seg bs 257 8) := ⟨_, rfl⟩
    rw [← hM] at hp hq
    have hMz : M.size = 8 := by rw [hM, strOfNums_size, seg_len _ _ _ (by omega)]
    have HM5 : Hid (∀ h : 5 < M.size, ((M[5]'h).toNat : Int) = (seg bs 257 8).getD 5 0) := Lib.hid (fun h => by subst hM; exact str_atI _ (seg_all hb _ _) 5 h)
    have hxM : S.extract 257 265 = M := by rw [HS.out, hM]; exact str_extract3 bs 257 8
    obtain ⟨pb, hpb⟩ : ∃ pb, pb = (seg bs 257 8 == magB false) := ⟨_, rfl⟩
    obtain ⟨gb, hgb⟩ : ∃ gb, gb = (seg bs 257 8 == magB true) := ⟨_, rfl⟩
    have HM5b : Hid (magOk bs = true → ((seg bs 257 8).getD 5 0 == 32) = gb) := Lib.hid (fun hm => by
      rw [hgb]
      rw [hmag] at hm
      rcases Bool.or_eq_true_iff.1 hm with h | h
      · rw [eq_of_beq h]; rfl
      · rw [eq_of_beq h]; rfl)
    rw [← hpb] at hp hmag
    rw [← hgb] at hq hmag hgnu
    have hdl : decL bs = (if magOk bs = true then if sumOk bs = true then if numsOk bs = true ∧ 0 ≤ (readS (seg bs 124 12)).1 then (decH bs, 0) else (hd0, 6) else (hd0, 7) else (hd0, 6)) := by rw [decL, if_pos hn.symm]
    have HExt : Hid (∀ A D, A + D ≤ 512 → S.extract A (A + D) = strOfNums (seg bs A D) ∧ (seg bs A D).length = D ∧ AllB (seg bs A D)) := Lib.hid (fun A D h => ⟨by rw [HS.out]; exact str_extract3 bs A D, seg_len bs A D (by omega), seg_all hb A D⟩)
    have HN := Lib.hid hn; have HB := Lib.hid hb; have HMag := Lib.hid hmag; have HGnu := Lib.hid hgnu; have HDl := Lib.hid hdl
    clear hn hb hRA hkA hmag hgnu hdl hM hpb hgb
    go_enter Try.func13, Try.ntmps13
    go_upto_region 4 with fail
    rw [← hR, ← hwA]
    clear hR hwA
    by_cases hno : pb = false ∧ gb = false
    · obtain ⟨rfl, rfl⟩ := hno
      have HF : Hid (decL bs = (hd0, 6)) := Lib.hid (by rw [HDl.out, HMag.out]; rfl)
      have HZ : Hid ((wA.setRow R (hdC hd0)).heap[R]? = some (.cells (hdC hd0) 23 (0, 0))) := Lib.hid (setRow_heap wA R _ (hdC hd0) _ _ HRA.out)
      have HKz := Lib.hid (kept_setRow HKA.out HRw.out (hdC hd0))
      go_wp2_with (refine wpList_store_row rfl 23 (.tmp 2) _ rfl R (hdC hd0) rfl rfl _ _ HRA.out infoHd rfl (hdC_one _) ?_)
      generalize wA.setRow R (hdC hd0) = wz at HZ HKz ⊢
      go_wp2
      refine rhd_end (R := R) (k := 6) (D := hd0) ?_ ?_ HZ.out ?_
      · rfl
      · rfl
      · exact ⟨by rw [HF.out], HKz.out⟩
    · have HM : Hid (magOk bs = true) := Lib.hid (by
        rw [HMag.out]
        cases pb <;> cases gb <;> simp at hno ⊢)
      go_cut [23] from 18 to 23 (fun v23 wx => v23 = .bool false ∧ wA = wx)
      case first =>
        cases pb
        · cases gb
          · exact absurd ⟨rfl, rfl⟩ hno
          · go_wp2
            go_meet
            exact ⟨rfl, rfl⟩
        · go_wp2
          go_meet
          exact ⟨rfl, rfl⟩
      case rest =>
      obtain ⟨rfl, rfl⟩ := hcut
      clear hno hp hq
      obtain ⟨s1, s2, s3⟩ := HExt.out 148 8 (by omega)
      have hx1 : S.extract 148 156 = strOfNums (seg bs 148 8) := s1
      have hso : sumOk bs = ((readS (seg bs 148 8)).2 && (readS (seg bs 148 8)).1 == sumL bs) := rfl
      have HRd := Lib.hid (fun W => rReadNum_any (seg bs 148 8) W s3 (by omega))
      obtain ⟨q1, hq1⟩ : ∃ q, q = readS (seg bs 148 8) := ⟨_, rfl⟩
      rw [← hq1] at HRd hso
      obtain ⟨x1, ok1⟩ := q1
      obtain ⟨sm, hsm⟩ : ∃ sm, sm = sumL bs := ⟨_, rfl⟩
      have HSu : Hid (∀ W, Calls Try.prog 15 #[.string S] W fun e w' => e = .returned (.int .i64 sm) ∧ W = w') := Lib.hid (fun W => by rw [HS.out, hsm]; exact rsum_any bs W HB.out (by have := HN.out; omega))
      rw [← hsm] at hso
      have HSo := Lib.hid hso
      clear hq1 hsm hso s1 s2 s3
      go_wp2_with fail
      with_reducible refine (HRd.out _).mono ?_
      rintro e w2 ⟨rfl, rfl⟩
      cases ok1 with
      | false =>
        have HF : Hid (decL bs = (hd0, 7)) := Lib.hid (by rw [HDl.out, if_pos HM.out, HSo.out]; rfl)
        have HZ : Hid ((wA.setRow R (hdC hd0)).heap[R]? = some (.cells (hdC hd0) 23 (0, 0))) := Lib.hid (setRow_heap wA R _ (hdC hd0) _ _ HRA.out)
        have HKz := Lib.hid (kept_setRow HKA.out HRw.out (hdC hd0))
        go_wp2_with (refine wpList_store_row rfl 23 (.tmp 2) _ rfl R (hdC hd0) rfl rfl _ _ HRA.out infoHd rfl (hdC_one _) ?_)
        generalize wA.setRow R (hdC hd0) = wz at HZ HKz ⊢
        go_wp2
        refine rhd_end (R := R) (k := 7) (D := hd0) ?_ ?_ HZ.out ?_
        · rfl
        · rfl
        · exact ⟨by rw [HF.out], HKz.out⟩
      | true =>
        go_wp2_with fail
        with_reducible refine (HSu.out _).mono ?_
        rintro e w2 ⟨rfl, rfl⟩
        by_cases hxs : x1 = sm
        case neg =>
          have hd1 : (x1 != sm) = true := by simp [hxs]
          have hd2 : (x1 == sm) = false := by simp [hxs]
          have HF : Hid (decL bs = (hd0, 7)) := Lib.hid (by rw [HDl.out, if_pos HM.out, HSo.out, hd2]; rfl)
          clear hxs
          have HZ : Hid ((wA.setRow R (hdC hd0)).heap[R]? = some (.cells (hdC hd0) 23 (0, 0))) := Lib.hid (setRow_heap wA R _ (hdC hd0) _ _ HRA.out)
          have HKz := Lib.hid (kept_setRow HKA.out HRw.out (hdC hd0))
          go_wp2_with (refine wpList_store_row rfl 23 (.tmp 2) _ rfl R (hdC hd0) rfl rfl _ _ HRA.out infoHd rfl (hdC_one _) ?_)
          generalize wA.setRow R (hdC hd0) = wz at HZ HKz ⊢
          go_wp2
          refine rhd_end (R := R) (k := 7) (D := hd0) ?_ ?_ HZ.out ?_
          · rfl
          · rfl
          · exact ⟨by rw [HF.out], HKz.out⟩
        case pos =>
        have hd1 : (x1 != sm) = false := by simp [hxs]
        have hd2 : (x1 == sm) = true := by simp [hxs]
        have HSk : Hid (sumOk bs = true) := Lib.hid (by rw [HSo.out, hd2]; rfl)
        have HDl2 : Hid (decL bs = if numsOk bs = true ∧ 0 ≤ (readS (seg bs 124 12)).1 then (decH bs, 0) else (hd0, 6)) := Lib.hid (by rw [HDl.out, if_pos HM.out, if_pos HSk.out])
        clear hd2 hxs
        obtain ⟨B, hB⟩ : ∃ B, B = wA.heap.size := ⟨_, rfl⟩
        obtain ⟨w4, hw4⟩ : ∃ y, y = wA.alloc (.cells #[.int .i64 0, .int .i64 0, .int .i64 0, .int .i64 0, .int .i64 0, .int .i64 0, .int .i64 0] 72) := ⟨_, rfl⟩
        have HB4 : Hid (w4.heap[B]? = some (.cells (cellsN bs 0) 72 (0, 0))) := Lib.hid (by rw [hw4, hB]; exact heap_alloc_new _ _)
        have hk4 : Kept NoB wA w4 := by rw [hw4]; exact (Kept.refl NoB wA).alloc _
        have HR4 := Lib.hid (hk4.obj HRA.out (fun h => h)); have HK4 := Lib.hid (HKA.out.trans hk4)
        have HBh := Lib.hid hB; have HW4 := Lib.hid hw4
        have HwB : Hid (w.heap.size ≤ B) := Lib.hid (by rw [hB]; exact HKA.out.size)
        have HRB : Hid (R < B) := Lib.hid (by rw [hB]; exact obj_lt HRA.out)
        clear hB hw4 hk4
        go_upto_region 10 with fail
        rw [← HBh.out, ← HW4.out]
        clear HBh HW4 HRA HKA hd1 hx1 hxM
        --LOOP
        go_wp2
        go_loopw [8] (fun v8 wr => ∃ i : Nat, v8 = .int .i64 (i : Int) ∧ i ≤ 7 ∧ Hid (∀ j, j < i → (rN bs j).2 = true) ∧ Hid (wr.heap[B]? = some (.cells (cellsN bs i) 72 (0, 0))) ∧ Hid (wr.heap[R]? = some (.cells #[.string ⟨#[]⟩, .string ⟨#[]⟩, .string ⟨#[]⟩, .int .u8 0, .bool false, .int .i64 0, .int .i64 0, .int .i64 0, .int .i64 0, .int .i64 0, .int .i64 0, .int .i64 0] 23 (0, 0))) ∧ Hid (Kept NoB w wr)) (fun v8 _ => 7 - (intOf v8).toNat)
        case atStart => exact ⟨0, rfl, by omega, Lib.hid (fun j hj => by omega), HB4, HR4, HK4⟩
        case round =>
          obtain ⟨i, rfl, hi, HO, HC, HRr, HKr⟩ := hrel
          by_cases hlt : (i : Int) < 7
          · have hi7 : i < 7 := by omega
            obtain ⟨A, hA⟩ : ∃ A, A = aN i := ⟨_, rfl⟩
            obtain ⟨D, hD⟩ : ∃ A, A = dN i := ⟨_, rfl⟩
            have hAD := aN_le i hi7
            rw [← hA, ← hD] at hAD
            have hget : (#[Value.int .i64 100, .int .i64 108, .int .i64 116, .int .i64 124, .int .i64 136, .int .i64 329, .int .i64 337] : Array Value)[i]? = some (.int .i64 (A : Int)) := by
              rw [hA]
              rcases (by omega : i = 0 ∨ i = 1 ∨ i = 2 ∨ i = 3 ∨ i = 4 ∨ i = 5 ∨ i = 6) with rfl | rfl | rfl | rfl | rfl | rfl | rfl <;> rfl
            have hget2 : (#[Value.int .i64 8, .int .i64 8, .int .i64 8, .int .i64 12, .int .i64 12, .int .i64 8, .int .i64 8] : Array Value)[i]? = some (.int .i64 (D : Int)) := by
              rw [hD]
              rcases (by omega : i = 0 ∨ i = 1 ∨ i = 2 ∨ i = 3 ∨ i = 4 ∨ i = 5 ∨ i = 6) with rfl | rfl | rfl | rfl | rfl | rfl | rfl <;> rfl
            have hcell : (wr.alloc (.cells #[Value.int .i64 100, .int .i64 108, .int .i64 116, .int .i64 124, .int .i64 136, .int .i64 329, .int .i64 337] 3)).cell? ⟨wr.heap.size, i, none⟩ = some (.int .i64 (A : Int)) := by
              rw [cell_new i rfl]; exact hget
            obtain ⟨wx, hwx⟩ : ∃ y, y = wr.alloc (.cells #[Value.int .i64 100, .int .i64 108, .int .i64 116, .int .i64 124, .int .i64 136, .int .i64 329, .int .i64 337] 3) := ⟨_, rfl⟩
            have hkx : Kept NoB wr wx := by rw [hwx]; exact (Kept.refl NoB wr).alloc _
            have HKx := Lib.hid (HKr.out.trans hkx); have HRx := Lib.hid (hkx.obj HRr.out (fun h => h)); have HCx := Lib.hid (hkx.obj HC.out (fun h => h))
            have HWx := Lib.hid hwx
            have hcell2 : ∀ W : World, (W.alloc (.cells #[Value.int .i64 8, .int .i64 8, .int .i64 8, .int .i64 12, .int .i64 12, .int .i64 8, .int .i64 8] 3)).cell? ⟨W.heap.size, i, none⟩ = some (.int .i64 (D : Int)) := fun W => by
              rw [cell_new i rfl]; exact hget2
            have HH := Lib.hid hA; have HD := Lib.hid hD
            clear hget hget2 hA hD hkx hwx
            go_upto_region 15 with fail
            rw [← HWx.out]
            clear hcell
            have hc2 := hcell2 wx
            obtain ⟨e1, e2, e3⟩ := HExt.out A D hAD.1
            have hrq : readS (seg bs A D) = rN bs i := by unfold rN; rw [HH.out, HD.out]
            have HRn := Lib.hid (fun W => rReadNum_any (seg bs A D) W e3 (by omega))
            rw [hrq] at HRn
            clear hrq hcell2 e2 e3
            go_wp2_with fail
            with_reducible refine (HRn.out _).mono ?_
            rintro e w5 ⟨rfl, rfl⟩
            obtain ⟨wy, hwy⟩ : ∃ y, y = wx.alloc (.cells #[Value.int .i64 8, .int .i64 8, .int .i64 8, .int .i64 12, .int .i64 12, .int .i64 8, .int .i64 8] 3) := ⟨_, rfl⟩
            rw [← hwy]
            have hky : Kept NoB wx wy := by rw [hwy]; exact (Kept.refl NoB wx).alloc _
            have HKy := Lib.hid (HKx.out.trans hky); have HRy := Lib.hid (hky.obj HRx.out (fun h => h)); have HCy := Lib.hid (hky.obj HCx.out (fun h => h))
            obtain ⟨old, hold⟩ := cellsN_at bs i hi7
            have cB : wy.cell? ⟨B, i, none⟩ = some old := by rw [obj_cell HCy.out i]; exact hold
            have fB : wy.frozen? ⟨B, i, none⟩ = false := obj_free HCy.out i
            obtain ⟨rq, hrq⟩ : ∃ r, r = rN bs i := ⟨_, rfl⟩
            have HRq := Lib.hid hrq
            rw [← hrq]
            obtain ⟨x, ok⟩ := rq
            have HCs : Hid ((wy.setCell ⟨B, i, none⟩ (.int .i64 x)).heap[B]? = some (.cells (cellsN bs (i + 1)) 72 (0, 0))) := Lib.hid (by
              have := obj_set HCy.out i (.int .i64 (rN bs i).1)
              rw [cellsN_set bs i hi7, ← HRq.out] at this
              exact this)
            have HKs := Lib.hid (Kept.setCell (p := ⟨B, i, none⟩) HKy.out (.inr HwB.out) (.int .i64 x))
            have HRs := Lib.hid ((Kept.setCell (S := OneB B) (p := ⟨B, i, none⟩) (Kept.refl (OneB B) wy) (.inl rfl) (.int .i64 x)).obj HRy.out (fun e => absurd e (Nat.ne_of_lt HRB.out)))
            clear hwy hky hrq hold hc2 e1
            go_upto_region 16 with fail
            clear cB fB
            generalize wy.setCell ⟨B, i, none⟩ (.int .i64 x) = ws at HCs HKs HRs ⊢
            cases ok with
            | false =>
              have HF : Hid (decL bs = (hd0, 6)) := Lib.hid (by rw [HDl2.out, if_neg (fun hh => by rw [nums_no bs i hi7 (by rw [← HRq.out])] at hh; exact absurd hh.1 (by decide))])
              have HZ : Hid ((ws.setRow R (hdC hd0)).heap[R]? = some (.cells (hdC hd0) 23 (0, 0))) := Lib.hid (setRow_heap ws R _ (hdC hd0) _ _ HRs.out)
              have HKz := Lib.hid (kept_setRow HKs.out HRw.out (hdC hd0))
              go_wp2_with (refine wpList_store_row rfl 23 (.tmp 2) _ rfl R (hdC hd0) rfl rfl _ _ HRs.out infoHd rfl (hdC_one _) ?_)
              generalize ws.setRow R (hdC hd0) = wz at HZ HKz ⊢
              go_wp2
              refine rhd_end (R := R) (k := 6) (D := hd0) ?_ ?_ HZ.out ?_
              · rfl
              · rfl
              · exact ⟨by rw [HF.out], HKz.out⟩
            | true =>
              have HOn : Hid (∀ j, j < i + 1 → (rN bs j).2 = true) := Lib.hid (fun j hj => by
                by_cases e : j = i
                · subst e; rw [← HRq.out]
                · exact HO.out j (by omega))
              go_wp2
              go_roundw
              case rel => exact ⟨i + 1, by go_num, by omega, HOn, HCs, HRs, HKs⟩
              case measure => simp [intOf]; omega
          · have hi7 : i = 7 := by omega
            subst hi7
            have HNm : Hid (numsOk bs = true) := Lib.hid (by rw [nums_split, HO.out 0 (by omega), HO.out 1 (by omega), HO.out 2 (by omega), HO.out 3 (by omega), HO.out 4 (by omega), HO.out 5 (by omega), HO.out 6 (by omega)]; rfl)
            obtain ⟨z, hzz⟩ : ∃ z, z = (rN bs 3).1 := ⟨_, rfl⟩
            have HZz : Hid ((readS (seg bs 124 12)).1 = z) := Lib.hid (by rw [hzz]; rfl)
            have b3 : wr.cell? ⟨B, 3, none⟩ = some (.int .i64 z) := by rw [obj_cell HC.out 3, hzz]; rfl
            clear hzz HO HB4 HR4 HK4
            by_cases hneg : z < 0
            · have HF : Hid (decL bs = (hd0, 6)) := Lib.hid (by rw [HDl2.out, if_neg (fun h => by have := h.2; rw [HZz.out] at this; omega)])
              have HZ : Hid ((wr.setRow R (hdC hd0)).heap[R]? = some (.cells (hdC hd0) 23 (0, 0))) := Lib.hid (setRow_heap wr R _ (hdC hd0) _ _ HRr.out)
              have HKz := Lib.hid (kept_setRow HKr.out HRw.out (hdC hd0))
              go_wp2_with (refine wpList_store_row rfl 23 (.tmp 2) _ rfl R (hdC hd0) rfl rfl _ _ HRr.out infoHd rfl (hdC_one _) ?_)
              generalize wr.setRow R (hdC hd0) = wz at HZ HKz ⊢
              go_wp2
              refine rhd_end (R := R) (k := 6) (D := hd0) ?_ ?_ HZ.out ?_
              · rfl
              · rfl
              · exact ⟨by rw [HF.out], HKz.out⟩
            · have HF : Hid (decL bs = (decH bs, 0)) := Lib.hid (by rw [HDl2.out, if_pos ⟨HNm.out, by rw [HZz.out]; omega⟩])
              have hdz : decide (z < 0) = false := decide_eq_false hneg
              clear hneg
              go_upto_region 20 with fail
              clear b3 hdz
              --REG20
              obtain ⟨ty, hty⟩ : ∃ t, t = bs.getD 156 0 := ⟨_, rfl⟩
              obtain ⟨n0, hn0⟩ : ∃ n, n = (rN bs 0).1 := ⟨_, rfl⟩
              have HL0 : Hid (∀ W, Kept NoB wr W → W.cell? ⟨B, 0, none⟩ = some (.int .i64 n0)) := Lib.hid (fun W hk => hk.cell (by rw [obj_cell HC.out 0, hn0]; rfl))
              obtain ⟨n1, hn1⟩ : ∃ n, n = (rN bs 1).1 := ⟨_, rfl⟩
              have HL1 : Hid (∀ W, Kept NoB wr W → W.cell? ⟨B, 1, none⟩ = some (.int .i64 n1)) := Lib.hid (fun W hk => hk.cell (by rw [obj_cell HC.out 1, hn1]; rfl))
              obtain ⟨n2, hn2⟩ : ∃ n, n = (rN bs 2).1 := ⟨_, rfl⟩
              have HL2 : Hid (∀ W, Kept NoB wr W → W.cell? ⟨B, 2, none⟩ = some (.int .i64 n2)) := Lib.hid (fun W hk => hk.cell (by rw [obj_cell HC.out 2, hn2]; rfl))
              obtain ⟨n3, hn3⟩ : ∃ n, n = (rN bs 3).1 := ⟨_, rfl⟩
              have HL3 : Hid (∀ W, Kept NoB wr W → W.cell? ⟨B, 3, none⟩ = some (.int .i64 n3)) := Lib.hid (fun W hk => hk.cell (by rw [obj_cell HC.out 3, hn3]; rfl))
              obtain ⟨n4, hn4⟩ : ∃ n, n = (rN bs 4).1 := ⟨_, rfl⟩
              have HL4 : Hid (∀ W, Kept NoB wr W → W.cell? ⟨B, 4, none⟩ = some (.int .i64 n4)) := Lib.hid (fun W hk => hk.cell (by rw [obj_cell HC.out 4, hn4]; rfl))
              obtain ⟨n5, hn5⟩ : ∃ n, n = (rN bs 5).1 := ⟨_, rfl⟩
              have HL5 : Hid (∀ W, Kept NoB wr W → W.cell? ⟨B, 5, none⟩ = some (.int .i64 n5)) := Lib.hid (fun W hk => hk.cell (by rw [obj_cell HC.out 5, hn5]; rfl))
              obtain ⟨n6, hn6⟩ : ∃ n, n = (rN bs 6).1 := ⟨_, rfl⟩
              have HL6 : Hid (∀ W, Kept NoB wr W → W.cell? ⟨B, 6, none⟩ = some (.int .i64 n6)) := Lib.hid (fun W hk => hk.cell (by rw [obj_cell HC.out 6, hn6]; rfl))
              obtain ⟨c1, hc1⟩ : ∃ c, c = cutZ (seg bs 0 100) := ⟨_, rfl⟩
              obtain ⟨c2, hc2⟩ : ∃ c, c = cutZ (seg bs 157 100) := ⟨_, rfl⟩
              obtain ⟨c3, hc3⟩ : ∃ c, c = cutZ (seg bs 345 155) := ⟨_, rfl⟩
              have HD : Hid (decH bs = ⟨c1, c2, if gb = true then [] else c3, ty, gb, n0, n1, n2, n3, n4, n5, n6⟩) := Lib.hid (by rw [hc1, hc2, hc3, hty, hn0, hn1, hn2, hn3, hn4, hn5, hn6, ← HGnu.out]; rfl)
              obtain ⟨a1, a2, a3⟩ := HExt.out 0 100 (by omega)
              obtain ⟨b1, b2, b3⟩ := HExt.out 157 100 (by omega)
              obtain ⟨d1, d2, d3⟩ := HExt.out 345 155 (by omega)
              have HT1 := Lib.hid (fun W => cut16_any (seg bs 0 100) W a3 (by omega))
              have HT2 := Lib.hid (fun W => cut16_any (seg bs 157 100) W b3 (by omega))
              have HT3 := Lib.hid (fun W => cut16_any (seg bs 345 155) W d3 (by omega))
              rw [← hc1] at HT1; rw [← hc2] at HT2; rw [← hc3] at HT3
              have HE1 : Hid (S.extract 0 100 = strOfNums (seg bs 0 100)) := Lib.hid a1
              have HE2 : Hid (S.extract 157 257 = strOfNums (seg bs 157 100)) := Lib.hid b1
              have HE3 : Hid (S.extract 345 500 = strOfNums (seg bs 345 155)) := Lib.hid d1
              have h156 : 156 < S.size := by omega
              have h5M : 5 < M.size := by omega
              have H156 : Hid (((S[156]'h156).toNat : Int) = ty) := Lib.hid (by rw [hty]; have hS := HS.out; subst hS; exact str_atI bs HB.out 156 h156)
              obtain ⟨m5, hm5⟩ : ∃ m, m = (seg bs 257 8).getD 5 0 := ⟨_, rfl⟩
              have HM5x : Hid (((M[5]'h5M).toNat : Int) = m5) := Lib.hid (by rw [hm5]; exact HM5.out h5M)
              have HM5y : Hid ((m5 == 32) = gb) := Lib.hid (by rw [hm5]; exact HM5b.out HM.out)
              clear hty hn0 hn1 hn2 hn3 hn4 hn5 hn6 hc1 hc2 hc3 a1 a2 a3 b1 b2 b3 d1 d2 d3 hm5
              have HOB : Hid (wr.heap.size > R) := Lib.hid (obj_lt HRr.out)
              go_cut [11] from 70 to 95 (fun v11 wy => ∃ H : Nat, v11 = .pointer (some ⟨H, 0, none⟩) ∧ Hid (wy.heap[H]? = some (.cells (hdC ⟨c1, c2, [], ty, gb, n0, n1, n2, n3, n4, n5, n6⟩) 23 (0, 0))) ∧ Hid (Kept NoB wr wy) ∧ wr.heap.size ≤ H)
              case first =>
                go_wp2_with fail
                refine wp_region_noPanic ?_
                refine wp_region_held_drew (S := fun W => Kept NoB wr W) (by kernel_rfl) (Kept.drew (Kept.refl _ _)) (fun hHeld => ?_)
                obtain ⟨wd, hwd⟩ : ∃ x, x = wr.drew := ⟨_, rfl⟩
                rw [← hwd] at hHeld ⊢
                clear hwd
                refine wpAnyH_take (i := 0) (v := ?_) (by rw [List.getElem?_toArray]; rfl) (by kernel_rfl) (by kernel_rfl) (by kernel_rfl) (fun _ _ _ h => h) (Or.inl ⟨by rfl, ?hyq1_⟩) (by assumption) ?restq1_
                case hyq1_ => (intro w hSw; (try dsimp only at hSw); go_simp; (try with_reducible rfl))
                try simp only [Act.put, List.setIfInBounds_toArray, List.set_cons_zero, List.set_cons_succ]
                refine wpAnyH_take (i := 1) (v := ?_) (by rw [List.getElem?_toArray]; rfl) (by kernel_rfl) (by kernel_rfl) (by kernel_rfl) (fun _ _ _ h => h) (Or.inl ⟨by rfl, ?hyq2_⟩) (by assumption) ?restq2_
                case hyq2_ => (intro w hSw; (try dsimp only at hSw); have e1 := HE1.out; go_simp; (try with_reducible rfl))
                try simp only [Act.put, List.setIfInBounds_toArray, List.set_cons_zero, List.set_cons_succ]
                refine wpAnyH_take (i := 3) (v := ?_) (by rw [List.getElem?_toArray]; rfl) (by kernel_rfl) (by kernel_rfl) (by kernel_rfl) (fun _ _ _ h => h) (Or.inl ⟨by rfl, ?hyq3_⟩) (by assumption) ?restq3_
                case hyq3_ => (intro w hSw; (try dsimp only at hSw); go_simp; (try with_reducible rfl))
                try simp only [Act.put, List.setIfInBounds_toArray, List.set_cons_zero, List.set_cons_succ]
                refine wpAnyH_take (i := 4) (v := ?_) (by rw [List.getElem?_toArray]; rfl) (by kernel_rfl) (by kernel_rfl) (by kernel_rfl) (fun _ _ _ h => h) (Or.inl ⟨by rfl, ?hyq4_⟩) (by assumption) ?restq4_
                case hyq4_ => (intro w hSw; (try dsimp only at hSw); have e1 := HE2.out; go_simp; (try with_reducible rfl))
                try simp only [Act.put, List.setIfInBounds_toArray, List.set_cons_zero, List.set_cons_succ]
                refine wpAnyH_take (i := 6) (v := ?_) (by rw [List.getElem?_toArray]; rfl) (by kernel_rfl) (by kernel_rfl) (by kernel_rfl) (fun _ _ _ h => h) (Or.inl ⟨by rfl, ?hyq5_⟩) (by assumption) ?restq5_
                case hyq5_ => (intro w hSw; (try dsimp only at hSw); go_simp; (try with_reducible rfl))
                try simp only [Act.put, List.setIfInBounds_toArray, List.set_cons_zero, List.set_cons_succ]
                refine wpAnyH_take (i := 7) (v := ?_) (by rw [List.getElem?_toArray]; rfl) (by kernel_rfl) (by kernel_rfl) (by kernel_rfl) (fun _ _ _ h => h) (Or.inl ⟨by rfl, ?hyq6_⟩) (by assumption) ?restq6_
                case hyq6_ => (intro w hSw; (try dsimp only at hSw); have e1 := H156.out; go_simp; (try with_reducible rfl))
                try simp only [Act.put, List.setIfInBounds_toArray, List.set_cons_zero, List.set_cons_succ]
                refine wpAnyH_take (i := 8) (v := ?_) (by rw [List.getElem?_toArray]; rfl) (by kernel_rfl) (by kernel_rfl) (by kernel_rfl) (fun _ _ _ h => h) (Or.inl ⟨by rfl, ?hyq7_⟩) (by assumption) ?restq7_
                case hyq7_ => (intro w hSw; (try dsimp only at hSw); go_simp; (try with_reducible rfl))
                try simp only [Act.put, List.setIfInBounds_toArray, List.set_cons_zero, List.set_cons_succ]
                refine wpAnyH_take (i := 9) (v := ?_) (by rw [List.getElem?_toArray]; rfl) (by kernel_rfl) (by kernel_rfl) (by kernel_rfl) (fun _ _ _ h => h) (Or.inl ⟨by rfl, ?hyq8_⟩) (by assumption) ?restq8_
                case hyq8_ => (intro w hSw; (try dsimp only at hSw); have e1 := HM5x.out; go_simp; (try with_reducible rfl))
                try simp only [Act.put, List.setIfInBounds_toArray, List.set_cons_zero, List.set_cons_succ]
                refine wpAnyH_take (i := 10) (v := ?_) (by rw [List.getElem?_toArray]; rfl) (by kernel_rfl) (by kernel_rfl) (by kernel_rfl) (fun _ _ _ h => h) (Or.inl ⟨by rfl, ?hyq9_⟩) (by assumption) ?restq9_
                case hyq9_ => (intro w hSw; (try dsimp only at hSw); have e1 := HM5y.out; go_simp; (try with_reducible rfl))
                try simp only [Act.put, List.setIfInBounds_toArray, List.set_cons_zero, List.set_cons_succ]
                refine wpAnyH_take (i := 11) (v := ?_) (by rw [List.getElem?_toArray]; rfl) (by kernel_rfl) (by kernel_rfl) (by kernel_rfl) (fun _ _ _ h => h) (Or.inl ⟨by rfl, ?hyq10_⟩) (by assumption) ?restq10_
                case hyq10_ => (intro w hSw; (try dsimp only at hSw); go_simp; (try with_reducible rfl))
                try simp only [Act.put, List.setIfInBounds_toArray, List.set_cons_zero, List.set_cons_succ]
                refine wpAnyH_take (i := 12) (v := ?_) (by rw [List.getElem?_toArray]; rfl) (by kernel_rfl) (by kernel_rfl) (by kernel_rfl) (fun _ _ _ h => h) (Or.inl ⟨by rfl, ?hyq11_⟩) (by assumption) ?restq11_
                case hyq11_ => (intro w hSw; (try dsimp only at hSw); have e1 := HL0.out w hSw; go_simp; (try with_reducible rfl))
                try simp only [Act.put, List.setIfInBounds_toArray, List.set_cons_zero, List.set_cons_succ]
                refine wpAnyH_take (i := 13) (v := ?_) (by rw [List.getElem?_toArray]; rfl) (by kernel_rfl) (by kernel_rfl) (by kernel_rfl) (fun _ _ _ h => h) (Or.inl ⟨by rfl, ?hyq12_⟩) (by assumption) ?restq12_
                case hyq12_ => (intro w hSw; (try dsimp only at hSw); go_simp; (try with_reducible rfl))
                try simp only [Act.put, List.setIfInBounds_toArray, List.set_cons_zero, List.set_cons_succ]
                refine wpAnyH_take (i := 14) (v := ?_) (by rw [List.getElem?_toArray]; rfl) (by kernel_rfl) (by kernel_rfl) (by kernel_rfl) (fun _ _ _ h => h) (Or.inl ⟨by rfl, ?hyq13_⟩) (by assumption) ?restq13_
                case hyq13_ => (intro w hSw; (try dsimp only at hSw); have e1 := HL1.out w hSw; go_simp; (try with_reducible rfl))
                try simp only [Act.put, List.setIfInBounds_toArray, List.set_cons_zero, List.set_cons_succ]
                refine wpAnyH_take (i := 15) (v := ?_) (by rw [List.getElem?_toArray]; rfl) (by kernel_rfl) (by kernel_rfl) (by kernel_rfl) (fun _ _ _ h => h) (Or.inl ⟨by rfl, ?hyq14_⟩) (by assumption) ?restq14_
                case hyq14_ => (intro w hSw; (try dsimp only at hSw); go_simp; (try with_reducible rfl))
                try simp only [Act.put, List.setIfInBounds_toArray, List.set_cons_zero, List.set_cons_succ]
                refine wpAnyH_take (i := 16) (v := ?_) (by rw [List.getElem?_toArray]; rfl) (by kernel_rfl) (by kernel_rfl) (by kernel_rfl) (fun _ _ _ h => h) (Or.inl ⟨by rfl, ?hyq15_⟩) (by assumption) ?restq15_
                case hyq15_ => (intro w hSw; (try dsimp only at hSw); have e1 := HL2.out w hSw; go_simp; (try with_reducible rfl))
                try simp only [Act.put, List.setIfInBounds_toArray, List.set_cons_zero, List.set_cons_succ]
                refine wpAnyH_take (i := 17) (v := ?_) (by rw [List.getElem?_toArray]; rfl) (by kernel_rfl) (by kernel_rfl) (by kernel_rfl) (fun _ _ _ h => h) (Or.inl ⟨by rfl, ?hyq16_⟩) (by assumption) ?restq16_
                case hyq16_ => (intro w hSw; (try dsimp only at hSw); go_simp; (try with_reducible rfl))
                try simp only [Act.put, List.setIfInBounds_toArray, List.set_cons_zero, List.set_cons_succ]
                refine wpAnyH_take (i := 18) (v := ?_) (by rw [List.getElem?_toArray]; rfl) (by kernel_rfl) (by kernel_rfl) (by kernel_rfl) (fun _ _ _ h => h) (Or.inl ⟨by rfl, ?hyq17_⟩) (by assumption) ?restq17_
                case hyq17_ => (intro w hSw; (try dsimp only at hSw); have e1 := HL3.out w hSw; go_simp; (try with_reducible rfl))
                try simp only [Act.put, List.setIfInBounds_toArray, List.set_cons_zero, List.set_cons_succ]
                refine wpAnyH_take (i := 19) (v := ?_) (by rw [List.getElem?_toArray]; rfl) (by kernel_rfl) (by kernel_rfl) (by kernel_rfl) (fun _ _ _ h => h) (Or.inl ⟨by rfl, ?hyq18_⟩) (by assumption) ?restq18_
                case hyq18_ => (intro w hSw; (try dsimp only at hSw); go_simp; (try with_reducible rfl))
                try simp only [Act.put, List.setIfInBounds_toArray, List.set_cons_zero, List.set_cons_succ]
                refine wpAnyH_take (i := 20) (v := ?_) (by rw [List.getElem?_toArray]; rfl) (by kernel_rfl) (by kernel_rfl) (by kernel_rfl) (fun _ _ _ h => h) (Or.inl ⟨by rfl, ?hyq19_⟩) (by assumption) ?restq19_
                case hyq19_ => (intro w hSw; (try dsimp only at hSw); have e1 := HL4.out w hSw; go_simp; (try with_reducible rfl))
                try simp only [Act.put, List.setIfInBounds_toArray, List.set_cons_zero, List.set_cons_succ]
                refine wpAnyH_take (i := 21) (v := ?_) (by rw [List.getElem?_toArray]; rfl) (by kernel_rfl) (by kernel_rfl) (by kernel_rfl) (fun _ _ _ h => h) (Or.inl ⟨by rfl, ?hyq20_⟩) (by assumption) ?restq20_
                case hyq20_ => (intro w hSw; (try dsimp only at hSw); go_simp; (try with_reducible rfl))
                try simp only [Act.put, List.setIfInBounds_toArray, List.set_cons_zero, List.set_cons_succ]
                refine wpAnyH_take (i := 22) (v := ?_) (by rw [List.getElem?_toArray]; rfl) (by kernel_rfl) (by kernel_rfl) (by kernel_rfl) (fun _ _ _ h => h) (Or.inl ⟨by rfl, ?hyq21_⟩) (by assumption) ?restq21_
                case hyq21_ => (intro w hSw; (try dsimp only at hSw); have e1 := HL5.out w hSw; go_simp; (try with_reducible rfl))
                try simp only [Act.put, List.setIfInBounds_toArray, List.set_cons_zero, List.set_cons_succ]
                refine wpAnyH_take (i := 23) (v := ?_) (by rw [List.getElem?_toArray]; rfl) (by kernel_rfl) (by kernel_rfl) (by kernel_rfl) (fun _ _ _ h => h) (Or.inl ⟨by rfl, ?hyq22_⟩) (by assumption) ?restq22_
                case hyq22_ => (intro w hSw; (try dsimp only at hSw); go_simp; (try with_reducible rfl))
                try simp only [Act.put, List.setIfInBounds_toArray, List.set_cons_zero, List.set_cons_succ]
                refine wpAnyH_take (i := 24) (v := ?_) (by rw [List.getElem?_toArray]; rfl) (by kernel_rfl) (by kernel_rfl) (by kernel_rfl) (fun _ _ _ h => h) (Or.inl ⟨by rfl, ?hyq23_⟩) (by assumption) ?restq23_
                case hyq23_ => (intro w hSw; (try dsimp only at hSw); have e1 := HL6.out w hSw; go_simp; (try with_reducible rfl))
                try simp only [Act.put, List.setIfInBounds_toArray, List.set_cons_zero, List.set_cons_succ]
                refine wpAnyH_ready (rs := [2, 26]) (by kernel_rfl) (by simp) ?_
                refine AllReadyH.cons (by rw [List.getElem?_toArray]; rfl) (fun K hK => ?_) (AllReadyH.cons (by rw [List.getElem?_toArray]; rfl) (fun K hK => ?_) (AllReadyH.nil))
                · go_simp
                  go_at_call 33
                  (with_reducible refine (HT1.out _).mono ?_)
                  rintro e wn1 ⟨rfl, rfl⟩
                  go_wp2_with fail
                  refine hK.out _ _ hHeld (fun hHeld => ?_)
                  clear hK K
                  try simp only [Act.put, List.setIfInBounds_toArray, List.set_cons_zero, List.set_cons_succ]
                  refine wpAnyH_ready (rs := [5, 26]) (by kernel_rfl) (by simp) ?_
                  refine AllReadyH.cons (by rw [List.getElem?_toArray]; rfl) (fun K hK => ?_) (AllReadyH.cons (by rw [List.getElem?_toArray]; rfl) (fun K hK => ?_) (AllReadyH.nil))
                  · go_simp
                    go_at_call 33
                    (with_reducible refine (HT2.out _).mono ?_)
                    rintro e wn2 ⟨rfl, rfl⟩
                    go_wp2_with fail
                    refine hK.out _ _ hHeld (fun hHeld => ?_)
                    clear hK K
                    try simp only [Act.put, List.setIfInBounds_toArray, List.set_cons_zero, List.set_cons_succ]
                    refine wpAnyH_take (i := 25) (v := ?_) (by rw [List.getElem?_toArray]; rfl) (by kernel_rfl) (by kernel_rfl) (by kernel_rfl) (fun _ _ _ h => h) (Or.inl ⟨by rfl, ?hyq24_⟩) (by assumption) ?restq24_
                    case hyq24_ => (intro w hSw; (try dsimp only at hSw); go_simp; (try with_reducible rfl))
                    try simp only [Act.put, List.setIfInBounds_toArray, List.set_cons_zero, List.set_cons_succ]
                    refine wpAnyH_ready (rs := [26]) (by kernel_rfl) (by simp) ?_
                    refine AllReadyH.cons (by rw [List.getElem?_toArray]; rfl) (fun K hK => ?_) (AllReadyH.nil)
                    go_simp
                    have hGe3 : wr.heap.size ≤ wd.heap.size := hHeld.size
                    refine hK.out _ _ (hHeld.alloc _) (fun hHeld => ?_)
                    clear hK K
                    try simp only [Act.put, List.setIfInBounds_toArray, List.set_cons_zero, List.set_cons_succ]
                    have HO := heap_alloc_new wd (.cells #[.string ⟨#[]⟩, .string ⟨#[]⟩, .string ⟨#[]⟩, .int .u8 0, .bool false, .int .i64 0, .int .i64 0, .int .i64 0, .int .i64 0, .int .i64 0, .int .i64 0, .int .i64 0] 23)
                    obtain ⟨hx3, hhx3⟩ : ∃ x, x = wd.heap.size := ⟨_, rfl⟩
                    obtain ⟨wx3, hwx3⟩ : ∃ x, x = wd.alloc (.cells #[.string ⟨#[]⟩, .string ⟨#[]⟩, .string ⟨#[]⟩, .int .u8 0, .bool false, .int .i64 0, .int .i64 0, .int .i64 0, .int .i64 0, .int .i64 0, .int .i64 0, .int .i64 0] 23) := ⟨_, rfl⟩
                    rw [← hhx3] at HO hGe3 ⊢
                    rw [← hwx3] at HO hHeld ⊢
                    clear hhx3 hwx3
                    refine wpAnyH_ready (rs := [27]) (by kernel_rfl) (by simp) ?_
                    refine AllReadyH.cons (by rw [List.getElem?_toArray]; rfl) (fun K hK => ?_) AllReadyH.nil
                    have hfz : ∀ i, wx3.frozen? ⟨hx3, i, none⟩ = false := fun i => obj_free HO i
                    obtain ⟨k0, k1, k2, k3, k4, k5, k6, k7, k8, k9, k10, k11⟩ := hd_cells HO
                    go_simp
                    go_wp2
                    refine hK.out _ _ (put12_kept (R := hx3) hHeld (by assumption) _ _ _ _ _ _ _ _ _ _ _ _) (fun hHeld2 => ?_)
                    clear hK K k0 k1 k2 k3 k4 k5 k6 k7 k8 k9 k10 k11 hfz
                    try simp only [Act.put, List.setIfInBounds_toArray, List.set_cons_zero, List.set_cons_succ]
                    refine wpAnyH_done (by kernel_rfl) ?_ _
                    refine NoPanic.normal ?_
                    go_wp2
                    go_meet
                    exact ⟨_, rfl, Lib.hid (put12_obj HO _ _ _ _ _ _ _ _ _ _ _ _), Lib.hid (put12_kept hHeld (by assumption) _ _ _ _ _ _ _ _ _ _ _ _), (by assumption)⟩
                  · go_simp
                    have hGe4 : wr.heap.size ≤ wd.heap.size := hHeld.size
                    refine hK.out _ _ (hHeld.alloc _) (fun hHeld => ?_)
                    clear hK K
                    try simp only [Act.put, List.setIfInBounds_toArray, List.set_cons_zero, List.set_cons_succ]
                    have HO := heap_alloc_new wd (.cells #[.string ⟨#[]⟩, .string ⟨#[]⟩, .string ⟨#[]⟩, .int .u8 0, .bool false, .int .i64 0, .int .i64 0, .int .i64 0, .int .i64 0, .int .i64 0, .int .i64 0, .int .i64 0] 23)
                    obtain ⟨hx4, hhx4⟩ : ∃ x, x = wd.heap.size := ⟨_, rfl⟩
                    obtain ⟨wx4, hwx4⟩ : ∃ x, x = wd.alloc (.cells #[.string ⟨#[]⟩, .string ⟨#[]⟩, .string ⟨#[]⟩, .int .u8 0, .bool false, .int .i64 0, .int .i64 0, .int .i64 0, .int .i64 0, .int .i64 0, .int .i64 0, .int .i64 0] 23) := ⟨_, rfl⟩
                    rw [← hhx4] at HO hGe4 ⊢
                    rw [← hwx4] at HO hHeld ⊢
                    clear hhx4 hwx4
                    refine wpAnyH_ready (rs := [5]) (by kernel_rfl) (by simp) ?_
                    refine AllReadyH.cons (by rw [List.getElem?_toArray]; rfl) (fun K hK => ?_) (AllReadyH.nil)
                    go_simp
                    go_at_call 33
                    (with_reducible refine (HT2.out _).mono ?_)
                    rintro e wn5 ⟨rfl, rfl⟩
                    go_wp2_with fail
                    refine hK.out _ _ hHeld (fun hHeld => ?_)
                    clear hK K
                    try simp only [Act.put, List.setIfInBounds_toArray, List.set_cons_zero, List.set_cons_succ]
                    refine wpAnyH_take (i := 25) (v := ?_) (by rw [List.getElem?_toArray]; rfl) (by kernel_rfl) (by kernel_rfl) (by kernel_rfl) (fun _ _ _ h => h) (Or.inl ⟨by rfl, ?hyq25_⟩) (by assumption) ?restq25_
                    case hyq25_ => (intro w hSw; (try dsimp only at hSw); go_simp; (try with_reducible rfl))
                    try simp only [Act.put, List.setIfInBounds_toArray, List.set_cons_zero, List.set_cons_succ]
                    refine wpAnyH_ready (rs := [27]) (by kernel_rfl) (by simp) ?_
                    refine AllReadyH.cons (by rw [List.getElem?_toArray]; rfl) (fun K hK => ?_) AllReadyH.nil
                    have hfz : ∀ i, wx4.frozen? ⟨hx4, i, none⟩ = false := fun i => obj_free HO i
                    obtain ⟨k0, k1, k2, k3, k4, k5, k6, k7, k8, k9, k10, k11⟩ := hd_cells HO
                    go_simp
                    go_wp2
                    refine hK.out _ _ (put12_kept (R := hx4) hHeld (by assumption) _ _ _ _ _ _ _ _ _ _ _ _) (fun hHeld2 => ?_)
                    clear hK K k0 k1 k2 k3 k4 k5 k6 k7 k8 k9 k10 k11 hfz
                    try simp only [Act.put, List.setIfInBounds_toArray, List.set_cons_zero, List.set_cons_succ]
                    refine wpAnyH_done (by kernel_rfl) ?_ _
                    refine NoPanic.normal ?_
                    go_wp2
                    go_meet
                    exact ⟨_, rfl, Lib.hid (put12_obj HO _ _ _ _ _ _ _ _ _ _ _ _), Lib.hid (put12_kept hHeld (by assumption) _ _ _ _ _ _ _ _ _ _ _ _), (by assumption)⟩
                · go_simp
                  have hGe6 : wr.heap.size ≤ wd.heap.size := hHeld.size
                  refine hK.out _ _ (hHeld.alloc _) (fun hHeld => ?_)
                  clear hK K
                  try simp only [Act.put, List.setIfInBounds_toArray, List.set_cons_zero, List.set_cons_succ]
                  have HO := heap_alloc_new wd (.cells #[.string ⟨#[]⟩, .string ⟨#[]⟩, .string ⟨#[]⟩, .int .u8 0, .bool false, .int .i64 0, .int .i64 0, .int .i64 0, .int .i64 0, .int .i64 0, .int .i64 0, .int .i64 0] 23)
                  obtain ⟨hx6, hhx6⟩ : ∃ x, x = wd.heap.size := ⟨_, rfl⟩
                  obtain ⟨wx6, hwx6⟩ : ∃ x, x = wd.alloc (.cells #[.string ⟨#[]⟩, .string ⟨#[]⟩, .string ⟨#[]⟩, .int .u8 0, .bool false, .int .i64 0, .int .i64 0, .int .i64 0, .int .i64 0, .int .i64 0, .int .i64 0, .int .i64 0] 23) := ⟨_, rfl⟩
                  rw [← hhx6] at HO hGe6 ⊢
                  rw [← hwx6] at HO hHeld ⊢
                  clear hhx6 hwx6
                  refine wpAnyH_ready (rs := [2]) (by kernel_rfl) (by simp) ?_
                  refine AllReadyH.cons (by rw [List.getElem?_toArray]; rfl) (fun K hK => ?_) (AllReadyH.nil)
                  go_simp
                  go_at_call 33
                  (with_reducible refine (HT1.out _).mono ?_)
                  rintro e wn7 ⟨rfl, rfl⟩
                  go_wp2_with fail
                  refine hK.out _ _ hHeld (fun hHeld => ?_)
                  clear hK K
                  try simp only [Act.put, List.setIfInBounds_toArray, List.set_cons_zero, List.set_cons_succ]
                  refine wpAnyH_ready (rs := [5]) (by kernel_rfl) (by simp) ?_
                  refine AllReadyH.cons (by rw [List.getElem?_toArray]; rfl) (fun K hK => ?_) (AllReadyH.nil)
                  go_simp
                  go_at_call 33
                  (with_reducible refine (HT2.out _).mono ?_)
                  rintro e wn8 ⟨rfl, rfl⟩
                  go_wp2_with fail
                  refine hK.out _ _ hHeld (fun hHeld => ?_)
                  clear hK K
                  try simp only [Act.put, List.setIfInBounds_toArray, List.set_cons_zero, List.set_cons_succ]
                  refine wpAnyH_take (i := 25) (v := ?_) (by rw [List.getElem?_toArray]; rfl) (by kernel_rfl) (by kernel_rfl) (by kernel_rfl) (fun _ _ _ h => h) (Or.inl ⟨by rfl, ?hyq26_⟩) (by assumption) ?restq26_
                  case hyq26_ => (intro w hSw; (try dsimp only at hSw); go_simp; (try with_reducible rfl))
                  try simp only [Act.put, List.setIfInBounds_toArray, List.set_cons_zero, List.set_cons_succ]
                  refine wpAnyH_ready (rs := [27]) (by kernel_rfl) (by simp) ?_
                  refine AllReadyH.cons (by rw [List.getElem?_toArray]; rfl) (fun K hK => ?_) AllReadyH.nil
                  have hfz : ∀ i, wx6.frozen? ⟨hx6, i, none⟩ = false := fun i => obj_free HO i
                  obtain ⟨k0, k1, k2, k3, k4, k5, k6, k7, k8, k9, k10, k11⟩ := hd_cells HO
                  go_simp
                  go_wp2
                  refine hK.out _ _ (put12_kept (R := hx6) hHeld (by assumption) _ _ _ _ _ _ _ _ _ _ _ _) (fun hHeld2 => ?_)
                  clear hK K k0 k1 k2 k3 k4 k5 k6 k7 k8 k9 k10 k11 hfz
                  try simp only [Act.put, List.setIfInBounds_toArray, List.set_cons_zero, List.set_cons_succ]
                  refine wpAnyH_done (by kernel_rfl) ?_ _
                  refine NoPanic.normal ?_
                  go_wp2
                  go_meet
                  exact ⟨_, rfl, Lib.hid (put12_obj HO _ _ _ _ _ _ _ _ _ _ _ _), Lib.hid (put12_kept hHeld (by assumption) _ _ _ _ _ _ _ _ _ _ _ _), (by assumption)⟩
              case rest =>
              obtain ⟨H, rfl, HH, HKx, hHge⟩ := hcut
              have HRx := Lib.hid (HKx.out.obj HRr.out (fun h => h))
              have HKw := Lib.hid (HKr.out.trans HKx.out)
              have hRH : R < H := Nat.lt_of_lt_of_le HOB.out hHge
              have hwH : w.heap.size ≤ H := Nat.le_trans HKr.out.size hHge
              clear HL0 HL1 HL2 HL3 HL4 HL5 HL6 HT1 HT2 HC HRr HKr HKx HOB
              have hgz : wc.cell? ⟨H, 4, none⟩ = some (.bool gb) := obj_cell HH.out 4
              have hpz : wc.cell? ⟨H, 2, none⟩ = some (.string ⟨#[]⟩) := obj_cell HH.out 2
              have hfz : ∀ i, wc.frozen? ⟨H, i, none⟩ = false := fun i => obj_free HH.out i
              obtain ⟨PX, hPX⟩ : ∃ PX, PX = (if gb = true then [] else c3) := ⟨_, rfl⟩
              have HDef2 := HD.out
              rw [← hPX] at HDef2
              have HDef3 := Lib.hid HDef2
              have HPX := Lib.hid hPX
              clear hPX HD HDef2
              obtain ⟨D, hD⟩ : ∃ D : HdP, D = ⟨c1, c2, PX, ty, gb, n0, n1, n2, n3, n4, n5, n6⟩ := ⟨_, rfl⟩
              go_upto_if 98 with fail
              go_cut [] from 96 to 102 (fun wy => Hid (wy.heap[H]? = some (.cells (hdC D) 23 (0, 0))) ∧ Hid (wy.heap[R]? = some (.cells #[.string ⟨#[]⟩, .string ⟨#[]⟩, .string ⟨#[]⟩, .int .u8 0, .bool false, .int .i64 0, .int .i64 0, .int .i64 0, .int .i64 0, .int .i64 0, .int .i64 0, .int .i64 0] 23 (0, 0))) ∧ Hid (Kept NoB w wy))
              case first =>
                cases gb with
                | true =>
                  have hp : PX = [] := by rw [HPX.out]; rfl
                  have HHD : Hid (wc.heap[H]? = some (.cells (hdC D) 23 (0, 0))) := Lib.hid (by rw [hD, hp]; exact HH.out)
                  go_wp2
                  go_meet
                  exact ⟨HHD, HRx, HKw⟩
                | false =>
                  have hp : PX = c3 := by rw [HPX.out]; rfl
                  have HHD : Hid ((wc.setCell ⟨H, 2, none⟩ (.string (strOfNums c3))).heap[H]? = some (.cells (hdC D) 23 (0, 0))) := Lib.hid (by rw [hD, hp]; exact obj_set HH.out 2 (.string (strOfNums c3)))
                  have HKs := Lib.hid (Kept.setCell (p := ⟨H, 2, none⟩) HKw.out (.inr hwH) (.string (strOfNums c3)))
                  have HRs := Lib.hid ((Kept.setCell (S := OneB H) (p := ⟨H, 2, none⟩) (Kept.refl (OneB H) wc) (.inl rfl) (.string (strOfNums c3))).obj HRx.out (fun e => absurd e (Nat.ne_of_lt hRH)))
                  have he3 := HE3.out
                  go_wp2_with fail
                  with_reducible refine (HT3.out _).mono ?_
                  rintro e wq ⟨rfl, rfl⟩
                  go_wp2
                  go_meet
                  exact ⟨HHD, HRs, HKs⟩
              case rest =>
              obtain ⟨HH7, HR7, HK7⟩ := hcut
              have HF2 : Hid (decL bs = (D, 0)) := Lib.hid (by rw [HF.out, HDef3.out, hD])
              clear hgz hpz hfz hD HDef3 HPX HH HRx HKw
              have HZ : Hid ((wc.setRow R (hdC D)).heap[R]? = some (.cells (hdC D) 23 (0, 0))) := Lib.hid (setRow_heap wc R _ (hdC D) _ _ HR7.out)
              have HKz := Lib.hid (kept_setRow HK7.out HRw.out (hdC D))
              go_wp2_with (first | (refine wpList_load_row rfl 23 (.tmp 11) rfl H rfl 23 (hdC D) (0, 0) _ HH7.out Try.underlying23 rfl infoHd ?_) | (refine wpList_store_row rfl 23 (.tmp 2) (.tmp 103) rfl R (hdC D) rfl rfl _ _ HR7.out infoHd rfl (hdC_one _) ?_))
              generalize wc.setRow R (hdC D) = wz at HZ HKz ⊢
              go_wp2
              refine rhd_end (R := R) (k := 0) (D := D) ?_ ?_ HZ.out ?_
              · rfl
              · rfl
              · exact ⟨by rw [HF2.out], HKz.out⟩
              --END20
  · have hd : decL bs = (hd0, 6) := by rw [decL, if_neg (by omega)]
    have HF := Lib.hid hd
    have h1 : ((n : Int) != 512) = true := by simp; omega
    have h2 : ((n : Int) == 512) = false := by simp; omega
    clear hn hb hRA hkA hd h5
    go_enter Try.func13, Try.ntmps13
    go_upto_region 1 with fail
    rw [← hR, ← hwA]
    clear hR hwA
    have HZ : Hid ((wA.setRow R (hdC hd0)).heap[R]? = some (.cells (hdC hd0) 23 (0, 0))) := Lib.hid (setRow_heap wA R _ (hdC hd0) _ _ HRA.out)
    have HKz := Lib.hid (kept_setRow HKA.out HRw.out (hdC hd0))
    go_wp2_with (refine wpList_store_row rfl 23 (.tmp 2) _ rfl R (hdC hd0) rfl rfl _ _ HRA.out infoHd rfl (hdC_one _) ?_)
    generalize wA.setRow R (hdC hd0) = wz at HZ HKz ⊢
    go_wp2
    refine rhd_end (R := R) (k := 6) (D := hd0) ?_ ?_ HZ.out ?_
    · rfl
    · rfl
    · exact ⟨by rw [HF.out], HKz.out⟩
end Go.Proofs.Ytnhfbpikfkncpaa
