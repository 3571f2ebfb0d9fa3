/-
  lens.Write: a head is put, or refused.
  deflate.trimmed, bestLens and Dynamic of tokens that may be.
-/
import Derived.Test.YtdpegahcgaicnaaGreatDoorMh25
import Derived.Deep.CutBlock
namespace Go.Proofs.YtdpegahcgaicnaaGreatDoor
open Go.RowKit
set_option linter.unusedVariables false
set_option linter.unusedSimpArgs false

theorem may_all {ls : List Int} (h : fullB ls = true ∨ kindA ls = 1) : Small 15 ls ∧ ls.length ≤ 320 := by
  have : MayL ls := by
    rcases h with h | h
    · exact full_may h
    · apply Classical.byContradiction
      intro hn
      have := kindA_bad hn
      rw [this] at h
      exact absurd h (by decide)
  exact ⟨this.small, this.len⟩
theorem small_getD2 {Z : List Int} {m : Nat} (h : Small m Z) (i : Nat) : 0 ≤ Z.getD i 0 ∧ Z.getD i 0 ≤ m := by
  by_cases hi : i < Z.length
  · have : Z.getD i 0 = Z[i] := by simp [List.getD, hi]
    rw [this]; exact h _ (List.getElem_mem hi)
  · have : Z.getD i 0 = 0 := by simp [List.getD, List.getElem?_eq_none (Nat.le_of_not_lt hi)]
    omega
/-- An own row of another type is no block of a writer's. -/
theorem row_off {w : World} {e z n g c R : Nat} {xs : List Value} {T : TypeId} {ao : Option Addr} {cap : Nat} {bs : List Int} {s : Nat} (ho : w.ownsRow 0 e z (.slice (some ⟨g, 0, none⟩) n c) n xs) (hw : Wtr w R ao cap bs s) (h1 : 73 ≠ e) (h2 : e ≠ 5) : ¬ OrB (OneB R) (OwnB (.slice ao bs.length cap)) g := by
  rcases ho.2 with ⟨hv, _⟩ | ⟨g', cc, cur, hv, _, hgg, _⟩
  · simp at hv
  · simp at hv
    obtain ⟨rfl, rfl⟩ := hv
    rintro (h | h)
    · unfold OneB at h
      have hR := hw.1
      rw [← h, hgg] at hR
      simp at hR
      exact h1 hR.2.symm
    · exact row_ne hw.2.1 hgg h2 g h rfl
theorem head_small {lit dist : List Int} (h : headB lit dist = true) : (257 ≤ lit.length ∧ lit.length ≤ 286 ∧ 1 ≤ dist.length ∧ dist.length ≤ 30) ∧ Small 15 lit ∧ Small 15 dist ∧ mayB lit dist = true := by
  unfold headB at h
  obtain ⟨h1, h2⟩ := Bool.and_eq_true_iff.1 h
  have h3 := h2
  unfold mayB at h3
  obtain ⟨h4, h5⟩ := Bool.and_eq_true_iff.1 h3
  obtain ⟨_, h6⟩ := Bool.and_eq_true_iff.1 h4
  refine ⟨of_decide_eq_true h1, (may_all (.inl h6)).1, (may_all ?_).1, h2⟩
  rcases Bool.or_eq_true_iff.1 h5 with h | h
  · exact .inl h
  · exact .inr (of_decide_eq_true h)
set_option maxRecDepth 20000 in
set_option maxHeartbeats 16000000 in
theorem lensWrite_yes (la : Option Addr) (lc : Nat) (lit : List Int) (da : Option Addr) (dc : Nat) (dist : List Int) (B R : Nat) (ao : Option Addr) (cap : Nat) (bs : List Int) (s : Nat) (w : World) (hx : RdI w B la lit) (hy : RdI w B da dist)
    (hw : Wtr w R ao cap bs s) (hb : headB lit dist = true) (hss : s ≤ 1000000) :
    Calls Tryz.prog 40 #[.pointer (some ⟨R, 0, none⟩), .slice la lit.length lc, .slice da dist.length dc] w fun e w' => ∃ ao' cap' bs' code told rs, e = .returned (.int .i64 0) ∧ CodeW code told rs (lit ++ dist) ∧ WroteP w R (.slice ao bs.length cap) bs s (headW lit dist code told rs) w' ao' cap' bs' := by
  obtain ⟨i0, hi, hz0, hz1, hz2⟩ := info_parts infoI
  obtain ⟨⟨b1, b2, b3, b4⟩, s1, s2, hmay⟩ := head_small hb
  have hmb := may_any la lc B lit da dc B dist w hx (fun z hz => by have := s1 z hz; omega) hy (fun z hz => by have := s2 z hz; omega) b1
  rw [hmay] at hmb
  obtain ⟨gl, ol, rfl, _, _⟩ := hx 0 (by omega)
  obtain ⟨gd, od, rfl, _, _⟩ := hy 0 (by omega)
  have HX := Lib.hid hx; have HY := Lib.hid hy; have HW := Lib.hid hw; have HS1 := Lib.hid s1; have HS2 := Lib.hid s2
  obtain ⟨nl, hnl⟩ : ∃ n, n = lit.length := ⟨_, rfl⟩
  obtain ⟨nd, hnd⟩ : ∃ n, n = dist.length := ⟨_, rfl⟩
  rw [← hnl, ← hnd] at hmb
  rw [← hnl] at b1 b2
  rw [← hnd] at b3 b4
  have HMb := Lib.hid hmb; have HNl := Lib.hid hnl; have HNd := Lib.hid hnd
  rw [← hnl, ← hnd]
  have g1 : ¬ (nl : Int) < 257 := by omega
  have g2 : ¬ (286 : Int) < (nl : Int) := by omega
  have g3 : ¬ (nd : Int) < 1 := by omega
  have g4 : ¬ (30 : Int) < (nd : Int) := by omega
  clear hx hy hw s1 s2 hb hmay hmb hnl hnd
  go_enter Tryz.func40, Tryz.ntmps40
  go_wp2_with fail
  with_reducible refine HMb.out.mono ?_
  rintro e w1 ⟨rfl, hk1⟩
  have HK1 := Lib.hid hk1
  clear hk1 HMb g1 g2 g3 g4
  go_wp2_with fail
  have hkA : Kept NoB w1 (w1.alloc (.cells #[.slice (some ⟨gl, ol, none⟩) nl lc, .slice (some ⟨gd, od, none⟩) nd dc] 23)) := (Kept.refl _ _).alloc _
  have hcc := concat_any w1.heap.size ⟨gl, ol, none⟩ lc lit ⟨gd, od, none⟩ dc B dist (w1.alloc (.cells #[.slice (some ⟨gl, ol, none⟩) nl lc, .slice (some ⟨gd, od, none⟩) nd dc] 23)) (by rw [← HNl.out]; exact cell_new 0 rfl) (by rw [← HNd.out]; exact cell_new 1 rfl)
    (HX.out.keptNo (HK1.out.trans hkA)) (HY.out.keptNo (HK1.out.trans hkA)) (by rw [← HNl.out]; omega) (by rw [← HNd.out]; omega)
  rw [← HNl.out, ← HNd.out] at hcc
  have HCc := Lib.hid hcc; have HKA := Lib.hid (HK1.out.trans hkA)
  clear hcc hkA
  with_reducible refine HCc.out.mono ?_
  rintro e w2 ⟨ca, cc, rfl, hst⟩
  obtain ⟨F, hF⟩ : ∃ F, F = lit ++ dist := ⟨_, rfl⟩
  have hFl : F.length = nl + nd := by rw [hF, List.length_append, HNl.out, HNd.out]
  rw [← hF] at hst
  have hFs : Small 15 F := fun z hz => by
    rw [hF] at hz
    rcases List.mem_append.1 hz with h | h
    · exact HS1.out z h
    · exact HS2.out z h
  have hrn := runs_any ca cc F _ w2 hst.reads (by omega)
  rw [hFl] at hrn
  have HRn := Lib.hid hrn; have HK2 := Lib.hid (HKA.out.trans hst.kept); have HF := Lib.hid hF; have HFl := Lib.hid hFl; have HFs := Lib.hid hFs
  clear hrn hst hF hFl hFs HCc HKA HK1
  go_wp2_with fail
  with_reducible refine HRn.out.mono ?_
  rintro e w3 ⟨rs, ra, rc, rfl, hro, hk3, _, hyes, _⟩
  obtain ⟨hT, hrl, hrne⟩ := hyes ⟨by rw [HFl.out]; omega, HFs.out⟩
  have hrun : runAll (F.length : Int) [] rs = some F := by
    have h := hT (F.length : Int) [] (by omega)
    rw [List.append_nil, if_pos (Int.le_refl _), runAll] at h
    exact h
  have hrne2 : rs ≠ [] := hrne (fun e => by have := HFl.out; rw [e] at this; simp at this; omega)
  have hok := runAll_ok _ rs [] F hrun
  have HRun := Lib.hid hrun; have HRne := Lib.hid hrne2; have HOk := Lib.hid hok; have HRo := Lib.hid hro; have HK3 := Lib.hid (HK2.out.trans hk3)
  obtain ⟨m, hm⟩ : ∃ m, m = rs.length := ⟨_, rfl⟩
  have hm316 : m ≤ 320 := by have := HFl.out; omega
  have HM := Lib.hid hm
  rw [← hm]
  clear hT hrl hrne hrun hrne2 hok hro hk3 hyes hm HRn HK2
  go_wp2_with (at_make; refine wpList_make_full _ rfl _ _ _ rfl 0 3 i0 (.int .i64 0) 1 Tryz.underlying23 hi hz0 hz1 .i64 .i64 _ _ 19 rfl rfl rfl rfl (by rw [hz2]; omega) (by unfold maxLen; omega) (Nat.zero_le _) ?_)
  intro w4 hown hgrow
  obtain ⟨G, hG⟩ : ∃ G, G = w3.heap.size := ⟨_, rfl⟩
  have hGw : w.heap.size ≤ G := by rw [hG]; exact HK3.out.size
  rw [← hG] at hown ⊢
  have hk4 : Kept NoB w3 w4 := (Kept.refl NoB w3).grown hgrow (fun _ _ e => by cases e)
  have hO4 : w4.ownsRow 0 3 1 (.slice (some ⟨G, 0, none⟩) 19 19) 19 ((cnt19 (rs.take 0)).map (.int .i64)) := by
    unfold cnt19
    rw [List.take_zero, cntR, List.map_replicate, ← toList_madeCells_one]; exact hown
  have HO4 := Lib.hid hO4; have HK4 := Lib.hid (HK3.out.trans hk4)
  have hrg : RdRnG w4 (fun k => k < G) ra rs := fun i hi => by
    obtain ⟨g, o, h1, h2, h3, h4⟩ := HRo.out.reads i hi
    exact ⟨g, o, h1, by omega, hk4.cell h3, hk4.cell h4⟩
  have HRg := Lib.hid hrg; have HRo4 : Hid (OwnR w4 ra rc rs) := Lib.hid (hk4.row HRo.out (fun _ _ h => h))
  clear hown hgrow hO4 hk4 hrg HRo HK3 hG
  go_wp2_with fail
  go_loopw [47, 10] (fun v47 _ wr => ∃ i : Nat, v47 = .int .i64 (i : Int) ∧ i ≤ m ∧ Hid (wr.ownsRow 0 3 1 (.slice (some ⟨G, 0, none⟩) 19 19) 19 ((cnt19 (rs.take i)).map (.int .i64))) ∧ Hid (Kept NoB w wr) ∧ Hid (RdRnG wr (fun k => k < G) ra rs) ∧ Hid (OwnR wr ra rc rs)) (fun v47 _ _ => m - (intOf v47).toNat)
  case atStart => exact ⟨0, rfl, by omega, HO4, HK4, HRg, HRo4⟩
  case round =>
    clear HO4 HK4 HRg HRo4
    obtain ⟨i, rfl, him, HO, HK, HRg, HRo⟩ := hrel
    by_cases hlt : (i : Int) < m
    · have hil : i < rs.length := by have := HM.out; omega
      obtain ⟨g1, o1, rfl, _, x0, x0'⟩ := HRg.out i hil
      have htk : rs.take (i + 1) = rs.take i ++ [rs.getD i (0, 0)] := by
        rw [List.take_succ_eq_append_getElem hil]; simp [List.getD, hil]
      have hmem : rs.getD i (0, 0) ∈ rs := by
        have : rs.getD i (0, 0) = rs[i] := by simp [List.getD, hil]
        rw [this]; exact List.getElem_mem hil
      have hrg := HOk.out _ hmem
      obtain ⟨y, hy⟩ : ∃ y, y = rs.getD i (0, 0) := ⟨_, rfl⟩
      rw [← hy] at x0 x0' htk hrg
      obtain ⟨sy, x⟩ := y
      simp only at x0 x0' hrg
      obtain ⟨k, rfl⟩ : ∃ k : Nat, sy = (k : Int) := ⟨sy.toNat, by omega⟩
      have hk19 : k < 19 := by omega
      have hk19' : (k : Int) < 19 := by omega
      have hsn := cnt19_snoc (rs.take i) ((k : Int), x)
      rw [← htk] at hsn
      simp only [Int.toNat_natCast] at hsn
      have hcs := cnt19_small (rs.take i)
      have hzb := small_getD2 hcs k
      rw [List.length_take] at hzb
      have hmin : ((min i rs.length : Nat) : Int) ≤ 320 := by have := HM.out; omega
      obtain ⟨z, hz⟩ : ∃ z, z = (cnt19 (rs.take i)).getD k 0 := ⟨_, rfl⟩
      rw [← hz] at hsn hzb
      obtain ⟨H, hH⟩ : ∃ H, H = wr.heap.size := ⟨_, rfl⟩
      have hkA : Kept NoB wr (wr.alloc (.cells #[.int .i64 (k : Int), .int .i64 x] 106)) := (Kept.refl _ _).alloc _
      have hc0 : (wr.alloc (.cells #[.int .i64 (k : Int), .int .i64 x] 106)).cell? ⟨H, 0, none⟩ = some (.int .i64 (k : Int)) := by rw [hH]; exact cell_new 0 rfl
      go_upto_region 10 with fail
      rw [← hH]
      obtain ⟨w5, hw5⟩ : ∃ w5, w5 = wr.alloc (.cells #[.int .i64 (k : Int), .int .i64 x] 106) := ⟨_, rfl⟩
      rw [← hw5] at hc0 hkA ⊢
      have hO5 := hkA.row HO.out (fun _ _ h => h)
      have hcG : w5.cell? ⟨G, k, none⟩ = some (.int .i64 z) := by
        rw [hO5.cellAt k (by omega), hz]
        simp [List.getD, List.getElem?_map, show k < (cnt19 (rs.take i)).length by rw [cnt19_len]; exact hk19]
      have hfz := hO5.frozenAt k
      have hst := (hO5.stored k (.int .i64 (z + 1))).1
      rw [← List.map_set, ← hsn] at hst
      have hks : Kept (fun j => j = G) w5 (w5.setCell ⟨G, k, none⟩ (.int .i64 (z + 1))) := Kept.setCell (S := fun j => j = G) (p := ⟨G, k, none⟩) (Kept.refl _ w5) (.inl rfl) _
      have hkw : Kept NoB w (w5.setCell ⟨G, k, none⟩ (.int .i64 (z + 1))) := Kept.setCell (p := ⟨G, k, none⟩) (HK.out.trans hkA) (.inr hGw) _
      have HRg5 := Lib.hid ((HRg.out.kept hkA (fun k e h => h)).kept hks (fun k (e : k < G) h => by have h : k = G := h; omega))
      have hro5 : OwnR (w5.setCell ⟨G, k, none⟩ (.int .i64 (z + 1))) (some ⟨g1, o1, none⟩) rc rs := hks.row (hkA.row HRo.out (fun _ _ h => h)) (fun j e h => by
        have h : j = G := h
        simp [Value.ownBlock] at e
        omega)
      have hz1 : z + 1 ≤ 1000 := by omega
      have hz0 : 0 ≤ z := hzb.1
      have HSt := Lib.hid hst; have HKw := Lib.hid hkw; have HRo5 := Lib.hid hro5
      clear hst hks hkw hz hsn hcs hzb hmin htk hmem hrg hy hkA hw5 hO5 hro5 hH HO HK HRg HRo
      go_wp2
      go_roundw
      case rel => exact ⟨i + 1, by go_num, by omega, HSt, HKw, HRg5, HRo5⟩
      case measure => simp [intOf]; omega
    · have him2 : i = m := by omega
      subst him2
      have htk : rs.take i = rs := List.take_of_length_le (by rw [← HM.out]; exact Nat.le_refl _)
      have ho := HO.out
      rw [htk] at ho
      obtain ⟨A, hA⟩ : ∃ A, A = cnt19 rs := ⟨_, rfl⟩
      have hAl : A.length = 19 := by rw [hA, cnt19_len]
      have hAs : Small 1000000 A := fun z hz => by
        have := cnt19_small rs z (hA ▸ hz)
        have := HM.out
        omega
      have hApos : ∀ y ∈ rs, 0 < A.getD y.1.toNat 0 := fun y hy => by
        have h := HOk.out y hy
        rw [hA]; exact cnt19_pos rs y hy (by omega)
      rw [← hA] at ho
      have hok : LensOkP A 7 := ⟨by omega, by omega, hAs, by
        have := leaves_len A 0
        have h2 : (2 : Nat) ^ (7 : Int).toNat = 128 := by decide
        rw [h2]; omega⟩
      obtain ⟨y0, hy0⟩ : ∃ y0, y0 ∈ rs := List.exists_mem_of_ne_nil _ HRne.out
      have hlc := lens_yes (some ⟨G, 0, none⟩) 19 _ A 7 wr (own_readsI ho hAl) hok
      rw [hAl] at hlc
      have hcode : ∀ lv, SrtP lv (leavesL 0 A) → (lensOf lv 19 7).length = 19 ∧ Small 7 (lensOf lv 19 7) ∧ fullB (lensOf lv 19 7) = true ∧ ∀ y ∈ rs, HasC (lensOf lv 19 7) y.1 := fun lv h => by
        have h1 := HOk.out y0 hy0
        obtain ⟨c1, c2, c3, c4⟩ := code_of A lv hok h y0.1.toNat (by omega) (hApos y0 hy0)
        rw [hAl] at c1 c2 c3 c4
        refine ⟨c1, c2, c3, fun y hy => ?_⟩
        have h2 := HOk.out y hy
        exact ⟨y.1.toNat, by omega, by omega, (c4 _ (by omega)).1 (hApos y hy)⟩
      have HLc := Lib.hid hlc; have HCode := Lib.hid hcode
      clear htk ho hA hAl hAs hApos hok hy0 hlc hcode hlt HO
      go_wp2_with fail
      with_reducible refine HLc.out.mono ?_
      rintro e w5 ⟨lv, hsrt, za, zc, rfl, hzo, hk5⟩
      obtain ⟨q1, q2, q3, q4⟩ := HCode.out lv hsrt
      obtain ⟨Z, hZ⟩ : ∃ Z, Z = lensOf lv 19 7 := ⟨_, rfl⟩
      have e7 : (7 : Int).toNat = 7 := rfl
      rw [e7] at hzo
      rw [← hZ] at q1 q2 q3 q4 hzo
      rw [e7, ← hZ, q1]
      rw [q1] at hzo
      obtain ⟨gz, rfl⟩ := own_some hzo (by decide)
      have HQ1 := Lib.hid q1; have HQ2 := Lib.hid q2; have HQ3 := Lib.hid q3; have HQ4 := Lib.hid q4; have HZo := Lib.hid hzo; have HK5 := Lib.hid (HK.out.trans hk5); have HRo5 := Lib.hid (hk5.row HRo.out (fun _ _ h => h))
      clear q1 q2 q3 q4 hzo hk5 hsrt hZ HCode HLc HRo HRg HK
      go_wp2_with fail
      with_reducible refine (order19 w5).mono ?_
      rintro e w6 ⟨rfl, hor, hk6, hlt6⟩
      obtain ⟨H, hH⟩ : ∃ H, H = w5.heap.size := ⟨_, rfl⟩
      have hHw : w.heap.size ≤ H := by rw [hH]; exact HK5.out.size
      rw [← hH] at hor ⊢
      have hcw : ∀ i, i < 19 → w6.cell? ⟨H, i, none⟩ = some (.int .i64 (ordL.getD i 0)) := fun i hi => by
        obtain ⟨g, o, h1, h2, h3⟩ := hor i hi
        cases h1
        simpa using h3
      have HCw := Lib.hid hcw; have HK6 := Lib.hid (HK5.out.trans hk6); have HRo6 := Lib.hid (hk6.row HRo5.out (fun _ _ h => h)); have HZ6 := Lib.hid (hk6.row HZo.out (fun _ _ h => h))
      have hgz := (HZo.out.lt gz rfl).2
      have hHgz : gz ≠ H := by omega
      have hHlt : H < w6.heap.size := by omega
      clear hcw hor hk6 hlt6 hgz HK5 HRo5 HZo hH
      go_upto_block 2 with fail
      go_cut [14] from 70 to 85 (fun v14 wx => ∃ t : Nat, v14 = .int .i64 (t : Int) ∧ 4 ≤ t ∧ t ≤ 19 ∧ Hid (∀ i, t ≤ i → i < 19 → Z.getD (ordL.getD i 0).toNat 0 = 0) ∧ w6 = wx)
      case first =>
        go_wp2_with fail
        go_loopw [14] (fun v14 wx => ∃ t : Nat, v14 = .int .i64 (t : Int) ∧ 4 ≤ t ∧ t ≤ 19 ∧ Hid (∀ i, t ≤ i → i < 19 → Z.getD (ordL.getD i 0).toNat 0 = 0) ∧ w6 = wx) (fun v14 _ => (intOf v14).toNat)
        case atStart => exact ⟨19, rfl, by omega, by omega, Lib.hid (fun i h1 h2 => by omega), rfl⟩
        case round =>
          obtain ⟨t, rfl, ht4, ht19, HZr, rfl⟩ := hrel
          by_cases hgt : 4 < t
          · have hgt2 : (4 : Int) < (t : Int) := by omega
            obtain ⟨u, hu⟩ : ∃ u, t = u + 1 := ⟨t - 1, by omega⟩
            have hu1 : IntKind.i64.wrap ((t : Int) - 1) = (u : Int) := by rw [IntWalk.i64_in _ (by omega)]; omega
            have hu2 : (t : Int) - 1 = (u : Int) := by omega
            have hu19 : u < 19 := by omega
            have hu19' : (u : Int) < 19 := by omega
            have hc := HCw.out u hu19
            have ho := ord_lt u hu19
            have hoa := ord_at u hu19
            obtain ⟨k, hk⟩ : ∃ k : Nat, ordL.getD u 0 = (k : Int) := ⟨(ordL.getD u 0).toNat, by omega⟩
            have HKe := Lib.hid hk
            rw [hk] at hc ho hoa
            have hk19' : (k : Int) < 19 := by omega
            have hk19 : k < 19 := by omega
            have hcz : w6.cell? ⟨gz, k, none⟩ = some (.int .i64 (Z.getD k 0)) := by
              rw [HZ6.out.cellAt k (by omega)]
              simp [List.getD, List.getElem?_map, show k < Z.length by rw [HQ1.out]; exact hk19]
            obtain ⟨z, hz⟩ : ∃ z, z = Z.getD k 0 := ⟨_, rfl⟩
            rw [← hz] at hcz
            have HZz := Lib.hid hz
            have HU := Lib.hid hu
            clear hk hz hu ho hoa
            by_cases hz0' : z = 0
            · subst hz0'
              go_wp2
              go_roundw
              case rel => exact ⟨u, by go_num, by omega, by omega, Lib.hid (fun i h1 h2 => by
                by_cases e : i = u
                · subst e; rw [HKe.out, Int.toNat_natCast]; exact HZz.out.symm
                · exact HZr.out i (by have := HU.out; omega) h2), trivial⟩
              case measure => have := HU.out; simp [intOf]; omega
            · have hzb : (z == 0) = false := by simp [hz0']
              go_wp2
              go_meet
              exact ⟨t, rfl, ht4, ht19, HZr, rfl⟩
          · have ht : ¬ (4 : Int) < (t : Int) := by omega
            go_wp2
            go_meet
            exact ⟨t, rfl, ht4, ht19, HZr, rfl⟩
      case rest =>
      obtain ⟨t, rfl, ht4, ht19, HZr, rfl⟩ := hcut
      have hrsl : 0 < rs.length := by
        have := HRne.out
        cases rs with
        | nil => exact absurd rfl this
        | cons => simp
      obtain ⟨gr, rfl⟩ := own_some HRo6.out hrsl
      have hw0 := HW.out.keptNo HK6.out
      have HDz := Lib.hid (row_off (T := 0) HZ6.out hw0 (by decide) (by decide))
      have HDr := Lib.hid (row_off (T := 0) HRo6.out hw0 (by decide) (by decide))
      have HDh : Hid (¬ OrB (OneB R) (OwnB (.slice ao bs.length cap)) H) := Lib.hid (by
        rintro (h | h)
        · unfold OneB at h
          have := obj_lt HW.out.1
          omega
        · have := own_lt HW.out.2.1 H h
          omega)
      clear hrsl hw0
      obtain ⟨x1, hx1⟩ : ∃ x, x = nl - 257 := ⟨_, rfl⟩
      obtain ⟨x2, hx2⟩ : ∃ x, x = nd - 1 := ⟨_, rfl⟩
      obtain ⟨x3, hx3⟩ : ∃ x, x = t - 4 := ⟨_, rfl⟩
      have d1 : (nl : Int) - 257 = (x1 : Int) := by omega
      have d2 : (nd : Int) - 1 = (x2 : Int) := by omega
      have d3 : (t : Int) - 4 = (x3 : Int) := by omega
      have y1 : x1 < 32 := by omega
      have y2 : x2 < 32 := by omega
      have y3 : x3 < 16 := by omega
      have c1 : IntKind.u32.wrap (x1 : Int) = (x1 : Int) := IntWalk.u32_in _ (by omega)
      have c2 : IntKind.u32.wrap (x2 : Int) = (x2 : Int) := IntWalk.u32_in _ (by omega)
      have c3 : IntKind.u32.wrap (x3 : Int) = (x3 : Int) := IntWalk.u32_in _ (by omega)
      have hw6 := HW.out.keptNo HK6.out
      have hp := put_any w6 R ao cap bs s x1 5 hw6 (by omega) (by decide) (by omega)
      rw [Nat.mod_eq_of_lt (show x1 < 2 ^ 5 from y1), show ((5 : Nat) : Int) = 5 from rfl] at hp
      have HX1 := Lib.hid hx1; have HX2 := Lib.hid hx2; have HX3 := Lib.hid hx3; have HP := Lib.hid hp; have HW6 := Lib.hid hw6
      clear hx1 hx2 hx3 hp hw6
      go_wp2_with fail
      with_reducible refine HP.out.mono ?_
      intro e w7 hp
      obtain ⟨ao7, cap7, bs7, rfl, hw7⟩ := (WroteP.nil HW6.out).put hp
      have hp2 := put_any w7 R ao7 cap7 bs7 _ x2 5 hw7.1 (by omega) (by decide) (by simp [wdN]; omega)
      rw [Nat.mod_eq_of_lt (show x2 < 2 ^ 5 from y2), show ((5 : Nat) : Int) = 5 from rfl] at hp2
      have HW7 := Lib.hid hw7; have HP2 := Lib.hid hp2
      clear hp hp2 hw7 HP
      go_wp2_with fail
      with_reducible refine HP2.out.mono ?_
      intro e w8 hp
      obtain ⟨ao8, cap8, bs8, rfl, hw8⟩ := HW7.out.put hp
      have hp3 := put_any w8 R ao8 cap8 bs8 _ x3 4 hw8.1 (by omega) (by decide) (by simp [wdN]; omega)
      rw [Nat.mod_eq_of_lt (show x3 < 2 ^ 4 from y3), show ((4 : Nat) : Int) = 4 from rfl] at hp3
      have HW8 := Lib.hid hw8; have HP3 := Lib.hid hp3
      clear hp hp3 hw8 HP2 HW7
      go_wp2_with fail
      with_reducible refine HP3.out.mono ?_
      intro e w9 hp
      obtain ⟨ao9, cap9, bs9, rfl, hw9⟩ := HW8.out.put hp
      have HW9 := Lib.hid (show WroteP w6 R (.slice ao bs.length cap) bs s ([(x1, 5), (x2, 5), (x3, 4)] ++ wordsC Z 0) w9 ao9 cap9 bs9 from hw9)
      clear hp hw9 HP3 HW8
      have t0 : (0 : Int) ≤ (t : Int) := by omega
      have t19 : (t : Int) ≤ 19 := by omega
      go_wp2_with fail
      go_loopw [106, 16] (fun v106 _ wr => ∃ (i : Nat) (ao' : Option Addr) (cap' : Nat) (bs' : List Int), v106 = .int .i64 (i : Int) ∧ i ≤ t ∧ Hid (WroteP w6 R (.slice ao bs.length cap) bs s ([(x1, 5), (x2, 5), (x3, 4)] ++ wordsC Z i) wr ao' cap' bs')) (fun v106 _ _ => t - (intOf v106).toNat)
      case atStart => exact ⟨0, ao9, cap9, bs9, rfl, by omega, HW9⟩
      case round =>
        clear HW9
        obtain ⟨j, ao', cap', bs', rfl, hjt, HWr⟩ := hrel
        by_cases hlt : (j : Int) < t
        · have hj19 : j < 19 := by omega
          have hc0 := HCw.out j hj19
          have hoa := ord_at j hj19
          obtain ⟨k, hk⟩ : ∃ k : Nat, ordL.getD j 0 = (k : Int) := ⟨(ordL.getD j 0).toNat, by omega⟩
          rw [hk] at hc0 hoa
          have hk19 : k < 19 := by omega
          have hk19' : (k : Int) < 19 := by omega
          have hcz0 : w6.cell? ⟨gz, k, none⟩ = some (.int .i64 (Z.getD k 0)) := by
            rw [HZ6.out.cellAt k (by omega)]
            simp [List.getD, List.getElem?_map, show k < Z.length by rw [HQ1.out]; exact hk19]
          have hzb := HQ2.out.getD k (by rw [HQ1.out]; exact hk19)
          obtain ⟨z, hz⟩ : ∃ z : Nat, Z.getD k 0 = (z : Int) := ⟨(Z.getD k 0).toNat, by omega⟩
          rw [hz] at hcz0 hzb
          have hkk := HWr.out.2.2.1
          have hc := (World.cell?_of_block (hkk.block _ (World.block_lt_of_cell? w6 _ hc0) HDh.out)).trans hc0
          have hcz := (World.cell?_of_block (hkk.block _ (World.block_lt_of_cell? w6 _ hcz0) HDz.out)).trans hcz0
          have hz8 : z < 8 := by omega
          have cz : IntKind.u32.wrap (z : Int) = (z : Int) := IntWalk.u32_in _ (by omega)
          have hwd : wdN ([(x1, 5), (x2, 5), (x3, 4)] ++ wordsC Z j) = 14 + 3 * j := by rw [wdN_append, wordsC_wd]; rfl
          have hp := put_any wr R ao' cap' bs' _ z 3 HWr.out.1 (by omega) (by decide) (by rw [hwd]; omega)
          rw [Nat.mod_eq_of_lt (show z < 2 ^ 3 from hz8), show ((3 : Nat) : Int) = 3 from rfl] at hp
          have HP := Lib.hid hp
          have HWs : Hid (wordsC Z (j + 1) = wordsC Z j ++ [(z, 3)]) := Lib.hid (by rw [wordsC_snoc, hk, Int.toNat_natCast, hz, Int.toNat_natCast])
          clear hc0 hcz0 hoa hk hz hkk hwd hp hzb
          go_wp2_with fail
          with_reducible refine HP.out.mono ?_
          intro e w10 hp
          obtain ⟨ao10, cap10, bs10, rfl, hw10⟩ := HWr.out.put hp
          rw [List.append_assoc, ← HWs.out] at hw10
          have HW10 := Lib.hid hw10
          clear hp hw10 HP
          go_wp2
          go_roundw
          case rel => exact ⟨j + 1, ao10, cap10, bs10, by go_num, by omega, HW10⟩
          case measure => simp [intOf]; omega
        · have hjt2 : j = t := by omega
          subst hjt2
          have hkk := HWr.out.2.2.1
          have hcode : RdG wr (fun k => k = gz ∨ k = gr) (some ⟨gz, 0, none⟩) Z := fun i hi => by
            have hc0 : w6.cell? ⟨gz, i, none⟩ = some (.int .i64 (Z.getD i 0)) := by
              rw [HZ6.out.cellAt i (by rw [HQ1.out] at hi; omega)]
              simp [List.getD, List.getElem?_map, hi]
            exact ⟨gz, 0, rfl, .inl rfl, by rw [Nat.zero_add]; exact (World.cell?_of_block (hkk.block _ (World.block_lt_of_cell? w6 _ hc0) HDz.out)).trans hc0⟩
          have hruns : RdRnG wr (fun k => k = gz ∨ k = gr) (some ⟨gr, 0, none⟩) rs := fun i hi => by
            obtain ⟨g, o, h1, _, h3, h4⟩ := OwnR.reads HRo6.out i hi
            cases h1
            exact ⟨gr, 0, rfl, .inr rfl, (World.cell?_of_block (hkk.block _ (World.block_lt_of_cell? w6 _ h3) HDr.out)).trans h3, (World.cell?_of_block (hkk.block _ (World.block_lt_of_cell? w6 _ h4) HDr.out)).trans h4⟩
          have hwd : wdN ([(x1, 5), (x2, 5), (x3, 4)] ++ wordsC Z j) = 14 + 3 * j := by rw [wdN_append, wordsC_wd]; rfl
          have hnew : ∀ k, (k = gz ∨ k = gr) → ¬ (Value.slice ao' bs'.length cap').ownBlock = some k := fun k hk e => by
            rcases HWr.out.2.2.2 k e with h | h
            · rcases hk with rfl | rfl
              · exact HDz.out (.inr h)
              · exact HDr.out (.inr h)
            · rcases hk with rfl | rfl
              · have := (HZ6.out.lt k rfl).2; omega
              · have := (HRo6.out.lt k rfl).2; omega
          have hwr := writeRuns_any Z (some ⟨gz, 0, none⟩) zc rs (some ⟨gr, 0, none⟩) rc (fun k => k = gz ∨ k = gr) R ao' cap' bs' _ wr hcode hruns HWr.out.1 (by
              rintro (h | h)
              · exact HDz.out (.inl (by unfold OneB; exact h.symm))
              · exact HDr.out (.inl (by unfold OneB; exact h.symm))) (fun k e h => hnew k h e) (small7_15 HQ2.out) (by rw [HQ1.out]; decide) (full_ref HQ3.out)
            (fun y hy => ⟨HQ4.out y hy, (HOk.out y hy).2.2⟩) (by rw [← HM.out]; omega) (by rw [hwd]; omega)
          rw [HQ1.out, ← HM.out] at hwr
          have HWrr := Lib.hid hwr
          clear hkk hcode hruns hwd hnew hwr
          go_wp2_with fail
          with_reducible refine HWrr.out.mono ?_
          rintro e w11 ⟨ao11, cap11, bs11, rfl, hw11⟩
          have hfin := HWr.out.app hw11
          have HFin := Lib.hid hfin
          clear hw11 hfin HWrr
          go_wp2
          go_ret
          refine ⟨ao11, cap11, bs11, Z, j, rs, rfl, ⟨HQ1.out, HQ2.out, HQ3.out, ht4, ht19, HZr.out, HQ4.out, by rw [← HF.out]; exact HRun.out⟩, ?_⟩
          have hh := HFin.out
          refine ⟨?_, ?_, (HK6.out.mono (fun _ _ h => h.elim)).trans hh.2.2.1, fun k hk => ?_⟩
          · unfold headW; rw [← HNl.out, ← HNd.out, ← HX1.out, ← HX2.out, ← HX3.out]; exact hh.1
          · unfold headW; rw [← HNl.out, ← HNd.out, ← HX1.out, ← HX2.out, ← HX3.out]; exact hh.2.1
          · rcases hh.2.2.2 k hk with h | h
            · exact .inl h
            · have := HK6.out.size; exact .inr (by omega)
end Go.Proofs.YtdpegahcgaicnaaGreatDoor

namespace Go.Proofs.YtdpegahcgaicnaaGreatDoor
open Go.RowKit
set_option linter.unusedVariables false
set_option linter.unusedSimpArgs false
set_option maxRecDepth 20000

def lenOfT (v : Value) : Nat := match v with | .slice _ m _ => m | _ => 0
set_option maxHeartbeats 4000000 in
theorem trimmed_any (a : Option Addr) (c B : Nat) (zs : List Int) (least : Nat) (w : World) (hr : RdI w B a zs) (hl : least ≤ zs.length) (h1 : 1 ≤ least) (hc : zs.length ≤ c) (hcl : c ≤ maxLen) :
    Calls Tryz.prog 72 #[.slice a zs.length c, .int .i64 (least : Int)] w fun e w' => ∃ n, e = .returned (.slice a n c) ∧ TrimP least zs n ∧ Kept NoB w w' := by
  unfold maxLen at hcl
  obtain ⟨g, o, rfl, _, _⟩ := hr 0 (by omega)
  have HR := Lib.hid hr
  obtain ⟨N, hN⟩ : ∃ N, N = zs.length := ⟨_, rfl⟩
  have HN := Lib.hid hN
  rw [← hN] at hl hc ⊢
  clear hr hN
  have HT0 : Hid (TrimP least zs N) := Lib.hid ⟨hl, by rw [HN.out]; exact Nat.le_refl _, fun i h1 h2 => by have := HN.out; omega⟩
  go_enter Tryz.func72, Tryz.ntmps72
  go_wp2_with fail
  go_loopw [0] (fun l wr => ∃ n, l = .slice (some ⟨g, o, none⟩) n c ∧ n ≤ N ∧ Hid (TrimP least zs n) ∧ Hid (Kept NoB w wr)) (fun l _ => lenOfT l)
  case atStart => exact ⟨N, rfl, Nat.le_refl _, HT0, Lib.hid (Kept.refl _ _)⟩
  case round =>
    obtain ⟨n, rfl, hn, HT, HK⟩ := hrel
    by_cases hlt : least < n
    · have hgt : (least : Int) < (n : Int) := by omega
      obtain ⟨m, hm⟩ : ∃ m, m + 1 = n := ⟨n - 1, by omega⟩
      have hw : IntKind.i64.wrap ((n : Int) - 1) = (m : Int) := by rw [IntWalk.i64_in _ (by omega)]; omega
      have hmn : m < n := by omega
      have hmc : m ≤ c := by omega
      obtain ⟨g', o', e, _, hcell⟩ := (HR.out.keptNo HK.out) m (by have := HN.out; omega)
      cases e
      obtain ⟨z, hz⟩ : ∃ z, z = zs.getD m 0 := ⟨_, rfl⟩
      rw [← hz] at hcell
      have HZ := Lib.hid hz; have HM := Lib.hid hm
      clear hz hm
      by_cases hz0 : z = 0
      · subst hz0
        go_wp2
        go_roundw
        case rel =>
          refine ⟨m, rfl, by omega, Lib.hid ⟨by have := HM.out; omega, by have := HT.out.hi; omega, fun i h1 h2 => ?_⟩, HK⟩
          by_cases hi : i = m
          · subst hi; exact HZ.out.symm
          · exact HT.out.tail i (by have := HM.out; omega) h2
        case measure => simp [lenOfT]; omega
      · have hzb : (z == 0) = false := by simpa using hz0
        go_wp2
        go_ret
        exact ⟨n, rfl, HT.out, HK.out⟩
    · have hgt : ¬ (least : Int) < (n : Int) := by omega
      go_wp2
      go_ret
      exact ⟨n, rfl, HT.out, HK.out⟩
end Go.Proofs.YtdpegahcgaicnaaGreatDoor
