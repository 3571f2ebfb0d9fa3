/-
  inflate.Fixed: the lengths of the fixed codes.
  deflate.FixedBlock.
  deflate.Counts.
-/
import Derived.Test.YtfmjfgmbjdhogaaGreatDoorMs21
namespace Go.Proofs.YtfmjfgmbjdhogaaGreatDoor
open Go.RowKit
set_option linter.unusedVariables false
set_option linter.unusedSimpArgs false

/-- A row filled up to j. -/
def upTo (L : List Int) (j : Nat) : List Int := L.take j ++ List.replicate (L.length - j) 0
theorem upTo_zero (L : List Int) : upTo L 0 = List.replicate L.length 0 := by simp [upTo]
theorem upTo_all (L : List Int) : upTo L L.length = L := by simp [upTo]
theorem upTo_len (L : List Int) (j : Nat) (h : j ≤ L.length) : (upTo L j).length = L.length := by simp [upTo]; omega
theorem upTo_step (L : List Int) (j : Nat) (h : j < L.length) : (upTo L j).set j (L.getD j 0) = upTo L (j + 1) := by
  apply List.ext_getElem?
  intro i
  unfold upTo
  by_cases hi : i = j
  · subst hi
    rw [List.getElem?_set_self (by simp; omega), List.getElem?_append_left (by simp; omega), List.getElem?_take, if_pos (by omega), List.getElem?_eq_getElem h]
    simp [List.getD, h]
  · rw [List.getElem?_set_ne (by omega)]
    by_cases hij : i < j
    · rw [List.getElem?_append_left (by simp; omega), List.getElem?_append_left (by simp; omega), List.getElem?_take, List.getElem?_take, if_pos hij, if_pos (by omega)]
    · rw [List.getElem?_append_right (by simp; omega), List.getElem?_append_right (by simp; omega)]
      simp only [List.length_take, List.getElem?_replicate]
      by_cases hil : i < L.length
      · rw [if_pos (by omega), if_pos (by omega)]
      · rw [if_neg (by omega), if_neg (by omega)]
theorem fixD_len : fixD.length = 32 := by decide +kernel
theorem fixL_get : ∀ j, j < 288 → fixL.getD j 0 = if j < 144 then 8 else if j < 256 then 9 else if j < 280 then 7 else 8 := by decide +kernel
theorem fixD_get : ∀ j, j < 32 → fixD.getD j 0 = 5 := by decide +kernel
def OwnZ (w : World) (G n : Nat) (L : List Int) : Prop := w.ownsRow 0 3 1 (.slice (some ⟨G, 0, none⟩) n n) n (L.map (.int .i64))
theorem OwnZ.reads {w : World} {G n : Nat} {L : List Int} (h : OwnZ w G n L) (hl : L.length = n) : RdI w w.heap.size (some ⟨G, 0, none⟩) L := by
  subst hl
  exact own_readsI h rfl
theorem OwnZ.set {w : World} {G n j : Nat} {L : List Int} (h : OwnZ w G n (upTo L j)) (hj : j < L.length) (z : Int) (hz : L.getD j 0 = z) : OwnZ (w.setCell ⟨G, j, none⟩ (.int .i64 z)) G n (upTo L (j + 1)) := by
  subst hz
  obtain ⟨s1, s2⟩ := World.ownsRow.stored h j (.int .i64 (L.getD j 0))
  rw [← List.map_set, upTo_step L j hj] at s1
  exact s1
/-- Two fresh rows. -/
structure TwoZ (w0 w : World) (G n H m : Nat) (L M : List Int) : Prop where
  a : OwnZ w G n L
  b : OwnZ w H m M
  k : Kept NoB w0 w
  g : w0.heap.size ≤ G
  h : w0.heap.size ≤ H
  ne : G ≠ H
theorem TwoZ.from {w0 w : World} {G n H m : Nat} {L M : List Int} (h : TwoZ w0.drew w G n H m L M) : TwoZ w0 w G n H m L M := ⟨h.a, h.b, (Kept.refl NoB w0).drew.trans h.k, h.g, h.h, h.ne⟩
theorem TwoZ.swap {w0 w : World} {G n H m : Nat} {L M : List Int} (h : TwoZ w0 w G n H m L M) : TwoZ w0 w H m G n M L := ⟨h.b, h.a, h.k, h.h, h.g, fun e => h.ne e.symm⟩
theorem make_one (w : World) (n : Nat) (hn : n ≤ 100000) : ∃ w', (Instr.makeSlice 30 (.int .i64 (n : Int)) (.int .i64 (n : Int))).run Tryz.prog w = .ok (.slice (some ⟨w.heap.size, 0, none⟩) n n) w' ∧ OwnZ w' w.heap.size n (List.replicate n 0) ∧ Kept NoB w w' := by
  obtain ⟨i0, hi, hz0, hz1, hz2⟩ := info_parts infoI
  obtain ⟨w', hr, ho, hg⟩ := run_make_full (P := Tryz.prog) w 0 30 3 i0 (.int .i64 0) 1 Tryz.underlying30 hi hz0 hz1 .i64 .i64 n (by rw [hz2]; omega) (by unfold maxLen; omega) (Nat.zero_le _)
  have e : (madeCells (Value.int .i64 0).cells (n * 1)).toList = List.replicate n (Value.int .i64 0) := by rw [Nat.mul_one]; exact toList_madeCells_one ..
  rw [e] at ho
  refine ⟨w', hr, ?_, (Kept.refl _ _).grown hg (fun k _ e => by cases e)⟩
  unfold OwnZ
  rw [List.map_replicate]
  exact ho
theorem make_two (w : World) (n m : Nat) (hn : n ≤ 100000) (hm : m ≤ 100000) : ∃ w1 w2, (Instr.makeSlice 30 (.int .i64 (n : Int)) (.int .i64 (n : Int))).run Tryz.prog w = .ok (.slice (some ⟨w.heap.size, 0, none⟩) n n) w1 ∧
    (Instr.makeSlice 30 (.int .i64 (m : Int)) (.int .i64 (m : Int))).run Tryz.prog w1 = .ok (.slice (some ⟨w1.heap.size, 0, none⟩) m m) w2 ∧ TwoZ w w2 w.heap.size n w1.heap.size m (List.replicate n 0) (List.replicate m 0) := by
  obtain ⟨w1, r1, o1, k1⟩ := make_one w n hn
  obtain ⟨w2, r2, o2, k2⟩ := make_one w1 m hm
  have hl : w.heap.size < w1.heap.size := own_lt o1 _ rfl
  exact ⟨w1, w2, r1, r2, k2.row o1 (fun _ _ e => e), o2, k1.trans k2, Nat.le_refl _, by omega, by omega⟩
set_option maxRecDepth 20000 in
set_option maxHeartbeats 4000000 in
theorem fixed_any (w : World) : Calls Tryz.prog 61 #[] w fun e w' => ∃ G H, e = .returned (.tuple #[.slice (some ⟨G, 0, none⟩) 288 288, .slice (some ⟨H, 0, none⟩) 32 32]) ∧ TwoZ w w' G 288 H 32 fixL fixD := by
  obtain ⟨wa, wb, ra, rb, tab⟩ := make_two w.drew 288 32 (by decide) (by decide)
  obtain ⟨wc, wd, rc, rd, tcd⟩ := make_two w.drew 32 288 (by decide) (by decide)
  have T1 := Lib.hid tab; have T2 := Lib.hid tcd
  have ra : (Instr.makeSlice 30 (.int .i64 288) (.int .i64 288)).run Tryz.prog w.drew = .ok (.slice (some ⟨w.heap.size, 0, none⟩) 288 288) wa := ra
  have rb : (Instr.makeSlice 30 (.int .i64 32) (.int .i64 32)).run Tryz.prog wa = .ok (.slice (some ⟨wa.heap.size, 0, none⟩) 32 32) wb := rb
  have rc : (Instr.makeSlice 30 (.int .i64 32) (.int .i64 32)).run Tryz.prog w.drew = .ok (.slice (some ⟨w.heap.size, 0, none⟩) 32 32) wc := rc
  have rd : (Instr.makeSlice 30 (.int .i64 288) (.int .i64 288)).run Tryz.prog wc = .ok (.slice (some ⟨wc.heap.size, 0, none⟩) 288 288) wd := rd
  clear tab tcd
  go_enter Tryz.func61, Tryz.ntmps61
  go_upto_region 1 with fail
  go_cut [0, 1] from 4 to 5 (fun s t wx => ∃ G H, s = .slice (some ⟨G, 0, none⟩) 288 288 ∧ t = .slice (some ⟨H, 0, none⟩) 32 32 ∧ TwoZ w wx G 288 H 32 (List.replicate 288 0) (List.replicate 32 0))
  case first =>
    go_region
    all_goals go_wp2
    all_goals go_meet
    · exact ⟨_, _, rfl, rfl, T1.out.from⟩
    · exact ⟨_, _, rfl, rfl, T2.out.swap.from⟩
  case rest =>
    obtain ⟨G, H, rfl, rfl, hT⟩ := hcut
    have HA := Lib.hid hT.a; have HB := Lib.hid hT.b; have HK := Lib.hid hT.k; have HG := Lib.hid hT.g; have HH := Lib.hid hT.h; have HN := Lib.hid hT.ne
    clear hT ra rb rc rd T1 T2
    have hGH : ¬ G = H := HN.out
    have hHG : ¬ H = G := fun e => HN.out e.symm
    go_wp2_with fail
    go_loopw [2, 8] (fun _u i wr => ∃ j : Nat, j ≤ 288 ∧ i = .int .i64 j ∧ Hid (OwnZ wr G 288 (upTo fixL j)) ∧ Hid (OwnZ wr H 32 (List.replicate 32 0)) ∧ Hid (Kept NoB w wr)) (fun _ i _ => 288 - (intOf i).toNat)
    case atStart => exact ⟨0, by omega, rfl, by rw [upTo_zero, fixL_len]; exact HA.out, HB, HK⟩
    case round =>
      clear HA HB HK
      obtain ⟨j, hj, rfl, HA, HB, HK⟩ := hrel
      by_cases hlt : (j : Int) < 288
      · have hg := fixL_get j (by omega)
        obtain ⟨z, hz⟩ : ∃ z, z = fixL.getD j 0 := ⟨_, rfl⟩
        have hud : ∃ u, wr.cell? ⟨G, j, none⟩ = some u := by
          rw [HA.out.cellAt j (by omega)]
          exact ⟨_, List.getElem?_eq_getElem (by rw [List.length_map, upTo_len _ _ (by rw [fixL_len]; omega), fixL_len]; omega)⟩
        obtain ⟨u, hu⟩ := hud
        have hfd := World.ownsRow.frozenAt HA.out j
        have HA2 := Lib.hid (HA.out.set (by rw [fixL_len]; omega) z hz.symm)
        have hk1 : Kept (OneB G) wr (wr.setCell ⟨G, j, none⟩ (.int .i64 z)) := Kept.setCell (S := OneB G) (p := ⟨G, j, none⟩) (Kept.refl _ wr) (.inl rfl) _
        have HB2 := Lib.hid (show OwnZ (wr.setCell ⟨G, j, none⟩ (.int .i64 z)) H 32 (List.replicate 32 0) from hk1.row HB.out (fun k e1 e2 => by
          simp [Value.ownBlock] at e1
          unfold OneB at e2; omega))
        have HK2 := Lib.hid (show Kept NoB w (wr.setCell ⟨G, j, none⟩ (.int .i64 z)) from Kept.setCell (p := ⟨G, j, none⟩) HK.out (.inr HG.out) _)
        rw [← hz] at hg
        clear hz hk1
        by_cases h1 : (j : Int) < 144
        · obtain rfl : z = 8 := by rw [hg, if_pos (by omega)]
          clear hg
          go_wp2
          go_roundw
          case rel => exact ⟨j + 1, by omega, by go_num, HA2, HB2, HK2⟩
          case measure => simp [intOf]; omega
        · by_cases h2 : (j : Int) < 256
          · obtain rfl : z = 9 := by rw [hg, if_neg (by omega), if_pos (by omega)]
            clear hg
            go_wp2
            go_roundw
            case rel => exact ⟨j + 1, by omega, by go_num, HA2, HB2, HK2⟩
            case measure => simp [intOf]; omega
          · by_cases h3 : (j : Int) < 280
            · obtain rfl : z = 7 := by rw [hg, if_neg (by omega), if_neg (by omega), if_pos (by omega)]
              clear hg
              go_wp2
              go_roundw
              case rel => exact ⟨j + 1, by omega, by go_num, HA2, HB2, HK2⟩
              case measure => simp [intOf]; omega
            · obtain rfl : z = 8 := by rw [hg, if_neg (by omega), if_neg (by omega), if_neg (by omega)]
              clear hg
              go_wp2
              go_roundw
              case rel => exact ⟨j + 1, by omega, by go_num, HA2, HB2, HK2⟩
              case measure => simp [intOf]; omega
      · obtain rfl : j = 288 := by omega
        have HA1 : Hid (OwnZ wr G 288 fixL) := by
          have := HA.out
          rw [show (288 : Nat) = fixL.length from fixL_len.symm, upTo_all, fixL_len] at this
          exact this
        clear HA
        go_wp2_with fail
        go_loopw [3, 35] (fun _u i wq => ∃ j : Nat, j ≤ 32 ∧ i = .int .i64 j ∧ Hid (OwnZ wq G 288 fixL) ∧ Hid (OwnZ wq H 32 (upTo fixD j)) ∧ Hid (Kept NoB w wq)) (fun _ i _ => 32 - (intOf i).toNat)
        case atStart => exact ⟨0, by omega, rfl, HA1, by rw [upTo_zero, fixD_len]; exact HB, HK⟩
        case round =>
          clear HA1 HB HK
          obtain ⟨j, hj, rfl, HA, HB, HK⟩ := hrel
          by_cases hlt : (j : Int) < 32
          · have hg := fixD_get j (by omega)
            have hud : ∃ u, wr.cell? ⟨H, j, none⟩ = some u := by
              rw [HB.out.cellAt j (by omega)]
              exact ⟨_, List.getElem?_eq_getElem (by rw [List.length_map, upTo_len _ _ (by rw [fixD_len]; omega), fixD_len]; omega)⟩
            obtain ⟨u, hu⟩ := hud
            have hfd := World.ownsRow.frozenAt HB.out j
            have HB2 := Lib.hid (HB.out.set (by rw [fixD_len]; omega) 5 hg)
            have hk1 : Kept (OneB H) wr (wr.setCell ⟨H, j, none⟩ (.int .i64 5)) := Kept.setCell (S := OneB H) (p := ⟨H, j, none⟩) (Kept.refl _ wr) (.inl rfl) _
            have HA2 := Lib.hid (show OwnZ (wr.setCell ⟨H, j, none⟩ (.int .i64 5)) G 288 fixL from hk1.row HA.out (fun k e1 e2 => by
              simp [Value.ownBlock] at e1
              unfold OneB at e2; omega))
            have HK2 := Lib.hid (show Kept NoB w (wr.setCell ⟨H, j, none⟩ (.int .i64 5)) from Kept.setCell (p := ⟨H, j, none⟩) HK.out (.inr HH.out) _)
            clear hg hk1
            go_wp2
            go_roundw
            case rel => exact ⟨j + 1, by omega, by go_num, HA2, HB2, HK2⟩
            case measure => simp [intOf]; omega
          · obtain rfl : j = 32 := by omega
            have HB1 : Hid (OwnZ wr H 32 fixD) := by
              have := HB.out
              rw [show (32 : Nat) = fixD.length from fixD_len.symm, upTo_all, fixD_len] at this
              exact this
            clear HB
            go_wp2
            go_ret2
            exact ⟨G, H, rfl, HA.out, HB1.out, HK.out, HG.out, HH.out, HN.out⟩
end Go.Proofs.YtfmjfgmbjdhogaaGreatDoor

namespace Go.Proofs.YtfmjfgmbjdhogaaGreatDoor
open Go.RowKit
set_option linter.unusedVariables false
set_option linter.unusedSimpArgs false

theorem find_at (B : Nat → Nat) (n : Nat) (h0 : B 0 ≤ n) : ∀ H, ∃ i, i ≤ H ∧ B i ≤ n ∧ (i < H → n < B (i + 1))
  | 0 => ⟨0, Nat.le_refl _, h0, fun h => absurd h (Nat.lt_irrefl _)⟩
  | H + 1 => by
    obtain ⟨i, h1, h2, h3⟩ := find_at B n h0 H
    by_cases hi : i < H
    · exact ⟨i, by omega, h2, fun _ => h3 hi⟩
    · obtain rfl : i = H := by omega
      by_cases hn : n < B (i + 1)
      · exact ⟨i, by omega, h2, fun _ => hn⟩
      · exact ⟨i + 1, Nat.le_refl _, by omega, fun h => absurd h (Nat.lt_irrefl _)⟩
theorem lb_at (n : Nat) (h : 3 ≤ n) (h2 : n ≤ 257) : ∃ i v, i < 28 ∧ v < 2 ^ le4 i ∧ n = lb i + v := by
  obtain ⟨i, h3, h4, h5⟩ := find_at lb n (by have : lb 0 = 3 := by decide
                                             omega) 27
  refine ⟨i, n - lb i, by omega, ?_, by omega⟩
  by_cases hi : i < 27
  · have := lb_step i hi
    have := h5 hi
    omega
  · obtain rfl : i = 27 := by omega
    have : lb 27 + 2 ^ le4 27 = 259 := by decide
    omega
theorem db_at (n : Nat) (h : 1 ≤ n) (h2 : n ≤ 32768) : ∃ j u, j < 30 ∧ u < 2 ^ de j ∧ n = db j + u := by
  obtain ⟨i, h3, h4, h5⟩ := find_at db n (by have : db 0 = 1 := by decide
                                             omega) 29
  refine ⟨i, n - db i, by omega, ?_, by omega⟩
  by_cases hi : i < 29
  · have := db_step i hi
    have := h5 hi
    omega
  · obtain rfl : i = 29 := by omega
    have : db 29 + 2 ^ de 29 = 32769 := by decide
    omega
theorem tok_shape {t : Tk} (hw : t.wf) (hok : t.ok = true) : (∃ c : Nat, c < 256 ∧ t = ⟨0, 0, (c : Int)⟩) ∨ (∃ j u, j < 30 ∧ u < 2 ^ de j ∧ t = ⟨258, ((db j + u : Nat) : Int), 0⟩) ∨ (∃ i v j u, i < 28 ∧ v < 2 ^ le4 i ∧ lb i + v ≤ 257 ∧ j < 30 ∧ u < 2 ^ de j ∧ t = ⟨((lb i + v : Nat) : Int), ((db j + u : Nat) : Int), 0⟩) := by
  obtain ⟨l, d, c⟩ := t
  obtain ⟨_, _, h0, h1⟩ := hw
  simp only at h0 h1
  unfold Tk.ok at hok
  by_cases hl : l = 0
  · subst hl
    simp only [if_true, decide_eq_true_eq] at hok
    subst hok
    exact .inl ⟨c.toNat, by omega, by rw [Int.toNat_of_nonneg h0]⟩
  · rw [if_neg hl, decide_eq_true_eq] at hok
    simp only at hok
    obtain ⟨a1, a2, a3, a4, rfl⟩ := hok
    obtain ⟨j, u, hj, hu, hd⟩ := db_at d.toNat (by omega) (by omega)
    by_cases h8 : l = 258
    · subst h8
      exact .inr (.inl ⟨j, u, hj, hu, by rw [← hd, Int.toNat_of_nonneg (by omega)]⟩)
    · obtain ⟨i, v, hi, hv, hlv⟩ := lb_at l.toNat (by omega) (by omega)
      exact .inr (.inr ⟨i, v, j, u, hi, hv, by omega, hj, hu, by rw [← hd, ← hlv, Int.toNat_of_nonneg (by omega), Int.toNat_of_nonneg (by omega)]⟩)
theorem tokW_any {lit dist : List Int} (hl : ∀ k : Nat, k < 286 → HasC lit (k : Int)) (hd : ∀ k : Nat, k < 30 → HasC dist (k : Int)) {t : Tk} (hw : t.wf) (hok : t.ok = true) : ∃ ws, TokW lit dist t ws := by
  rcases tok_shape hw hok with ⟨c, hc, rfl⟩ | ⟨j, u, hj, hu, rfl⟩ | ⟨i, v, j, u, hi, hv, hlv, hj, hu, rfl⟩
  · exact ⟨_, .one c (by omega) (by omega) (hl c (by omega))⟩
  · exact ⟨_, .long j u hj hu (hl 285 (by omega)) (hd j hj)⟩
  · exact ⟨_, .copy i v j u hi hv hlv hj hu (hl (257 + i) (by omega)) (hd j hj)⟩
theorem OwnZ.rdG {w : World} {G n : Nat} {L : List Int} (h : OwnZ w G n L) (hl : L.length = n) {S : Nat → Prop} (hS : S G) : RdG w S (some ⟨G, 0, none⟩) L := fun i hi => by
  obtain ⟨g, off, e, _, hc⟩ := h.reads hl i hi
  cases e
  exact ⟨G, 0, rfl, hS, hc⟩
theorem allOkB_mem {ts : List Tk} (h : allOkB ts = true) (t : Tk) (ht : t ∈ ts) : t.ok = true := by
  unfold allOkB at h
  rw [List.all_eq_true] at h
  exact h t ht
def FixP (w : World) (R : Nat) (ao : Option Addr) (cap : Nat) (bs : List Int) (s : Nat) (last : Bool) (ts : List Tk) (e : Ending) (w' : World) : Prop :=
  ∃ ws ao' cap' bs', e = .returned (.int .i64 0) ∧ TokWs fixL fixD ts ws ∧ WroteP w R (.slice ao bs.length cap) bs s ([(lastN last, 1), (1, 2)] ++ (ws ++ [wordZ fixL 256])) w' ao' cap' bs'
set_option maxRecDepth 20000 in
set_option maxHeartbeats 4000000 in
theorem fixedBlock_yes (w : World) (R : Nat) (ao : Option Addr) (cap : Nat) (bs : List Int) (s : Nat) (last : Bool) (ta : Option Addr) (tc : Nat) (ts : List Tk)
    (h : Wtr w R ao cap bs s) (hss : s ≤ 500000000000) (hr : Toks w ta ts) (hsep : ts ≠ [] → ∀ a, ta = some a → a.block ≠ R ∧ (Value.slice ao bs.length cap).ownBlock ≠ some a.block) (htl : ts.length ≤ 2000000) (hwf : AllT ts) (hok : allOkB ts = true) :
    Calls Tryz.prog 34 #[.pointer (some ⟨R, 0, none⟩), .bool last, .slice ta ts.length tc] w (FixP w R ao cap bs s last ts) := by
  have HA := Lib.hid (allOk_any ta tc ts w hr (by unfold maxLen; omega))
  have hts : ∀ t ∈ ts, ∃ ws, TokW fixL fixD t ws := fun t ht => tokW_any (fun k hk => fixL_has k (by omega)) (fun k hk => fixD_has k (by omega)) (hwf t ht) (allOkB_mem hok t ht)
  have H := Lib.hid h; have HR := Lib.hid hr; have HSep := Lib.hid hsep; have HTs := Lib.hid hts; have HTl := Lib.hid htl
  rw [hok] at HA
  clear h hr hsep hwf hok hts htl
  go_enter Tryz.func34, Tryz.ntmps34
  go_wp2_with fail
  refine HA.out.mono ?_
  rintro e w1 ⟨rfl, hk1⟩
  have HK1 := Lib.hid hk1
  have hp := putType_any w1 R ao cap bs s 1 last (H.out.keptNo hk1) (by decide) (by omega)
  rw [show ((1 : Nat) : Int) = 1 from rfl] at hp
  have HP := Lib.hid hp
  clear hk1 hp HA
  go_wp2_with fail
  refine HP.out.mono ?_
  rintro e w2 ⟨a2, c2, b2, rfl, hW⟩
  have HW := Lib.hid (hW.base HK1.out)
  clear hW HP
  have HF := Lib.hid (fixed_any w2)
  go_wp2_with fail
  refine HF.out.mono ?_
  rintro e w3 ⟨G, K, rfl, hT⟩
  have HT := Lib.hid hT
  have hW3 := HW.out.keptNo hT.k
  have hRlt := obj_lt HW.out.1.1
  have hAlt : ∀ k, (Value.slice a2 b2.length c2).ownBlock = some k → k < w2.heap.size := own_lt HW.out.1.2.1
  have hr3 : Toks w3 ta ts := fun j hj => by
    obtain ⟨b, off, rfl, x0, x1, x2⟩ := HR.out j hj
    have hs := HSep.out (fun e => by rw [e] at hj; simp at hj) _ rfl
    have hb : ¬ OrB (OneB R) (OwnB (.slice ao bs.length cap)) b := fun e => e.elim (fun e => hs.1 e) (fun e => hs.2 e)
    have hc : ∀ (o : Nat) (v : Value), w.cell? ⟨b, o, none⟩ = some v → w3.cell? ⟨b, o, none⟩ = some v := fun o v hv => (World.cell?_of_block (hW3.2.2.1.block _ (World.block_lt_of_cell? w _ hv) hb)).trans hv
    exact ⟨b, off, rfl, hc _ _ x0, hc _ _ x1, hc _ _ x2⟩
  have hput := putTokens_yes w3 R a2 c2 b2 _ (fun k => k = G ∨ k = K) (some ⟨G, 0, none⟩) 288 fixL (some ⟨K, 0, none⟩) 32 fixD ta tc ts hW3.1 (by simp only [wdN]; omega)
    (hT.a.rdG fixL_len (.inl rfl)) (hT.b.rdG fixD_len (.inr rfl))
    (fun k hk => by
      have h1 := hT.g
      have h2 := hT.h
      have hk2 : w2.heap.size ≤ k := by rcases hk with rfl | rfl <;> assumption
      exact ⟨by omega, fun e => by have := hAlt k e; omega⟩)
    fixL_ok fixD_ok (fixL_has 256 (by omega)) hr3
    (fun hne a ha => by
      have hs := HSep.out hne a ha
      refine ⟨hs.1, fun e => ?_⟩
      rcases hW3.2.2.2 _ e with h | h
      · exact hs.2 h
      · have hj : 0 < ts.length := by cases ts with
          | nil => exact absurd rfl hne
          | cons _ _ => simp
        obtain ⟨b, off, hta, x0, _⟩ := HR.out 0 hj
        rw [ha] at hta
        cases hta
        have := World.block_lt_of_cell? w _ x0
        simp only at this h
        omega)
    HTl.out HTs.out
  rw [fixL_len, fixD_len] at hput
  have HPut := Lib.hid hput
  have HW3 := Lib.hid hW3
  clear hput hW3 hr3 hT hRlt hAlt HF
  go_wp2_with fail
  refine HPut.out.mono ?_
  rintro e w4 ⟨ws, a4, c4, b4, rfl, hws, hW4⟩
  have HWs := Lib.hid hws
  have HW4 := Lib.hid (HW3.out.app hW4)
  clear hws hW4 HPut
  go_wp2
  go_ret
  exact ⟨ws, a4, c4, b4, rfl, HWs.out, HW4.out⟩
end Go.Proofs.YtfmjfgmbjdhogaaGreatDoor

namespace Go.Proofs.YtfmjfgmbjdhogaaGreatDoor
open Go.RowKit
set_option linter.unusedVariables false
set_option linter.unusedSimpArgs false

/-- The last place up to H whose bound is reached. -/
def lastI (B : Nat → Nat) : Nat → Nat → Nat
  | 0, _ => 0
  | H + 1, n => if B (H + 1) ≤ n then H + 1 else lastI B H n
theorem lastI_eq (B : Nat → Nat) (n i : Nat) (h : B i ≤ n) : ∀ H, i ≤ H → (∀ k, i < k → k ≤ H → n < B k) → lastI B H n = i
  | 0, hi, _ => by unfold lastI; omega
  | H + 1, hi, hk => by
    unfold lastI
    by_cases e : i = H + 1
    · subst e; rw [if_pos h]
    · rw [if_neg (by have := hk (H + 1) (by omega) (Nat.le_refl _); omega)]
      exact lastI_eq B n i h H (by omega) (fun k h1 h2 => hk k h1 (by omega))
def litSy (t : Tk) : Nat := if t.l = 0 then t.c.toNat else if t.l = 258 then 285 else 257 + lastI lb 27 t.l.toNat
def distSy (t : Tk) : Nat := lastI db 29 t.d.toNat
theorem lb_last {i v : Nat} (hi : i < 28) (hv : v < 2 ^ le4 i) : lastI lb 27 (lb i + v) = i :=
  lastI_eq lb _ i (by omega) 27 (by omega) (fun k h1 h2 => by have := lb_next k (by omega) i (by omega) h1; omega)
theorem db_last {j u : Nat} (hj : j < 30) (hu : u < 2 ^ de j) : lastI db 29 (db j + u) = j :=
  lastI_eq db _ j (by omega) 29 (by omega) (fun k h1 h2 => by have := db_next k (by omega) j (by omega) h1; omega)
def incAt (L : List Int) (k : Nat) : List Int := L.set k (L.getD k 0 + 1)
theorem incAt_len (L : List Int) (k : Nat) : (incAt L k).length = L.length := List.length_set
theorem incAt_get (L : List Int) (k i : Nat) : (incAt L k).getD i 0 ≤ L.getD i 0 + 1 ∧ L.getD i 0 ≤ (incAt L k).getD i 0 := by
  unfold incAt
  simp only [List.getD, List.getElem?_set]
  by_cases h : k = i
  · subst h
    rw [if_pos rfl]
    by_cases hl : k < L.length
    · rw [if_pos hl, List.getElem?_eq_getElem hl]
      simp only [Option.getD_some]
      omega
    · rw [if_neg hl, List.getElem?_eq_none (by omega)]
      simp
  · rw [if_neg h]
    omega
def tally1 (p : List Int × List Int) (t : Tk) : List Int × List Int := if t.ok then (incAt p.1 (litSy t), if t.l = 0 then p.2 else incAt p.2 (distSy t)) else p
def tally0 : List Int × List Int := ((List.replicate 286 0).set 256 1, List.replicate 30 0)
def tally (ts : List Tk) : List Int × List Int := ts.foldl tally1 tally0
theorem tally_snoc (ts : List Tk) (t : Tk) : tally (ts ++ [t]) = tally1 (tally ts) t := by unfold tally; rw [List.foldl_append]; rfl
def CntB (p : List Int × List Int) (n : Nat) : Prop := p.1.length = 286 ∧ p.2.length = 30 ∧ ∀ k, (0 ≤ p.1.getD k 0 ∧ p.1.getD k 0 ≤ (n : Int) + 1) ∧ (0 ≤ p.2.getD k 0 ∧ p.2.getD k 0 ≤ (n : Int))
theorem tally0_b : CntB tally0 0 := by
  refine ⟨by show ((List.replicate 286 (0 : Int)).set 256 1).length = 286; rw [List.length_set, List.length_replicate], by show (List.replicate 30 (0 : Int)).length = 30; rw [List.length_replicate], fun k => ⟨?_, ?_⟩⟩
  · unfold tally0
    rw [List.getD, List.getElem?_set]
    by_cases h : 256 = k
    · rw [if_pos h, if_pos (by rw [List.length_replicate]; omega)]; simp
    · rw [if_neg h]
      by_cases hk : k < 286
      · rw [List.getElem?_replicate, if_pos hk]; simp
      · rw [List.getElem?_eq_none (by rw [List.length_replicate]; omega)]; simp
  · unfold tally0
    by_cases hk : k < 30
    · rw [List.getD, List.getElem?_replicate, if_pos hk]; simp
    · rw [List.getD, List.getElem?_eq_none (by rw [List.length_replicate]; omega)]; simp
theorem CntB.one {p : List Int × List Int} {n : Nat} (h : CntB p n) (t : Tk) : CntB (tally1 p t) (n + 1) := by
  obtain ⟨h1, h2, h3⟩ := h
  unfold tally1
  by_cases ho : t.ok = true
  · rw [if_pos ho]
    by_cases hl : t.l = 0
    · rw [if_pos hl]
      refine ⟨by rw [incAt_len]; exact h1, h2, fun k => ?_⟩
      have a := incAt_get p.1 (litSy t) k
      have b := h3 k
      simp only
      omega
    · rw [if_neg hl]
      refine ⟨by rw [incAt_len]; exact h1, by rw [incAt_len]; exact h2, fun k => ?_⟩
      have a := incAt_get p.1 (litSy t) k
      have a2 := incAt_get p.2 (distSy t) k
      have b := h3 k
      simp only
      omega
  · rw [if_neg ho]
    exact ⟨h1, h2, fun k => by have b := h3 k; omega⟩
theorem tally_b (ts : List Tk) : ∀ j, CntB (tally (ts.take j)) j := by
  intro j
  induction j with
  | zero => rw [List.take_zero]; exact tally0_b
  | succ j ih =>
    by_cases h : j < ts.length
    · rw [take_snocT ts j h, tally_snoc]; exact ih.one _
    · rw [List.take_of_length_le (by omega)] at ih ⊢
      exact ⟨ih.1, ih.2.1, fun k => by have := ih.2.2 k; omega⟩
theorem OwnZ.setAt {w : World} {G n : Nat} {L : List Int} (h : OwnZ w G n L) (j : Nat) (z : Int) : OwnZ (w.setCell ⟨G, j, none⟩ (.int .i64 z)) G n (L.set j z) := by
  obtain ⟨s1, _⟩ := World.ownsRow.stored h j (.int .i64 z)
  rw [← List.map_set] at s1
  exact s1
theorem OwnZ.at {w : World} {G n : Nat} {L : List Int} (h : OwnZ w G n L) (hl : L.length = n) (j : Nat) (hj : j < n) : w.cell? ⟨G, j, none⟩ = some (.int .i64 (L.getD j 0)) := by
  rw [h.cellAt j (by omega), List.getElem?_map, List.getD, List.getElem?_eq_getElem (by omega)]
  rfl
theorem OwnZ.kept {w w' : World} {S : Nat → Prop} {G n : Nat} {L : List Int} (h : OwnZ w G n L) (hk : Kept S w w') (hS : ¬ S G) : OwnZ w' G n L :=
  hk.row h (fun k e => by
    simp [Value.ownBlock] at e
    subst e; exact hS)
theorem TwoZ.setA {w0 w : World} {G n H m : Nat} {L M : List Int} (h : TwoZ w0 w G n H m L M) (j : Nat) (z : Int) : TwoZ w0 (w.setCell ⟨G, j, none⟩ (.int .i64 z)) G n H m (L.set j z) M :=
  have hk : Kept (OneB G) w (w.setCell ⟨G, j, none⟩ (.int .i64 z)) := Kept.setCell (S := OneB G) (p := ⟨G, j, none⟩) (Kept.refl _ w) (.inl rfl) _
  ⟨h.a.setAt j z, h.b.kept hk (fun e => h.ne e.symm), Kept.setCell (p := ⟨G, j, none⟩) h.k (.inr h.g) _, h.g, h.h, h.ne⟩
theorem TwoZ.setB {w0 w : World} {G n H m : Nat} {L M : List Int} (h : TwoZ w0 w G n H m L M) (j : Nat) (z : Int) : TwoZ w0 (w.setCell ⟨H, j, none⟩ (.int .i64 z)) G n H m L (M.set j z) :=
  (h.swap.setA j z).swap
theorem TwoZ.on {w0 w w' : World} {G n H m : Nat} {L M : List Int} (h : TwoZ w0 w G n H m L M) (hk : Kept NoB w w') : TwoZ w0 w' G n H m L M :=
  ⟨h.a.kept hk (fun e => e), h.b.kept hk (fun e => e), h.k.trans hk, h.g, h.h, h.ne⟩
theorem copy_syms {t : Tk} (hcp : (∃ j u, j < 30 ∧ u < 2 ^ de j ∧ t = ⟨258, ((db j + u : Nat) : Int), 0⟩) ∨ (∃ i v j u, i < 28 ∧ v < 2 ^ le4 i ∧ lb i + v ≤ 257 ∧ j < 30 ∧ u < 2 ^ de j ∧ t = ⟨((lb i + v : Nat) : Int), ((db j + u : Nat) : Int), 0⟩)) :
    ∃ (n d sy X v j E u : Nat), t = ⟨(n : Int), (d : Int), 0⟩ ∧ 1 ≤ n ∧ 257 ≤ sy ∧ sy < 286 ∧ j < 30 ∧ litSy t = sy ∧ distSy t = j ∧
    (∀ W, Calls Tryz.prog 102 #[.int .i64 (n : Int)] W fun e w' => e = .returned (.tuple #[.int .i64 (sy : Int), .int .i64 (X : Int), .int .u32 (v : Int)]) ∧ W = w') ∧
    (∀ W, Calls Tryz.prog 103 #[.int .i64 (d : Int)] W fun e w' => e = .returned (.tuple #[.int .i64 (j : Int), .int .i64 (E : Int), .int .u32 (u : Int)]) ∧ W = w') := by
  rcases hcp with ⟨j, u, hj, hu, rfl⟩ | ⟨i, v, j, u, hi, hv, hlv, hj, hu, rfl⟩
  · refine ⟨258, db j + u, 285, 0, 0, j, de j, u, rfl, by decide, by decide, by decide, hj, rfl, ?_, fun W => lenSym_last W, fun W => distSym_any j u (db j + u) W hj hu rfl⟩
    unfold distSy
    rw [Int.toNat_natCast]
    exact db_last hj hu
  · have h3 := lb_top i hi
    refine ⟨lb i + v, db j + u, 257 + i, le4 i, v, j, de j, u, rfl, by omega, by omega, by omega, hj, ?_, ?_, fun W => lenSym_any i v (lb i + v) W hi hv rfl hlv, fun W => distSym_any j u (db j + u) W hj hu rfl⟩
    · unfold litSy
      rw [if_neg (by simp only; omega), if_neg (by simp only; omega), Int.toNat_natCast, lb_last hi hv]
    · unfold distSy
      rw [Int.toNat_natCast]
      exact db_last hj hu
set_option maxRecDepth 20000 in
set_option maxHeartbeats 8000000 in
theorem counts_any2 (ta : Option Addr) (tc : Nat) (ts : List Tk) (w : World) (hr : Toks w ta ts) (hl : ts.length ≤ 2000000) (hwf : AllT ts) :
    Calls Tryz.prog 90 #[.slice ta ts.length tc] w fun e w' => ∃ G H, e = .returned (.tuple #[.slice (some ⟨G, 0, none⟩) 286 286, .slice (some ⟨H, 0, none⟩) 30 30]) ∧ TwoZ w w' G 286 H 30 (tally ts).1 (tally ts).2 := by
  have HR := Lib.hid hr
  have HWf := Lib.hid hwf
  obtain ⟨L, hL⟩ : ∃ L, L = ts.length := ⟨_, rfl⟩
  have HL := Lib.hid hL
  rw [← hL] at hl ⊢
  clear hr hL hwf
  obtain ⟨wa, wb, ra, rb, tab⟩ := make_two w.drew 286 30 (by decide) (by decide)
  obtain ⟨wc, wd, rc, rd, tcd⟩ := make_two w.drew 30 286 (by decide) (by decide)
  have T1 := Lib.hid tab; have T2 := Lib.hid tcd
  have ra : (Instr.makeSlice 30 (.int .i64 286) (.int .i64 286)).run Tryz.prog w.drew = .ok (.slice (some ⟨w.heap.size, 0, none⟩) 286 286) wa := ra
  have rb : (Instr.makeSlice 30 (.int .i64 30) (.int .i64 30)).run Tryz.prog wa = .ok (.slice (some ⟨wa.heap.size, 0, none⟩) 30 30) wb := rb
  have rc : (Instr.makeSlice 30 (.int .i64 30) (.int .i64 30)).run Tryz.prog w.drew = .ok (.slice (some ⟨w.heap.size, 0, none⟩) 30 30) wc := rc
  have rd : (Instr.makeSlice 30 (.int .i64 286) (.int .i64 286)).run Tryz.prog wc = .ok (.slice (some ⟨wc.heap.size, 0, none⟩) 286 286) wd := rd
  clear tab tcd
  go_enter Tryz.func90, Tryz.ntmps90
  go_upto_region 1 with fail
  go_cut [2, 3] from 9 to 10 (fun s t wx => ∃ G H, s = .slice (some ⟨G, 0, none⟩) 286 286 ∧ t = .slice (some ⟨H, 0, none⟩) 30 30 ∧ TwoZ w wx G 286 H 30 (List.replicate 286 0) (List.replicate 30 0))
  case first =>
    go_region
    all_goals go_wp2
    all_goals go_meet
    · exact ⟨_, _, rfl, rfl, T1.out.from⟩
    · exact ⟨_, _, rfl, rfl, T2.out.swap.from⟩
  case rest =>
    obtain ⟨G, H, rfl, rfl, hT⟩ := hcut
    have hud := hT.a.at (by simp) 256 (by omega)
    have hfd := World.ownsRow.frozenAt hT.a 256
    have HT := Lib.hid (hT.setA 256 1)
    clear hT ra rb rc rd T1 T2
    go_wp2_with fail
    go_loopw [5, 6, 7, 8, 15] (fun _a _b _c _d i wr => ∃ j : Nat, j ≤ L ∧ i = .int .i64 (j : Int) ∧ Hid (TwoZ w wr G 286 H 30 (tally (ts.take j)).1 (tally (ts.take j)).2)) (fun _ _ _ _ i _ => L - (intOf i).toNat)
    case atStart => exact ⟨0, by omega, rfl, HT⟩
    case round =>
      clear HT
      obtain ⟨j, hj, rfl, HT⟩ := hrel
      by_cases hlt : (j : Int) < (L : Int)
      · have hjt : j < ts.length := by have := HL.out; omega
        have hjL : j < L := by omega
        have hGH : ¬ G = H := HT.out.ne
        have hHG : ¬ H = G := fun e => HT.out.ne e.symm
        obtain ⟨b, off, rfl, c0, c1, c2⟩ := (HR.out.keptNo HT.out.k) j hjt
        obtain ⟨t, ht⟩ : ∃ t, t = ts.getD j ⟨0, 0, 0⟩ := ⟨_, rfl⟩
        have hsn : tally (ts.take (j + 1)) = tally1 (tally (ts.take j)) t := by rw [take_snocT ts j hjt, tally_snoc, ← ht]
        have HSn := Lib.hid hsn
        have HB := Lib.hid (tally_b ts j)
        have HTw := Lib.hid (show t.wf by rw [ht, List.getD, List.getElem?_eq_getElem hjt, Option.getD_some]; exact HWf.out _ (List.getElem_mem hjt))
        rw [← ht] at c0 c1 c2
        clear ht hsn
        obtain ⟨p, hp⟩ : ∃ p, p = tally (ts.take j) := ⟨_, rfl⟩
        rw [← hp] at HT HSn HB
        clear hp
        obtain ⟨B, hB⟩ : ∃ B, B = wr.heap.size := ⟨_, rfl⟩
        have HOk := Lib.hid (fun W => ok_any t W)
        obtain ⟨ob, hob⟩ : ∃ ob, ob = t.ok := ⟨_, rfl⟩
        rw [← hob] at HOk
        have HOb := Lib.hid hob
        obtain ⟨l, d, c⟩ := t
        unfold Tk.v at HOk
        simp only at c0 c1 c2 HOk
        clear hob hjt
        go_upto_region 10 with fail
        rw [← hB]
        obtain ⟨wb, hwb⟩ : ∃ wb, wb = wr.alloc (.cells #[.int .i64 l, .int .i64 d, .int .u8 c] 101) := ⟨_, rfl⟩
        have hc0 : (wr.alloc (.cells #[.int .i64 l, .int .i64 d, .int .u8 c] 101)).cell? ⟨B, 0, none⟩ = some (.int .i64 l) := by rw [hB]; exact cell_new 0 rfl
        have hc1 : (wr.alloc (.cells #[.int .i64 l, .int .i64 d, .int .u8 c] 101)).cell? ⟨B, 1, none⟩ = some (.int .i64 d) := by rw [hB]; exact cell_new 1 rfl
        have hc2 : (wr.alloc (.cells #[.int .i64 l, .int .i64 d, .int .u8 c] 101)).cell? ⟨B, 2, none⟩ = some (.int .u8 c) := by rw [hB]; exact cell_new 2 rfl
        have hbA : Kept NoB wr (wr.alloc (.cells #[.int .i64 l, .int .i64 d, .int .u8 c] 101)) := (Kept.refl _ _).alloc _
        have hGB : ¬ G = B := fun e => by have := own_lt HT.out.a G rfl; omega
        rw [← hwb] at hc0 hc1 hc2 hbA ⊢
        have HTb := Lib.hid (HT.out.on hbA)
        clear hwb hB c0 c1 c2 hbA HT
        go_wp2_with fail
        refine (HOk.out _).mono ?_
        rintro e w1 ⟨rfl, hk1⟩
        have HT1 := Lib.hid (HTb.out.on hk1)
        replace hc0 := hk1.cell hc0
        replace hc1 := hk1.cell hc1
        replace hc2 := hk1.cell hc2
        clear hk1 HTb
        cases ob with
        | false =>
          have hn : tally1 p ⟨l, d, c⟩ = p := by unfold tally1; rw [if_neg (by rw [← HOb.out]; decide)]
          have HT2 : Hid (TwoZ w w1 G 286 H 30 (tally (ts.take (j + 1))).1 (tally (ts.take (j + 1))).2) := Lib.hid (by rw [HSn.out, hn]; exact HT1.out)
          clear hn
          go_wp2
          go_roundw
          case rel => exact ⟨j + 1, by omega, by go_num, HT2⟩
          case measure => simp [intOf]; omega
        | true =>
          rcases tok_shape HTw.out HOb.out.symm with ⟨k, hk, he⟩ | hcp
          · obtain ⟨rfl, rfl, rfl⟩ : l = 0 ∧ d = 0 ∧ c = (k : Int) := by simpa using he
            clear he
            obtain ⟨x, hx⟩ : ∃ x, x = p.1.getD k 0 := ⟨_, rfl⟩
            have hxb := HB.out.2.2 k
            rw [← hx] at hxb
            have hud := HT1.out.a.at HB.out.1 k (by omega)
            rw [← hx] at hud
            have hfd := World.ownsRow.frozenAt HT1.out.a k
            have hx1 : 0 ≤ x := by omega
            have hx2 : x ≤ 2000001 := by omega
            have hn : tally1 p ⟨0, 0, (k : Int)⟩ = (p.1.set k (x + 1), p.2) := by
              unfold tally1; rw [if_pos HOb.out.symm, if_pos rfl, hx]; rfl
            have HT2 : Hid (TwoZ w (w1.setCell ⟨G, k, none⟩ (.int .i64 (x + 1))) G 286 H 30 (tally (ts.take (j + 1))).1 (tally (ts.take (j + 1))).2) := Lib.hid (by rw [HSn.out, hn]; exact HT1.out.setA k (x + 1))
            have hkn : (k : Int) < 286 := by omega
            clear hn hx hxb
            go_wp2
            go_roundw
            case rel => exact ⟨j + 1, by omega, by go_num, HT2⟩
            case measure => simp [intOf]; omega
          · obtain ⟨n, d', sy, X, v, jj, E, u, he, hn1, hs1, hs2, hj30, hls, hds, hLS, hDS⟩ := copy_syms hcp
            have hn : tally1 p ⟨l, d, c⟩ = (incAt p.1 sy, incAt p.2 jj) := by
              unfold tally1; rw [if_pos HOb.out.symm, if_neg (by rw [he]; simp only; omega), hls, hds]
            obtain ⟨rfl, rfl, rfl⟩ : l = (n : Int) ∧ d = (d' : Int) ∧ c = 0 := by simpa using he
            clear he hcp hls hds
            have HLS := Lib.hid hLS
            have HDS := Lib.hid hDS
            obtain ⟨x, hx⟩ : ∃ x, x = p.1.getD sy 0 := ⟨_, rfl⟩
            obtain ⟨y, hy⟩ : ∃ y, y = p.2.getD jj 0 := ⟨_, rfl⟩
            have hxb := (HB.out.2.2 sy).1
            have hyb := (HB.out.2.2 jj).2
            rw [← hx] at hxb
            rw [← hy] at hyb
            have hud := HT1.out.a.at HB.out.1 sy (by omega)
            rw [← hx] at hud
            have hfd := World.ownsRow.frozenAt HT1.out.a sy
            have hx1 : 0 ≤ x := by omega
            have hx2 : x ≤ 2000001 := by omega
            have hy1 : 0 ≤ y := by omega
            have hy2 : y ≤ 2000001 := by omega
            have hkn : (sy : Int) < 286 := by omega
            have hjn : (jj : Int) < 30 := by omega
            have hn0 : ((n : Int) == 0) = false := by simp; omega
            have HN : Hid (tally1 p ⟨(n : Int), (d' : Int), 0⟩ = (p.1.set sy (x + 1), p.2.set jj (y + 1))) := Lib.hid (by rw [hn, hx, hy]; rfl)
            have HY := Lib.hid hy
            clear hn hx hy hxb hyb hLS hDS
            go_wp2_with fail
            refine (HLS.out _).mono ?_
            rintro e wx ⟨rfl, rfl⟩
            go_upto_region 8 with fail
            obtain ⟨w2, hw2⟩ : ∃ w2, w2 = w1.setCell ⟨G, sy, none⟩ (.int .i64 (x + 1)) := ⟨_, rfl⟩
            have HT2 : Hid (TwoZ w w2 G 286 H 30 (p.1.set sy (x + 1)) p.2) := Lib.hid (by rw [hw2]; exact HT1.out.setA sy (x + 1))
            have hk2 : Kept (OneB G) w1 w2 := by rw [hw2]; exact Kept.setCell (S := OneB G) (p := ⟨G, sy, none⟩) (Kept.refl _ w1) (.inl rfl) _
            have hd1 : w2.cell? ⟨B, 1, none⟩ = some (.int .i64 (d' : Int)) := (World.cell?_of_block (hk2.block B (World.block_lt_of_cell? w1 _ hc1) (fun e => hGB e.symm))).trans hc1
            rw [← hw2]
            have hud2 := HT2.out.b.at HB.out.2.1 jj (by omega)
            rw [← HY.out] at hud2
            have hfd2 := World.ownsRow.frozenAt HT2.out.b jj
            clear hw2 hk2 hud hfd hc0 hc1 hc2 HT1
            go_wp2_with fail
            refine (HDS.out _).mono ?_
            rintro e wx ⟨rfl, rfl⟩
            have HT3 : Hid (TwoZ w (w2.setCell ⟨H, jj, none⟩ (.int .i64 (y + 1))) G 286 H 30 (tally (ts.take (j + 1))).1 (tally (ts.take (j + 1))).2) := Lib.hid (by rw [HSn.out, HN.out]; exact HT2.out.setB jj (y + 1))
            go_wp2
            go_roundw
            case rel => exact ⟨j + 1, by omega, by go_num, HT3⟩
            case measure => simp [intOf]; omega
      · obtain rfl : j = L := by omega
        have HF : Hid (TwoZ w wr G 286 H 30 (tally ts).1 (tally ts).2) := Lib.hid (by
          have h := HT.out
          rw [List.take_of_length_le (by rw [← HL.out]; exact Nat.le_refl _)] at h
          exact h)
        clear HT
        go_wp2
        go_ret2
        exact ⟨G, H, rfl, HF.out⟩
end Go.Proofs.YtfmjfgmbjdhogaaGreatDoor
