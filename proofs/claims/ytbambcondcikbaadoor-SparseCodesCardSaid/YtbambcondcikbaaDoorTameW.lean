/-
  few, Tame, SamePieces.
-/
import Derived.Test.YtbambcondcikbaaDoorTameP
import Derived.Test.YtbambcondcikbaaDoorLawSparseBounds
namespace Go.Proofs.YtbambcondcikbaaDoor
open Go.RowKit
set_option linter.unusedVariables false
set_option linter.unusedSimpArgs false

theorem mask1 (n : Int) : bits .and .i64 n 1 = n % 2 := i64_mask n 1 (by decide)
theorem mask1023 (n : Int) : bits .and .i64 n 1023 = n % 1024 := i64_mask n 10 (by decide)
theorem few_no (l : List Pc) (i : Nat) (hi : i < l.length) (h : 300 < (l.getD i (0, [])).2.length) : fewS l = false := by
  have e : l.getD i (0, []) = l[i] := by simp [List.getD, hi]
  rw [e] at h
  have : (l.all fun p => decide (p.2.length ≤ 300)) = false := by
    rw [List.all_eq_false]
    exact ⟨l[i], List.getElem_mem hi, by simp; omega⟩
  rw [fewS, this, Bool.false_and]
theorem few_yes (l : List Pc) (h : ∀ i, i < l.length → (l.getD i (0, [])).2.length ≤ 300) : fewS l = decide (l.length ≤ 40) := by
  have : (l.all fun p => decide (p.2.length ≤ 300)) = true := by
    rw [List.all_eq_true]
    intro p hp
    obtain ⟨i, hi, rfl⟩ := List.getElem_of_mem hp
    have := h i hi
    simp [List.getD, hi] at this
    simpa using this
  rw [fewS, this, Bool.true_and]

set_option maxRecDepth 20000 in
set_option maxHeartbeats 4000000 in
theorem few_any (ao : Option Addr) (n cap : Nat) (l : List Pc) (w : World) (hn : n = l.length) (hr : RdP w w.heap.size ao l) (hc : n ≤ cap) (hcm : cap ≤ maxLen) :
    Calls Tryd.prog 19 #[.slice ao n cap] w fun e w' => e = .returned (.bool (fewS l)) ∧ Kept NoB w w' := by
  have HR := Lib.hid hr; have HN := Lib.hid hn
  have hcm2 : n ≤ 9223372036854775807 := by unfold maxLen at hcm; omega
  have HNo := Lib.hid (few_no l)
  have HYes := Lib.hid (few_yes l)
  obtain ⟨R, hR⟩ : ∃ R, R = fewS l := ⟨_, rfl⟩
  rw [← hR] at HNo HYes ⊢
  clear hr hn hcm hR
  go_enter Tryd.func19, Tryd.ntmps19
  go_wp2
  go_loopw [3] (fun v3 wr => ∃ i : Nat, v3 = .int .i64 (i : Int) ∧ i ≤ n ∧ Hid ((∀ j, j < i → (l.getD j (0, [])).2.length ≤ 300) ∧ Kept NoB w wr)) (fun v3 _ => n - (intOf v3).toNat)
  case atStart => exact ⟨0, rfl, by omega, Lib.hid ⟨fun j hj => by omega, Kept.refl _ _⟩⟩
  case round =>
    obtain ⟨i, rfl, hi, HS⟩ := hrel
    by_cases hlt : (i : Int) < (n : Int)
    · have hin : i < n := by omega
      obtain ⟨b, off, bo, bc, rfl, hb, c0, c1, _, _, c2, c3⟩ := HR.out i (by have := HN.out; omega)
      have d1 := HS.out.2.cell c1
      obtain ⟨k, hk⟩ : ∃ k, k = (l.getD i (0, [])).2.length := ⟨_, rfl⟩
      rw [← hk] at d1 c2
      rw [show off + (i * 2 + 1) = off + i * 2 + 1 by omega] at d1
      have hkb : k ≤ 9223372036854775807 := by unfold maxLen at c3; omega
      have HKk := Lib.hid hk
      clear c0 c1 c2 c3 hk
      by_cases h3 : (300 : Int) < (k : Int)
      · have HF : Hid (R = false) := Lib.hid (HNo.out i (by have := HN.out; omega) (by rw [← HKk.out]; omega))
        go_wp2
        go_ret
        exact ⟨by rw [HF.out]; rfl, HS.out.2⟩
      · have HX : Hid (∀ j, j < i + 1 → (l.getD j (0, [])).2.length ≤ 300) := Lib.hid (fun j hj => by
          by_cases e : j = i
          · subst e; rw [← HKk.out]; omega
          · exact HS.out.1 j (by omega))
        go_wp2
        go_roundw
        case rel => exact ⟨i + 1, by go_num, by omega, Lib.hid ⟨HX.out, HS.out.2⟩⟩
        case measure => simp [intOf]; omega
    · have hie : i = n := by omega
      have HF : Hid (R = decide (n ≤ 40)) := Lib.hid (by
        have h := HYes.out (fun j hj => HS.out.1 j (by have := HN.out; omega))
        rw [h, ← HN.out])
      clear hie
      go_wp2
      go_ret
      refine ⟨?_, HS.out.2⟩
      rw [HF.out]
      show Ending.returned (Value.bool (decide ((n : Int) ≤ 40))) = _
      have e : decide ((n : Int) ≤ 40) = decide (n ≤ 40) := by
        rw [Bool.eq_iff_iff, decide_eq_true_eq, decide_eq_true_eq]; omega
      rw [e]

/-- What Tame gives back. -/
def TamR (w : World) (l : List Pc) (size : Int) (e : Ending) (w' : World) : Prop :=
  ∃ (qs : List PcQ) (a : Option Addr) (c : Nat), e = .returned (.tuple #[.slice a qs.length c, .int .i64 (tmZ l size)]) ∧ qs.map Prod.fst = tmL l ∧ PcSt w w' a qs.length c qs
theorem tm_skip (l : List Pc) (i : Nat) (h : (l.getD i (0, [])).2.length = 0) : tmG l (i + 1) = tmG l i := by
  rw [tmG, tmStep, if_pos (List.eq_nil_of_length_eq_zero h)]
theorem tm_take (l : List Pc) (i : Nat) (z a : Int) (B : List UInt8) (h : (l.getD i (0, [])).2.length ≠ 0) (hz : z = (l.getD i (0, [])).1) (hB : B = (l.getD i (0, [])).2.take 60)
    (ha : a = (if 0 < i ∨ z % 2 = 1 then (tmG l i).2 + z % 1024 + 1 else (tmG l i).2)) : tmG l (i + 1) = ((tmG l i).1 ++ [(a, B)], a + (B.length : Int)) := by
  rw [tmG, tmStep, if_neg (fun e => h (by rw [e]; rfl)), ← hz, ← ha, ← hB]
theorem tm_bd (l : List Pc) (i : Nat) (h : i ≤ 12) : 0 ≤ (tmG l i).2 ∧ (tmG l i).2 ≤ 14000 := by
  have := tm_inv l i
  obtain ⟨h1, h2, _⟩ := this
  omega

set_option maxRecDepth 20000 in
set_option maxHeartbeats 8000000 in
theorem tame_any (ao : Option Addr) (n cap : Nat) (l : List Pc) (size : Int) (w : World) (hn : n = l.length) (hr : RdP w w.heap.size ao l) (hi : IntP l) (hc : n ≤ cap) (hcm : cap ≤ maxLen) (hz0 : -9223372036854775808 ≤ size) (hz1 : size ≤ 9223372036854775807) :
    Calls Tryd.prog 20 #[.slice ao n cap, .int .i64 size] w (TamR w l size) := by
  have HR := Lib.hid hr; have HN := Lib.hid hn; have HI := Lib.hid hi
  have hcm2 : n ≤ 9223372036854775807 := by unfold maxLen at hcm; omega
  clear hr hn hcm hi
  have HSt : Hid (PcSt w w none 0 0 []) := Lib.hid (PcSt.start (Kept.refl NoB w))
  go_enter Tryd.func20, Tryd.ntmps20
  go_wp2
  go_loopw [6, 7, 8] (fun v6 v7 v8 wr => ∃ (i : Nat) (at0 : Int) (m : Nat) (a : Option Addr) (c : Nat) (qs : List PcQ), v6 = .slice a m c ∧ v7 = .int .i64 at0 ∧ v8 = .int .i64 (i : Int) ∧ i ≤ n ∧ i ≤ 12 ∧ m ≤ 12 ∧ Hid (m = qs.length) ∧ Hid ((qs.map Prod.fst, at0) = tmG l i) ∧ Hid (PcSt w wr a m c qs)) (fun _ _ v8 _ => n - (intOf v8).toNat)
  case atStart => exact ⟨0, 0, 0, none, 0, [], rfl, rfl, rfl, by omega, by omega, by omega, Lib.hid rfl, Lib.hid rfl, HSt⟩
  case round =>
    obtain ⟨i, at0, m, a, c, qs, rfl, rfl, rfl, hi, hi12, hm12, HM, HG, HP⟩ := hrel
    by_cases hlt : (i : Int) < (n : Int)
    · by_cases h12 : (i : Int) < 12
      · have hin : i < n := by omega
        have hi12' : i < 12 := by omega
        obtain ⟨b, off, bo, bc, rfl, hb, c0, c1, c4, c5, c2, c3⟩ := HR.out i (by have := HN.out; omega)
        have d0 := HP.out.kept.cell c0
        have d1 := HP.out.kept.cell c1
        obtain ⟨z, hz⟩ : ∃ z, z = (l.getD i (0, [])).1 := ⟨_, rfl⟩
        obtain ⟨k, hk⟩ : ∃ k, k = (l.getD i (0, [])).2.length := ⟨_, rfl⟩
        rw [← hz] at d0
        rw [← hk] at d1 c2
        rw [show off + (i * 2 + 1) = off + i * 2 + 1 by omega] at d1
        have hkb : k ≤ 9223372036854775807 := by unfold maxLen at c3; omega
        have HKk := Lib.hid hk; have HZz := Lib.hid hz
        have hat := tm_bd l i (by omega)
        have hat0 : at0 = (tmG l i).2 := by rw [← HG.out]
        rw [← hat0] at hat
        have HAt := Lib.hid hat0
        have HC4 := Lib.hid c4; have HC5 := Lib.hid c5; have HC3 := Lib.hid c3
        clear c0 c1 c3 c4 c5 hk hz hat0
        have mz1 := mask1 z
        have mz2 := mask1023 z
        obtain ⟨mn, hmn⟩ : ∃ mn : Nat, mn = min k 60 := ⟨_, rfl⟩
        have hmn1 : mn ≤ k ∧ mn ≤ bc ∧ mn ≤ 60 ∧ (mn = 0 ↔ k = 0) := by omega
        have hmin : min (k : Int) 60 = (mn : Int) := by omega
        have HMn := Lib.hid hmin
        clear hmin
        go_wp2_with fail
        go_region
        rw [HMn.out, Int.toNat_natCast]
        have HPx := Lib.hid (HP.out.on (Kept.drew (Kept.refl NoB wr)))
        obtain ⟨wx, hwx⟩ : ∃ wx, wx = wr.drew := ⟨_, rfl⟩
        have hwx2 := HPx.out
        rw [← hwx] at hwx2 ⊢
        have HP2 := Lib.hid hwx2
        have e0 : wx.cell? ⟨b, off + i * 2, none⟩ = some (.int .i64 z) := by rw [hwx]; exact d0
        clear hwx HPx hwx2 d0 d1 hmn
        by_cases hk0 : k = 0
        · have hm0 : mn = 0 := hmn1.2.2.2.2 hk0
          have y1 : ((mn : Int) == 0) = true := by rw [hm0]; rfl
          have HG2 : Hid ((qs.map Prod.fst, at0) = tmG l (i + 1)) := Lib.hid (by rw [tm_skip l i (by rw [← HKk.out]; exact hk0)]; exact HG.out)
          clear hk0 hm0
          go_wp2
          go_roundw
          case rel => exact ⟨i + 1, at0, m, a, c, qs, rfl, rfl, by go_num, by omega, by omega, by omega, HM, HG2, HP2⟩
          case measure => simp [intOf]; omega
        · have y1 : ((mn : Int) == 0) = false := by simp; omega
          obtain ⟨cb, hcb⟩ : ∃ cb : Bool, cb = decide (0 < i ∨ z % 2 = 1) := ⟨_, rfl⟩
          have hzr : 0 ≤ z % 1024 ∧ z % 1024 ≤ 1023 := by omega
          have HCb := Lib.hid hcb
          clear hcb
          go_upto_region 8 with fail
          go_cut [46] from 36 to 46 (fun v46 wy => v46 = .bool cb ∧ wx = wy)
          case first =>
            by_cases hi0 : 0 < i
            · have hcb2 : Hid (cb = true) := Lib.hid (by rw [HCb.out]; exact decide_eq_true (.inl hi0))
              have hi0i : (0 : Int) < (i : Int) := by omega
              go_wp2
              go_meet
              exact ⟨by rw [hcb2.out], rfl⟩
            · have hi00 : i = 0 := by omega
              clear HG HP HM HKk HZz HAt HC4 HC5 HC3 HMn
              subst hi00
              rw [show off + 0 * 2 = off by omega] at e0
              by_cases hz2 : z % 2 = 1
              · have hcb2 : Hid (cb = true) := Lib.hid (by rw [HCb.out]; exact decide_eq_true (.inr hz2))
                have y2 : (bits .and .i64 z 1 == 1) = true := by rw [mz1, hz2]; rfl
                clear hz2 mz1 mz2
                go_wp2
                go_meet
                exact ⟨by rw [hcb2.out], rfl⟩
              · have hcb2 : Hid (cb = false) := Lib.hid (by rw [HCb.out]; exact decide_eq_false (by omega))
                have hz0 : z % 2 = 0 := by omega
                have y2 : (bits .and .i64 z 1 == 1) = false := by rw [mz1, hz0]; rfl
                clear hz2 mz1 mz2 hz0
                go_wp2
                go_meet
                exact ⟨by rw [hcb2.out], rfl⟩
          case rest =>
          obtain ⟨rfl, rfl⟩ := hcut
          cases cb with
          | true =>
            have hav : 0 ≤ at0 + z % 1024 + 1 ∧ at0 + z % 1024 + 1 ≤ 16000 := by omega
            obtain ⟨B, hB⟩ : ∃ B, B = (l.getD i (0, [])).2.take 60 := ⟨_, rfl⟩
            have hBl : mn = B.length := by
              have h1 := HKk.out
              have h2 := HMn.out
              rw [hB, List.length_take, ← h1]; omega
            have HG2 : Hid (tmG l (i + 1) = ((tmG l i).1 ++ [(at0 + z % 1024 + 1, B)], at0 + z % 1024 + 1 + (mn : Int))) := Lib.hid (by
              rw [hBl]
              exact tm_take l i z (at0 + z % 1024 + 1) B (by rw [← HKk.out]; exact hk0) HZz.out hB (by rw [← HAt.out]; have := HCb.out; rw [if_pos (of_decide_eq_true this.symm)]))
            obtain ⟨q, hq⟩ : ∃ q, q = wx.heap.size := ⟨_, rfl⟩
            obtain ⟨wA, hwA⟩ : ∃ wA, wA = wx.alloc (.cells #[.int .i64 (at0 + z % 1024 + 1), .slice bo mn bc] 30) := ⟨_, rfl⟩
            have hkA : Kept NoB wx wA := by rw [hwA]; exact (Kept.refl NoB wx).alloc _
            have hA0 : wA.cell? ⟨q, 0, none⟩ = some (.int .i64 (at0 + z % 1024 + 1)) := by rw [hwA]; exact cell_new 0 hq
            have hA1 : wA.cell? ⟨q, 1, none⟩ = some (.slice bo mn bc) := by rw [hwA]; exact cell_new 1 hq
            have HPA := Lib.hid (HP2.out.on hkA)
            have hrB : Reads w bo (nb B) := by
              have h4 := HC4.out
              rw [hB]
              cases bo with
              | none =>
                have := h4.1 rfl
                have e : (l.getD i (0, [])).2 = [] := by
                  have h := congrArg List.length this
                  rw [nb_len] at h
                  exact List.eq_nil_of_length_eq_zero h
                rw [e]
                rw [e] at h4
                exact h4
              | some x =>
                have h5 := reads_take 60 h4
                have e : (nb (l.getD i (0, [])).2).take 60 = nb ((l.getD i (0, [])).2.take 60) := by simp [nb, List.map_take]
                rw [e] at h5
                exact h5
            have HRd : Hid (PcRd wA ((at0 + z % 1024 + 1, B), (bo, bc))) := Lib.hid ⟨hrB.keptNo HPA.out.kept, HC5.out, by show B.length ≤ bc; omega, HC3.out⟩
            have HAp : Hid (∀ x, bo = some x → x.block < wA.heap.size ∧ (Value.slice a m c).ownBlock ≠ some x.block) := Lib.hid (fun x hx => by
              subst hx
              obtain ⟨gb, go, he, hlt, _⟩ := hrB.at (by rw [nb_len]; omega)
              cases he
              have h1 := HPA.out.kept.size
              refine ⟨by show gb < wA.heap.size; omega, fun e => ?_⟩
              have h2 := HPA.out.fresh gb e
              omega)
            have HB := Lib.hid hBl
            have HA0 := Lib.hid hA0; have HA1 := Lib.hid (show wA.cell? ⟨q, 1, none⟩ = some (.slice bo B.length bc) from hBl ▸ hA1)
            clear hrB hkA hA0 hA1 hB hBl
            go_wp2_with (at_builtin; rw [← hq, ← hwA]; refine wpList_pc1 rfl (.tmp 56) (.tmp 60) rfl HPA.out rfl q 1 _ rfl HA0.out HA1.out HRd.out HAp.out (by omega) ?_)
            intro a2 c2 w2 h2
            have H2 := Lib.hid h2
            clear h2
            go_wp2
            go_roundw
            case rel => exact ⟨i + 1, at0 + z % 1024 + 1 + (mn : Int), m + 1, a2, c2, _, rfl, rfl, by go_num, by omega, by omega, (by have h := tm_inv l (i + 1); have h2 := H2.out.len; have h3 := HG.out; have h4 := HM.out; have h5 := (tm_inv l i).2.2.1; rw [← h3, List.length_map] at h5; omega), Lib.hid H2.out.len, Lib.hid (by rw [HG2.out, List.map_append, ← HG.out]; rfl), H2⟩
            case measure => simp [intOf]; omega
          | false =>
            have hav : 0 ≤ at0 ∧ at0 ≤ 16000 := by omega
            obtain ⟨B, hB⟩ : ∃ B, B = (l.getD i (0, [])).2.take 60 := ⟨_, rfl⟩
            have hBl : mn = B.length := by
              have h1 := HKk.out
              have h2 := HMn.out
              rw [hB, List.length_take, ← h1]; omega
            have HG2 : Hid (tmG l (i + 1) = ((tmG l i).1 ++ [(at0, B)], at0 + (mn : Int))) := Lib.hid (by
              rw [hBl]
              exact tm_take l i z (at0) B (by rw [← HKk.out]; exact hk0) HZz.out hB (by rw [← HAt.out]; have := HCb.out; rw [if_neg (of_decide_eq_false this.symm)]))
            obtain ⟨q, hq⟩ : ∃ q, q = wx.heap.size := ⟨_, rfl⟩
            obtain ⟨wA, hwA⟩ : ∃ wA, wA = wx.alloc (.cells #[.int .i64 (at0), .slice bo mn bc] 30) := ⟨_, rfl⟩
            have hkA : Kept NoB wx wA := by rw [hwA]; exact (Kept.refl NoB wx).alloc _
            have hA0 : wA.cell? ⟨q, 0, none⟩ = some (.int .i64 (at0)) := by rw [hwA]; exact cell_new 0 hq
            have hA1 : wA.cell? ⟨q, 1, none⟩ = some (.slice bo mn bc) := by rw [hwA]; exact cell_new 1 hq
            have HPA := Lib.hid (HP2.out.on hkA)
            have hrB : Reads w bo (nb B) := by
              have h4 := HC4.out
              rw [hB]
              cases bo with
              | none =>
                have := h4.1 rfl
                have e : (l.getD i (0, [])).2 = [] := by
                  have h := congrArg List.length this
                  rw [nb_len] at h
                  exact List.eq_nil_of_length_eq_zero h
                rw [e]
                rw [e] at h4
                exact h4
              | some x =>
                have h5 := reads_take 60 h4
                have e : (nb (l.getD i (0, [])).2).take 60 = nb ((l.getD i (0, [])).2.take 60) := by simp [nb, List.map_take]
                rw [e] at h5
                exact h5
            have HRd : Hid (PcRd wA ((at0, B), (bo, bc))) := Lib.hid ⟨hrB.keptNo HPA.out.kept, HC5.out, by show B.length ≤ bc; omega, HC3.out⟩
            have HAp : Hid (∀ x, bo = some x → x.block < wA.heap.size ∧ (Value.slice a m c).ownBlock ≠ some x.block) := Lib.hid (fun x hx => by
              subst hx
              obtain ⟨gb, go, he, hlt, _⟩ := hrB.at (by rw [nb_len]; omega)
              cases he
              have h1 := HPA.out.kept.size
              refine ⟨by show gb < wA.heap.size; omega, fun e => ?_⟩
              have h2 := HPA.out.fresh gb e
              omega)
            have HB := Lib.hid hBl
            have HA0 := Lib.hid hA0; have HA1 := Lib.hid (show wA.cell? ⟨q, 1, none⟩ = some (.slice bo B.length bc) from hBl ▸ hA1)
            clear hrB hkA hA0 hA1 hB hBl
            go_wp2_with (at_builtin; rw [← hq, ← hwA]; refine wpList_pc1 rfl (.tmp 56) (.tmp 60) rfl HPA.out rfl q 1 _ rfl HA0.out HA1.out HRd.out HAp.out (by omega) ?_)
            intro a2 c2 w2 h2
            have H2 := Lib.hid h2
            clear h2
            go_wp2
            go_roundw
            case rel => exact ⟨i + 1, at0 + (mn : Int), m + 1, a2, c2, _, rfl, rfl, by go_num, by omega, by omega, (by have h := tm_inv l (i + 1); have h2 := H2.out.len; have h3 := HG.out; have h4 := HM.out; have h5 := (tm_inv l i).2.2.1; rw [← h3, List.length_map] at h5; omega), Lib.hid H2.out.len, Lib.hid (by rw [HG2.out, List.map_append, ← HG.out]; rfl), H2⟩
            case measure => simp [intOf]; omega
      · have HF := Lib.hid (tm_stop l size i (by unfold tmN; have := HN.out; omega))
        have hs1 := mask1023 size
        have hs2 := mask1 (size / 1024)
        have hpr : 0 ≤ (size % 1024) * (size / 1024 % 2) ∧ (size % 1024) * (size / 1024 % 2) ≤ 1023 := by
          rcases (by omega : size / 1024 % 2 = 0 ∨ size / 1024 % 2 = 1) with e | e <;> rw [e] <;> omega
        have hat := tm_bd l i (by omega)
        have hat0 : at0 = (tmG l i).2 := by rw [← HG.out]
        rw [← hat0] at hat
        have HAt := Lib.hid hat0
        clear hat0
        go_wp2
        go_ret2
        refine ⟨qs, a, c, ?_, by rw [HF.out.1, ← HG.out], by rw [← HM.out]; exact HP.out⟩
        rw [HF.out.2, ← HAt.out, ← HM.out]; rfl
    · have HF := Lib.hid (tm_stop l size i (by unfold tmN; have := HN.out; omega))
      have hs1 := mask1023 size
      have hs2 := mask1 (size / 1024)
      have hpr : 0 ≤ (size % 1024) * (size / 1024 % 2) ∧ (size % 1024) * (size / 1024 % 2) ≤ 1023 := by
        rcases (by omega : size / 1024 % 2 = 0 ∨ size / 1024 % 2 = 1) with e | e <;> rw [e] <;> omega
      have hat := tm_bd l i (by omega)
      have hat0 : at0 = (tmG l i).2 := by rw [← HG.out]
      rw [← hat0] at hat
      have HAt := Lib.hid hat0
      clear hat0
      go_wp2
      go_ret2
      refine ⟨qs, a, c, ?_, by rw [HF.out.1, ← HG.out], by rw [← HM.out]; exact HP.out⟩
      rw [HF.out.2, ← HAt.out, ← HM.out]; rfl

theorem pc_snoc (rs : List Pc) (i : Nat) (h : i < rs.length) : rs.take (i + 1) = rs.take i ++ [rs.getD i (0, [])] := by
  rw [List.take_succ_eq_append_getElem h]; simp [List.getD, h]
set_option maxRecDepth 20000 in
set_option maxHeartbeats 4000000 in
theorem samePc_any (ao : Option Addr) (n cap : Nat) (ra : List Pc) (bo : Option Addr) (m cbp : Nat) (rb : List Pc) (w : World) (hn : n = ra.length) (hm : m = rb.length) (hr : RdP w w.heap.size ao ra) (hs : RdP w w.heap.size bo rb) (hc : n ≤ 1000000) (hcm : m ≤ 1000000) :
    Calls Tryd.prog 26 #[.slice ao n cap, .slice bo m cbp] w fun e w' => e = .returned (.bool (decide (ra = rb))) ∧ Kept NoB w w' := by
  have HR := Lib.hid hr; have HN := Lib.hid hn; have HS := Lib.hid hs; have HM := Lib.hid hm
  obtain ⟨R, hR⟩ : ∃ R, R = decide (ra = rb) := ⟨_, rfl⟩
  rw [← hR]
  have HRR := Lib.hid hR
  clear hr hn hs hm hR
  by_cases hnm : n = m
  · subst hnm
    have HTk := Lib.hid (fun i (hi : i < n) => (⟨pc_snoc ra i (by have := HN.out; omega), pc_snoc rb i (by have := HM.out; omega)⟩ : _ ∧ _))
    have hself : ((n : Int) == (n : Int)) = true := by simp
    go_enter Tryd.func26, Tryd.ntmps26
    go_wp2
    go_loopw [5] (fun v5 wr => ∃ i : Nat, v5 = .int .i64 (i : Int) ∧ i ≤ n ∧ Hid (ra.take i = rb.take i) ∧ Hid (Kept NoB w wr)) (fun v5 _ => n - (intOf v5).toNat)
    case atStart => exact ⟨0, rfl, by omega, Lib.hid (by simp), Kept.refl _ _⟩
    case round =>
      obtain ⟨i, rfl, hi, HE, HK⟩ := hrel
      by_cases hlt : (i : Int) < (n : Int)
      · have hin : i < n := by omega
        obtain ⟨b, off, ba, bca, rfl, hb, c0, c1, c4, c5, c6⟩ := HR.out i (by have := HN.out; omega)
        obtain ⟨b2, off2, bb, bcb, rfl, hb2, c2, c3, c7, c8, c9⟩ := HS.out i (by have := HM.out; omega)
        have d0 := HK.out.cell c0
        have d1 := HK.out.cell c1
        have d2 := HK.out.cell c2
        have d3 := HK.out.cell c3
        have v1 := fun k => conv_reads (cap := bca) (n := (ra.getD i (0, [])).2.length) (c4.keptNo (HK.out.drewN k)) (by rw [nb_len]) c5
        have v2 := fun k => conv_reads (cap := bcb) (n := (rb.getD i (0, [])).2.length) (c7.keptNo (HK.out.drewN k)) (by rw [nb_len]) c8
        rw [nb_str] at v1 v2
        obtain ⟨e1, e2⟩ := HTk.out i hin
        obtain ⟨r, hr⟩ : ∃ r, r = ra.getD i (0, []) := ⟨_, rfl⟩
        obtain ⟨q, hq⟩ : ∃ q, q = rb.getD i (0, []) := ⟨_, rfl⟩
        rw [← hr] at d0 d1 e1 v1
        rw [← hq] at d2 d3 e2 v2
        rw [show off + (i * 2 + 1) = off + i * 2 + 1 by omega] at d1
        rw [show off2 + (i * 2 + 1) = off2 + i * 2 + 1 by omega] at d3
        have HQ : Hid (ra.getD i (0, []) = r ∧ rb.getD i (0, []) = q) := Lib.hid ⟨hr.symm, hq.symm⟩
        have E1 := Lib.hid e1; have E2 := Lib.hid e2
        clear c0 c1 c2 c3 c4 c5 c6 c7 c8 c9 hr hq e1 e2
        obtain ⟨z1, hz1⟩ : ∃ z1, z1 = r.1 := ⟨_, rfl⟩
        obtain ⟨z2, hz2⟩ : ∃ z2, z2 = q.1 := ⟨_, rfl⟩
        obtain ⟨S1, hS1⟩ : ∃ S1, S1 = strB r.2 := ⟨_, rfl⟩
        obtain ⟨S2, hS2⟩ : ∃ S2, S2 = strB q.2 := ⟨_, rfl⟩
        obtain ⟨l1, hl1⟩ : ∃ l1, l1 = r.2.length := ⟨_, rfl⟩
        obtain ⟨l2, hl2⟩ : ∃ l2, l2 = q.2.length := ⟨_, rfl⟩
        rw [← hz1] at d0
        rw [← hz2] at d2
        rw [← hl1] at d1 v1
        rw [← hl2] at d3 v2
        rw [← hS1] at v1
        rw [← hS2] at v2
        have hSL : S1.toList = r.2 ∧ S2.toList = q.2 := ⟨by rw [hS1]; exact strB_list _, by rw [hS2]; exact strB_list _⟩
        have HSL := Lib.hid hSL; have HZ := Lib.hid (⟨hz1, hz2⟩ : _ ∧ _)
        clear hSL hz1 hz2 hS1 hS2 hl1 hl2
        by_cases hzz : z1 = z2
        · have hd : (z1 != z2) = false := by simp [hzz]
          by_cases hss : S1.toList = S2.toList
          · have hd2 : (!S1.toList == S2.toList) = false := by simp [hss]
            have HX : Hid (ra.take (i + 1) = rb.take (i + 1)) := Lib.hid (by
              have : r = q := Prod.ext (by rw [← HZ.out.1, ← HZ.out.2, hzz]) (by rw [← HSL.out.1, ← HSL.out.2, hss])
              rw [E1.out, E2.out, HE.out, this])
            clear hss
            subst hzz
            go_wp2
            go_quiet (fail)
            go_wp2
            go_roundw
            case rel => exact ⟨i + 1, by go_num, by omega, HX, HK.out.drewN _⟩
            case measure => simp [intOf]; omega
          · have hd2 : (!S1.toList == S2.toList) = true := by simp [hss]
            have HX : Hid (R = false) := Lib.hid (by
              rw [HRR.out]
              apply decide_eq_false
              intro e
              apply hss
              rw [HSL.out.1, HSL.out.2, ← HQ.out.1, ← HQ.out.2, e])
            clear hss
            subst hzz
            go_wp2
            go_quiet (fail)
            go_wp2
            go_ret
            exact ⟨by rw [HX.out]; rfl, HK.out.drewN _⟩
        · have hd : (z1 != z2) = true := by simp [hzz]
          have HX : Hid (R = false) := Lib.hid (by
            rw [HRR.out]
            apply decide_eq_false
            intro e
            apply hzz
            rw [HZ.out.1, HZ.out.2, ← HQ.out.1, ← HQ.out.2, e])
          clear hzz
          go_wp2
          go_quiet (fail)
          go_wp2
          go_ret
          exact ⟨by rw [HX.out]; rfl, HK.out.drewN _⟩
      · have hie : i = n := by omega
        have HX : Hid (R = true) := Lib.hid (by
          have h := HE.out
          rw [hie] at h
          conv at h => lhs; rw [HN.out]
          conv at h => rhs; rw [HM.out]
          rw [List.take_length, List.take_length] at h
          rw [HRR.out]; exact decide_eq_true h)
        clear hie
        go_wp2
        go_ret
        exact ⟨by rw [HX.out]; rfl, HK.out⟩
  · have hne : ((n : Int) == (m : Int)) = false := by simp; omega
    have HX : Hid (R = false) := Lib.hid (by
      rw [HRR.out]
      apply decide_eq_false
      intro e
      apply hnm
      rw [HN.out, HM.out, e])
    have hd : ((n : Int) != (m : Int)) = true := by simp; omega
    clear hnm
    go_enter Tryd.func26, Tryd.ntmps26
    go_wp2
    go_ret
    exact ⟨by rw [HX.out]; rfl, Kept.refl _ _⟩
end Go.Proofs.YtbambcondcikbaaDoor
