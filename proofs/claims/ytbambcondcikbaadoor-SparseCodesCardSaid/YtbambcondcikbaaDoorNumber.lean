/-
  bytes.Cut at one byte; sparse.number.
-/
import Derived.Test.YtbambcondcikbaaDoorSpEnc
import Derived.BigQuiet
namespace Go.Proofs.YtbambcondcikbaaDoor
open Go.RowKit
set_option linter.unusedVariables false
set_option linter.unusedSimpArgs false

theorem bytesOf_nb (L : List UInt8) : Lib.bytesOf (nb L) = L := by
  unfold Lib.bytesOf nb
  rw [List.map_map]
  conv => rhs; rw [← List.map_id L]
  apply List.map_congr_left
  intro x _
  simp
/-- What Cut gives: the part ahead, and whether there is such a place. -/
def CutbR (w : World) (a : Addr) (cap k : Nat) (ok : Bool) (e : Ending) (w' : World) : Prop :=
  ∃ v1 v2, e = .returned (.tuple #[v1, v2, .bool ok]) ∧ Kept NoB w w' ∧ (ok = true → v1 = .slice (some a) k cap)
set_option maxRecDepth 20000 in
set_option maxHeartbeats 2000000 in
theorem cutb_any (g o n cap s d : Nat) (L : List UInt8) (w : World) (hn : n = L.length) (hr : Reads w (some ⟨g, o, none⟩) (nb L)) (h10 : w.cell? ⟨s, 0, none⟩ = some (.int .u8 10)) (hc : n ≤ cap) (hm : cap ≤ maxLen) :
    Calls Tryd.prog 55 #[.slice (some ⟨g, o, none⟩) n cap, .slice (some ⟨s, 0, none⟩) 1 d] w (CutbR w ⟨g, o, none⟩ cap (cutP 10 L).1.length (cutP 10 L).2.2) := by
  have hcells : ∀ i, i < n → w.cell? ⟨g, o + i, none⟩ = some (.int .u8 ((nb L).getD i 0)) := fun i hi => by
    have := hr.2 _ rfl i (by rw [nb_len, ← hn]; exact hi)
    rwa [addr_add] at this
  have HI := Tryd.bytes_Index_one g o n cap s 0 d (nb L) 10 w (by rw [nb_len, hn]) hcells h10
  rw [bytesOf_nb] at HI
  have e10 : (10 : Int).toNat.toUInt8 = 10 := by decide
  rw [e10] at HI
  unfold maxLen at hm
  rcases cutP_index 10 L with ⟨h1, h2⟩ | ⟨k, h1, h2, h3⟩
  · rw [h1] at HI
    have HI := Lib.hid HI
    have e3 : (cutP 10 L).2.2 = false := by rw [h2]
    rw [e3]
    generalize (cutP 10 L).1.length = K
    clear h1 h2 hcells e10 hr h10 hn e3
    go_enter Tryd.func55, Tryd.ntmps55
    go_wp2_with fail
    with_reducible refine HI.out.mono ?_
    rintro e w1 ⟨rfl, rfl⟩
    go_wp2
    go_ret3
    exact ⟨_, _, rfl, Kept.refl _ _, fun h => by cases h⟩
  · rw [h1] at HI
    have HI := Lib.hid HI
    have e3 : (cutP 10 L).2.2 = true := by rw [h3]
    have e4 : (cutP 10 L).1.length = k := by rw [h3, List.length_take]; omega
    rw [e3, e4]
    obtain ⟨k1, hk1⟩ : ∃ k1, k1 = k + 1 := ⟨_, rfl⟩
    have hk0 : k ≤ n := by omega
    have hk2 : k1 ≤ n := by omega
    have c5 : (k : Int) + 1 = (k1 : Int) := by omega
    clear h1 h2 h3 e3 e4 hcells e10 hr h10 hk1 hn
    go_enter Tryd.func55, Tryd.ntmps55
    go_wp2_with fail
    with_reducible refine HI.out.mono ?_
    rintro e w1 ⟨rfl, rfl⟩
    go_wp2_with fail
    go_quiet (fail)
    all_goals (try go_wp2)
    all_goals (go_ret3; exact ⟨_, _, rfl, (Kept.refl _ _).drewN _, fun _ => rfl⟩)

/-- What number gives: a line's number and the next line's place, or not. -/
def NumbR (w : World) (L : List UInt8) (at_ : Nat) (e : Ending) (w' : World) : Prop :=
  Kept NoB w w' ∧ ((lineS (L.drop at_) = none ∧ ∃ p q : Int, e = .returned (.tuple #[.int .i64 p, .int .i64 q, .bool false])) ∨
    ∃ (x : Int) (nx : Nat), lineS (L.drop at_) = some (x, L.drop nx) ∧ nx ≤ L.length ∧ e = .returned (.tuple #[.int .i64 x, .int .i64 (nx : Int), .bool true]))
set_option maxRecDepth 20000 in
set_option maxHeartbeats 4000000 in
theorem numb_any (g o n cap at_ : Nat) (L : List UInt8) (w : World) (hn : n = L.length) (hr : Reads w (some ⟨g, o, none⟩) (nb L)) (hc : n ≤ cap) (hm : cap ≤ maxLen) (hn2 : n ≤ 1000000000) (hat : at_ ≤ n) (htab : Pow10 w) (herr : ErrVars w) :
    Calls Tryd.prog 47 #[.slice (some ⟨g, o, none⟩) n cap, .int .i64 (at_ : Int)] w (NumbR w L at_) := by
  obtain ⟨m, hm0⟩ : ∃ m, m = min n (at_ + 14) := ⟨_, rfl⟩
  have hm1 : at_ ≤ m ∧ m ≤ n := by omega
  have hmi : min (n : Int) ((at_ : Int) + 13 + 1) = (m : Int) := by omega
  obtain ⟨B, hB⟩ : ∃ B, B = (L.drop at_).take 14 := ⟨_, rfl⟩
  have hBl : m - at_ = B.length := by rw [hB, List.length_take, List.length_drop]; omega
  obtain ⟨o1, c1, hoc⟩ : ∃ o1 c1, (at_ = cap ∧ o1 = o ∧ c1 = 0) ∨ (¬ cap = at_ ∧ o1 = o + at_ ∧ c1 = cap - at_) := by
    by_cases h : cap = at_
    · exact ⟨o, 0, .inl ⟨h.symm, rfl, rfl⟩⟩
    · exact ⟨_, _, .inr ⟨h, rfl, rfl⟩⟩
  have hBr : Reads w (some ⟨g, o1, none⟩) (nb B) := by
    rcases hoc with ⟨h1, h2, h3⟩ | ⟨h1, h2, h3⟩
    · have e : B = [] := List.eq_nil_of_length_eq_zero (by omega)
      rw [e]; exact reads_empty
    · have := reads_take 14 (reads_drop at_ hr)
      rw [addr_add] at this
      have e : nb B = ((nb L).drop at_).take 14 := by rw [hB]; simp [nb]
      rw [e, h2]; exact this
  have hc1 : m - at_ ≤ c1 ∧ c1 ≤ maxLen := by
    rcases hoc with ⟨h1, h2, h3⟩ | ⟨h1, h2, h3⟩ <;> exact ⟨by omega, Nat.le_trans (by omega : c1 ≤ cap) hm⟩
  have HC : Hid (∀ (s d : Nat) (W : World), Kept NoB w W → W.cell? ⟨s, 0, none⟩ = some (.int .u8 10) → Calls Tryd.prog 55 #[.slice (some ⟨g, o1, none⟩) (m - at_) c1, .slice (some ⟨s, 0, none⟩) 1 d] W (CutbR W ⟨g, o1, none⟩ c1 (cutP 10 B).1.length (cutP 10 B).2.2)) :=
    Lib.hid (fun s d W hk h10 => cutb_any g (o1) (m - at_) c1 s d B W hBl (hBr.keptNo hk) h10 hc1.1 hc1.2)
  have HBr := Lib.hid hBr
  have hkl := hBl
  clear hBr hr
  obtain ⟨A, hA⟩ : ∃ A, A = (cutP 10 B).1 := ⟨_, rfl⟩
  obtain ⟨ok, hok⟩ : ∃ ok, ok = (cutP 10 B).2.2 := ⟨_, rfl⟩
  rw [← hA, ← hok] at HC
  have HB := Lib.hid hB; have HA := Lib.hid hA; have HOk := Lib.hid hok; have HT := Lib.hid htab; have HE := Lib.hid herr
  have hB14 : B.length ≤ 14 := by rw [hB, List.length_take]; omega
  have HBl := Lib.hid hBl; have HB14 := Lib.hid hB14; have HN := Lib.hid hn
  obtain ⟨k, hk⟩ : ∃ k, k = A.length := ⟨_, rfl⟩
  rw [← hk] at HC
  have HK := Lib.hid hk
  clear hB hA hok htab herr hBl hB14 hkl hn hk hm0
  obtain ⟨hm1, hm2⟩ := hm1
  have HC1 := Lib.hid hc1
  clear hc1
  unfold maxLen at hm
  rcases hoc with ⟨rfl, rfl, rfl⟩ | ⟨hz, rfl, rfl⟩
  all_goals (
    go_enter Tryd.func47, Tryd.ntmps47
    go_wp2_with fail
    with_reducible refine (HC.out w.heap.size 1 _ ((Kept.refl NoB w).alloc (.cells #[.int .u8 10] 5)) (cell_new 0 rfl)).mono ?_
    rintro e w1 ⟨v1, v2, rfl, hk1, hv1⟩
    have HK1 := Lib.hid (((Kept.refl NoB w).alloc (.cells #[.int .u8 10] 5)).trans hk1)
    clear hk1
    cases ok with
    | false =>
      have HL : Hid (lineS (L.drop at_) = none) := Lib.hid (by unfold lineS; rw [← HB.out, ← HOk.out]; rfl)
      clear hv1
      go_wp2
      go_ret3
      exact ⟨HK1.out, .inl ⟨HL.out, _, _, rfl⟩⟩
    | true =>
      have hv := hv1 rfl
      subst hv
      have hAc : A.length ≤ B.length ∧ A = B.take k ∧ k < B.length := by
        rcases cutP_index 10 B with ⟨h1, h2⟩ | ⟨j, h1, h2, h3⟩
        · have := HOk.out; rw [h2] at this; cases this
        · have e : A = B.take j := by rw [HA.out, h3]
          have e2 : k = j := by rw [HK.out, e, List.length_take]; omega
          subst e2
          exact ⟨by rw [e, List.length_take]; omega, e, h2⟩
      have hcv : ∀ (cc : Nat) W, Kept NoB w W → (convert 26 9 (.slice (some ⟨g, _, none⟩) k cc)).run Tryd.prog W = .ok (.string (strB A)) W := fun cc W hW => by
        have hr := reads_take k (HBr.out.keptNo hW)
        have e : (nb B).take k = nb A := by rw [hAc.2.1]; simp [nb]
        rw [e] at hr
        rw [← nb_str]
        exact conv_reads hr (by rw [nb_len]; exact HK.out) (fun h => by cases h)
      have hcv1 := fun cc => hcv cc _ HK1.out
      have hNu : ∀ W, Kept NoB w W → Calls Tryd.prog 11 #[.string (strB A)] W fun e w' => e = .returned (.tuple #[.int .i64 (numL A).1, .bool (numL A).2]) ∧ Kept NoB W w' := fun W hW => number_any (strB A) W (by rw [strB_size]; have := HB14.out; omega) (HT.out.keptNo hW) (HE.out.keptNo hW)
      have HNu := Lib.hid hNu
      have hk14 : k < m - at_ := by rw [HBl.out]; exact hAc.2.2
      have HL1 : Hid (lineS (L.drop at_) = if (numL A).2 = false then none else some ((numL A).1, L.drop (at_ + (k + 1)))) := Lib.hid (by
        unfold lineS
        rw [← HB.out, ← HOk.out, if_neg (by decide), ← HA.out, ← HK.out, List.drop_drop])
      obtain ⟨nx, hnx⟩ : ∃ nx, nx = at_ + (k + 1) := ⟨_, rfl⟩
      rw [← hnx] at HL1
      have hnxi : (at_ : Int) + (k : Int) + 1 = (nx : Int) := by omega
      have hnxl : nx ≤ n := by omega
      have hkb : (k : Int) ≤ 14 := by have := HB14.out; have := hAc.2.2; omega
      obtain ⟨x, hx⟩ : ∃ x, x = (numL A).1 := ⟨_, rfl⟩
      obtain ⟨y, hy⟩ : ∃ y, y = (numL A).2 := ⟨_, rfl⟩
      rw [← hx, ← hy] at HNu
      rw [← hx, ← hy] at HL1
      clear hcv hv1 hNu hAc hnx hx hy
      go_wp2_with fail
      with_reducible refine (HNu.out _ HK1.out).mono ?_
      rintro e w2 ⟨rfl, hk2⟩
      have HK2 := Lib.hid (HK1.out.trans hk2)
      clear hk2 hcv1
      cases y with
      | false =>
        have HL2 : Hid (lineS (L.drop at_) = none) := Lib.hid (by rw [HL1.out]; rfl)
        go_wp2
        go_ret3
        exact ⟨HK2.out, .inl ⟨HL2.out, _, _, rfl⟩⟩
      | true =>
        have HL2 : Hid (lineS (L.drop at_) = some (x, L.drop nx)) := Lib.hid (by rw [HL1.out]; rfl)
        go_wp2
        go_ret3
        exact ⟨HK2.out, .inr ⟨x, nx, HL2.out, by rw [← HN.out]; exact hnxl, rfl⟩⟩)
end Go.Proofs.YtbambcondcikbaaDoor
