/-
  The document's nought and NameOk.
-/
import Derived.Test.YtamoojalfpghhaaDoorPartsA
namespace Go.Proofs.YtamoojalfpghhaaDoor
open Go.RowKit Go.Shelf
set_option linter.unusedVariables false
set_option linter.unusedSimpArgs false

theorem strB_of (s : ByteArray) : strB s.data.toList = s := by cases s; rfl
theorem strB_size (l : List UInt8) : (strB l).size = l.length := by simp [strB, ByteArray.size]
theorem strB_list (l : List UInt8) : (strB l).toList = l := by rw [Lib.toList_data]; rfl
theorem strB_data (l : List UInt8) : (strB l).data.toList = l := rfl
theorem toNat_eq (x : UInt8) (n : Nat) (h : n < 256) : ((x.toNat : Int) == (n : Int)) = (x == UInt8.ofNat n) := by
  rw [Bool.eq_iff_iff]
  simp only [beq_iff_eq]
  constructor
  · intro e
    have : x.toNat = n := by omega
    apply UInt8.toNat.inj
    rw [this]; simp; omega
  · rintro rfl
    simp; omega

/-- A text has a nought. -/
def noughtL (l : List UInt8) : Bool := l.any (· == 0)
theorem drop_step (s : ByteArray) (k : Nat) (h : k < s.size) : s.data.toList.drop k = (s[k]'h) :: s.data.toList.drop (k + 1) := by
  have h2 : k < s.data.toList.length := by rw [Array.length_toList]; exact h
  rw [List.drop_eq_getElem_cons h2]
  rfl

set_option maxRecDepth 20000 in
set_option maxHeartbeats 2000000 in
theorem nought_any (s : ByteArray) (w : World) (hs : s.size ≤ 1000000) :
    Calls Tryd.prog 16 #[.string s] w fun e w' => e = .returned (.bool (noughtL s.data.toList)) ∧ w' = w := by
  obtain ⟨R, hR⟩ : ∃ R, R = noughtL s.data.toList := ⟨_, rfl⟩
  rw [← hR]
  have HR := Lib.hid hR
  clear hR
  go_enter Tryd.func16, Tryd.ntmps16
  go_wp2
  go_loopw [3] (fun v3 wr => ∃ k : Nat, v3 = .int .i64 (k : Int) ∧ k ≤ s.size ∧ Hid (noughtL (s.data.toList.drop k) = R) ∧ wr = w) (fun v3 _ => s.size - (intOf v3).toNat)
  case atStart => exact ⟨0, rfl, by omega, HR.out.symm, rfl⟩
  case round =>
    obtain ⟨k, rfl, hk, HX, rfl⟩ := hrel
    by_cases hlt : (k : Int) < (s.size : Int)
    · have hk2 : k < s.size := by omega
      have hX := HX.out
      rw [drop_step s k hk2] at hX
      have hz := toNat_eq (s[k]'hk2) 0 (by decide)
      by_cases hb : (s[k]'hk2) = 0
      · have hb1 : (((s[k]'hk2).toNat : Int) == 0) = true := by rw [show (0 : Int) = ((0 : Nat) : Int) from rfl, hz, hb]; rfl
        have HT : Hid (R = true) := by rw [← hX, noughtL, List.any_cons, hb]; rfl
        clear hX hz hb HX
        go_wp2
        go_ret
        exact ⟨by rw [HT.out]; rfl, rfl⟩
      · have hb1 : (((s[k]'hk2).toNat : Int) == 0) = false := by rw [show (0 : Int) = ((0 : Nat) : Int) from rfl, hz]; simpa using hb
        have HX2 : Hid (noughtL (s.data.toList.drop (k + 1)) = R) := by
          rw [← hX, noughtL, noughtL, List.any_cons]
          have : (s[k]'hk2 == 0) = false := by simpa using hb
          rw [this]; rfl
        clear hX hz hb HX
        go_wp2
        go_roundw
        case rel => exact ⟨k + 1, by go_num, by omega, HX2, trivial⟩
        case measure => simp [intOf]; omega
    · have hd : s.data.toList.drop k = [] := List.drop_of_length_le (by rw [Array.length_toList]; show s.size ≤ k; omega)
      have HF : Hid (R = false) := by rw [← HX.out, hd]; rfl
      clear hd HX
      go_wp2
      go_ret
      exact ⟨by rw [HF.out]; rfl, rfl⟩

/-- A byte that may be in no name. -/
def badB (b : UInt8) : Bool := b == 0 || b == 47
theorem badB_in (b : UInt8) : ([47, 0] : List UInt8).contains b = badB b := by
  simp [badB, List.contains_cons, Bool.or_comm]
  rfl
theorem indexAny_bad : ∀ l : List UInt8, decide (0 ≤ Lib.indexAny l [47, 0]) = l.any badB
  | [] => rfl
  | b :: l => by
    have ih := indexAny_bad l
    have hge := Lib.indexAny_ge [47, 0] l
    rw [Lib.indexAny, badB_in, List.any_cons]
    cases hb : badB b with
    | true => rfl
    | false =>
      rw [Bool.false_or, ← ih]
      rw [if_neg Bool.false_ne_true]
      by_cases h : Lib.indexAny l [47, 0] = -1
      · rw [h]; rfl
      · have : (Lib.indexAny l [47, 0] == -1) = false := by simpa using h
        rw [this]
        simp only [Bool.false_eq_true, if_false]
        rw [decide_eq_decide]
        omega

set_option maxRecDepth 20000 in
set_option maxHeartbeats 2000000 in
theorem rnameOk_any (s : ByteArray) (w : World) (hs : s.size ≤ 1000000) :
    Calls Tryd.prog 12 #[.string s] w fun e w' => e = .returned (.bool (okN s)) ∧ w' = w := by
  have HO : Hid (okN s = (!s.toList.isEmpty && decide (s.size ≤ 255) && !(s.toList == [46]) && !(s.toList == [46, 46]) && !s.data.toList.any badB)) := Lib.hid (by rw [← indexAny_bad]; rfl)
  go_enter Tryd.func12, Tryd.ntmps12
  by_cases h1 : s.toList = []
  · have HF : Hid (okN s = false) := Lib.hid (by rw [HO.out, h1]; rfl)
    go_wp2
    go_ret
    exact ⟨by rw [HF.out]; rfl, rfl⟩
  · by_cases h2 : (255 : Int) < (s.size : Int)
    · have HF : Hid (okN s = false) := Lib.hid (by
        have : decide (s.size ≤ 255) = false := decide_eq_false (by omega)
        rw [HO.out, this]; simp)
      go_wp2
      go_ret
      exact ⟨by rw [HF.out]; rfl, rfl⟩
    · by_cases h3 : s.toList = [46]
      · have HF : Hid (okN s = false) := Lib.hid (by rw [HO.out, h3]; simp)
        go_wp2
        go_ret
        exact ⟨by rw [HF.out]; rfl, rfl⟩
      · by_cases h4 : s.toList = [46, 46]
        · have HF : Hid (okN s = false) := Lib.hid (by rw [HO.out, h4]; simp)
          go_wp2
          go_ret
          exact ⟨by rw [HF.out]; rfl, rfl⟩
        · have e1 : s.toList.isEmpty = false := by simpa using h1
          have e3 : (s.toList == [46]) = false := by simpa using h3
          have e4 : (s.toList == [46, 46]) = false := by simpa using h4
          obtain ⟨R, hR⟩ : ∃ R, R = s.data.toList.any badB := ⟨_, rfl⟩
          have HF : Hid (okN s = !R) := Lib.hid (by
            have e2 : decide (s.size ≤ 255) = true := decide_eq_true (by omega)
            rw [HO.out, e1, e2, e3, e4, hR]; rfl)
          have HR := Lib.hid hR
          clear hR HO
          go_wp2
          go_loopw [3] (fun v3 wr => ∃ k : Nat, v3 = .int .i64 (k : Int) ∧ k ≤ s.size ∧ Hid ((s.data.toList.drop k).any badB = R) ∧ wr = w) (fun v3 _ => s.size - (intOf v3).toNat)
          case atStart => exact ⟨0, rfl, by omega, HR.out.symm, rfl⟩
          case round =>
            obtain ⟨k, rfl, hk, HX, rfl⟩ := hrel
            by_cases hlt : (k : Int) < (s.size : Int)
            · have hk2 : k < s.size := by omega
              have hX := HX.out
              rw [drop_step s k hk2, List.any_cons] at hX
              have hz := toNat_eq (s[k]'hk2) 0 (by decide)
              have hy := toNat_eq (s[k]'hk2) 47 (by decide)
              by_cases hb : (s[k]'hk2) = 0
              · have hb1 : (((s[k]'hk2).toNat : Int) == 0) = true := by rw [show (0 : Int) = ((0 : Nat) : Int) from rfl, hz, hb]; rfl
                have HT : Hid (R = true) := by rw [← hX, hb]; rfl
                clear hX hz hb HX hy
                go_wp2
                go_ret
                exact ⟨by rw [HF.out, HT.out]; rfl, rfl⟩
              · have hb1 : (((s[k]'hk2).toNat : Int) == 0) = false := by rw [show (0 : Int) = ((0 : Nat) : Int) from rfl, hz]; simpa using hb
                by_cases hc : (s[k]'hk2) = 47
                · have hc1 : (((s[k]'hk2).toNat : Int) == 47) = true := by rw [show (47 : Int) = ((47 : Nat) : Int) from rfl, hy, hc]; rfl
                  have HT : Hid (R = true) := by rw [← hX, hc]; rfl
                  clear hX hz hb HX hy hc
                  go_wp2
                  go_ret
                  exact ⟨by rw [HF.out, HT.out]; rfl, rfl⟩
                · have hc1 : (((s[k]'hk2).toNat : Int) == 47) = false := by rw [show (47 : Int) = ((47 : Nat) : Int) from rfl, hy]; simpa using hc
                  have HX2 : Hid ((s.data.toList.drop (k + 1)).any badB = R) := by
                    rw [← hX]
                    have t1 : (s[k]'hk2 == 0) = false := by simpa using hb
                    have t2 : (s[k]'hk2 == 47) = false := by simpa using hc
                    rw [badB, t1, t2]; rfl
                  clear hX hz hb HX hy hc
                  go_wp2
                  go_roundw
                  case rel => exact ⟨k + 1, by go_num, by omega, HX2, trivial⟩
                  case measure => simp [intOf]; omega
            · have hd : s.data.toList.drop k = [] := List.drop_of_length_le (by rw [Array.length_toList]; show s.size ≤ k; omega)
              have HT : Hid (R = false) := by rw [← HX.out, hd]; rfl
              clear hd HX
              go_wp2
              go_ret
              exact ⟨by rw [HF.out, HT.out]; rfl, rfl⟩
