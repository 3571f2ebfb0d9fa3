/-
  How many bytes fit, on paper, a piece at a time.
-/
import Derived.Test.YtilndmmjdbhmgaaDatQ
namespace Go.Proofs.Ytilndmmjdbhmgaa
set_option linter.unusedVariables false
set_option linter.unusedSimpArgs false

/-- Is a byte written at x? -/
def isD (l : List Fp) (x : Int) : Bool := l.any (fun p => decide (p.1 ≤ x) && decide (x < endP p))
theorem isD_no (l : List Fp) (x : Int) (i : Nat) (h1 : ∀ j (hj : j < l.length), j < i → endP l[j] ≤ x) (h2 : ∀ j (hj : j < l.length), i ≤ j → x < l[j].1) : isD l x = false := by
  unfold isD
  rw [List.any_eq_false]
  intro p hp
  obtain ⟨j, hj, rfl⟩ := List.getElem_of_mem hp
  rcases Nat.lt_or_ge j i with h | h
  · have := h1 j hj h; simp; omega
  · have := h2 j hj h; simp; omega
theorem isD_yes (l : List Fp) (x : Int) (i : Nat) (hi : i < l.length) (h1 : l[i].1 ≤ x) (h2 : x < endP l[i]) : isD l x = true := by
  unfold isD
  rw [List.any_eq_true]
  exact ⟨l[i], List.getElem_mem hi, by simp [h1, h2]⟩
theorem isD_has (l : List Fp) (x : Int) : isD l x = true ↔ ∃ c, HasB l x c := by
  unfold isD HasB
  rw [List.any_eq_true]
  constructor
  · rintro ⟨p, hp, h⟩
    simp at h
    have hlt : (x - p.1).toNat < p.2.length := by unfold endP at h; omega
    exact ⟨p.2[(x - p.1).toNat], p, hp, h.1, List.getElem?_eq_getElem hlt⟩
  · rintro ⟨c, p, hp, h1, h2⟩
    exact ⟨p, hp, by simp [h1, HasB.lt h1 h2]⟩
/-- What is still to come. -/
structure FitS (l : List Fp) (size : Nat) (k : Int) (room d fr i : Nat) : Prop where
  done : d ≤ size
  fresh : fr ≤ room
  eq : fitB (isD l) size k room = (d + (fitB (isD l) (size - d) (k + d) (room - fr)).1, fr + (fitB (isD l) (size - d) (k + d) (room - fr)).2)
  ahead : d < size → ∀ j (hj : j < l.length), j < i → endP l[j] ≤ k + d
  behind : d < size → ∀ j (hj : j < l.length), i ≤ j → k + d < endP l[j]
theorem FitS.start (l : List Fp) (size : Nat) (k : Int) (room i : Nat) (h1 : ∀ j (hj : j < l.length), j < i → endP l[j] ≤ k) (h2 : ∀ j (hj : j < l.length), i ≤ j → k < endP l[j]) : FitS l size k room 0 0 i :=
  ⟨Nat.zero_le _, Nat.zero_le _, by simp, fun _ j hj hi => by have := h1 j hj hi; omega, fun _ j hj hi => by have := h2 j hj hi; omega⟩
theorem FitS.ends {l : List Fp} {size : Nat} {k : Int} {room d fr i : Nat} (h : FitS l size k room d fr i) (hd : d = size) : fitB (isD l) size k room = (size, fr) := by
  rw [h.eq, hd, Nat.sub_self]
  unfold fitB
  simp
/-- No piece begins ahead of from: the gap is free. -/
theorem FitS.gap {l : List Fp} (hl : OkD l) {size : Nat} {k : Int} {room d fr i g : Nat} (h : FitS l size k room d fr i) (hg : d + g ≤ size) (hb : ∀ j (hj : j < l.length), i ≤ j → k + d + g ≤ l[j].1) :
    (room - fr < g → fitB (isD l) size k room = (d + (room - fr), room)) ∧ (g ≤ room - fr → FitS l size k room (d + g) (fr + g) i) := by
  have hno : ∀ x : Nat, x < g → isD l (k + d + x) = false := fun x hx => isD_no l _ i (fun j hj hi => by have := h.ahead (by omega) j hj hi; omega) (fun j hj hi => by have := hb j hj hi; omega)
  have hf := h.fresh
  constructor
  · intro hr
    rw [h.eq, fitB_full (isD l) g (size - d) (k + d) (room - fr) (by omega) hr hno]
    exact Prod.ext rfl (by show fr + (room - fr) = room; omega)
  · intro hr
    refine ⟨hg, by omega, ?_, fun hd j hj hi => by have := h.ahead (by omega) j hj hi; omega, fun hd j hj hi => ?_⟩
    · rw [h.eq, fitB_gap (isD l) g (size - d) (k + d) (room - fr) (by omega) hr hno]
      have e1 : size - d - g = size - (d + g) := by omega
      have e2 : k + (d : Int) + (g : Int) = k + ((d + g : Nat) : Int) := by push_cast; omega
      have e3 : room - fr - g = room - (fr + g) := by omega
      rw [e1, e2, e3]
      refine Prod.ext ?_ ?_ <;> simp only <;> omega
    · have h1 := hb j hj hi
      have h2 := hl.each l[j] (List.getElem_mem hj)
      have h3 : 0 < l[j].2.length := List.length_pos_iff.2 h2.2.1
      unfold endP; omega
/-- Within piece i no byte is new. -/
theorem FitS.within {l : List Fp} (hl : OkD l) {size : Nat} {k : Int} {room d fr i g : Nat} (h : FitS l size k room d fr i) (hi : i < l.length) (hg : d + g ≤ size) (h1 : 0 < g → l[i].1 ≤ k + d) (h2 : k + d + g ≤ endP l[i]) (h3 : d + g < size → k + d + g = endP l[i]) :
    FitS l size k room (d + g) fr (if d + g < size then i + 1 else i) := by
  have hyes : ∀ x : Nat, x < g → isD l (k + d + x) = true := fun x hx => isD_yes l _ i hi (by have := h1 (by omega); omega) (by omega)
  refine ⟨hg, h.fresh, ?_, ?_, ?_⟩
  · rw [h.eq, fitB_in (isD l) g (size - d) (k + d) (room - fr) (by omega) hyes]
    have e1 : size - d - g = size - (d + g) := by omega
    have e2 : k + (d : Int) + (g : Int) = k + ((d + g : Nat) : Int) := by push_cast; omega
    rw [e1, e2]
    refine Prod.ext ?_ rfl
    simp only
    omega
  · intro hd j hj hlt
    rw [if_pos hd] at hlt
    rcases Nat.lt_or_ge j i with e | e
    · have := h.ahead (by omega) j hj e; omega
    · have e2 : j = i := by omega
      subst e2
      have := h3 hd; omega
  · intro hd j hj hle
    rw [if_pos hd] at hle
    have := List.pairwise_iff_getElem.1 hl.apart i j hi hj (by omega)
    have h4 := h3 hd
    have h5 := hl.each l[j] (List.getElem_mem hj)
    have h6 : 0 < l[j].2.length := List.length_pos_iff.2 h5.2.1
    unfold endP at *; omega
/-- At the end any place will do. -/
theorem FitS.more {l : List Fp} {size : Nat} {k : Int} {room d fr i : Nat} (h : FitS l size k room d fr i) (hd : d = size) : FitS l size k room d fr (i + 1) :=
  ⟨h.done, h.fresh, h.eq, fun hd' => by omega, fun hd' => by omega⟩
end Go.Proofs.Ytilndmmjdbhmgaa
