/-
  What was written of a file, on paper: which bytes there are behind a write and a cut; reading; how many fit.
-/
import Derived.Test.YtilndmmjdbhmgaaDatP
namespace Go.Proofs.Ytilndmmjdbhmgaa
set_option linter.unusedVariables false
set_option linter.unusedSimpArgs false

/-- The joined piece's bytes: the new ones, and those of the touched pieces around them. -/
theorem join_has {l : List Fp} (h : OkD l) {m : List Fp} (hml : m.Sublist l) (k : Int) (b : List UInt8) (hk : 0 ≤ k) (ht : ∀ p ∈ m, k ≤ endP p ∧ p.1 ≤ k + b.length) (x : Int) (c : UInt8) :
    ((joinP m k b).1 ≤ x ∧ (joinP m k b).2[(x - (joinP m k b).1).toNat]? = some c) ↔ (k ≤ x ∧ b[(x - k).toNat]? = some c) ∨ ((x < k ∨ k + b.length ≤ x) ∧ HasB m x c) := by
  by_cases hm : m = []
  · subst hm
    rw [join_none]
    constructor
    · intro h'; exact .inl h'
    · rintro (h' | ⟨_, p, hp, _⟩)
      · exact h'
      · cases hp
  · obtain ⟨f, z, r, y, e1, e2, e3⟩ := join_some hm k b
    have hfm : f ∈ m := by rw [e1]; exact List.mem_cons_self
    have hzm : z ∈ m := by rw [e2]; simp
    have hf := h.each f (hml.subset hfm)
    have hz := h.each z (hml.subset hzm)
    have tf := ht f hfm
    have tz := ht z hzm
    have hap := pair_sub h hml
    have hl : (f.2.take (k - f.1).toNat).length = (k - min f.1 k).toNat := by
      rw [List.length_take]; unfold endP at tf; omega
    rw [e3]
    simp only
    -- what lies ahead of k is the first one's, what lies behind is the last one's
    have hahead : ∀ p ∈ m, x < k → p.1 ≤ x → p.2[(x - p.1).toNat]? = some c → p = f := by
      intro p hp hx h1 h2
      rw [e1] at hp hap
      rcases List.mem_cons.1 hp with rfl | hp
      · rfl
      · have := (List.pairwise_cons.1 hap).1 p hp
        omega
    have hbehind : ∀ p ∈ m, k + b.length ≤ x → p.1 ≤ x → p.2[(x - p.1).toNat]? = some c → p = z := by
      intro p hp hx h1 h2
      have hlt := HasB.lt h1 h2
      rw [e2] at hp hap
      rcases List.mem_append.1 hp with hp | hp
      · have := (List.pairwise_append.1 hap).2.2 p hp z (by simp)
        omega
      · simpa using hp
    by_cases hx1 : x < k
    · constructor
      · rintro ⟨g1, g2⟩
        right
        refine ⟨.inl hx1, f, hfm, by omega, ?_⟩
        rw [List.append_assoc, List.getElem?_append_left (by rw [hl]; omega)] at g2
        rw [List.getElem?_take] at g2
        split at g2
        · rw [← g2]; congr 1; omega
        · cases g2
      · rintro (⟨g1, _⟩ | ⟨_, p, hp, g1, g2⟩)
        · omega
        · have := hahead p hp hx1 g1 g2
          subst this
          refine ⟨by omega, ?_⟩
          rw [List.append_assoc, List.getElem?_append_left (by rw [hl]; omega), List.getElem?_take, if_pos (by omega), ← g2]
          congr 1; omega
    · by_cases hx2 : x < k + b.length
      · constructor
        · rintro ⟨g1, g2⟩
          left
          refine ⟨by omega, ?_⟩
          rw [List.append_assoc, List.getElem?_append_right (by rw [hl]; omega), List.getElem?_append_left (by rw [hl]; omega), hl] at g2
          rw [← g2]; congr 1; omega
        · rintro (⟨g1, g2⟩ | ⟨h', _⟩)
          · refine ⟨by omega, ?_⟩
            rw [List.append_assoc, List.getElem?_append_right (by rw [hl]; omega), List.getElem?_append_left (by rw [hl]; omega), hl, ← g2]
            congr 1; omega
          · omega
      · constructor
        · rintro ⟨g1, g2⟩
          right
          refine ⟨.inr (by omega), z, hzm, by omega, ?_⟩
          rw [List.append_assoc, List.getElem?_append_right (by rw [hl]; omega), List.getElem?_append_right (by rw [hl]; omega), hl, List.getElem?_drop] at g2
          rw [← g2]; congr 1; omega
        · rintro (⟨g1, g2⟩ | ⟨_, p, hp, g1, g2⟩)
          · have := (List.getElem?_eq_some_iff.1 g2).1; omega
          · have := hbehind p hp (by omega) g1 g2
            subst this
            refine ⟨by omega, ?_⟩
            rw [List.append_assoc, List.getElem?_append_right (by rw [hl]; omega), List.getElem?_append_right (by rw [hl]; omega), hl, List.getElem?_drop, ← g2]
            congr 1; omega
theorem put_has {l : List Fp} (h : OkD l) (k : Int) (b : List UInt8) (hk : 0 ≤ k) (hb : b ≠ []) (x : Int) (c : UInt8) :
    HasB (putP l k b) x c ↔ (k ≤ x ∧ b[(x - k).toNat]? = some c) ∨ ((x < k ∨ k + b.length ≤ x) ∧ HasB l x c) := by
  have hs := split3 l k (k + b.length)
  have hta := touch_end h k (k + b.length)
  have hba := behind_at h k (k + b.length)
  have haa := @ahead_end l k
  have hbl : 0 < b.length := List.length_pos_iff.2 hb
  unfold putP
  generalize aheadP l k = A at *
  generalize touchP l k (k + b.length) = M at *
  generalize behindP l k (k + b.length) = Z at *
  have hMl : M.Sublist l := by rw [hs]; exact (List.sublist_append_left _ _).trans (List.sublist_append_right _ _)
  have hj := join_has h hMl k b hk hta x c
  have e : A ++ joinP M k b :: Z = A ++ ([joinP M k b] ++ Z) := rfl
  rw [e, hasB_append, hasB_append, hasB_one, hj]
  conv => rhs; rw [hs, hasB_append, hasB_append]
  have hA : HasB A x c → x < k := by
    rintro ⟨p, hp, g1, g2⟩
    have := haa p hp
    have := HasB.lt g1 g2
    omega
  have hZ : HasB Z x c → k + b.length ≤ x := by
    rintro ⟨p, hp, g1, g2⟩
    have := hba p hp
    omega
  constructor
  · rintro (h' | (h' | ⟨h1, h2⟩) | h')
    · exact .inr ⟨.inl (hA h'), .inl h'⟩
    · exact .inl h'
    · exact .inr ⟨h1, .inr (.inl h2)⟩
    · exact .inr ⟨.inr (hZ h'), .inr (.inr h')⟩
  · rintro (h' | ⟨h1, h2 | h2 | h2⟩)
    · exact .inr (.inl (.inl h'))
    · exact .inl h2
    · exact .inr (.inl (.inr ⟨h1, h2⟩))
    · exact .inr (.inr h2)

/-- What lies from a size on is taken away. -/
def cutP (l : List Fp) (s : Int) : List Fp :=
  l.takeWhile (fun p => decide (endP p ≤ s)) ++
    match (l.dropWhile (fun p => decide (endP p ≤ s))) with
    | p :: _ => if p.1 < s then [(p.1, p.2.take (s - p.1).toNat)] else []
    | [] => []
def sizeD (l : List Fp) : Nat := (l.map fun p => p.2.length).sum
theorem sizeD_append (a b : List Fp) : sizeD (a ++ b) = sizeD a + sizeD b := by simp [sizeD]
theorem sizeD_cons (p : Fp) (l : List Fp) : sizeD (p :: l) = p.2.length + sizeD l := by simp [sizeD]

theorem cut_ok {l : List Fp} (h : OkD l) (s : Int) (hs : 0 ≤ s) : OkD (cutP l s) := by
  have e : l = l.takeWhile (fun p => decide (endP p ≤ s)) ++ l.dropWhile (fun p => decide (endP p ≤ s)) := (List.takeWhile_append_dropWhile).symm
  unfold cutP
  generalize l.takeWhile (fun p => decide (endP p ≤ s)) = A at *
  cases hd : l.dropWhile (fun p => decide (endP p ≤ s)) with
  | nil =>
    simp only [List.append_nil]
    have hA : A.Sublist l := by rw [e]; exact List.sublist_append_left _ _
    exact ⟨fun p hp => h.each p (hA.subset hp), h.apart.sublist hA⟩
  | cons p t =>
    rw [hd] at e
    have hA : A.Sublist l := by rw [e]; exact List.sublist_append_left _ _
    have hpl : p ∈ l := by rw [e]; simp
    have hp := h.each p hpl
    have hf := drop_first hd
    simp at hf
    simp only
    split
    · rename_i hlt
      constructor
      · intro q hq
        rcases List.mem_append.1 hq with hq | hq
        · exact h.each q (hA.subset hq)
        · simp at hq; subst hq
          refine ⟨hp.1, ?_, ?_⟩
          · intro e'
            have := congrArg List.length e'
            simp at this
            rcases this with h' | h'
            · omega
            · exact hp.2.1 h'
          · have := hp.2.2; unfold endP at *; simp only [List.length_take]; omega
      · rw [List.pairwise_append]
        refine ⟨h.apart.sublist hA, List.pairwise_singleton _ _, ?_⟩
        intro q hq r hr
        simp at hr; subst hr
        have hap := h.apart
        rw [e, List.pairwise_append] at hap
        exact hap.2.2 q hq p (by simp)
    · simp only [List.append_nil]
      exact ⟨fun p hp => h.each p (hA.subset hp), h.apart.sublist hA⟩
theorem cut_has {l : List Fp} (h : OkD l) (s : Int) (x : Int) (c : UInt8) : HasB (cutP l s) x c ↔ x < s ∧ HasB l x c := by
  have e : l = l.takeWhile (fun p => decide (endP p ≤ s)) ++ l.dropWhile (fun p => decide (endP p ≤ s)) := (List.takeWhile_append_dropWhile).symm
  have ha : ∀ p ∈ l.takeWhile (fun p => decide (endP p ≤ s)), endP p ≤ s := fun p hp => by
    have := mem_tw hp
    simpa using this
  unfold cutP
  generalize l.takeWhile (fun p => decide (endP p ≤ s)) = A at *
  have hA : HasB A x c → x < s := by
    rintro ⟨p, hp, g1, g2⟩
    have := ha p hp
    have := HasB.lt g1 g2
    omega
  cases hd : l.dropWhile (fun p => decide (endP p ≤ s)) with
  | nil =>
    rw [hd] at e
    simp only [List.append_nil] at e ⊢
    rw [e]
    exact ⟨fun h' => ⟨hA h', h'⟩, fun h' => h'.2⟩
  | cons p t =>
    rw [hd] at e
    have hf := drop_first hd
    simp at hf
    have hap := h.apart
    rw [e, List.pairwise_append, List.pairwise_cons] at hap
    have ht : ∀ q ∈ t, HasB [q] x c → s ≤ x := by
      rintro q hq h'
      rw [hasB_one] at h'
      have := hap.2.1.1 q hq
      omega
    have hT : HasB t x c → s ≤ x := by
      rintro ⟨q, hq, g⟩
      exact ht q hq ((hasB_one q x c).2 g)
    have e2 : A ++ p :: t = A ++ ([p] ++ t) := rfl
    conv => rhs; rw [e, e2, hasB_append, hasB_append, hasB_one]
    simp only
    split
    · rename_i hlt
      rw [hasB_append, hasB_one]
      simp only [List.getElem?_take]
      constructor
      · rintro (h' | ⟨g1, g2⟩)
        · exact ⟨hA h', .inl h'⟩
        · split at g2
          · exact ⟨by omega, .inr (.inl ⟨g1, g2⟩)⟩
          · cases g2
      · rintro ⟨hx, h' | ⟨g1, g2⟩ | h'⟩
        · exact .inl h'
        · exact .inr ⟨g1, by rw [if_pos (by omega)]; exact g2⟩
        · have := hT h'; omega
    · rename_i hlt
      simp only [List.append_nil]
      constructor
      · intro h'; exact ⟨hA h', .inl h'⟩
      · rintro ⟨hx, h' | ⟨g1, g2⟩ | h'⟩
        · exact h'
        · omega
        · have := hT h'; omega

/-- How many of some bytes may be written, if at most room of them are new; and how many are. -/
def fitB (is : Int → Bool) : Nat → Int → Nat → Nat × Nat
  | 0, _, _ => (0, 0)
  | s + 1, k, room => if is k then ((fitB is s (k + 1) room).1 + 1, (fitB is s (k + 1) room).2) else match room with
    | 0 => (0, 0)
    | r + 1 => ((fitB is s (k + 1) r).1 + 1, (fitB is s (k + 1) r).2 + 1)
theorem fitB_le (is : Int → Bool) : ∀ (s : Nat) (k : Int) (room : Nat), (fitB is s k room).1 ≤ s ∧ (fitB is s k room).2 ≤ room ∧ (fitB is s k room).2 ≤ (fitB is s k room).1
  | 0, k, room => by simp [fitB]
  | s + 1, k, room => by
    unfold fitB
    split
    · have := fitB_le is s (k + 1) room
      simp only; omega
    · cases room with
      | zero => simp
      | succ r =>
        have := fitB_le is s (k + 1) r
        simp only; omega
theorem fitB_in (is : Int → Bool) : ∀ (g s : Nat) (k : Int) (room : Nat), g ≤ s → (∀ i : Nat, i < g → is (k + i) = true) → fitB is s k room = ((fitB is (s - g) (k + g) room).1 + g, (fitB is (s - g) (k + g) room).2)
  | 0, s, k, room, _, _ => by simp
  | g + 1, s, k, room, hg, h => by
    obtain ⟨s', rfl⟩ : ∃ s', s = s' + 1 := ⟨s - 1, by omega⟩
    have h0 := h 0 (by omega)
    simp at h0
    conv => lhs; unfold fitB
    rw [if_pos h0, fitB_in is g s' (k + 1) room (by omega) (fun i hi => by have := h (i + 1) (by omega); rw [← this]; congr 1; push_cast; omega)]
    have e1 : s' + 1 - (g + 1) = s' - g := by omega
    have e2 : k + ((g + 1 : Nat) : Int) = k + 1 + (g : Int) := by push_cast; omega
    rw [e1, e2]
    rfl
theorem fitB_gap (is : Int → Bool) : ∀ (g s : Nat) (k : Int) (room : Nat), g ≤ s → g ≤ room → (∀ i : Nat, i < g → is (k + i) = false) → fitB is s k room = ((fitB is (s - g) (k + g) (room - g)).1 + g, (fitB is (s - g) (k + g) (room - g)).2 + g)
  | 0, s, k, room, _, _, _ => by simp
  | g + 1, s, k, room, hg, hr, h => by
    obtain ⟨s', rfl⟩ : ∃ s', s = s' + 1 := ⟨s - 1, by omega⟩
    obtain ⟨r', rfl⟩ : ∃ r', room = r' + 1 := ⟨room - 1, by omega⟩
    have h0 := h 0 (by omega)
    simp at h0
    conv => lhs; unfold fitB
    rw [if_neg (by simp [h0])]
    simp only
    rw [fitB_gap is g s' (k + 1) r' (by omega) (by omega) (fun i hi => by have := h (i + 1) (by omega); rw [← this]; congr 1; push_cast; omega)]
    have e1 : s' + 1 - (g + 1) = s' - g := by omega
    have e2 : k + ((g + 1 : Nat) : Int) = k + 1 + (g : Int) := by push_cast; omega
    have e3 : r' + 1 - (g + 1) = r' - g := by omega
    rw [e1, e2, e3]
    rfl
theorem fitB_full (is : Int → Bool) (g s : Nat) (k : Int) (room : Nat) (hg : g ≤ s) (hr : room < g) (h : ∀ i : Nat, i < g → is (k + i) = false) : fitB is s k room = (room, room) := by
  rw [fitB_gap is room s k room (by omega) (Nat.le_refl _) (fun i hi => h i (by omega))]
  obtain ⟨s', e⟩ : ∃ s', s - room = s' + 1 := ⟨s - room - 1, by omega⟩
  rw [e, Nat.sub_self]
  unfold fitB
  rw [if_neg (by rw [h room hr]; simp)]
  simp
end Go.Proofs.Ytilndmmjdbhmgaa
