/-
  Maps of sparse files on paper. No Go in sight.
-/
import Derived.Test.YtbambcondcikbaaDoorPaxP
namespace Go.Proofs.YtbambcondcikbaaDoor
open Go.Lib
set_option linter.unusedVariables false

abbrev Pc := Int × List UInt8
/-- Pieces from a place on. -/
def okG (size : Int) : Int → List Pc → Bool
  | _, [] => true
  | free, p :: l => !p.2.isEmpty && decide (free ≤ p.1) && decide (p.1 ≤ size - (p.2.length : Int)) && okG size (p.1 + p.2.length + 1) l
def okS (size : Int) (l : List Pc) : Bool := decide (0 ≤ size) && decide (size ≤ 1099511627776) && decide (l.length ≤ 1000) && okG size 0 l
/-- Where the next piece may begin. -/
def freeS (l : List Pc) : Int := l.foldl (fun f p => p.1 + p.2.length + 1) 0
theorem freeS_take (l : List Pc) (i : Nat) (h : i < l.length) : freeS (l.take (i + 1)) = (l.getD i (0, [])).1 + ((l.getD i (0, [])).2.length : Int) + 1 := by
  rw [freeS, List.take_succ_eq_append_getElem h, List.foldl_append]
  simp [List.getD, h]
theorem okG_split (size : Int) : ∀ (a b : List Pc) (f : Int), okG size f (a ++ b) = (okG size f a && okG size (a.foldl (fun f p => p.1 + p.2.length + 1) f) b)
  | [], b, f => by simp [okG]
  | p :: a, b, f => by
    rw [List.cons_append, okG, okG, okG_split size a b, List.foldl_cons]
    simp only [Bool.and_assoc]
/-- One piece more. -/
theorem okG_step (size : Int) (l : List Pc) (i : Nat) (h : i < l.length) :
    okG size 0 (l.take (i + 1)) = (okG size 0 (l.take i) && (!(l.getD i (0, [])).2.isEmpty && decide (freeS (l.take i) ≤ (l.getD i (0, [])).1) && decide ((l.getD i (0, [])).1 ≤ size - ((l.getD i (0, [])).2.length : Int)))) := by
  rw [List.take_succ_eq_append_getElem h, okG_split]
  have e : l[i] = l.getD i (0, []) := by simp [List.getD, h]
  rw [e]
  show (okG size 0 (l.take i) && okG size (freeS (l.take i)) [l.getD i (0, [])]) = _
  simp only [okG, Bool.and_true]
theorem okG_take_no (size : Int) (l : List Pc) (i : Nat) (h : okG size 0 (l.take i) = false) : okG size 0 l = false := by
  have e := okG_split size (l.take i) (l.drop i) 0
  rw [List.take_append_drop, h, Bool.false_and] at e
  exact e
def sumS (l : List Pc) : Nat := (l.map fun p => p.2.length).sum
theorem sumS_take (l : List Pc) (i : Nat) (h : i < l.length) : sumS (l.take (i + 1)) = sumS (l.take i) + (l.getD i (0, [])).2.length := by
  rw [sumS, List.take_succ_eq_append_getElem h, List.map_append, List.sum_append]
  simp [sumS, List.getD, h]
/-- The bytes of pieces that may be do not go beyond the end. -/
theorem sumS_le (size : Int) : ∀ (l : List Pc) (f : Int), 0 ≤ f → f ≤ size + 1 → okG size f l = true → (sumS l : Int) ≤ size - f + 1
  | [], f, h0, h1, _ => by simp [sumS]; omega
  | p :: l, f, h0, h1, h => by
    simp only [okG, Bool.and_eq_true, decide_eq_true_eq] at h
    have ih := sumS_le size l (p.1 + p.2.length + 1) (by omega) (by omega) h.2
    have : sumS (p :: l) = p.2.length + sumS l := by simp [sumS]
    rw [this]
    have := h.1.1.2
    omega
/-- Is there a piece that ends where the file does? -/
def endsS (size : Int) (l : List Pc) : Bool := match l.getLast? with | some p => decide (p.1 + (p.2.length : Int) = size) | none => false
def spansS (size : Int) (l : List Pc) : List (Int × Int) := l.map (fun p => (p.1, (p.2.length : Int))) ++ (if endsS size l then [] else [(size, 0)])
def lineB (n : Int) : List UInt8 := itoa n ++ [10]
def spanB (s : Int × Int) : List UInt8 := lineB s.1 ++ lineB s.2
def headB (size : Int) (l : List Pc) : List UInt8 := lineB ((spansS size l).length : Int) ++ (spansS size l).flatMap spanB
def padN (n : Nat) : Nat := (512 - n % 512) % 512
def dataB (l : List Pc) : List UInt8 := l.flatMap fun p => p.2
/-- The map, and the bytes. -/
def mapB (size : Int) (l : List Pc) : List UInt8 := headB size l ++ List.replicate (padN (headB size l).length) 0 ++ dataB l
theorem data_len (l : List Pc) : (dataB l).length = sumS l := by simp [dataB, sumS, List.length_flatMap]

/-- A line's number, and what is behind it. -/
def lineS (b : List UInt8) : Option (Int × List UInt8) :=
  if (cutP 10 (b.take 14)).2.2 = false then none
  else if (numL (cutP 10 (b.take 14)).1).2 = false then none
  else some ((numL (cutP 10 (b.take 14)).1).1, b.drop ((cutP 10 (b.take 14)).1.length + 1))
theorem itoa_no10 (n : Int) : ∀ x ∈ itoa n, x ≠ 10 := by
  have hd : ∀ u, ∀ x ∈ decDigits u, x ≠ 10 := by
    intro u x hx e
    have := decDigits_all u u (Nat.le_refl _) x hx
    subst e
    revert this
    decide
  intro x hx
  by_cases h : n < 0
  · rw [show n = -((n.natAbs : Nat) : Int) by omega, itoa_neg _ (by omega)] at hx
    rcases List.mem_cons.1 hx with e | e
    · subst e; decide
    · exact hd _ x e
  · rw [show n = ((n.toNat : Nat) : Int) by omega, itoa_nonneg] at hx
    exact hd _ x hx
theorem itoa_13 (n : Int) (h0 : 0 ≤ n) (h1 : n ≤ 1099511627776) : (itoa n).length ≤ 13 := by
  rw [show n = ((n.toNat : Nat) : Int) by omega, itoa_nonneg]
  exact decDigits_len 13 _ (by decide) (by omega)
theorem line_yes (n : Int) (t : List UInt8) (h0 : 0 ≤ n) (h1 : n ≤ 1099511627776) : lineS (lineB n ++ t) = some (n, t) := by
  have hl := itoa_13 n h0 h1
  have e : (lineB n ++ t).take 14 = itoa n ++ 10 :: t.take (13 - (itoa n).length) := by
    rw [lineB, List.append_assoc, List.take_append, List.take_of_length_le (by omega)]
    congr 1
    rw [show 14 - (itoa n).length = (13 - (itoa n).length) + 1 by omega]
    rfl
  have hc : cutP 10 ((lineB n ++ t).take 14) = (itoa n, t.take (13 - (itoa n).length), true) := by
    rw [e]; exact cutP_at 10 _ _ (itoa_no10 n)
  unfold lineS
  rw [hc]
  simp only [numL_yes n (by omega) (by omega)]
  rw [if_neg (by decide), if_neg (by decide), lineB]
  congr 2
  rw [List.append_assoc, List.drop_append, List.drop_of_length_le (by omega), show (itoa n).length + 1 - (itoa n).length = 1 by omega]
  rfl

/-- So many spans. -/
def spansR : Nat → List UInt8 → Option (List (Int × Int) × List UInt8)
  | 0, b => some ([], b)
  | k + 1, b => match lineS b with
    | none => none
    | some (x, b1) => match lineS b1 with
      | none => none
      | some (y, b2) => match spansR k b2 with
        | none => none
        | some (l, r) => some ((x, y) :: l, r)
theorem spans_yes (t : List UInt8) : ∀ sp : List (Int × Int), (∀ s ∈ sp, 0 ≤ s.1 ∧ s.1 ≤ 1099511627776 ∧ 0 ≤ s.2 ∧ s.2 ≤ 1099511627776) → spansR sp.length (sp.flatMap spanB ++ t) = some (sp, t)
  | [], _ => by simp [spansR]
  | s :: sp, h => by
    obtain ⟨h1, h2, h3, h4⟩ := h s List.mem_cons_self
    have ih := spans_yes t sp (fun x hx => h x (List.mem_cons_of_mem _ hx))
    have e : (s :: sp).flatMap spanB ++ t = lineB s.1 ++ (lineB s.2 ++ (sp.flatMap spanB ++ t)) := by simp [spanB]
    rw [e, List.length_cons, spansR, line_yes s.1 _ h1 h2]
    simp only [line_yes s.2 _ h3 h4, ih]
/-- The pieces that spans tell of so many bytes. -/
def cutsR : List (Int × Int) → List UInt8 → Option (List Pc)
  | [], _ => some []
  | s :: sp, d =>
    if s.2 = 0 then cutsR sp d
    else if s.2 < 0 ∨ (d.length : Int) < s.2 then none
    else match cutsR sp (d.drop s.2.toNat) with
      | none => none
      | some l => some ((s.1, d.take s.2.toNat) :: l)
theorem cuts_yes (tail : List (Int × Int)) (htail : tail = [] ∨ ∃ n, tail = [(n, 0)]) : ∀ l : List Pc, (∀ p ∈ l, p.2 ≠ []) → cutsR (l.map (fun p => (p.1, (p.2.length : Int))) ++ tail) (dataB l) = some l
  | [], _ => by
    rcases htail with rfl | ⟨n, rfl⟩
    · rfl
    · rfl
  | p :: l, h => by
    have ih := cuts_yes tail htail l (fun x hx => h x (List.mem_cons_of_mem _ hx))
    have hp := h p List.mem_cons_self
    have h0 : 0 < p.2.length := by cases hh : p.2 with | nil => exact absurd hh hp | cons _ _ => simp
    have e : dataB (p :: l) = p.2 ++ dataB l := by simp [dataB]
    rw [List.map_cons, List.cons_append, cutsR, if_neg (by simp; omega), if_neg (by rw [e, List.length_append]; simp only; omega), e]
    simp only [Int.toNat_natCast, List.drop_left, List.take_left, ih]
/-- The same, behind the noughts. -/
def cutsP (sp : List (Int × Int)) (a : Nat) (b : List UInt8) : Option (List Pc) := if b.length < a + padN a then (if sp.all (fun s => decide (s.2 = 0)) then some [] else none) else cutsR sp (b.drop (a + padN a))
/-- The pieces that a map tells, whether they may be such or not. -/
def piecesS (b : List UInt8) : Option (List Pc) :=
  match lineS b with
  | none => none
  | some (n, r) => if 1001 < n then none else match spansR n.toNat r with
    | none => none
    | some (sp, r2) => cutsP sp (b.length - r2.length) b
theorem okG_each (size : Int) : ∀ (l : List Pc) (f : Int), 0 ≤ f → okG size f l = true → ∀ p ∈ l, p.2 ≠ [] ∧ 0 ≤ p.1 ∧ p.1 + (p.2.length : Int) ≤ size
  | [], _, _, _, p, hp => by cases hp
  | q :: l, f, h0, h, p, hp => by
    simp only [okG, Bool.and_eq_true, decide_eq_true_eq] at h
    rcases List.mem_cons.1 hp with e | e
    · subst e
      refine ⟨?_, by omega, by omega⟩
      intro e
      rw [e] at h
      simp at h
    · exact okG_each size l _ (by omega) h.2 p e
theorem pieces_yes (size : Int) (l : List Pc) (h : okS size l = true) : piecesS (mapB size l) = some l := by
  simp only [okS, Bool.and_eq_true, decide_eq_true_eq] at h
  obtain ⟨⟨⟨h0, h1⟩, h2⟩, h3⟩ := h
  have hp := okG_each size l 0 (by omega) h3
  have hsl : (spansS size l).length ≤ 1001 := by
    rw [spansS, List.length_append, List.length_map]
    split <;> simp <;> omega
  have hsp : ∀ s ∈ spansS size l, 0 ≤ s.1 ∧ s.1 ≤ 1099511627776 ∧ 0 ≤ s.2 ∧ s.2 ≤ 1099511627776 := by
    intro s hs
    rw [spansS] at hs
    rcases List.mem_append.1 hs with hs | hs
    · obtain ⟨p, hpl, rfl⟩ := List.mem_map.1 hs
      have := hp p hpl
      simp only
      omega
    · split at hs
      · cases hs
      · simp at hs; subst hs; simp only; omega
  have hhead : (headB size l).length = (lineB ((spansS size l).length : Int)).length + ((spansS size l).flatMap spanB).length := by rw [headB, List.length_append]
  have e1 : mapB size l = lineB ((spansS size l).length : Int) ++ ((spansS size l).flatMap spanB ++ (List.replicate (padN (headB size l).length) 0 ++ dataB l)) := by
    rw [mapB, headB]; simp
  unfold piecesS
  rw [e1, line_yes _ _ (by omega) (by omega)]
  simp only [if_neg (show ¬ (1001 : Int) < ((spansS size l).length : Int) by omega), Int.toNat_natCast, spans_yes _ _ hsp]
  rw [← e1]
  have hlen : (mapB size l).length = (headB size l).length + padN (headB size l).length + (dataB l).length := by
    rw [mapB, List.length_append, List.length_append, List.length_replicate]
  have ha : (mapB size l).length - (List.replicate (padN (headB size l).length) 0 ++ dataB l).length = (headB size l).length := by
    rw [hlen, List.length_append, List.length_replicate]; omega
  rw [ha, cutsP, if_neg (by omega)]
  have hd : (mapB size l).drop ((headB size l).length + padN (headB size l).length) = dataB l := by
    have : (headB size l).length + padN (headB size l).length = (headB size l ++ List.replicate (padN (headB size l).length) 0).length := by rw [List.length_append, List.length_replicate]
    rw [mapB, this, List.drop_left]
  rw [hd, spansS]
  refine cuts_yes _ ?_ l (fun p hpl => (hp p hpl).1)
  split
  · exact .inl rfl
  · exact .inr ⟨size, rfl⟩
end Go.Proofs.YtbambcondcikbaaDoor
