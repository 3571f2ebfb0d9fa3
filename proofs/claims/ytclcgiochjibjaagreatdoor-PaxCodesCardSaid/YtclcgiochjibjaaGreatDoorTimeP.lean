/-
  Times of pax on paper: seconds with a fraction, and nanoseconds. No Go in sight.
-/
import Derived.Test.YtclcgiochjibjaaGreatDoorPaxP
namespace Go.Proofs.YtclcgiochjibjaaGreatDoor
open Go.Lib
set_option linter.unusedVariables false

/-- What digits tell. -/
def digV (l : List UInt8) : Nat := l.foldl (fun v b => 10 * v + (b.toNat - 48)) 0
theorem digV_from : ∀ (l : List UInt8) (v : Nat), l.foldl (fun v b => 10 * v + (b.toNat - 48)) v = v * 10 ^ l.length + digV l
  | [], v => by simp [digV]
  | b :: l, v => by
    have h1 := digV_from l (10 * v + (b.toNat - 48))
    have h2 := digV_from l (10 * 0 + (b.toNat - 48))
    have e : digV (b :: l) = l.foldl (fun v b => 10 * v + (b.toNat - 48)) (10 * 0 + (b.toNat - 48)) := rfl
    rw [List.foldl_cons, h1, e, h2, List.length_cons, Nat.pow_succ]
    generalize 10 ^ l.length = p
    generalize b.toNat - 48 = d
    rw [show 10 * 0 + d = d by omega, Nat.add_mul, Nat.mul_comm 10 v, Nat.mul_assoc, Nat.mul_comm 10 p]
    omega
theorem digV_app (a b : List UInt8) : digV (a ++ b) = digV a * 10 ^ b.length + digV b := by
  show (a ++ b).foldl _ 0 = _
  rw [List.foldl_append, digV_from]; rfl
theorem digV_one (b : UInt8) : digV [b] = b.toNat - 48 := by simp [digV]
def isD (b : UInt8) : Bool := decide (48 ≤ b.toNat) && decide (b.toNat ≤ 57)
theorem isD_iff (b : UInt8) : isD b = true ↔ 48 ≤ b.toNat ∧ b.toNat ≤ 57 := by simp [isD]
theorem digV_lt : ∀ l : List UInt8, l.all isD = true → digV l < 10 ^ l.length := by
  intro l
  induction l with
  | nil => intro _; simp [digV]
  | cons b l ih =>
    intro h
    rw [List.all_cons, Bool.and_eq_true] at h
    have h1 := (isD_iff b).1 h.1
    have h2 := ih h.2
    have e : digV (b :: l) = digV [b] * 10 ^ l.length + digV l := digV_app [b] l
    rw [e, digV_one, List.length_cons, Nat.pow_succ]
    have : (b.toNat - 48) * 10 ^ l.length ≤ 9 * 10 ^ l.length := Nat.mul_le_mul_right _ (by omega)
    omega
theorem dec_all (u : Nat) : (decDigits u).all isD = true := by
  rw [List.all_eq_true]
  intro b hb
  exact (isD_iff b).2 (decDigits_all u u (Nat.le_refl _) b hb)
theorem digV_dec : ∀ (n u : Nat), u ≤ n → digV (decDigits u) = u := by
  intro n
  induction n with
  | zero =>
    intro u hu
    have : u = 0 := by omega
    subst this
    rw [decDigits_lt (by decide), digV_one]; rfl
  | succ n ih =>
    intro u hu
    by_cases h10 : u < 10
    · rw [decDigits_lt h10, digV_one, dig_toNat u h10]; omega
    · rw [decDigits_ge h10, digV_app, ih (u / 10) (by omega), digV_one, dig_toNat (u % 10) (by omega)]
      simp; omega
/-- As many digits. -/
def allD (l : List UInt8) (most : Nat) : Bool := !l.isEmpty && decide (l.length ≤ most) && l.all isD
theorem parseM_dig : ∀ (l : List UInt8) (acc : Nat), l.all isD = true → acc * 10 ^ l.length + digV l < 18446744073709551616 → parseUintM (2 ^ 64 - 1) acc l = .ok (acc * 10 ^ l.length + digV l)
  | [], acc, _, _ => by simp [parseUintM, digV]
  | b :: l, acc, h, hb => by
    rw [List.all_cons, Bool.and_eq_true] at h
    have h1 := (isD_iff b).1 h.1
    have e : digV (b :: l) = digV [b] * 10 ^ l.length + digV l := digV_app [b] l
    rw [digV_one] at e
    have e2 : acc * 10 ^ (b :: l).length + digV (b :: l) = (acc * 10 + (b.toNat - 48)) * 10 ^ l.length + digV l := by
      rw [e, List.length_cons, Nat.pow_succ, Nat.add_mul, Nat.mul_assoc, Nat.mul_comm 10]
      omega
    rw [e2] at hb ⊢
    have hp : 1 ≤ 10 ^ l.length := Nat.one_le_pow _ _ (by decide)
    have hle : acc * 10 + (b.toNat - 48) ≤ (acc * 10 + (b.toNat - 48)) * 10 ^ l.length := Nat.le_mul_of_pos_right _ hp
    rw [parseUintM, if_pos h1, if_neg (by omega), if_neg (by omega)]
    exact parseM_dig l _ h.2 hb
theorem parse_dig64 (l : List UInt8) (h : l.all isD = true) (hne : l ≠ []) (hl : l.length ≤ 19) : parseUintB 64 l = .ok (digV l) := by
  have h1 := digV_lt l h
  have h2 : 10 ^ l.length ≤ 10 ^ 19 := Nat.pow_le_pow_right (by decide) hl
  unfold parseUintB
  rw [if_neg hne, parseM_dig l 0 h (by rw [Nat.zero_mul]; omega)]
  simp

/-- Nine digits of a fraction. -/
def nine (f : List UInt8) : List UInt8 := (f ++ List.replicate 9 48).take 9
theorem nine_len (f : List UInt8) : (nine f).length = 9 := by simp [nine]
theorem nine_all (f : List UInt8) (h : f.all isD = true) : (nine f).all isD = true := by
  rw [List.all_eq_true] at h ⊢
  intro x hx
  have := List.mem_of_mem_take hx
  rcases List.mem_append.1 this with h1 | h1
  · exact h x h1
  · rw [(List.mem_replicate.1 h1).2]; rfl
/-- The sign's part of a time, and what is behind it. -/
def negT (l : List UInt8) : Bool := l.head? == some 45
def bodyT (l : List UInt8) : List UInt8 := if negT l then l.tail else l
/-- Nanoseconds, without a sign. -/
def magT (s : List UInt8) : Nat := digV (cutP 46 s).1 * 1000000000 + digV (nine (cutP 46 s).2.1)
def okT (s : List UInt8) : Bool := allD (cutP 46 s).1 19 && (!(cutP 46 s).2.2 || allD (cutP 46 s).2.1 30)
def sgnT (n : Nat) (neg : Bool) : Int × Bool := if neg then (if n ≤ 9223372036854775808 then (-(n : Int), true) else (0, false)) else if n < 9223372036854775808 then ((n : Int), true) else (0, false)
/-- What a text tells as a time. -/
def timeS (l : List UInt8) : Int × Bool := if okT (bodyT l) then sgnT (magT (bodyT l)) (negT l) else (0, false)

/-- A time's text. -/
def magText (u : Nat) : List UInt8 := if u % 1000000000 = 0 then decDigits (u / 1000000000) else decDigits (u / 1000000000) ++ 46 :: trimRightB ((decDigits (1000000000 + u % 1000000000)).drop 1) 48
def textS (ns : Int) : List UInt8 := (if ns < 0 then [45] else []) ++ magText ns.natAbs

theorem trim_pad (l : List UInt8) (c : UInt8) : l = trimRightB l c ++ List.replicate (l.length - (trimRightB l c).length) c := by
  have key : ∀ m : List UInt8, m = List.replicate (m.length - (m.dropWhile (· == c)).length) c ++ m.dropWhile (· == c) := by
    intro m
    induction m with
    | nil => simp
    | cons x m ih =>
      by_cases hx : x = c
      · subst hx
        have hle : (m.dropWhile (· == x)).length ≤ m.length := (List.dropWhile_suffix (· == x)).length_le
        rw [List.dropWhile_cons_of_pos (by simp), List.length_cons, show m.length + 1 - (m.dropWhile (· == x)).length = (m.length - (m.dropWhile (· == x)).length) + 1 by omega, List.replicate_succ, List.cons_append, ← ih]
      · rw [List.dropWhile_cons_of_neg (by simpa using hx)]; simp
  have h := congrArg List.reverse (key l.reverse)
  rw [List.reverse_reverse, List.reverse_append, List.reverse_replicate, List.length_reverse] at h
  unfold trimRightB
  rw [List.length_reverse]
  exact h
theorem frac (m : Nat) (hm : m < 1000000000) : ((decDigits (1000000000 + m)).drop 1).length = 9 ∧ digV ((decDigits (1000000000 + m)).drop 1) = m ∧ ((decDigits (1000000000 + m)).drop 1).all isD = true := by
  have hl := dec_len 9 (1000000000 + m) (by omega) (by omega)
  have ha := dec_all (1000000000 + m)
  have hv := digV_dec _ (1000000000 + m) (Nat.le_refl _)
  cases hd : decDigits (1000000000 + m) with
  | nil => rw [hd] at hl; simp at hl
  | cons x f =>
    rw [hd] at hl ha hv
    rw [List.all_cons, Bool.and_eq_true] at ha
    have hfl : f.length = 9 := by simpa using hl
    have hx := (isD_iff x).1 ha.1
    have hlt := digV_lt f ha.2
    rw [hfl] at hlt
    have e : digV (x :: f) = digV [x] * 10 ^ f.length + digV f := digV_app [x] f
    rw [e, digV_one, hfl] at hv
    refine ⟨by simpa using hfl, ?_, by simpa using ha.2⟩
    simp only [List.drop_succ_cons, List.drop_zero]
    omega
theorem nine_trim (f : List UInt8) (h : f.length = 9) : nine (trimRightB f 48) = f := by
  have hp := trim_pad f 48
  have hle : (trimRightB f 48).length ≤ 9 := by rw [← h]; conv => rhs; rw [hp]
                                                rw [List.length_append]; omega
  unfold nine
  rw [List.take_append, List.take_of_length_le hle, List.take_replicate, Nat.min_eq_left (by omega)]
  conv => rhs; rw [hp]
  rw [h]
theorem nine_more (f c : List UInt8) (h : f.length = 9) : nine (f ++ c) = f := by
  unfold nine
  rw [List.append_assoc, List.take_append_of_le_length (by omega), List.take_of_length_le (by omega)]
theorem digits_no (c : UInt8) (l : List UInt8) (h : l.all isD = true) (hc : isD c = false) : ∀ x ∈ l, x ≠ c := by
  intro x hx e
  subst e
  rw [List.all_eq_true.1 h _ hx] at hc
  cases hc
theorem trim_all (f : List UInt8) (h : f.all isD = true) : (trimRightB f 48).all isD = true := by
  rw [trim_pad f 48, List.all_append, Bool.and_eq_true] at h
  exact h.1
theorem time_mag (u : Nat) (hu : u ≤ 9223372036854775808) : okT (magText u) = true ∧ magT (magText u) = u := by
  have hq : u / 1000000000 < 10 ^ 19 := by omega
  have hl := decDigits_len 19 (u / 1000000000) (by decide) hq
  have hne := decDigits_ne (u / 1000000000)
  have ha := dec_all (u / 1000000000)
  have hv := digV_dec _ (u / 1000000000) (Nat.le_refl _)
  have hw : allD (decDigits (u / 1000000000)) 19 = true := by
    unfold allD
    rw [ha, decide_eq_true hl]
    cases hd : decDigits (u / 1000000000) with
    | nil => exact absurd hd hne
    | cons _ _ => rfl
  unfold magText
  by_cases h0 : u % 1000000000 = 0
  · rw [if_pos h0]
    have hc := cutP_no 46 _ (digits_no 46 _ ha rfl)
    unfold okT magT
    rw [hc]
    refine ⟨by simp [hw], ?_⟩
    show digV _ * 1000000000 + digV (nine []) = u
    rw [hv, show digV (nine []) = 0 from by decide +kernel]
    omega
  · rw [if_neg h0]
    have hc := cutP_at 46 (trimRightB ((decDigits (1000000000 + u % 1000000000)).drop 1) 48) _ (digits_no 46 _ ha rfl)
    obtain ⟨f1, f2, f3⟩ := frac (u % 1000000000) (by omega)
    unfold okT magT
    rw [hc]
    generalize (decDigits (1000000000 + u % 1000000000)).drop 1 = f at *
    have hp := trim_pad f 48
    have hle : (trimRightB f 48).length ≤ 9 := by
      rw [← f1]; conv => rhs; rw [hp]
      rw [List.length_append]; omega
    refine ⟨?_, ?_⟩
    · have : allD (trimRightB f 48) 30 = true := by
        unfold allD
        rw [trim_all f f3, decide_eq_true (by omega)]
        cases ht : trimRightB f 48 with
        | nil =>
          rw [ht, f1] at hp
          rw [hp] at f2
          rw [show digV ([] ++ List.replicate (9 - ([] : List UInt8).length) 48) = 0 from by decide +kernel] at f2
          exact absurd f2.symm h0
        | cons _ _ => rfl
      simp [hw, this]
    · show digV _ * 1000000000 + digV (nine _) = u
      rw [hv, nine_trim f f1, f2]
      omega
theorem magText_head (u : Nat) : negT (magText u) = false := by
  have ha := dec_all (u / 1000000000)
  have hne := decDigits_ne (u / 1000000000)
  unfold magText negT
  cases hd : decDigits (u / 1000000000) with
  | nil => exact absurd hd hne
  | cons x r =>
    rw [hd, List.all_cons, Bool.and_eq_true] at ha
    have hx := (isD_iff x).1 ha.1
    have hx45 : x ≠ 45 := by rintro rfl; exact absurd hx.1 (by decide)
    split <;> simp [hx45]
/-- There and back. -/
theorem time_text (ns : Int) (h0 : -9223372036854775808 ≤ ns) (h1 : ns ≤ 9223372036854775807) : timeS (textS ns) = (ns, true) := by
  obtain ⟨k1, k2⟩ := time_mag ns.natAbs (by omega)
  have k3 := magText_head ns.natAbs
  unfold textS timeS
  by_cases hn : ns < 0
  · rw [if_pos hn]
    have e1 : negT ([45] ++ magText ns.natAbs) = true := rfl
    have e2 : bodyT ([45] ++ magText ns.natAbs) = magText ns.natAbs := by unfold bodyT; rw [e1]; rfl
    rw [e2, k1, e1, k2, if_pos rfl]
    unfold sgnT
    rw [if_pos rfl, if_pos (by omega), show -((ns.natAbs : Nat) : Int) = ns by omega]
  · rw [if_neg hn, List.nil_append]
    have e2 : bodyT (magText ns.natAbs) = magText ns.natAbs := by unfold bodyT; rw [k3]; rfl
    rw [e2, k1, k3, k2, if_pos rfl]
    unfold sgnT
    rw [if_neg (by decide), if_pos (by omega), show ((ns.natAbs : Nat) : Int) = ns by omega]
end Go.Proofs.YtclcgiochjibjaaGreatDoor
