/-
  On paper: times of digits with a point.
-/
import Derived.Test.YtclcgiochjibjaaDoorTimeT
namespace Go.Proofs.YtclcgiochjibjaaDoor
open Go.Lib
set_option linter.unusedVariables false

theorem neg_dig (a r : List UInt8) (ha : allD a 19 = true) : negT (a ++ r) = false := by
  cases a with
  | nil => simp [allD] at ha
  | cons x t =>
    simp only [allD, Bool.and_eq_true, List.all_cons] at ha
    have hx := (isD_iff x).1 ha.2.1
    have : x ≠ 45 := by rintro rfl; exact absurd hx.1 (by decide)
    simp [negT, this]
theorem allD_all {l : List UInt8} {m : Nat} (h : allD l m = true) : l.all isD = true := by
  simp only [allD, Bool.and_eq_true] at h; exact h.2
theorem body_time (a f : List UInt8) (ha : allD a 19 = true) (hf : allD f 30 = true) : okT (a ++ 46 :: f) = true ∧ magT (a ++ 46 :: f) = digV a * 1000000000 + digV (nine f) := by
  have hc := cutP_at 46 f a (digits_no 46 a (allD_all ha) rfl)
  unfold okT magT
  rw [hc]
  exact ⟨by simp [ha, hf], rfl⟩
theorem time_pos (a f : List UInt8) (ha : allD a 19 = true) (hf : allD f 30 = true) : timeS (a ++ 46 :: f) = sgnT (digV a * 1000000000 + digV (nine f)) false := by
  obtain ⟨h1, h2⟩ := body_time a f ha hf
  have hn := neg_dig a (46 :: f) ha
  unfold timeS bodyT
  simp only [hn, Bool.false_eq_true, if_false, h1, h2, if_true]
theorem time_neg (a f : List UInt8) (ha : allD a 19 = true) (hf : allD f 30 = true) : timeS (45 :: (a ++ 46 :: f)) = sgnT (digV a * 1000000000 + digV (nine f)) true := by
  obtain ⟨h1, h2⟩ := body_time a f ha hf
  have hn : negT (45 :: (a ++ 46 :: f)) = true := rfl
  unfold timeS bodyT
  simp only [hn, if_true, List.tail_cons, h1, h2]
theorem time_nof (a : List UInt8) (ha : allD a 19 = true) : timeS (a ++ [46]) = (0, false) := by
  have hn := neg_dig a [46] ha
  have hc := cutP_at 46 [] a (digits_no 46 a (allD_all ha) rfl)
  unfold timeS bodyT
  have : allD [] 30 = false := rfl
  simp only [hn, Bool.false_eq_true, if_false, okT, hc, this]
  simp
theorem time_now (f : List UInt8) : timeS (46 :: f) = (0, false) := by
  have hn : negT (46 :: f) = false := rfl
  unfold timeS bodyT
  have hc := cutP_at 46 f [] (by simp)
  rw [List.nil_append] at hc
  have : allD [] 19 = false := rfl
  simp only [hn, Bool.false_eq_true, if_false, okT, hc, this]
  simp
/-- Nine digits. -/
theorem nine_dig (m : Nat) (hm : m < 1000000000) : ((decDigits (1000000000 + m)).drop 1).length = 9 ∧ digV ((decDigits (1000000000 + m)).drop 1) = m ∧ allD ((decDigits (1000000000 + m)).drop 1) 19 = true ∧ nine ((decDigits (1000000000 + m)).drop 1) = (decDigits (1000000000 + m)).drop 1 := by
  have h := frac m hm
  obtain ⟨h1, h2, h3⟩ := h
  refine ⟨h1, h2, ?_, ?_⟩
  · generalize (decDigits (1000000000 + m)).drop 1 = f at *
    simp only [allD, h3, decide_eq_true (show f.length ≤ 19 by omega)]
    cases f with
    | nil => simp at h1
    | cons _ _ => rfl
  · have := nine_more ((decDigits (1000000000 + m)).drop 1) [] h1
    rwa [List.append_nil] at this
theorem allD_more (f c : List UInt8) (hf : f.length = 9) (ha : allD f 19 = true) (hc : c.all isD = true) (hl : c.length ≤ 21) : allD (f ++ c) 30 = true := by
  simp only [allD, Bool.and_eq_true] at ha ⊢
  refine ⟨⟨?_, ?_⟩, ?_⟩
  · cases f with
    | nil => simp at hf
    | cons _ _ => rfl
  · rw [List.length_append]; exact decide_eq_true (by omega)
  · rw [List.all_append, ha.2, hc]; rfl
/-- All that PaxNanos looks at. -/
theorem nanos_all (s n : Nat) (c : List UInt8) (hs : s < 1000000000) (hn : n < 1000000000) (hc : c.all isD = true) (hl : c.length ≤ 20) :
    let a := (decDigits (1000000000 + s)).drop 1
    let b := (decDigits (1000000000 + n)).drop 1
    timeS (a ++ 46 :: b) = (((s * 1000000000 + n : Nat) : Int), true) ∧ timeS (a ++ 46 :: (b ++ c)) = (((s * 1000000000 + n : Nat) : Int), true) ∧ timeS (45 :: (a ++ 46 :: (b ++ [48]))) = (-((s * 1000000000 + n : Nat) : Int), true) ∧ timeS (a ++ [46]) = (0, false) ∧ timeS (46 :: b) = (0, false) := by
  intro a b
  obtain ⟨a1, a2, a3, a4⟩ := nine_dig s hs
  obtain ⟨b1, b2, b3, b4⟩ := nine_dig n hn
  have ea : a = (decDigits (1000000000 + s)).drop 1 := rfl
  have eb : b = (decDigits (1000000000 + n)).drop 1 := rfl
  rw [← ea] at a1 a2 a3 a4
  rw [← eb] at b1 b2 b3 b4
  clear ea eb
  clear_value a b
  have hb30 : allD b 30 = true := by have := allD_more b [] b1 b3 rfl (by simp); rwa [List.append_nil] at this
  have hsum : s * 1000000000 + n < 1000000000000000000 := by omega
  generalize hN : s * 1000000000 + n = N at *
  have p1 : sgnT N false = ((N : Int), true) := by unfold sgnT; rw [if_neg (by decide), if_pos (by omega)]
  have p2 : sgnT N true = (-(N : Int), true) := by unfold sgnT; rw [if_pos rfl, if_pos (by omega)]
  refine ⟨?_, ?_, ?_, time_nof a a3, time_now b⟩
  · rw [time_pos a b a3 hb30, a2, b4, b2, hN, p1]
  · rw [time_pos a (b ++ c) a3 (allD_more b c b1 b3 hc (by omega)), a2, nine_more b c b1, b2, hN, p1]
  · rw [time_neg a (b ++ [48]) a3 (allD_more b [48] b1 b3 rfl (by simp)), a2, nine_more b [48] b1, b2, hN, p2]
end Go.Proofs.YtclcgiochjibjaaDoor
