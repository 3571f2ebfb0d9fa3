/-
  What was written of a file, in memory: bytes put where no piece is touched.
-/
import Derived.Test.YtilndmmjdbhmgaaFsK
import Derived.Test.YtilndmmjdbhmgaaFsC
namespace Go.Proofs.Ytilndmmjdbhmgaa
open Go.RowKit
set_option linter.unusedVariables false
set_option linter.unusedSimpArgs false
set_option maxRecDepth 20000

set_option maxHeartbeats 2000000 in
/-- The closure of put. -/
theorem put1_any (l : List Fp) (a : Option Addr) (c : Nat) (B1 B2 B3 : Nat) (i x : Nat) (s : Int) (hx : i + x < l.length) (w : World) (hr : RdD w a l)
    (h1 : w.cell? ⟨B1, 0, none⟩ = some (.slice a l.length c)) (h2 : w.cell? ⟨B2, 0, none⟩ = some (.int .i64 (i : Int))) (h3 : w.cell? ⟨B3, 0, none⟩ = some (.int .i64 s)) (hlen : l.length ≤ 1099511627776) :
    Calls Try.prog 80 #[.int .i64 (x : Int), .pointer (some ⟨B1, 0, none⟩), .pointer (some ⟨B2, 0, none⟩), .pointer (some ⟨B3, 0, none⟩)] w fun e w' => e = .returned (.bool (decide (s < l[i + x].1))) ∧ Kept NoB w w' := by
  obtain ⟨b, off, bo, bc, rfl, c0, c1, q1, q2⟩ := hr (i + x) hx
  obtain ⟨n, hn⟩ : ∃ n, n = l.length := ⟨_, rfl⟩
  rw [← hn] at h1 hlen
  have hxn : i + x < n := by omega
  obtain ⟨z, hz⟩ : ∃ z, z = l[i + x].1 := ⟨_, rfl⟩
  rw [← hz] at c0 ⊢
  obtain ⟨y, hy⟩ : ∃ y, y = i + x := ⟨_, rfl⟩
  rw [← hy] at c0 hxn
  have hw1 : IntKind.i64.wrap ((i : Int) + (x : Int)) = (y : Int) := by rw [IntKind.wrap_i64]; omega
  have hyi : (i : Int) + (x : Int) = (y : Int) := by omega
  have HY := Lib.hid hyi
  clear hz hr hn c1 q1 hy hyi hx
  go_enter Try.func80, Try.ntmps80
  go_upto_region 1 with fail
  go_region
  go_wp2
  go_ret
  exact ⟨rfl, (Kept.refl NoB w).drew⟩
theorem drop_eq (l : List Fp) (k : Int) : l.dropWhile (fun p => decide (endP p < k)) = l.drop (aheadP l k).length := by
  have h := congrArg (List.drop (aheadP l k).length) (List.takeWhile_append_dropWhile (p := fun p => decide (endP p < k)) (l := l))
  unfold aheadP at h ⊢
  rw [List.drop_left] at h
  exact h
/-- Those touched, by their number. -/
theorem touch_count (l : List Fp) (hl : OkD l) (k s : Int) (m : Nat) (hm : (aheadP l k).length + m ≤ l.length) (h1 : ∀ x (hx : (aheadP l k).length + x < l.length), x < m → l[(aheadP l k).length + x].1 ≤ s) (h2 : ∀ x (hx : (aheadP l k).length + x < l.length), m ≤ x → s < l[(aheadP l k).length + x].1) : m = (touchP l k s).length := by
  have e : l.dropWhile (fun p => decide (endP p < k)) = l.drop (aheadP l k).length := drop_eq l k
  unfold touchP
  rw [e]
  have hD : ∀ (D : List Fp) (m : Nat), m ≤ D.length → (∀ x (hx : x < D.length), x < m → D[x].1 ≤ s) → (∀ x (hx : x < D.length), m ≤ x → s < D[x].1) → m = (D.takeWhile (fun p => decide (p.1 ≤ s))).length := by
    intro D
    induction D with
    | nil => intro m hm _ _; simp at hm; subst hm; rfl
    | cons p t ih =>
      intro m hm g1 g2
      rw [List.takeWhile_cons]
      cases m with
      | zero =>
        have := g2 0 (by simp) (by omega)
        simp only [List.getElem_cons_zero] at this
        rw [if_neg (by simp; omega)]; rfl
      | succ m =>
        have := g1 0 (by simp) (by omega)
        simp only [List.getElem_cons_zero] at this
        rw [if_pos (by simpa using this)]
        simp only [List.length_cons]
        rw [← ih m (by simpa using hm) (fun x hx hxm => by have := g1 (x + 1) (by simpa using hx) (by omega); simpa using this) (fun x hx hxm => by have := g2 (x + 1) (by simpa using hx) (by omega); simpa using this)]
  refine hD _ m (by rw [List.length_drop]; omega) (fun x hx hxm => ?_) (fun x hx hxm => ?_)
  · rw [List.length_drop] at hx
    have := h1 x (by omega) hxm
    simpa using this
  · rw [List.length_drop] at hx
    have := h2 x (by omega) hxm
    simpa using this
theorem ahead_le (l : List Fp) (k : Int) : (aheadP l k).length ≤ l.length := by
  have := congrArg List.length (split3 l k k)
  simp only [List.length_append] at this
  omega
theorem okD_at {l : List Fp} (h : OkD l) {i j : Nat} (hi : i < l.length) (hj : j < l.length) (hij : i ≤ j) : l[i].1 ≤ l[j].1 := by
  rcases Nat.lt_or_ge i j with hlt | hge
  · have := List.pairwise_iff_getElem.1 h.apart i j hi hj hlt
    unfold endP at this; omega
  · have : i = j := by omega
    subst this; exact Int.le_refl _
/-- How many are touched, by sort.Search. -/
theorem search2_any (l : List Fp) (hl : OkD l) (a : Option Addr) (c : Nat) (B1 B2 B3 : Nat) (k s : Int) (w : World) (hr : RdD w a l) (h1 : w.cell? ⟨B1, 0, none⟩ = some (.slice a l.length c)) (h2 : w.cell? ⟨B2, 0, none⟩ = some (.int .i64 ((aheadP l k).length : Int))) (h3 : w.cell? ⟨B3, 0, none⟩ = some (.int .i64 s)) (hlen : l.length ≤ 1099511627776) :
    Calls Try.prog 79 #[.int .i64 ((l.length - (aheadP l k).length : Nat) : Int), .func (.func 80) #[] #[.pointer (some ⟨B1, 0, none⟩), .pointer (some ⟨B2, 0, none⟩), .pointer (some ⟨B3, 0, none⟩)]] w fun e w' => e = .returned (.int .i64 ((touchP l k s).length : Int)) ∧ Kept NoB w w' := by
  have hle := ahead_le l k
  have hS := search_put (l.length - (aheadP l k).length) #[.pointer (some ⟨B1, 0, none⟩), .pointer (some ⟨B2, 0, none⟩), .pointer (some ⟨B3, 0, none⟩)] (fun x => if hx : (aheadP l k).length + x < l.length then decide (s < l[(aheadP l k).length + x].1) else true) w (by omega)
    (fun x y hxy hy hx => by
      have hy2 : (aheadP l k).length + y < l.length := by omega
      have hx2 : (aheadP l k).length + x < l.length := by omega
      simp only [hx2, hy2, dif_pos, decide_eq_true_eq] at hx ⊢
      have := okD_at hl hx2 hy2 (by omega)
      omega)
    (fun W x hkW hx => by
      have hx2 : (aheadP l k).length + x < l.length := by omega
      have := put1_any l a c B1 B2 B3 (aheadP l k).length x s hx2 W (hr.kept hkW) (hkW.cell h1) (hkW.cell h2) (hkW.cell h3) hlen
      simp only [hx2, dif_pos]
      exact this)
  refine hS.mono ?_
  rintro e w' ⟨m, rfl, g1, g2, g3, g4⟩
  have e := touch_count l hl k s m (by omega) (fun x hx hxm => by have := g2 x hxm; simp only [hx, dif_pos, decide_eq_false_iff_not] at this; omega) (fun x hx hxm => by have := g3 x hxm (by omega); simp only [hx, dif_pos, decide_eq_true_eq] at this; exact this)
  exact ⟨by rw [e], g4⟩
end Go.Proofs.Ytilndmmjdbhmgaa
