/-
  What was written of a file, in memory: where a piece ends; how many pieces end no later.
-/
import Derived.Test.YtilndmmjdbhmgaaFsB
import Derived.Test.YtilndmmjdbhmgaaSrch
import Derived.Deep.RegionHeld3
namespace Go.Proofs.Ytilndmmjdbhmgaa
open Go.RowKit
set_option linter.unusedVariables false
set_option linter.unusedSimpArgs false
set_option maxRecDepth 20000

/-- A row of pieces is read. -/
def RdD (w : World) (ao : Option Addr) (l : List Fp) : Prop :=
  ∀ i (hi : i < l.length), ∃ (b off : Nat) (bo : Option Addr) (bc : Nat), ao = some ⟨b, off, none⟩ ∧ w.cell? ⟨b, off + i * 2, none⟩ = some (.int .i64 l[i].1) ∧
    w.cell? ⟨b, off + (i * 2 + 1), none⟩ = some (.slice bo l[i].2.length bc) ∧ l[i].2.length ≤ bc ∧ bc ≤ maxLen
theorem RdD.kept {w w' : World} {ao : Option Addr} {l : List Fp} (h : RdD w ao l) (hk : Kept NoB w w') : RdD w' ao l := by
  intro i hi
  obtain ⟨b, off, bo, bc, h1, h2, h3, h4⟩ := h i hi
  exact ⟨b, off, bo, bc, h1, hk.cell h2, hk.cell h3, h4⟩

set_option maxHeartbeats 1000000 in
theorem end_any (z : Int) (n : Nat) (bo : Option Addr) (bc : Nat) (w : World) (hz : 0 ≤ z ∧ z + (n : Int) ≤ 4611686018427387904) :
    Calls Try.prog 78 #[.agg #[.int .i64 z, .slice bo n bc]] w fun e w' => e = .returned (.int .i64 (z + (n : Int))) ∧ w' = w.alloc (.cells #[.int .i64 z, .slice bo n bc] 61) := by
  go_enter Try.func78, Try.ntmps78
  go_wp2
  go_ret
  exact ⟨rfl, rfl⟩

set_option maxHeartbeats 2000000 in
/-- The closure of after. -/
theorem after1_any (l : List Fp) (hl : OkD l) (a : Option Addr) (c : Nat) (B1 B2 : Nat) (k : Int) (i : Nat) (hi : i < l.length) (w : World) (hr : RdD w a l)
    (h1 : w.cell? ⟨B1, 0, none⟩ = some (.slice a l.length c)) (h2 : w.cell? ⟨B2, 0, none⟩ = some (.int .i64 k)) (hlen : l.length ≤ 1099511627776) :
    Calls Try.prog 90 #[.int .i64 (i : Int), .pointer (some ⟨B1, 0, none⟩), .pointer (some ⟨B2, 0, none⟩)] w fun e w' => e = .returned (.bool (decide (k < endP l[i]))) ∧ Kept NoB w w' := by
  obtain ⟨b, off, bo, bc, rfl, c0, c1, q1, q2⟩ := hr i hi
  obtain ⟨n, hn⟩ : ∃ n, n = l.length := ⟨_, rfl⟩
  rw [← hn] at h1 hi hlen
  have hp := hl.each l[i] (List.getElem_mem (by rw [← hn]; exact hi))
  obtain ⟨z, hz⟩ : ∃ z, z = l[i].1 := ⟨_, rfl⟩
  obtain ⟨m, hm⟩ : ∃ m, m = l[i].2.length := ⟨_, rfl⟩
  have hE : endP l[i] = z + (m : Int) := by rw [hz, hm]; rfl
  rw [hE]
  have hz0 : 0 ≤ z := by rw [hz]; exact hp.1
  have hz1 : z + (m : Int) ≤ 1099511627776 := by rw [← hE]; exact hp.2.2
  rw [← hz] at c0
  rw [← hm] at c1 q1
  rw [show off + (i * 2 + 1) = off + i * 2 + 1 by omega] at c1
  have HE : Hid (∀ W, Calls Try.prog 78 #[.agg #[.int .i64 z, .slice bo m bc]] W fun e w' => e = .returned (.int .i64 (z + (m : Int))) ∧ Kept NoB W w') := Lib.hid (fun W => (end_any z m bo bc W ⟨hz0, by omega⟩).mono (by rintro e w' ⟨rfl, rfl⟩; exact ⟨rfl, (Kept.refl NoB W).alloc _⟩))
  have D0 : ∀ W, Kept NoB w W → W.cell? ⟨b, off + i * 2, none⟩ = some (.int .i64 z) := fun W hk => hk.cell c0
  have D1 : ∀ W, Kept NoB w W → W.cell? ⟨b, off + i * 2 + 1, none⟩ = some (.slice bo m bc) := fun W hk => hk.cell c1
  have D2 : ∀ W, Kept NoB w W → W.cell? ⟨B1, 0, none⟩ = some (.slice (some ⟨b, off, none⟩) n c) := fun W hk => hk.cell h1
  have D3 : ∀ W, Kept NoB w W → W.cell? ⟨B2, 0, none⟩ = some (.int .i64 k) := fun W hk => hk.cell h2
  clear hE hz hm hp hr hn hl c0 c1 h1 h2
  go_enter Try.func90, Try.ntmps90
  go_upto_region 1 with fail
  go_region_held3 (fun W => Kept NoB w W) (first | assumption | exact Kept.drew (Kept.refl _ _) | exact Kept.drew (by assumption) | exact Kept.trans (by assumption) hkn) ((go_at_call 78; ((with_reducible refine (HE.out _).mono ?_); rintro e wn ⟨rfl, hkn⟩)))
  have hkw : Kept NoB w wn := by assumption
  have HKw := Lib.hid hkw
  clear hkw hkn
  go_wp2
  go_ret
  exact ⟨rfl, HKw.out⟩

theorem fcells_len (qs : List FpQ) : (fcells qs).length = qs.length * 2 := by
  induction qs with
  | nil => rfl
  | cons p r ih => simp [fcells] at ih ⊢; omega
theorem fcells_at : ∀ (qs : List FpQ) (i : Nat) (h : i < qs.length), (fcells qs)[i * 2]? = some (.int .i64 qs[i].1.1) ∧ (fcells qs)[i * 2 + 1]? = some (.slice qs[i].2.1 qs[i].1.2.length qs[i].2.2) := by
  intro qs
  induction qs with
  | nil => intro i hi; simp at hi
  | cons p r ih =>
    intro i hi
    have e : fcells (p :: r) = .int .i64 p.1.1 :: .slice p.2.1 p.1.2.length p.2.2 :: fcells r := by simp [fcells]
    rw [e]
    cases i with
    | zero => exact ⟨rfl, rfl⟩
    | succ i =>
      have hi' : i < r.length := by simpa using hi
      obtain ⟨h1, h2⟩ := ih i hi'
      rw [show (i + 1) * 2 = i * 2 + 1 + 1 by omega]
      refine ⟨?_, ?_⟩
      · simpa using h1
      · rw [List.getElem?_cons_succ, List.getElem?_cons_succ]; simpa using h2
theorem DatSt.cap {L : Nat → Lab} {i : Int} {w : World} {a : Option Addr} {l c : Nat} {qs : List FpQ} (h : DatSt L i w a l c qs) : l ≤ c ∧ c ≤ maxLen ∧ (a = none → l = 0 ∧ c = 0) := by
  rcases h.own.2 with ⟨hv, hz⟩ | ⟨g, cc, cur, hv, _, _, h1, h2, _⟩
  · simp at hv
    obtain ⟨rfl, rfl, rfl⟩ := hv
    exact ⟨Nat.le_refl _, Nat.zero_le _, fun _ => ⟨rfl, rfl⟩⟩
  · simp at hv
    obtain ⟨rfl, rfl⟩ := hv
    exact ⟨h1, h2, fun e => by cases e⟩
/-- Its cells lie in one block, from the beginning on. -/
theorem DatSt.cells {L : Nat → Lab} {i : Int} {w : World} {a : Option Addr} {l c : Nat} {qs : List FpQ} (h : DatSt L i w a l c qs) (h0 : 0 < l) :
    ∃ g cur, a = some ⟨g, 0, none⟩ ∧ w.heap[g]? = some (.cells cur 61 (0, 0)) ∧ cur.size = c * 2 ∧ cur.toList.take (l * 2) = fcells qs ∧ L g = .row i := by
  rcases h.own.2 with ⟨hv, hz⟩ | ⟨g, cc, cur, hv, _, hg, h1, h2, h3, h4⟩
  · omega
  · simp at hv
    obtain ⟨rfl, rfl⟩ := hv
    exact ⟨g, cur, rfl, hg, h3, h4, h.lab g (by simp [Value.ownBlock])⟩
theorem DatSt.rd {L : Nat → Lab} {i : Int} {w : World} {a : Option Addr} {l c : Nat} {qs : List FpQ} (h : DatSt L i w a l c qs) : RdD w a (qs.map Prod.fst) := by
  intro j hj
  have hj' : j < qs.length := by simpa using hj
  have hl := h.len
  obtain ⟨g, cur, rfl, hg, h3, h4, _⟩ := h.cells (by omega)
  obtain ⟨e1, e2⟩ := fcells_at qs j hj'
  have hown := h.each qs[j] (List.getElem_mem hj')
  obtain ⟨k1, k2⟩ := own_cap hown
  have hcur : ∀ (x : Nat) (v : Value), (fcells qs)[x]? = some v → cur[x]? = some v := by
    intro x v hx
    rw [← h4] at hx
    rw [List.getElem?_take] at hx
    split at hx
    · simpa using hx
    · cases hx
  refine ⟨g, 0, qs[j].2.1, qs[j].2.2, rfl, ?_, ?_, ?_, k2⟩
  · rw [Nat.zero_add, obj_cell hg, hcur _ _ e1]; simp
  · rw [Nat.zero_add, obj_cell hg, hcur _ _ e2]; simp
  · simpa using k1
theorem ahead_count (l : List Fp) (h : OkD l) (k : Int) (n : Nat) (hn : n ≤ l.length) (h1 : ∀ i (hi : i < l.length), i < n → ¬ k < endP l[i]) (h2 : ∀ i (hi : i < l.length), n ≤ i → k < endP l[i]) : n = (aheadP l (k + 1)).length := by
  unfold aheadP
  induction l generalizing n with
  | nil => simp at hn; subst hn; rfl
  | cons p t ih =>
    have ht : OkD t := ⟨fun q hq => h.each q (List.mem_cons_of_mem _ hq), (List.pairwise_cons.1 h.apart).2⟩
    rw [List.takeWhile_cons]
    cases n with
    | zero =>
      have := h2 0 (by simp) (by omega)
      simp only [List.getElem_cons_zero] at this
      rw [if_neg (by simp; omega)]
      rfl
    | succ n =>
      have := h1 0 (by simp) (by omega)
      simp only [List.getElem_cons_zero] at this
      rw [if_pos (by simp; omega)]
      simp only [List.length_cons]
      rw [← ih ht n (by simpa using hn) (fun i hi hin => by have := h1 (i + 1) (by simpa using hi) (by omega); simpa using this) (fun i hi hin => by have := h2 (i + 1) (by simpa using hi) (by omega); simpa using this)]
theorem okD_mono {l : List Fp} (h : OkD l) {i j : Nat} (hi : i < l.length) (hj : j < l.length) (hij : i ≤ j) : endP l[i] ≤ endP l[j] := by
  rcases Nat.lt_or_ge i j with hlt | hge
  · have := List.pairwise_iff_getElem.1 h.apart i j hi hj hlt
    unfold endP at *; omega
  · have : i = j := by omega
    subst this; exact Int.le_refl _
set_option maxHeartbeats 1000000 in
/-- How many pieces end no later than k. -/
theorem after_any (l : List Fp) (hl : OkD l) (a : Option Addr) (c : Nat) (k : Int) (w : World) (hr : RdD w a l) (hc : l.length ≤ c) (hcm : c ≤ maxLen) (hlen : l.length ≤ 1099511627776) (hk : -4611686018427387904 ≤ k ∧ k ≤ 4611686018427387904) :
    Calls Try.prog 75 #[.slice a l.length c, .int .i64 k] w fun e w' => e = .returned (.int .i64 ((aheadP l (k + 1)).length : Int)) ∧ Kept NoB w w' := by
  obtain ⟨w1, hw1⟩ : ∃ w1, w1 = (w.alloc (.cells #[.slice a l.length c] 69)).alloc (.cells #[.int .i64 k] 3) := ⟨_, rfl⟩
  have hk1 : Kept NoB w w1 := by rw [hw1]; exact ((Kept.refl NoB w).alloc _).alloc _
  have b1 : w1.cell? ⟨w.heap.size, 0, none⟩ = some (.slice a l.length c) := by
    rw [hw1]; exact ((Kept.refl NoB _).alloc _).cell (cell_new 0 rfl)
  have b2 : w1.cell? ⟨w.heap.size + 1, 0, none⟩ = some (.int .i64 k) := by
    rw [hw1]; exact cell_new 0 (by simp)
  have hS := search_after l.length #[.pointer (some ⟨w.heap.size, 0, none⟩), .pointer (some ⟨w.heap.size + 1, 0, none⟩)] (fun i => if hi : i < l.length then decide (k < endP l[i]) else true) w1 hlen
    (fun x y hxy hy hx => by
      have hxl : x < l.length := by omega
      simp only [hxl, hy, dif_pos, decide_eq_true_eq] at hx ⊢
      have := okD_mono hl hxl hy hxy
      omega)
    (fun W i hkW hi => by
      have := after1_any l hl a c w.heap.size (w.heap.size + 1) k i hi W ((hr.kept hk1).kept hkW) (hkW.cell b1) (hkW.cell b2) hlen
      simp only [hi, dif_pos]
      exact this)
  have hA : ∀ n, n ≤ l.length → (∀ j, j < n → (if hi : j < l.length then decide (k < endP l[j]) else true) = false) → (∀ j, n ≤ j → j < l.length → (if hi : j < l.length then decide (k < endP l[j]) else true) = true) → n = (aheadP l (k + 1)).length := by
    intro n hn h1 h2
    refine ahead_count l hl k n hn (fun i hi hin => ?_) (fun i hi hin => ?_)
    · have := h1 i hin; simp only [hi, dif_pos, decide_eq_false_iff_not] at this; exact this
    · have := h2 i hin hi; simp only [hi, dif_pos, decide_eq_true_eq] at this; exact this
  have hS2 : Calls Try.prog 79 #[.int .i64 (l.length : Int), .func (.func 90) #[] #[.pointer (some ⟨w.heap.size, 0, none⟩), .pointer (some ⟨w.heap.size + 1, 0, none⟩)]] w1 fun e w' => e = .returned (.int .i64 ((aheadP l (k + 1)).length : Int)) ∧ Kept NoB w1 w' := by
    refine hS.mono ?_
    rintro e w' ⟨i, rfl, h1, h2, h3, h4⟩
    exact ⟨by rw [hA i h1 h2 h3], h4⟩
  have HS := Lib.hid hS2; have HW := Lib.hid hw1; have HK1 := Lib.hid hk1
  obtain ⟨A, hAe⟩ : ∃ A, A = (aheadP l (k + 1)).length := ⟨_, rfl⟩
  rw [← hAe] at HS ⊢
  obtain ⟨n, hn⟩ : ∃ n, n = l.length := ⟨_, rfl⟩
  rw [← hn] at HS HW hc b1 ⊢
  clear hS hS2 hw1 hk1 b2 hA hr hAe hn hl hlen
  go_enter Try.func75, Try.ntmps75
  go_upto_region 1 with fail
  rw [← HW.out]
  go_wp2_with fail
  refine HS.out.mono ?_
  rintro e w2 ⟨rfl, hk2⟩
  go_wp2
  go_ret
  exact ⟨rfl, HK1.out.trans hk2⟩
end Go.Proofs.Ytilndmmjdbhmgaa
