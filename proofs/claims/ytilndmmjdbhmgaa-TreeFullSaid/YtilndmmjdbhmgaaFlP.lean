/-
  As many nodes as may be, on paper: each with a name of its own in the root.
-/
import Derived.Test.YtilndmmjdbhmgaaAwP
import Derived.Test.YtilndmmjdbhmgaaDecN
namespace Go.Proofs.Ytilndmmjdbhmgaa
open Go.Lib
set_option linter.unusedVariables false
set_option linter.unusedSimpArgs false
set_option maxRecDepth 20000

def fifoV : NodeV := { kind := 7, mode := 0, user := 0, group := 0, time := 0, tgt := ⟨#[]⟩, major := 0, minor := 0, size := 0, links := 0, change := 0 }
def dir0V : NodeV := { kind := 6, mode := 0, user := 0, group := 0, time := 0, tgt := ⟨#[]⟩, major := 0, minor := 0, size := 0, links := 0, change := 0 }
theorem may_fifo : mayB fifoV = true := by kernel_rfl
theorem may_dir0 : mayB dir0V = true := by kernel_rfl
/-- The name of a number. -/
def nmD (u : Nat) : List UInt8 := 110 :: decDigits u
theorem nmD_ok (u : Nat) (hu : u < 1000000) : okN (strB (nmD u)) = true := ok_dec 110 (by decide) u hu
theorem nmD_inj {u v : Nat} (h : nmD u = nmD v) : u = v := dec_inj (List.cons.inj h).2
def moreL : List UInt8 := [109, 111, 114, 101]
def yetL : List UInt8 := [121, 101, 116, 32, 109, 111, 114, 101]
theorem more_ok : okN (strB moreL) = true := by kernel_rfl
theorem yet_ok : okN (strB yetL) = true := by kernel_rfl
theorem more_ne (u : Nat) : moreL ≠ nmD u := fun e => absurd (List.cons.inj e).1 (by decide)
/-- m nodes: the root, and a pipe for each number from 2 to m. -/
structure Fl (T : FsP) (m : Nat) : Prop where
  next : T.next = m
  cnt : T.cnt = m
  clock : T.clock = (m : Int) - 1
  root : ∃ d, T.nd 1 = some d ∧ d.v.kind = 6 ∧ OkK d.names ∧ d.names.length + 1 = m ∧ ∀ s i, getK d.names s = some i ↔ ∃ j : Nat, 2 ≤ j ∧ j ≤ m ∧ s = nmD j ∧ i = (j : Int)
  node : ∀ j : Nat, 2 ≤ j → j ≤ m → ∃ n, T.nd (j : Int) = some n ∧ n.names = [] ∧ n.v.links = 1
theorem fl_new (q : Int) : Fl (newT q) 1 := by
  refine ⟨rfl, rfl, rfl, ⟨rootN, rfl, rfl, List.Pairwise.nil, rfl, fun s i => ⟨fun h => (by cases h), fun ⟨j, h1, h2, _⟩ => by omega⟩⟩, fun j h1 h2 => by omega⟩
theorem fl_none {T : FsP} {m : Nat} {d : NdP} (h : ∀ s i, getK d.names s = some i ↔ ∃ j : Nat, 2 ≤ j ∧ j ≤ m ∧ s = nmD j ∧ i = (j : Int)) {s : List UInt8} (hs : ∀ j : Nat, 2 ≤ j → j ≤ m → s ≠ nmD j) : getK d.names s = none := by
  cases hg : getK d.names s with
  | none => rfl
  | some i =>
    obtain ⟨j, h1, h2, h3, _⟩ := (h s i).1 hg
    exact absurd h3 (hs j h1 h2)
theorem fl_make {T : FsP} {m : Nat} (h : Fl T m) (h1 : 1 ≤ m) (hm : m < 1000) : (makeP T 1 (nmD (m + 1)) fifoV).2 = ((m : Int) + 1, 0) ∧ Fl (makeP T 1 (nmD (m + 1)) fifoV).1 (m + 1) := by
  obtain ⟨d, d1, d2, d3, d4, d5⟩ := h.root
  have hg : getK d.names (nmD (m + 1)) = none := fl_none (T := T) d5 (fun j h2 h3 e => by have := nmD_inj e; omega)
  have he : makeP T 1 (nmD (m + 1)) fifoV = (makeT T 1 d (nmD (m + 1)) fifoV, T.next + 1, 0) := by
    rw [makeP_yes fifoV d1 d2 (nmD_ok _ (by omega)), if_pos may_fifo, if_neg (by rw [hg]; decide), if_neg (by rw [h.cnt]; omega)]
  have hnx : T.next + 1 = ((m + 1 : Nat) : Int) := by rw [h.next]; push_cast; rfl
  rw [he]
  refine ⟨by rw [hnx]; simp, ⟨hnx, by show T.cnt + 1 = _; rw [h.cnt], by show T.clock + 1 = _; rw [h.clock]; push_cast; omega, ⟨{ touch (T.clock + 1) d with names := putK d.names (nmD (m + 1)) (T.next + 1) }, ?_, d2, putK_ok d3 _ _ hg, ?_, fun s i => ?_⟩, fun j h2 h3 => ?_⟩⟩
  · show updN (updN T.nd 1 _) (T.next + 1) _ 1 = _
    rw [updN_other _ _ (by rw [h.next]; omega), updN_same]
  · show (putK d.names (nmD (m + 1)) (T.next + 1)).length + 1 = _
    rw [putK_len, d4]
  · show getK (putK d.names (nmD (m + 1)) (T.next + 1)) s = some i ↔ _
    rw [getK_put d3 _ _ hg, hnx]
    by_cases e : s = nmD (m + 1)
    · rw [if_pos e]
      constructor
      · intro q; cases q; exact ⟨m + 1, by omega, by omega, e, rfl⟩
      · rintro ⟨j, q1, q2, q3, q4⟩
        have := nmD_inj (e.symm.trans q3)
        rw [q4, ← this]
    · rw [if_neg e, d5 s i]
      constructor
      · rintro ⟨j, q1, q2, q3, q4⟩; exact ⟨j, q1, by omega, q3, q4⟩
      · rintro ⟨j, q1, q2, q3, q4⟩
        refine ⟨j, q1, ?_, q3, q4⟩
        by_cases ej : j = m + 1
        · subst ej; exact absurd q3 e
        · omega
  · show ∃ n, updN (updN T.nd 1 _) (T.next + 1) _ (j : Int) = some n ∧ _
    by_cases ej : j = m + 1
    · subst ej
      rw [hnx, updN_same]
      exact ⟨_, rfl, rfl, rfl⟩
    · rw [updN_other _ _ (by rw [hnx]; omega), updN_other _ _ (by omega)]
      exact h.node j h2 (by omega)
/-- One more is refused. -/
theorem fl_full {T : FsP} (h : Fl T 1000) : makeP T 1 moreL fifoV = (T, 0, 14) := by
  obtain ⟨d, d1, d2, d3, d4, d5⟩ := h.root
  have hg : getK d.names moreL = none := fl_none (T := T) d5 (fun j h2 h3 => more_ne j)
  rw [makeP_yes fifoV d1 d2 more_ok, if_pos may_fifo, if_neg (by rw [hg]; decide), if_pos (by rw [h.cnt]; omega)]
/-- One taken away makes room for one, and for one alone. -/
theorem fl_end {T : FsP} (h : Fl T 1000) (k : Nat) (h1 : 2 ≤ k) (h2 : k ≤ 1000) : ∃ T1 T2, removeP T 1 (nmD k) = (T1, 0) ∧ T1.clock = 1000 ∧ makeP T1 1 moreL dir0V = (T2, 1001, 0) ∧ T2.clock = 1001 ∧ makeP T2 1001 yetL fifoV = (T2, 0, 14) ∧ (namesP T2 1).length = 999 := by
  obtain ⟨d, d1, d2, d3, d4, d5⟩ := h.root
  obtain ⟨n, n1, n2, n3⟩ := h.node k h1 h2
  have hg : getK d.names (nmD k) = some (k : Int) := (d5 _ _).2 ⟨k, h1, h2, rfl, rfl⟩
  have hm : getK (delK d.names (nmD k)) moreL = none := by
    rw [getK_del d3, if_neg (more_ne k)]
    exact fl_none (T := T) d5 (fun j _ _ => more_ne j)
  have hr : removeP T 1 (nmD k) = ({ T with clock := T.clock + 1, used := T.used - sizeD n.data, cnt := T.cnt - 1, nd := updN (updN T.nd 1 (some (named (T.clock + 1) d (delK d.names (nmD k))))) (k : Int) none }, 0) := by
    rw [removeP_yes d1 d2 (nmD_ok k (by omega)) hg n1, if_pos n2]
    unfold removeT
    rw [if_pos n3]
  obtain ⟨T1, hT1⟩ : ∃ T1, T1 = ({ T with clock := T.clock + 1, used := T.used - sizeD n.data, cnt := T.cnt - 1, nd := updN (updN T.nd 1 (some (named (T.clock + 1) d (delK d.names (nmD k))))) (k : Int) none } : FsP) := ⟨_, rfl⟩
  rw [← hT1] at hr
  have e1 : T1.nd 1 = some (named (T.clock + 1) d (delK d.names (nmD k))) := by
    rw [hT1]
    show updN (updN T.nd 1 _) (k : Int) none 1 = _
    rw [updN_other _ _ (by omega), updN_same]
  have e2 : T1.cnt = 999 := by rw [hT1]; show T.cnt - 1 = _; rw [h.cnt]
  have e3 : T1.next = 1000 := by rw [hT1]; show T.next = _; rw [h.next]; rfl
  have e4 : T1.clock = 1000 := by rw [hT1]; show T.clock + 1 = _; rw [h.clock]; rfl
  have hmk : makeP T1 1 moreL dir0V = (makeT T1 1 (named (T.clock + 1) d (delK d.names (nmD k))) moreL dir0V, 1001, 0) := by
    rw [makeP_yes dir0V e1 d2 more_ok, if_pos may_dir0, if_neg, if_neg (by rw [e2]; omega), e3]
    · rfl
    · show ¬ (getK (delK d.names (nmD k)) moreL).isSome = true
      rw [hm]; decide
  refine ⟨T1, _, hr, e4, hmk, by show T1.clock + 1 = _; rw [e4]; rfl, ?_, ?_⟩
  · have q : (makeT T1 1 (named (T.clock + 1) d (delK d.names (nmD k))) moreL dir0V).nd 1001 = some (freshN dir0V (T1.clock + 1) 1) := by
      show updN (updN T1.nd 1 _) (T1.next + 1) _ 1001 = _
      rw [e3]
      exact updN_same _ _ _
    rw [makeP_yes fifoV q rfl yet_ok, if_pos may_fifo, if_neg (by show ¬ (getK [] yetL).isSome = true; decide), if_pos]
    show 1000 ≤ T1.cnt + 1
    rw [e2]; decide
  · have q : (makeT T1 1 (named (T.clock + 1) d (delK d.names (nmD k))) moreL dir0V).nd 1 = some { touch (T1.clock + 1) (named (T.clock + 1) d (delK d.names (nmD k))) with names := putK (delK d.names (nmD k)) moreL (T1.next + 1) } := by
      show updN (updN T1.nd 1 _) (T1.next + 1) _ 1 = _
      rw [updN_other _ _ (by rw [e3]; decide), updN_same]
      rfl
    unfold namesP
    rw [q]
    show (putK (delK d.names (nmD k)) moreL (T1.next + 1)).length = 999
    rw [putK_len]
    have := delK_len d3 hg
    omega
end Go.Proofs.Ytilndmmjdbhmgaa
