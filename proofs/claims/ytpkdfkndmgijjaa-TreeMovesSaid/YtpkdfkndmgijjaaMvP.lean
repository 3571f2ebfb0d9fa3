/-
  A chain of directories on paper, and one of them moved.
-/
import Derived.Test.YtpkdfkndmgijjaaFsW
import Derived.Test.YtpkdfkndmgijjaaAwP
namespace Go.Proofs.Ytpkdfkndmgijjaa
set_option linter.unusedVariables false
set_option linter.unusedSimpArgs false
set_option maxRecDepth 20000

def dirV : NodeV := { kind := 6, mode := 7, user := 0, group := 0, time := 0, tgt := ⟨#[]⟩, major := 0, minor := 0, size := 0, links := 0, change := 0 }
/-- A chain of k directories below the root. -/
structure Ch (k : Nat) (T : FsP) : Prop where
  next : T.next = (k : Int) + 1
  clock : T.clock = k
  cnt : T.cnt = k + 1
  nd : ∀ i : Nat, 1 ≤ i → i ≤ k + 1 → ∃ n, T.nd (i : Int) = some n ∧ n.v.kind = 6 ∧ (i ≠ 1 → n.par = (i : Int) - 1) ∧ n.names = if i ≤ k then [([100], (i : Int) + 1)] else []
theorem ch_new : Ch 0 (newT 100) := by
  refine ⟨rfl, rfl, rfl, fun i h1 h2 => ?_⟩
  have : i = 1 := by omega
  subst this
  exact ⟨rootN, rfl, rfl, fun h => absurd rfl h, rfl⟩
theorem ok_d : okN (strB [100]) = true := by kernel_rfl
theorem ok_e : okN (strB [101]) = true := by kernel_rfl
theorem may_dir : mayB dirV = true := by kernel_rfl
theorem ch_make {k : Nat} {T : FsP} (h : Ch k T) (hk : k < 900) : (makeP T ((k : Int) + 1) [100] dirV).2 = ((k : Int) + 2, 0) ∧ Ch (k + 1) (makeP T ((k : Int) + 1) [100] dirV).1 := by
  obtain ⟨n, hn, h6, hp, hnm⟩ := h.nd (k + 1) (by omega) (by omega)
  have hn' : T.nd ((k : Int) + 1) = some n := by have := hn; push_cast at this; exact this
  rw [if_neg (by omega)] at hnm
  have hc : ¬ 1000 ≤ T.cnt := by rw [h.cnt]; omega
  have he : makeP T ((k : Int) + 1) [100] dirV = (makeT T ((k : Int) + 1) n [100] dirV, T.next + 1, 0) := by
    rw [makeP_yes dirV hn' h6 ok_d, if_pos may_dir, if_neg (by rw [hnm]; decide), if_neg hc]
  rw [he]
  refine ⟨by rw [h.next]; simp only [Prod.mk.injEq, and_true]; omega, ⟨?_, ?_, ?_, fun i h1 h2 => ?_⟩⟩
  · show T.next + 1 = _; rw [h.next]; push_cast; omega
  · show T.clock + 1 = _; rw [h.clock]; push_cast; omega
  · show T.cnt + 1 = _; rw [h.cnt]
  · show ∃ n', updN (updN T.nd ((k : Int) + 1) _) (T.next + 1) _ (i : Int) = some n' ∧ _
    rw [h.next]
    by_cases e1 : i = k + 2
    · subst e1
      have e : ((k + 2 : Nat) : Int) = (k : Int) + 1 + 1 := by push_cast; omega
      rw [e, updN_same]
      refine ⟨_, rfl, rfl, fun _ => ?_, by rw [if_neg (by omega)]; rfl⟩
      show (if (6 : Int) = 6 then (k : Int) + 1 else 0) = _
      rw [if_pos rfl]; omega
    · rw [updN_other _ _ (by omega)]
      by_cases e2 : i = k + 1
      · subst e2
        have e : ((k + 1 : Nat) : Int) = (k : Int) + 1 := by push_cast; rfl
        rw [e, updN_same]
        refine ⟨_, rfl, h6, fun hne => ?_, ?_⟩
        · have := hp hne; rw [e] at this; exact this
        · rw [if_pos (by omega)]
          show putK n.names [100] ((k : Int) + 1 + 1) = _
          rw [hnm]; rfl
      · rw [updN_other _ _ (by omega)]
        obtain ⟨n2, q1, q2, q3, q4⟩ := h.nd i h1 (by omega)
        refine ⟨n2, q1, q2, q3, ?_⟩
        rw [q4, if_pos (by omega), if_pos (by omega)]
/-- Which directory leads up to which. -/
theorem ch_up {k : Nat} {T : FsP} (h : Ch k T) (top : Nat) (ht : 1 < top) : ∀ x : Nat, 1 ≤ x → x ≤ k + 1 → (Up T (top : Int) (x : Int) ↔ top ≤ x)
  | 0, h1, h2 => by omega
  | x + 1, h1, h2 => by
    by_cases e : x + 1 = top
    · subst e; exact ⟨fun _ => Nat.le_refl _, fun _ => Up.self⟩
    · by_cases e1 : x = 0
      · subst e1
        constructor
        · intro hu; exact absurd hu (up_root (by omega))
        · intro hu; omega
      · obtain ⟨n, q1, q2, q3, q4⟩ := h.nd (x + 1) (by omega) h2
        have hp := q3 (by omega)
        rw [← up_step q1 q2 (by omega) (by omega), hp]
        have e3 : (((x + 1 : Nat) : Int) - 1) = (x : Int) := by push_cast; omega
        rw [e3, ch_up h top ht x (by omega) (by omega)]
        omega
theorem placeE_zero {T : FsP} {dir : Int} {part : List UInt8} {d : NdP} (hd : T.nd dir = some d) (h6 : d.v.kind = 6) (ho : okN (strB part) = true) : placeE T dir part = 0 := by
  unfold placeE; rw [hd]; simp only; rw [if_pos h6, if_pos ho]
open Classical in
theorem ch_move {n : Nat} {T : FsP} (h : Ch n T) {i j : Nat} (hi : i < n) (hj : j < n) :
    ∃ d e m, T.nd ((i : Int) + 1) = some d ∧ T.nd ((j : Int) + 2) = some e ∧ T.nd ((i : Int) + 2) = some m ∧ d.v.kind = 6 ∧ e.v.kind = 6 ∧ m.v.kind = 6 ∧ d.names = [([100], (i : Int) + 2)] ∧ (e.names = [] ∨ e.names = [([100], (j : Int) + 3)]) ∧
      moveP T ((i : Int) + 1) [100] ((j : Int) + 2) [101] = if i ≤ j then (T, 13) else (moveT T ((i : Int) + 1) d [100] ((j : Int) + 2) e [101] ((i : Int) + 2) m, 0) := by
  obtain ⟨d, a1, a2, a3, a4⟩ := h.nd (i + 1) (by omega) (by omega)
  obtain ⟨e, b1, b2, b3, b4⟩ := h.nd (j + 2) (by omega) (by omega)
  obtain ⟨m, c1, c2, c3, c4⟩ := h.nd (i + 2) (by omega) (by omega)
  have ei : ((i + 1 : Nat) : Int) = (i : Int) + 1 := by push_cast; rfl
  have ej : ((j + 2 : Nat) : Int) = (j : Int) + 2 := by push_cast; rfl
  have em : ((i + 2 : Nat) : Int) = (i : Int) + 2 := by push_cast; rfl
  rw [ei] at a1
  rw [ej] at b1
  rw [em] at c1
  rw [if_pos (by omega), ei] at a4
  have a5 : (i : Int) + 1 + 1 = (i : Int) + 2 := by omega
  rw [a5] at a4
  have hen : e.names = [] ∨ e.names = [([100], (j : Int) + 3)] := by
    rw [b4, ej]
    split
    · right
      have : (j : Int) + 2 + 1 = (j : Int) + 3 := by omega
      rw [this]
    · exact .inl rfl
  refine ⟨d, e, m, a1, b1, c1, a2, b2, c2, a4, hen, ?_⟩
  rw [moveP_ok (placeE_zero a1 a2 ok_d) (placeE_zero b1 b2 ok_e) a1 b1]
  have hg : getK d.names [100] = some ((i : Int) + 2) := by rw [a4]; rfl
  have hga : (getK e.names [101]).isSome = false := by rcases hen with x | x <;> rw [x] <;> rfl
  rw [hg]
  simp only
  rw [if_neg (by rw [hga]; decide), c1]
  simp only
  have hup := ch_up h (i + 2) (by omega) (j + 2) (by omega) (by omega)
  rw [em, ej] at hup
  by_cases hij : i ≤ j
  · rw [if_pos hij, if_pos ⟨c2, hup.2 (by omega)⟩]
  · rw [if_neg hij, if_neg (fun q => by have := hup.1 q.2; omega)]
theorem findP_in {T : FsP} {dir : Int} {part : List UInt8} {d : NdP} (hd : T.nd dir = some d) (h6 : d.v.kind = 6) (ho : okN (strB part) = true) : findP T dir part = askK (getK d.names part) := by
  unfold findP namesP
  rw [if_pos (placeE_zero hd h6 ho)]
  simp only [hd]
theorem ch_moved {n : Nat} {T : FsP} (h : Ch n T) {i j : Nat} (hi : i < n) (hj : j < n) (hij : ¬ i ≤ j) : ∃ T', moveP T ((i : Int) + 1) [100] ((j : Int) + 2) [101] = (T', 0) ∧ T'.clock = (n : Int) + 1 ∧ findP T' ((j : Int) + 2) [101] = ((i : Int) + 2, 0) ∧
    (i ≠ j + 1 → (findP T' ((i : Int) + 1) [100]).2 = 10) ∧ (statP T' ((i : Int) + 2)).2 = 0 ∧ (statP T' ((i : Int) + 2)).1.change = (n : Int) + 1 := by
  obtain ⟨d, e, m, hd, he, hm, d6, e6, m6, dn, en, hmv⟩ := ch_move h hi hj
  rw [if_neg hij] at hmv
  refine ⟨_, hmv, by show T.clock + 1 = _; rw [h.clock], ?_, ?_, ?_, ?_⟩
  · by_cases q : (j : Int) + 2 = (i : Int) + 1
    · have hn : (moveT T ((i : Int) + 1) d [100] ((j : Int) + 2) e [101] ((i : Int) + 2) m).nd ((j : Int) + 2) = some (named (T.clock + 1) d (putK (delK d.names [100]) [101] ((i : Int) + 2))) := by
        show updN (updN _ ((j : Int) + 2) _) ((i : Int) + 2) _ ((j : Int) + 2) = _
        rw [updN_other _ _ (by omega), updN_same, if_pos q]
      rw [findP_in hn d6 ok_e]
      show askK (getK (putK (delK d.names [100]) [101] ((i : Int) + 2)) [101]) = _
      rw [dn]; rfl
    · have hn : (moveT T ((i : Int) + 1) d [100] ((j : Int) + 2) e [101] ((i : Int) + 2) m).nd ((j : Int) + 2) = some (named (T.clock + 1) e (putK e.names [101] ((i : Int) + 2))) := by
        show updN (updN _ ((j : Int) + 2) _) ((i : Int) + 2) _ ((j : Int) + 2) = _
        rw [updN_other _ _ (by omega), updN_same, if_neg q]
      rw [findP_in hn e6 ok_e]
      show askK (getK (putK e.names [101] ((i : Int) + 2)) [101]) = _
      rcases en with x | x <;> rw [x] <;> rfl
  · intro q
    have q2 : (i : Int) + 1 ≠ (j : Int) + 2 := by omega
    have hn : (moveT T ((i : Int) + 1) d [100] ((j : Int) + 2) e [101] ((i : Int) + 2) m).nd ((i : Int) + 1) = some (named (T.clock + 1) d (delK d.names [100])) := by
      show updN (updN (cutN T ((i : Int) + 1) d [100]) ((j : Int) + 2) _) ((i : Int) + 2) _ ((i : Int) + 1) = _
      rw [updN_other _ _ (by omega), updN_other _ _ q2]
      unfold cutN
      rw [updN_same]
    rw [findP_in hn d6 ok_d]
    show (askK (getK (delK d.names [100]) [100])).2 = 10
    rw [dn]; rfl
  all_goals
    have hn : (moveT T ((i : Int) + 1) d [100] ((j : Int) + 2) e [101] ((i : Int) + 2) m).nd ((i : Int) + 2) = some (moved (T.clock + 1) ((j : Int) + 2) m) := by
      show updN _ ((i : Int) + 2) _ ((i : Int) + 2) = _
      rw [updN_same]
    unfold statP
    rw [hn]
  show T.clock + 1 = _
  rw [h.clock]
end Go.Proofs.Ytpkdfkndmgijjaa
