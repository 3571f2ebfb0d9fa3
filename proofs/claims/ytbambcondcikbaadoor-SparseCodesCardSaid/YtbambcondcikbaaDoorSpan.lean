/-
  Rows of spans of the call's own.
-/
import Derived.Test.YtbambcondcikbaaDoorSpNum
import Derived.OwnWalk
namespace Go.Proofs.YtbambcondcikbaaDoor
open Go.RowKit
set_option linter.unusedVariables false
set_option linter.unusedSimpArgs false
set_option maxRecDepth 20000

theorem cells_span : Tryd.prog.cellsOf 60 = 2 := by kernel_rfl
theorem infoSp : (Tryd.prog.info? 60).map (fun i => (i.zero, i.size, i.bytes)) = some (some (.agg #[.int .i64 0, .int .i64 0]), 2, 16) := by kernel_rfl
def rcells (rs : List (Int × Int)) : List Value := rs.flatMap fun p => [.int .i64 p.1, .int .i64 p.2]
theorem rcells_len (rs : List (Int × Int)) : (rcells rs).length = rs.length * 2 := by
  induction rs with
  | nil => rfl
  | cons p r ih => simp [rcells] at ih ⊢; omega
theorem rcells_at : ∀ (rs : List (Int × Int)) (i : Nat), i < rs.length → (rcells rs)[i * 2]? = some (.int .i64 (rs.getD i (0, 0)).1) ∧ (rcells rs)[i * 2 + 1]? = some (.int .i64 (rs.getD i (0, 0)).2) := by
  intro rs
  induction rs with
  | nil => intro i hi; simp at hi
  | cons p r ih =>
    intro i hi
    have e : rcells (p :: r) = .int .i64 p.1 :: .int .i64 p.2 :: rcells r := by simp [rcells]
    rw [e]
    cases i with
    | zero => exact ⟨rfl, rfl⟩
    | succ i =>
      have hi' : i < r.length := by simpa using hi
      obtain ⟨h1, h2⟩ := ih i hi'
      rw [show (i + 1) * 2 = i * 2 + 1 + 1 by omega]
      refine ⟨?_, ?_⟩
      · simpa using h1
      · rw [List.getElem?_cons_succ, List.getElem?_cons_succ]; simpa using h2
/-- One span is set. -/
theorem rcells_set : ∀ (rs : List (Int × Int)) (i : Nat) (a b : Int), i < rs.length → ((rcells rs).set (i * 2) (.int .i64 a)).set (i * 2 + 1) (.int .i64 b) = rcells (rs.set i (a, b)) := by
  intro rs
  induction rs with
  | nil => intro i a b hi; simp at hi
  | cons p r ih =>
    intro i a b hi
    have e : ∀ (q : Int × Int) (s : List (Int × Int)), rcells (q :: s) = .int .i64 q.1 :: .int .i64 q.2 :: rcells s := fun q s => by simp [rcells]
    cases i with
    | zero => simp [rcells]
    | succ i =>
      rw [show (i + 1) * 2 = i * 2 + 1 + 1 by omega, e, List.set_cons_succ, List.set_cons_succ, List.set_cons_succ, List.set_cons_succ, List.set_cons_succ, e, ih i a b (by simpa using hi)]
/-- A row of spans of the call's own. -/
structure SpSt (w0 w : World) (a : Option Addr) (l c : Nat) (rs : List (Int × Int)) : Prop where
  len : l = rs.length
  own : w.ownsRow 0 60 2 (.slice a l c) l (rcells rs)
  kept : Kept NoB w0 w
  fresh : ∀ k, (Value.slice a l c).ownBlock = some k → w0.heap.size ≤ k
theorem SpSt.on {w0 w w' : World} {a : Option Addr} {l c : Nat} {rs : List (Int × Int)} (h : SpSt w0 w a l c rs) (hk : Kept NoB w w') : SpSt w0 w' a l c rs := ⟨h.len, hk.row h.own (fun _ _ h => h), h.kept.trans hk, h.fresh⟩
theorem span_cap {w : World} {a : Option Addr} {l c : Nat} {xs : List Value} (h : w.ownsRow 0 60 2 (.slice a l c) l xs) : l ≤ c ∧ c ≤ maxLen := by
  rcases h.2 with ⟨hv, hz⟩ | ⟨g, cc, cur, hv, _, _, h1, h2, _⟩
  · simp at hv
    obtain ⟨_, rfl, rfl⟩ := hv
    exact ⟨Nat.le_refl _, Nat.zero_le _⟩
  · simp at hv
    obtain ⟨_, rfl⟩ := hv
    exact ⟨h1, h2⟩
theorem SpSt.cells {w0 w : World} {g l c : Nat} {rs : List (Int × Int)} (h : SpSt w0 w (some ⟨g, 0, none⟩) l c rs) (i : Nat) (hi : i < l) : w.cell? ⟨g, i * 2, none⟩ = some (.int .i64 (rs.getD i (0, 0)).1) ∧ w.cell? ⟨g, i * 2 + 1, none⟩ = some (.int .i64 (rs.getD i (0, 0)).2) := by
  have hl := h.len
  obtain ⟨h1, h2⟩ := rcells_at rs i (by omega)
  exact ⟨by rw [← h1]; exact h.own.cellAt (i * 2) (by omega), by rw [← h2]; exact h.own.cellAt (i * 2 + 1) (by omega)⟩
theorem SpSt.block {w0 w : World} {a : Option Addr} {l c : Nat} {rs : List (Int × Int)} (h : SpSt w0 w a l c rs) (hl : 0 < l) : ∃ g, a = some ⟨g, 0, none⟩ := by
  rcases h.own.2 with ⟨_, hz⟩ | ⟨g, cc, cur, hv, _⟩
  · omega
  · simp at hv; exact ⟨g, hv.1⟩
theorem SpSt.set {w0 w : World} {g l c : Nat} {rs : List (Int × Int)} (h : SpSt w0 w (some ⟨g, 0, none⟩) l c rs) (i : Nat) (hi : i < l) (a b : Int) :
    SpSt w0 ((w.setCell ⟨g, i * 2, none⟩ (.int .i64 a)).setCell ⟨g, i * 2 + 1, none⟩ (.int .i64 b)) (some ⟨g, 0, none⟩) l c (rs.set i (a, b)) := by
  have hl := h.len
  have hg : w0.heap.size ≤ g := h.fresh g rfl
  have o1 := (h.own.stored (i * 2) (.int .i64 a)).1
  have o2 := (o1.stored (i * 2 + 1) (.int .i64 b)).1
  rw [rcells_set rs i a b (by omega)] at o2
  refine ⟨by rw [List.length_set]; exact hl, o2, ?_, h.fresh⟩
  exact Kept.setCell (p := ⟨g, i * 2 + 1, none⟩) (Kept.setCell (p := ⟨g, i * 2, none⟩) h.kept (.inr hg) _) (.inr hg) _
theorem made_two (n : Nat) : (madeCells #[Value.int .i64 0, .int .i64 0] n).toList = List.replicate n (.int .i64 0) := by
  rw [List.eq_replicate_iff]
  refine ⟨by simp [madeCells], ?_⟩
  intro x hx
  simp only [madeCells, Array.toList_map, List.mem_map] at hx
  obtain ⟨i, _, rfl⟩ := hx
  have h2 : i % 2 < 2 := Nat.mod_lt _ (by decide)
  rcases (show i % 2 = 0 ∨ i % 2 = 1 by omega) with h | h
  · show (#[Value.int .i64 0, .int .i64 0] : Array Value)[i % 2]! = _
    rw [h]; rfl
  · show (#[Value.int .i64 0, .int .i64 0] : Array Value)[i % 2]! = _
    rw [h]; rfl
theorem rcells_zero (n : Nat) : rcells (List.replicate n (0, 0)) = List.replicate (n * 2) (.int .i64 0) := by
  induction n with
  | zero => rfl
  | succ n ih =>
    have e : rcells (List.replicate (n + 1) (0, 0)) = .int .i64 0 :: .int .i64 0 :: rcells (List.replicate n (0, 0)) := by simp [rcells, List.replicate_succ]
    rw [e, ih, show (n + 1) * 2 = n * 2 + 1 + 1 by omega, List.replicate_succ, List.replicate_succ]
/-- 'make([]span, n, c)'. -/
theorem wpList_make_spans (w : World) {ops : Array Oper} {rest : List Oper} {o : Oper} {a : Act} {Q : Exit → Act → World → Prop}
    (hg : o.guard = none) (l c : Operand) (hop : o.op = Op.makeSlice 58 l c) (n m : Nat) (hl : a.eval l = .int .i64 (n : Int)) (hc : a.eval c = .int .i64 (m : Int)) (hnm : n ≤ m) (hm : m ≤ 1000000)
    (hK : ∀ w', SpSt w w' (some ⟨w.heap.size, 0, none⟩) n m (List.replicate n (0, 0)) → wpList Tryd.prog ops Q rest (a.put o.dst (.slice (some ⟨w.heap.size, 0, none⟩) n m)) w') :
    wpList Tryd.prog ops Q (o :: rest) a w := by
  obtain ⟨i0, hi, hz0, hz1, hz2⟩ := info_parts infoSp
  refine wpList_plain hg fun K hK' => ?_
  have hr := run_make (P := Tryd.prog) w 58 60 i0 (.agg #[.int .i64 0, .int .i64 0]) Tryd.underlying58 hi hz0 .i64 .i64 n m (by omega) (by omega) (by rw [hz2]; omega) (by omega)
  simp only [Int.toNat_natCast] at hr
  unfold Oper.wp
  simp only [execOp, hop, hl, hc, hr, Sem.run_bind, Sem.run_pure, Result.andThen_ok]
  refine hK' _ _ (hK _ ⟨by simp, ⟨by rw [rcells_len, List.length_replicate], .inr ⟨w.heap.size, m, _, rfl, Nat.zero_le _, heap_alloc_new w _, hnm, by unfold maxLen; omega, ?_, ?_⟩⟩, (Kept.refl _ _).alloc _, fun k hk => by simp [Value.ownBlock] at hk; omega⟩)
  · rw [size_madeCells, hz1]
  · rw [hz1]
    show (madeCells #[Value.int .i64 0, .int .i64 0] (m * 2)).toList.take (n * 2) = _
    rw [made_two, List.take_replicate, rcells_zero, Nat.min_eq_left (by omega)]
/-- One span more. -/
theorem wpList_span1 {ops : Array Oper} {rest : List Oper} {o : Oper} {act : Act} {w : World} {Q : Exit → Act → World → Prop} (hgd : o.guard = none) (s x : Operand)
    (ho : o.op = .call { callee := .builtin .append, args := #[s, x], argTypes := #[58, 58] })
    {w0 : World} {a : Option Addr} {l c : Nat} {rs : List (Int × Int)} (hS : SpSt w0 w a l c rs) (hs : act.eval s = .slice a l c)
    (g cx : Nat) (p q : Int) (hx : act.eval x = .slice (some ⟨g, 0, none⟩) 1 cx) (h0 : w.cell? ⟨g, 0, none⟩ = some (.int .i64 p)) (h1 : w.cell? ⟨g, 1, none⟩ = some (.int .i64 q)) (hn : l ≤ 1000000)
    (h : ∀ a2 c2 w', SpSt w0 w' a2 (l + 1) c2 (rs ++ [(p, q)]) → wpList Tryd.prog ops Q rest (act.put o.dst (.slice a2 (l + 1) c2)) w') : wpList Tryd.prog ops Q (o :: rest) act w := by
  obtain ⟨i0, hi, hz0, hz1, hz2⟩ := info_parts infoSp
  refine wpList_app w hgd s x 58 ho 60 i0 (.agg #[.int .i64 0, .int .i64 0]) 2 16 Tryd.underlying58 hi hz0 hz1 hz2 rfl (by decide) _ l (rcells rs) hs hS.own ⟨g, 0, none⟩ 1 cx [.int .i64 p, .int .i64 q] hx rfl ?_ ?_ (by unfold maxLen; omega) (by omega) ?_
  · intro j u hu
    rw [addr_add, Nat.zero_add]
    match j with
    | 0 => simp at hu; subst hu; exact h0
    | 1 => simp at hu; subst hu; exact h1
    | j + 2 => simp at hu
  · intro u hu
    simp at hu
    rcases hu with rfl | rfl <;> rfl
  intro v' w' h2 h3 h4
  obtain ⟨a2, c2, rfl⟩ := kv_shape h2
  refine h _ _ _ ⟨by rw [List.length_append, hS.len]; rfl, by simpa [rcells] using h2, hS.kept.grown h3 (fun k hk e => by have := hS.fresh k e; omega), ?_⟩
  intro k hk
  rcases h4 k hk with h | h
  · exact hS.fresh k h
  · have := hS.kept.size; omega
end Go.Proofs.YtbambcondcikbaaDoor
