/-
  Own rows of pieces; what a map tells, on paper, a span at a time.
-/
import Derived.Test.YtbambcondcikbaaDoorNumber
import Derived.Laws.AppendOwnNone
import Derived.OwnWalk
namespace Go.Proofs.YtbambcondcikbaaDoor
open Go.RowKit
set_option linter.unusedVariables false
set_option linter.unusedSimpArgs false
set_option maxRecDepth 20000

theorem infoPc : (Tryd.prog.info? 30).map (fun i => (i.zero, i.size, i.bytes)) = some (some (.agg #[.int .i64 0, .slice none 0 0]), 2, 32) := by kernel_rfl
/-- A piece, and where its bytes lie. -/
abbrev PcQ := Pc × (Option Addr × Nat)
def pcells (qs : List PcQ) : List Value := qs.flatMap fun q => [.int .i64 q.1.1, .slice q.2.1 q.1.2.length q.2.2]
theorem pcells_len (qs : List PcQ) : (pcells qs).length = qs.length * 2 := by
  induction qs with
  | nil => rfl
  | cons p r ih => simp [pcells] at ih ⊢; omega
theorem pcells_at : ∀ (qs : List PcQ) (i : Nat) (h : i < qs.length), (pcells qs)[i * 2]? = some (.int .i64 qs[i].1.1) ∧ (pcells qs)[i * 2 + 1]? = some (.slice qs[i].2.1 qs[i].1.2.length qs[i].2.2) := by
  intro qs
  induction qs with
  | nil => intro i hi; simp at hi
  | cons p r ih =>
    intro i hi
    have e : pcells (p :: r) = .int .i64 p.1.1 :: .slice p.2.1 p.1.2.length p.2.2 :: pcells r := by simp [pcells]
    rw [e]
    cases i with
    | zero => exact ⟨rfl, rfl⟩
    | succ i =>
      have hi' : i < r.length := by simpa using hi
      obtain ⟨h1, h2⟩ := ih i hi'
      rw [show (i + 1) * 2 = i * 2 + 1 + 1 by omega]
      refine ⟨?_, ?_⟩
      · simpa using h1
      · rw [List.getElem?_cons_succ, List.getElem?_cons_succ]; simpa using h2
/-- The bytes of a piece lie as they should. -/
def PcRd (w : World) (q : PcQ) : Prop := Reads w q.2.1 (nb q.1.2) ∧ (q.2.1 = none → q.2.2 = 0) ∧ q.1.2.length ≤ q.2.2 ∧ q.2.2 ≤ maxLen
/-- A row of pieces of the call's own. -/
structure PcSt (w0 w : World) (a : Option Addr) (l c : Nat) (qs : List PcQ) : Prop where
  len : l = qs.length
  own : w.ownsRow 0 30 2 (.slice a l c) l (pcells qs)
  kept : Kept NoB w0 w
  fresh : ∀ k, (Value.slice a l c).ownBlock = some k → w0.heap.size ≤ k
  rd : ∀ q ∈ qs, PcRd w q
  ap : ∀ q ∈ qs, ∀ x, q.2.1 = some x → x.block < w.heap.size ∧ (Value.slice a l c).ownBlock ≠ some x.block
theorem PcSt.start {w0 w : World} (hk : Kept NoB w0 w) : PcSt w0 w none 0 0 [] := ⟨rfl, World.ownsRow_nil _ _ _ _, hk, (fun k hk => by simp [Value.ownBlock] at hk), (fun q hq => by cases hq), (fun q hq => by cases hq)⟩
theorem PcSt.on {w0 w w' : World} {a : Option Addr} {l c : Nat} {qs : List PcQ} (h : PcSt w0 w a l c qs) (hk : Kept NoB w w') : PcSt w0 w' a l c qs :=
  ⟨h.len, hk.row h.own (fun _ _ h => h), h.kept.trans hk, h.fresh, fun q hq => ⟨(h.rd q hq).1.keptNo hk, (h.rd q hq).2⟩, fun q hq x hx => ⟨Nat.lt_of_lt_of_le (h.ap q hq x hx).1 hk.size, (h.ap q hq x hx).2⟩⟩
theorem PcSt.cap {w0 w : World} {a : Option Addr} {l c : Nat} {qs : List PcQ} (h : PcSt w0 w a l c qs) : l ≤ c ∧ c ≤ maxLen := by
  rcases h.own.2 with ⟨hv, hz⟩ | ⟨g, cc, cur, hv, _, _, h1, h2, _⟩
  · simp at hv
    obtain ⟨_, rfl, rfl⟩ := hv
    exact ⟨Nat.le_refl _, Nat.zero_le _⟩
  · simp at hv
    obtain ⟨_, rfl⟩ := hv
    exact ⟨h1, h2⟩
theorem pc_low {w0 w : World} {a : Option Addr} {l c : Nat} {qs : List PcQ} (h : PcSt w0 w a l c qs) : ∀ k, (Value.slice a l c).ownBlock = some k → k < w.heap.size := by
  intro k hk
  rcases h.own.2 with ⟨hv, hz⟩ | ⟨g, cc, cur, hv, _, hg, _⟩
  · simp at hv
    obtain ⟨rfl, _⟩ := hv
    simp [Value.ownBlock] at hk
  · simp at hv
    obtain ⟨rfl, _⟩ := hv
    simp [Value.ownBlock] at hk
    subst hk
    first | exact (Array.getElem?_eq_some_iff.1 hg).1 | assumption
/-- It is read as pieces. -/
theorem PcSt.reads {w0 w : World} {a : Option Addr} {l c : Nat} {qs : List PcQ} (h : PcSt w0 w a l c qs) : RdP w w.heap.size a (qs.map Prod.fst) := by
  intro i hi
  have hil : i < qs.length := by simpa using hi
  have hl := h.len
  have e : (qs.map Prod.fst).getD i (0, []) = qs[i].1 := by simp [List.getD, hil]
  rw [e]
  rcases h.own.2 with ⟨_, hz⟩ | ⟨g, cc, cur, hv, _⟩
  · omega
  · simp at hv
    obtain ⟨rfl, rfl⟩ := hv
    obtain ⟨h1, h2⟩ := pcells_at qs i hil
    have hc1 : w.cell? ⟨g, i * 2, none⟩ = some (.int .i64 qs[i].1.1) := by
      rw [← h1]; exact h.own.cellAt (i * 2) (by omega)
    have hc2 : w.cell? ⟨g, i * 2 + 1, none⟩ = some (.slice qs[i].2.1 qs[i].1.2.length qs[i].2.2) := by
      rw [← h2]; exact h.own.cellAt (i * 2 + 1) (by omega)
    obtain ⟨r1, r2, r3, r4⟩ := h.rd qs[i] (List.getElem_mem hil)
    exact ⟨g, 0, qs[i].2.1, qs[i].2.2, rfl, World.block_lt_of_cell? w _ hc1, by rw [Nat.zero_add]; exact hc1, by rw [Nat.zero_add]; exact hc2, r1, r2, r3, r4⟩
section
variable {ops : Array Oper} {o : Oper} {a : Act} {w : World} {K : Act → World → Prop} {Q : Exit → Act → World → Prop} {E : Prop}
/-- One piece more, at a step of a region that draws its order. -/
theorem step_pc (hg : o.guard = none) (s x : Operand) (hop : o.op = Op.call { callee := Callee.builtin Builtin.append, args := #[s, x], argTypes := #[31, 31] })
    {w0 : World} {a1 : Option Addr} {l1 c1 : Nat} {qs : List PcQ} (hS : PcSt w0 w a1 l1 c1 qs) (hs : a.eval s = .slice a1 l1 c1)
    (g cx : Nat) (q : PcQ) (hx : a.eval x = .slice (some ⟨g, 0, none⟩) 1 cx) (h0 : w.cell? ⟨g, 0, none⟩ = some (.int .i64 q.1.1)) (h1 : w.cell? ⟨g, 1, none⟩ = some (.slice q.2.1 q.1.2.length q.2.2))
    (hrd : PcRd w q) (hap : ∀ x, q.2.1 = some x → x.block < w.heap.size ∧ (Value.slice a1 l1 c1).ownBlock ≠ some x.block) (hn : l1 ≤ 1000000)
    (hK : ∀ a2 c2 w', PcSt w0 w' a2 (l1 + 1) c2 (qs ++ [q]) → Kept (OwnB (Value.slice a1 l1 c1)) w w' → K (a.put o.dst (.slice a2 (l1 + 1) c2)) w') :
    if Region.wanted o (yielded ops a.tmps) = true then Oper.wp Tryd.prog o a w K Q else E := by
  have hw : Region.wanted o (yielded ops a.tmps) = true := by simp [Region.wanted, hg]
  rw [if_pos hw]
  obtain ⟨i0, hi, hz0, hz1, hz2⟩ := info_parts infoPc
  obtain ⟨v', w', hr, h2, h3, h4⟩ := run_app (P := Tryd.prog) w 30 31 o.type i0 (.agg #[.int .i64 0, .slice none 0 0]) 2 32 Tryd.underlying31 hi hz0 hz1 hz2 rfl (by decide) _ l1 (pcells qs) hS.own ⟨g, 0, none⟩ 1 cx [.int .i64 q.1.1, .slice q.2.1 q.1.2.length q.2.2] rfl (by
    intro j u hu
    rw [addr_add, Nat.zero_add]
    match j with
    | 0 => simp at hu; subst hu; exact h0
    | 1 => simp at hu; subst hu; exact h1
    | j + 2 => simp at hu) (by
    intro u hu
    simp at hu
    rcases hu with rfl | rfl <;> rfl) (by unfold maxLen; omega) (by omega)
  obtain ⟨a2, c2, rfl⟩ := kv_shape h2
  unfold Oper.wp execOp
  simp only [hop, resolve, invoke, builtin, Sem.run_bind, Sem.run_pure, Result.andThen_ok, List.map_toArray, List.map_cons, List.map_nil, hs, hx, hr]
  have hka : Kept (OwnB (Value.slice a1 l1 c1)) w w' := (Kept.refl _ w).grown h3 (fun k hk e => e)
  have hall : ∀ q2 ∈ qs ++ [q], PcRd w q2 ∧ ∀ x, q2.2.1 = some x → x.block < w.heap.size ∧ (Value.slice a1 l1 c1).ownBlock ≠ some x.block := by
    intro q2 hq
    rcases List.mem_append.1 hq with h | h
    · exact ⟨hS.rd q2 h, hS.ap q2 h⟩
    · simp at h; subst h; exact ⟨hrd, hap⟩
  refine hK _ _ _ ⟨by rw [List.length_append, hS.len]; rfl, by simpa [pcells] using h2, hS.kept.grown h3 (fun k hk e => by have := hS.fresh k e; omega), ?_, ?_, ?_⟩ hka
  · intro k hk
    rcases h4 k hk with h | h
    · exact hS.fresh k h
    · have := hS.kept.size; omega
  · intro q2 hq
    obtain ⟨⟨r1, r2⟩, h⟩ := hall q2 hq
    exact ⟨r1.kept hka (fun x hx e => (h x hx).2 e), r2⟩
  · intro q2 hq x hx
    obtain ⟨_, h⟩ := hall q2 hq
    obtain ⟨p1, p2⟩ := h x hx
    refine ⟨Nat.lt_of_lt_of_le p1 hka.size, fun e => ?_⟩
    rcases h4 _ e with h | h
    · exact p2 h
    · omega
end
/-- The pieces that spans tell of the bytes from a place on. -/
def cutsQ (sp : List (Int × Int)) (a : Nat) (b : List UInt8) : Option (List Pc) := if b.length < a then (if sp.all (fun s => decide (s.2 = 0)) then some [] else none) else cutsR sp (b.drop a)
theorem cutsP_Q (sp : List (Int × Int)) (a : Nat) (b : List UInt8) : cutsP sp a b = cutsQ sp (a + padN a) b := rfl
theorem cutsQ_nil (a : Nat) (b : List UInt8) : cutsQ [] a b = some [] := by unfold cutsQ; split <;> rfl
theorem cutsQ_zero (s : Int × Int) (sp : List (Int × Int)) (a : Nat) (b : List UInt8) (h : s.2 = 0) : cutsQ (s :: sp) a b = cutsQ sp a b := by
  unfold cutsQ
  split
  · have e : decide (s.2 = 0) = true := decide_eq_true h
    rw [List.all_cons, e, Bool.true_and]
  · rw [cutsR, if_pos h]
theorem cutsQ_no (s : Int × Int) (sp : List (Int × Int)) (a : Nat) (b : List UInt8) (h0 : s.2 ≠ 0) (h : s.2 < 0 ∨ b.length < a ∨ ((b.length : Int) - (a : Int)) < s.2) : cutsQ (s :: sp) a b = none := by
  unfold cutsQ
  split
  · simp [h0]
  · rw [cutsR, if_neg h0, if_pos (by rw [List.length_drop]; omega)]
theorem cutsQ_yes (s : Int × Int) (sp : List (Int × Int)) (a k : Nat) (b : List UInt8) (h0 : s.2 = (k : Int)) (hk : k ≠ 0) (h : a + k ≤ b.length) :
    cutsQ (s :: sp) a b = match cutsQ sp (a + k) b with | none => none | some l => some ((s.1, (b.drop a).take k) :: l) := by
  unfold cutsQ
  rw [if_neg (by omega), if_neg (by omega), cutsR, if_neg (by omega), if_neg (by rw [List.length_drop]; omega), h0]
  simp only [Int.toNat_natCast, List.drop_drop]
  cases cutsR sp (List.drop (a + k) b) with
  | none => rfl
  | some l => rfl
/-- What is told behind what is told already. -/
def andS {α β : Type} (l : List α) : Option (List α × β) → Option (List α × β)
  | none => none
  | some (m, r) => some (l ++ m, r)
def andL {α : Type} (l : List α) : Option (List α) → Option (List α)
  | none => none
  | some m => some (l ++ m)
theorem spansR_step (k : Nat) (b b1 b2 : List UInt8) (x y : Int) (h1 : lineS b = some (x, b1)) (h2 : lineS b1 = some (y, b2)) : spansR (k + 1) b = andS [(x, y)] (spansR k b2) := by
  rw [spansR, h1]
  simp only [h2]
  cases spansR k b2 with
  | none => rfl
  | some p => rfl
theorem andS_andS {α β : Type} (l m : List α) (o : Option (List α × β)) : andS l (andS m o) = andS (l ++ m) o := by
  cases o with
  | none => rfl
  | some p => simp [andS]
theorem andL_andL {α : Type} (l m : List α) (o : Option (List α)) : andL l (andL m o) = andL (l ++ m) o := by
  cases o with
  | none => rfl
  | some p => simp [andL]
end Go.Proofs.YtbambcondcikbaaDoor
