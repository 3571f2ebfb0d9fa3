/-
  Two rows of the call's own side by side: pieces without bytes, and numbers.
-/
import Derived.Test.YtbambcondcikbaaDoorRMapE
import Derived.Test.YtbambcondcikbaaDoorIntSt
import Derived.Test.YtbambcondcikbaaDoorLawSparseBounds
namespace Go.Proofs.YtbambcondcikbaaDoor
open Go.RowKit
set_option linter.unusedVariables false
set_option linter.unusedSimpArgs false
set_option maxRecDepth 20000

theorem infoI : (Tryd.prog.info? 3).map (fun i => (i.zero, i.size, i.bytes)) = some (some (.int .i64 0), 1, 8) := by kernel_rfl
def bareP (sp : List (Int × Int)) : List PcQ := sp.map fun s => ((s.1, []), (none, 0))
def longI (sp : List (Int × Int)) : List Int := sp.map fun s => s.2
structure TwoRow (w0 w : World) (a1 : Option Addr) (c1 : Nat) (a2 : Option Addr) (c2 : Nat) (i : Nat) (sp : List (Int × Int)) : Prop where
  p : PcSt w0 w a1 i c1 (bareP sp)
  z : IntSt w0 w a2 i c2 (longI sp)
  df : ∀ k, (Value.slice a1 i c1).ownBlock = some k → (Value.slice a2 i c2).ownBlock ≠ some k
theorem int_low {w0 w : World} {a : Option Addr} {l c : Nat} {zs : List Int} (h : IntSt w0 w a l c zs) : ∀ k, (Value.slice a l c).ownBlock = some k → k < w.heap.size := by
  intro k hk
  rcases h.own.2 with ⟨hv, hz⟩ | ⟨g, cc, cur, hv, _, hg, _⟩
  · simp at hv
    obtain ⟨rfl, _⟩ := hv
    simp [Value.ownBlock] at hk
  · simp at hv
    obtain ⟨rfl, _⟩ := hv
    simp [Value.ownBlock] at hk
    subst hk
    first | exact (Array.getElem?_eq_some_iff.1 hg).1 | assumption
theorem IntSt.onNo {w0 w w' : World} {a : Option Addr} {l c : Nat} {zs : List Int} (h : IntSt w0 w a l c zs) (hk : Kept NoB w w') : IntSt w0 w' a l c zs :=
  ⟨h.len, hk.row h.own (fun _ _ h => h), h.kept.trans hk, h.fresh⟩
theorem TwoRow.on {w0 w w' : World} {a1 a2 : Option Addr} {c1 c2 i : Nat} {sp : List (Int × Int)} (h : TwoRow w0 w a1 c1 a2 c2 i sp) (hk : Kept NoB w w') : TwoRow w0 w' a1 c1 a2 c2 i sp := ⟨h.p.on hk, h.z.onNo hk, h.df⟩
theorem TwoRow.nil {w0 w : World} (hk : Kept NoB w0 w) : TwoRow w0 w none 0 none 0 0 [] := ⟨PcSt.start hk, ⟨rfl, World.ownsRow_nil _ _ _ _, hk, (fun k hk => by simp [Value.ownBlock] at hk)⟩, (fun k hk => by simp [Value.ownBlock] at hk)⟩
/-- Between the two appends. -/
structure TwoMid (w0 w : World) (a1 : Option Addr) (c1 : Nat) (a2 : Option Addr) (c2 : Nat) (i : Nat) (sp : List (Int × Int)) (s : Int × Int) : Prop where
  p : PcSt w0 w a1 (i + 1) c1 (bareP (sp ++ [s]))
  z : IntSt w0 w a2 i c2 (longI sp)
  df : ∀ k, (Value.slice a1 (i + 1) c1).ownBlock = some k → (Value.slice a2 i c2).ownBlock ≠ some k
theorem TwoMid.on {w0 w w' : World} {a1 a2 : Option Addr} {c1 c2 i : Nat} {sp : List (Int × Int)} {s : Int × Int} (h : TwoMid w0 w a1 c1 a2 c2 i sp s) (hk : Kept NoB w w') : TwoMid w0 w' a1 c1 a2 c2 i sp s := ⟨h.p.on hk, h.z.onNo hk, h.df⟩
theorem wpList_two1 {ops : Array Oper} {rest : List Oper} {o : Oper} {act : Act} {w : World} {Q : Exit → Act → World → Prop} (hgd : o.guard = none) (s x : Operand)
    (ho : o.op = .call { callee := .builtin .append, args := #[s, x], argTypes := #[31, 31] })
    {w0 : World} {a1 a2 : Option Addr} {c1 c2 i : Nat} {sp : List (Int × Int)} (hS : TwoRow w0 w a1 c1 a2 c2 i sp) (hs : act.eval s = .slice a1 i c1)
    (g cx : Nat) (y : Int × Int) (hx : act.eval x = .slice (some ⟨g, 0, none⟩) 1 cx) (h0 : w.cell? ⟨g, 0, none⟩ = some (.int .i64 y.1)) (h1 : w.cell? ⟨g, 1, none⟩ = some (.slice none 0 0)) (hn : i ≤ 1000000)
    (h : ∀ a3 c3 w', TwoMid w0 w' a3 c3 a2 c2 i sp y → wpList Tryd.prog ops Q rest (act.put o.dst (.slice a3 (i + 1) c3)) w') : wpList Tryd.prog ops Q (o :: rest) act w := by
  obtain ⟨i0, hi, hz0, hz1, hz2⟩ := info_parts infoPc
  refine wpList_app w hgd s x 31 ho 30 i0 (.agg #[.int .i64 0, .slice none 0 0]) 2 32 Tryd.underlying31 hi hz0 hz1 hz2 rfl (by decide) _ i (pcells (bareP sp)) hs hS.p.own ⟨g, 0, none⟩ 1 cx [.int .i64 y.1, .slice none 0 0] hx rfl ?_ ?_ (by unfold maxLen; omega) (by omega) ?_
  · intro j u hu
    rw [addr_add, Nat.zero_add]
    match j with
    | 0 => simp at hu; subst hu; exact h0
    | 1 => simp at hu; subst hu; exact h1
    | j + 2 => simp at hu
  · intro u hu
    simp at hu
    rcases hu with rfl | rfl <;> rfl
  intro v' w' h2 h3 h4
  obtain ⟨a3, c3, rfl⟩ := kv_shape h2
  have hka : Kept (OwnB (Value.slice a1 i c1)) w w' := (Kept.refl _ w).grown h3 (fun k hk e => e)
  have hb : bareP (sp ++ [y]) = bareP sp ++ [((y.1, []), (none, 0))] := by simp [bareP]
  have hall : ∀ q2 ∈ bareP (sp ++ [y]), q2.2 = (none, 0) ∧ q2.1.2 = [] := by
    intro q2 hq
    obtain ⟨s, _, rfl⟩ := List.mem_map.1 hq
    exact ⟨rfl, rfl⟩
  refine h _ _ _ ⟨⟨by rw [hb, List.length_append, ← hS.p.len]; rfl, by rw [hb]; simpa [pcells] using h2, hS.p.kept.grown h3 (fun k hk e => by have := hS.p.fresh k e; omega), ?_, ?_, ?_⟩, ⟨hS.z.len, hka.row hS.z.own (fun k hk e => hS.df k e hk), hS.p.kept.grown h3 (fun k hk e => by have := hS.p.fresh k e; omega), hS.z.fresh⟩, ?_⟩
  · intro k hk
    rcases h4 k hk with h | h
    · exact hS.p.fresh k h
    · have := hS.p.kept.size; omega
  · intro q2 hq
    obtain ⟨e1, e2⟩ := hall q2 hq
    refine ⟨?_, ?_, ?_, ?_⟩
    · rw [e1, e2]; exact ⟨fun _ => rfl, fun x hx => by cases hx⟩
    · intro _; rw [e1]
    · rw [e1, e2]; exact Nat.le_refl _
    · rw [e1]; exact Nat.zero_le _
  · intro q2 hq x hx
    rw [(hall q2 hq).1] at hx
    cases hx
  · intro k hk e
    rcases h4 k hk with h | h
    · exact hS.df k h e
    · have := int_low hS.z k e; omega
theorem wpList_two2 {ops : Array Oper} {rest : List Oper} {o : Oper} {act : Act} {w : World} {Q : Exit → Act → World → Prop} (hgd : o.guard = none) (s x : Operand)
    (ho : o.op = .call { callee := .builtin .append, args := #[s, x], argTypes := #[45, 45] })
    {w0 : World} {a1 a2 : Option Addr} {c1 c2 i : Nat} {sp : List (Int × Int)} (y : Int × Int) (hS : TwoMid w0 w a1 c1 a2 c2 i sp y) (hs : act.eval s = .slice a2 i c2)
    (g cx : Nat) (hx : act.eval x = .slice (some ⟨g, 0, none⟩) 1 cx) (h0 : w.cell? ⟨g, 0, none⟩ = some (.int .i64 y.2)) (hn : i ≤ 1000000)
    (h : ∀ a3 c3 w', TwoRow w0 w' a1 c1 a3 c3 (i + 1) (sp ++ [y]) → wpList Tryd.prog ops Q rest (act.put o.dst (.slice a3 (i + 1) c3)) w') : wpList Tryd.prog ops Q (o :: rest) act w := by
  obtain ⟨i0, hi, hz0, hz1, hz2⟩ := info_parts infoI
  refine wpList_app w hgd s x 45 ho 3 i0 (.int .i64 0) 1 8 Tryd.underlying45 hi hz0 hz1 hz2 rfl (by decide) _ i ((longI sp).map (.int .i64)) hs hS.z.own ⟨g, 0, none⟩ 1 cx [.int .i64 y.2] hx rfl ?_ ?_ (by unfold maxLen; omega) (by omega) ?_
  · intro j u hu
    rw [addr_add, Nat.zero_add]
    match j with
    | 0 => simp at hu; subst hu; exact h0
    | j + 1 => simp at hu
  · intro u hu
    simp at hu
    subst hu; rfl
  intro v' w' h2 h3 h4
  obtain ⟨a3, c3, rfl⟩ := kv_shape h2
  have hka : Kept (OwnB (Value.slice a2 i c2)) w w' := (Kept.refl _ w).grown h3 (fun k hk e => e)
  have hb : longI (sp ++ [y]) = longI sp ++ [y.2] := by simp [longI]
  have hall : ∀ q2 ∈ bareP (sp ++ [y]), q2.2 = (none, 0) ∧ q2.1.2 = [] := by
    intro q2 hq
    obtain ⟨s, _, rfl⟩ := List.mem_map.1 hq
    exact ⟨rfl, rfl⟩
  have hk0 : Kept NoB w0 w' := hS.z.kept.grown h3 (fun k hk e => by have := hS.z.fresh k e; omega)
  refine h _ _ _ ⟨⟨hS.p.len, hka.row hS.p.own (fun k hk e => hS.df k hk e), hk0, hS.p.fresh, ?_, ?_⟩, ⟨by rw [hb, List.length_append, ← hS.z.len]; rfl, by rw [hb, List.map_append]; simpa using h2, hk0, ?_⟩, ?_⟩
  · intro q2 hq
    obtain ⟨e1, e2⟩ := hall q2 hq
    refine ⟨?_, ?_, ?_, ?_⟩
    · rw [e1, e2]; exact ⟨fun _ => rfl, fun x hx => by cases hx⟩
    · intro _; rw [e1]
    · rw [e1, e2]; exact Nat.le_refl _
    · rw [e1]; exact Nat.zero_le _
  · intro q2 hq x hx
    rw [(hall q2 hq).1] at hx
    cases hx
  · intro k hk
    rcases h4 k hk with h | h
    · exact hS.z.fresh k h
    · have := hS.z.kept.size; omega
  · intro k hk e
    rcases h4 k e with h | h
    · exact hS.df k hk h
    · have := pc_low hS.p k hk; omega
end Go.Proofs.YtbambcondcikbaaDoor
