/-
  A row of numbers of the call's own that grows.
-/
import Derived.Test.YtbambcondcikbaaDoorInts
import Derived.Test.YtbambcondcikbaaDoorKit
namespace Go.Proofs.YtbambcondcikbaaDoor
open Go.RowKit
set_option linter.unusedVariables false
set_option linter.unusedSimpArgs false

/-- A row of numbers of the call's own. -/
structure IntSt (w0 w : World) (a : Option Addr) (l c : Nat) (zs : List Int) : Prop where
  len : l = zs.length
  own : w.ownsRow 0 3 1 (.slice a l c) l (zs.map (.int .i64))
  kept : Kept NoB w0 w
  fresh : ∀ k, (Value.slice a l c).ownBlock = some k → w0.heap.size ≤ k
theorem IntSt.app {w0 wr w2 : World} {a' a2 : Option Addr} {c' c2 len : Nat} {zs : List Int} {x : Int} {o : Obj} (h : IntSt w0 wr a' len c' zs)
    (hown : w2.ownsRow 0 3 1 (.slice a2 (len + 1) c2) (len + 1) (zs.map (.int .i64) ++ [.int .i64 x])) (hgrow : (wr.alloc o).grownBy w2 (Value.slice a' len c').ownBlock)
    (hnew : ∀ k, (Value.slice a2 (len + 1) c2).ownBlock = some k → (Value.slice a' len c').ownBlock = some k ∨ wr.heap.size + 1 ≤ k) : IntSt w0 w2 a2 (len + 1) c2 (zs ++ [x]) := by
  refine ⟨by rw [h.len]; simp, ?_, ?_, ?_⟩
  · rw [List.map_append]; exact hown
  · exact (h.kept.alloc o).grown hgrow (fun k hk e => by have := h.fresh k e; omega)
  · intro k hk
    rcases hnew k hk with h1 | h1
    · exact h.fresh k h1
    · have := h.kept.size; omega
theorem IntSt.reads {w0 w : World} {a : Option Addr} {l c : Nat} {zs : List Int} (h : IntSt w0 w a l c zs) : RdI w w.heap.size a zs := by
  have hl := h.len
  intro i hi
  rcases h.own.2 with ⟨_, hz⟩ | ⟨g, cc, cur, hv, _⟩
  · omega
  · simp at hv
    obtain ⟨rfl, rfl⟩ := hv
    have hc : w.cell? ⟨g, i, none⟩ = some (.int .i64 (zs.getD i 0)) := by
      rw [h.own.cellAt i (by omega)]; simp [List.getD, hi]
    exact ⟨g, 0, rfl, World.block_lt_of_cell? w _ hc, by rw [Nat.zero_add]; exact hc⟩
theorem IntSt.nil (w : World) : IntSt w w none 0 0 [] := ⟨rfl, World.ownsRow_nil _ _ _ _, Kept.refl _ _, fun k hk => by simp [Value.ownBlock] at hk⟩
theorem IntSt.drewN {w0 w : World} {a : Option Addr} {l c : Nat} {zs : List Int} (h : IntSt w0 w a l c zs) (n : Nat) : IntSt w0 (w.drewN n) a l c zs := ⟨h.len, (Kept.refl NoB w).drewN n |>.row h.own (fun _ _ h => h), h.kept.drewN n, h.fresh⟩
theorem rd_new (w : World) (ws : List Int) (cs : Array Value) (h : cs = (ws.map (Value.int .i64)).toArray) : RdI (w.alloc (.cells cs 3)) (w.heap.size + 1) (some ⟨w.heap.size, 0, none⟩) ws := by
  intro i hi
  refine ⟨w.heap.size, 0, rfl, by omega, ?_⟩
  rw [Nat.zero_add, cell_new (k := w.heap.size) i rfl, h]
  simp [List.getD, hi]
theorem RdI.keptNo {w w' : World} {B : Nat} {ao : Option Addr} {zs : List Int} (h : RdI w B ao zs) (hk : Kept NoB w w') : RdI w' B ao zs := h.kept hk (fun _ _ h => h)
end Go.Proofs.YtbambcondcikbaaDoor
