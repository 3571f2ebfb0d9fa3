/-
  Rows of bytes of the call's own that grow (for a seat without strings: out of XBytB); a row that is read.
-/
import Derived.Test.YtifoldonmmobpaaDoorMatD
namespace Go.Proofs.YtifoldonmmobpaaDoor
open Go.RowKit
set_option linter.unusedVariables false
set_option linter.unusedSimpArgs false
set_option maxRecDepth 20000

/-- Bytes as cells, and as numbers. -/
def bc (L : List UInt8) : List Value := L.map fun b => Value.int .u8 (b.toNat : Int)
def nb (L : List UInt8) : List Int := L.map fun b => (b.toNat : Int)
theorem bc_nb (L : List UInt8) : bc L = (nb L).map (.int .u8) := by simp [bc, nb]
theorem nb_len (L : List UInt8) : (nb L).length = L.length := by simp [nb]
theorem nb_all (L : List UInt8) : AllB (nb L) := by
  intro b hb
  obtain ⟨c, _, rfl⟩ := List.mem_map.1 hb
  have := UInt8.toNat_lt c
  omega
/-- Numbers that are bytes, as bytes. -/
def un (xs : List Int) : List UInt8 := xs.map fun n => UInt8.ofNat n.toNat
theorem nb_un {xs : List Int} (h : AllB xs) : nb (un xs) = xs := by
  unfold nb un
  rw [List.map_map]
  conv => rhs; rw [← List.map_id xs]
  apply List.map_congr_left
  intro x hx
  have := h x hx
  simp only [Function.comp_apply, id_eq, UInt8.toNat_ofNat']
  omega

/-- A row of bytes of the call's own. -/
structure BySt (w0 w : World) (a : Option Addr) (l c : Nat) (L : List UInt8) : Prop where
  len : l = L.length
  own : w.ownsRow 0 5 1 (.slice a l c) l (bc L)
  kept : Kept NoB w0 w
  fresh : ∀ k, (Value.slice a l c).ownBlock = some k → w0.heap.size ≤ k
theorem BySt.nil (w : World) : BySt w w none 0 0 [] := ⟨rfl, World.ownsRow_nil _ _ _ _, Kept.refl _ _, fun k hk => by simp [Value.ownBlock] at hk⟩
theorem BySt.on {w0 w w' : World} {a : Option Addr} {l c : Nat} {L : List UInt8} (h : BySt w0 w a l c L) (hk : Kept NoB w w') : BySt w0 w' a l c L := ⟨h.len, hk.row h.own (fun _ _ h => h), h.kept.trans hk, h.fresh⟩
theorem BySt.reads {w0 w : World} {a : Option Addr} {l c : Nat} {L : List UInt8} (h : BySt w0 w a l c L) : Reads w a (nb L) := by
  have ho := h.own
  have hl := h.len
  subst hl
  rw [bc_nb] at ho
  have e := nb_len L
  rw [← e] at ho
  exact own_reads ho rfl
theorem BySt.cap {w0 w : World} {a : Option Addr} {l c : Nat} {L : List UInt8} (h : BySt w0 w a l c L) : l ≤ c ∧ c ≤ maxLen ∧ (a = none → c = 0) := ⟨(own_cap h.own).1, (own_cap h.own).2, own_nil h.own⟩
theorem kv_shape {w : World} {base e s : Nat} {v : Value} {n : Nat} {xs : List Value} (h : w.ownsRow base e s v n xs) : ∃ ao cap, v = .slice ao n cap := by
  rcases h.2 with ⟨rfl, rfl⟩ | ⟨g, cap, cur, rfl, _⟩
  · exact ⟨none, 0, rfl⟩
  · exact ⟨_, cap, rfl⟩
theorem BySt.grow {w0 w w' : World} {a : Option Addr} {l c n : Nat} {L M : List UInt8} {v : Value} (h : BySt w0 w a l c L) (ho : w'.ownsRow 0 5 1 v (l + n) (bc L ++ bc M)) (hn : n = M.length) (hg : w.grownBy w' (Value.slice a l c).ownBlock)
    (hf : ∀ k, v.ownBlock = some k → (Value.slice a l c).ownBlock = some k ∨ w.heap.size ≤ k) : ∃ a2 c2, v = .slice a2 (l + n) c2 ∧ BySt w0 w' a2 (l + n) c2 (L ++ M) := by
  obtain ⟨a2, c2, rfl⟩ := kv_shape ho
  refine ⟨a2, c2, rfl, by rw [List.length_append, h.len, hn], by simpa [bc] using ho, h.kept.grown hg (fun k hk e => by have := h.fresh k e; omega), ?_⟩
  intro k hk
  rcases hf k hk with e | e
  · exact h.fresh k e
  · have := h.kept.size; omega
theorem wpList_by_row {w : World} {ops : Array Oper} {rest : List Oper} {o : Oper} {act : Act} {Q : Exit → Act → World → Prop} (hgd : o.guard = none) (s x : Operand)
    (ho : o.op = .call { callee := .builtin .append, args := #[s, x], argTypes := #[22, 22] })
    {w0 : World} {a : Option Addr} {l c : Nat} {L : List UInt8} (hS : BySt w0 w a l c L) (hs : act.eval s = .slice a l c) (ad : Addr) (cx m : Nat) (M : List UInt8) (hm : m = M.length) (hx : act.eval x = .slice (some ad) m cx) (hr : Reads w (some ad) (nb M)) (hn : l + m ≤ 100000000)
    (h : ∀ a2 c2 w', BySt w0 w' a2 (l + m) c2 (L ++ M) → wpList Tryd.prog ops Q rest (act.put o.dst (.slice a2 (l + m) c2)) w') : wpList Tryd.prog ops Q (o :: rest) act w := by
  obtain ⟨i0, hi, hz0, hz1, hz2⟩ := info_parts info5
  refine wpList_app w hgd s x 22 ho 5 i0 (.int .u8 0) 1 1 Tryd.underlying22 hi hz0 hz1 hz2 rfl (by decide) _ l (bc L) hs hS.own ad m cx (bc M) hx (by simp [bc, hm]) ?_ ?_ (by unfold maxLen; omega) (by omega) ?_
  · rw [bc_nb]; exact reads_news hr
  · rw [bc_nb]; exact news_one _
  intro v' w' h2 h3 h4
  obtain ⟨a2, c2, rfl, hb⟩ := hS.grow h2 hm h3 h4
  exact h _ _ _ hb

/-- An own row, as what reads it asks. -/
theorem BySt.rowB {w0 w : World} {a : Option Addr} {l c : Nat} {L : List UInt8} (h : BySt w0 w a l c L) : RowB w w.heap.size a L := fun hl => by
  have hn := h.len
  rcases h.own.2 with ⟨_, hz⟩ | ⟨g, cc, cur, hv, _⟩
  · omega
  · simp at hv
    obtain ⟨rfl, rfl⟩ := hv
    have hc : ∀ i, i < L.length → w.cell? ⟨g, i, none⟩ = some (.int .u8 ((L.getD i 0).toNat : Int)) := fun i hi => by
      rw [h.own.cellAt i (by omega), bc, List.getElem?_map, List.getElem?_eq_getElem hi]
      simp [List.getD, hi]
    refine ⟨g, 0, rfl, block_lt_of_cell (hc 0 hl), fun i hi => ?_⟩
    rw [Nat.zero_add]
    exact hc i hi
end Go.Proofs.YtifoldonmmobpaaDoor
