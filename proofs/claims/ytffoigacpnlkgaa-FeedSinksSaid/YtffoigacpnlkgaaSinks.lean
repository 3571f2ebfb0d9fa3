/-
  A sink and a counter beside it; what is written to one leaves the other as it was.
-/
import Derived.Test.YtffoigacpnlkgaaFeedE
import Derived.Test.YtffoigacpnlkgaaLawFeedPieces
namespace Go.Proofs.Ytffoigacpnlkgaa
open Go.RowKit
set_option linter.unusedVariables false
set_option linter.unusedSimpArgs false

structure Snks (w0 w : World) (K : Nat) (ak : Option Addr) (ck : Nat) (bk : List Int) (C : Nat) (ac : Option Addr) (cc : Nat) (bc : List Int) (m n : Nat) : Prop where
  k : ∃ cs, Snk w 94 cs K w0.heap.size ak ck bk m
  c : Ctr w C w0.heap.size ac cc bc m n
  ne : K ≠ C
  ab : ∀ x, (Value.slice ak bk.length ck).ownBlock = some x → (Value.slice ac bc.length cc).ownBlock ≠ some x
  bel : Below w0.heap.size w0 w
variable {w0 w w' : World} {K : Nat} {ak : Option Addr} {ck : Nat} {bk : List Int} {C : Nat} {ac : Option Addr} {cc : Nat} {bc : List Int} {m n : Nat}
theorem Snks.keptNo (h : Snks w0 w K ak ck bk C ac cc bc m n) (hk : Kept NoB w w') : Snks w0 w' K ak ck bk C ac cc bc m n :=
  ⟨(h.k.elim fun cs hc => ⟨cs, hc.keptNo hk⟩), ⟨h.c.snk.keptNo hk, h.c.nl⟩, h.ne, h.ab, hk.belowNo h.bel⟩
/-- Both parts of a row that was made now, behind whatever writes nothing below. -/
theorem row_parts {S : Nat → Prop} {W0 W W' : World} {r pc qc : Nat} {pa qa : Option Addr} {p q : List Int} (hb : Below w0.heap.size w0 W0) (hr : W0.heap.size ≤ r) (hk : Kept NoB W0 W)
    (h0 : W.cell? ⟨r, 0, none⟩ = some (.slice pa p.length pc)) (h1 : W.cell? ⟨r, 1, none⟩ = some (.slice qa q.length qc)) (hp : Reads w0 pa p) (hq : Reads w0 qa q)
    (hpc : p.length ≤ pc ∧ pc ≤ maxLen ∧ (pa = none → pc = 0)) (hqc : q.length ≤ qc ∧ qc ≤ maxLen ∧ (qa = none → qc = 0)) (hs : ∀ k, S k → w0.heap.size ≤ k ∧ k < W0.heap.size) (hk' : Kept S W W') :
    Parts W' (some ⟨r, 0, none⟩) [p, q] := by
  have hb' := hk'.below (hk.belowNo hb) (fun k hk => (hs k hk).1)
  have hrS : ¬ S r := fun e => by have := (hs r e).2; omega
  have cl : ∀ i v, W.cell? ⟨r, i, none⟩ = some v → W'.cell? ⟨r, i, none⟩ = some v := fun i v hv => (World.cell?_of_block (hk'.block r (World.block_lt_of_cell? W _ hv) hrS)).trans hv
  exact two_parts (cl 0 _ h0) (cl 1 _ h1) (hp.below hb') (hq.below hb') rfl rfl hpc hqc
theorem Snks.writeK (h : Snks w0 w K ak ck bk C ac cc bc m n) {r pc qc x : Nat} {pa qa : Option Addr} {p q : List Int} (hr : w.heap.size ≤ r) (hp : Reads w0 pa p) (hq : Reads w0 qa q) (hpa : AllB p) (hqa : AllB q)
    (hpc : p.length ≤ pc ∧ pc ≤ maxLen ∧ (pa = none → pc = 0)) (hqc : q.length ≤ qc ∧ qc ≤ maxLen ∧ (qa = none → qc = 0)) (hsm : bk.length + p.length + q.length ≤ 1000000) (hx : (x : Int) = (fill bk m [p, q]).length - bk.length)
    (W : World) (hk : Kept NoB w W) (h0 : W.cell? ⟨r, 0, none⟩ = some (.slice pa p.length pc)) (h1 : W.cell? ⟨r, 1, none⟩ = some (.slice qa q.length qc)) :
    Calls Try.prog 49 #[.pointer (some ⟨K, 0, none⟩), .slice (some ⟨r, 0, none⟩) 2 2] W fun e W' => e = .returned (.int .i64 x) ∧ ∃ ak' ck', Hid (Snks w0 W' K ak' ck' (fill bk m [p, q]) C ac cc bc m n) := by
  obtain ⟨cs, hS⟩ := h.k
  have hKl := obj_lt hS.obj
  have hs : ∀ k, OrB (OneB K) (OwnB (.slice ak bk.length ck)) k → w0.heap.size ≤ k ∧ k < w.heap.size := by
    intro k e
    rcases e with e | e
    · unfold OneB at e; have := hS.low; omega
    · exact ⟨hS.fr k e, (hS.own.lt k e).2⟩
  refine (swrite_any W (hS.keptNo hk) (some ⟨r, 0, none⟩) 2 2 [p, q] rfl (by intro y hy; simp at hy; rcases hy with rfl | rfl <;> assumption) (fun W' hk' => row_parts h.bel hr hk h0 h1 hp hq hpc hqc hs hk') (by simp; omega) (by decide)).mono ?_
  rintro e W' ⟨rfl, cs', ak', ck', hS', _, _, hK', hO'⟩
  rw [← hx]
  have hs' : ∀ k, OrB (OneB K) (OwnB (.slice ak bk.length ck)) k → k ≠ C ∧ (Value.slice ac bc.length cc).ownBlock ≠ some k := by
    intro k e
    rcases e with e | e
    · unfold OneB at e
      subst e
      exact ⟨h.ne, fun e => row_ne h.c.snk.own hS.obj (by decide) _ e rfl⟩
    · exact ⟨fun e' => row_ne hS.own h.c.snk.obj (by decide) _ e e', h.ab k e⟩
  refine ⟨rfl, ak', ck', ⟨⟨cs', hS'⟩, ⟨(h.c.snk.keptNo hk).kept hK' (fun e => (hs' C e).1 rfl) (fun k hk e => (hs' k e).2 hk), h.c.nl⟩, h.ne, ?_, hK'.below (hk.belowNo h.bel) (fun k e => (hs k e).1)⟩⟩
  intro k hk1 hk2
  rcases hO' k hk1 with e | e
  · exact h.ab k e hk2
  · have := (h.c.snk.own.lt k hk2).2; have := hk.size; omega
theorem Snks.writeC (h : Snks w0 w K ak ck bk C ac cc bc m n) (hn : n < 1000000) {r pc qc x n' : Nat} {pa qa : Option Addr} {p q : List Int} (hr : w.heap.size ≤ r) (hp : Reads w0 pa p) (hq : Reads w0 qa q) (hpa : AllB p) (hqa : AllB q)
    (hpc : p.length ≤ pc ∧ pc ≤ maxLen ∧ (pa = none → pc = 0)) (hqc : q.length ≤ qc ∧ qc ≤ maxLen ∧ (qa = none → qc = 0)) (hsm : bc.length + p.length + q.length ≤ 1000000) (hx : (x : Int) = (fill bc m [p, q]).length - bc.length) (hn' : n' = if x = 0 then n else n + 1)
    (W : World) (hk : Kept NoB w W) (h0 : W.cell? ⟨r, 0, none⟩ = some (.slice pa p.length pc)) (h1 : W.cell? ⟨r, 1, none⟩ = some (.slice qa q.length qc)) :
    Calls Try.prog 76 #[.pointer (some ⟨C, 0, none⟩), .slice (some ⟨r, 0, none⟩) 2 2] W fun e W' => e = .returned (.int .i64 x) ∧ ∃ ac' cc', Hid (Snks w0 W' K ak ck bk C ac' cc' (fill bc m [p, q]) m n') := by
  obtain ⟨cs, hS⟩ := h.k
  have hC := h.c.snk
  have hCl := obj_lt hC.obj
  have hs : ∀ k, OrB (OneB C) (OwnB (.slice ac bc.length cc)) k → w0.heap.size ≤ k ∧ k < w.heap.size := by
    intro k e
    rcases e with e | e
    · unfold OneB at e; have := hC.low; omega
    · exact ⟨hC.fr k e, (hC.own.lt k e).2⟩
  refine (cwrite_any W ⟨hC.keptNo hk, h.c.nl⟩ hn (some ⟨r, 0, none⟩) 2 2 [p, q] rfl (by intro y hy; simp at hy; rcases hy with rfl | rfl <;> assumption) (fun W' hk' => row_parts h.bel hr hk h0 h1 hp hq hpc hqc hs hk') (by simp; omega) (by decide) x hx n' hn').mono ?_
  rintro e W' ⟨rfl, ac', cc', hC', hK', hO'⟩
  have hs' : ∀ k, OrB (OneB C) (OwnB (.slice ac bc.length cc)) k → k ≠ K ∧ (Value.slice ak bk.length ck).ownBlock ≠ some k := by
    intro k e
    rcases e with e | e
    · unfold OneB at e
      subst e
      exact ⟨fun e => h.ne e.symm, fun e => row_ne hS.own hC.obj (by decide) _ e rfl⟩
    · exact ⟨fun e' => row_ne hC.own hS.obj (by decide) _ e e', fun e' => h.ab k e' e⟩
  refine ⟨rfl, ac', cc', ⟨⟨cs, (hS.keptNo hk).kept hK' (fun e => (hs' K e).1 rfl) (fun k hk e => (hs' k e).2 hk)⟩, hC', h.ne, ?_, hK'.below (hk.belowNo h.bel) (fun k e => (hs k e).1)⟩⟩
  intro k hk1 hk2
  rcases hO' k hk2 with e | e
  · exact h.ab k hk1 e
  · have := (hS.own.lt k hk1).2; have := hk.size; omega
theorem fill_two (bs : List Int) (m : Nat) (p q : List Int) (hb : bs.length ≤ m) (x : Nat) (hx : (x : Int) = if (m : Int) - bs.length < (p.length : Int) + q.length then (m : Int) - bs.length else (p.length : Int) + q.length) :
    fill bs m [p, q] = bs ++ (p ++ q).take x ∧ ((fill bs m [p, q]).length : Int) - bs.length = x ∧ x ≤ p.length + q.length := by
  have e : (p ++ q).take (m - bs.length) = (p ++ q).take x := by
    by_cases h : (m : Int) - bs.length < (p.length : Int) + q.length
    · rw [if_pos h] at hx
      rw [show m - bs.length = x from by omega]
    · rw [if_neg h] at hx
      rw [List.take_of_length_le (by rw [List.length_append]; omega), List.take_of_length_le (by rw [List.length_append]; omega)]
  have hxl : x ≤ p.length + q.length := by split at hx <;> omega
  have hf : fill bs m [p, q] = bs ++ (p ++ q).take x := by
    unfold fill
    rw [← e, List.take_append, List.take_of_length_le hb]
    simp
  refine ⟨hf, ?_, hxl⟩
  rw [hf, List.length_append, List.length_take, List.length_append]
  omega
end Go.Proofs.Ytffoigacpnlkgaa
