/-
  A tree of files and a row of texts beside it.
-/
import Derived.Test.YtilndmmjdbhmgaaAwake13
namespace Go.Proofs.Ytilndmmjdbhmgaa
open Go.RowKit
set_option linter.unusedVariables false
set_option linter.unusedSimpArgs false

theorem infoStr : (Try.prog.info? 9).map (fun i => (i.zero, i.size, i.bytes)) = some (some (.string ⟨#[]⟩), 1, 16) := by kernel_rfl
/-- A tree, and a row of texts that is apart from it; both were made since w. -/
structure TrTxt (w W : World) (f : Nat) (T : FsP) (a : Option Addr) (l c : Nat) (zs : List (List UInt8)) : Prop where
  st : ∃ S : Nat → Prop, FsSt S W f T ∧ (∀ k, S k → w.heap.size ≤ k ∧ k < W.heap.size) ∧ ∀ k, (Value.slice a l c).ownBlock = some k → ¬ S k
  row : W.ownsRow 0 9 1 (.slice a l c) l (zs.map (fun s => .string (strB s)))
  fresh : ∀ k, (Value.slice a l c).ownBlock = some k → w.heap.size ≤ k
  keep : Kept NoB w W
  len : l = zs.length
theorem TrTxt.kept {w W W' : World} {f : Nat} {T : FsP} {a : Option Addr} {l c : Nat} {zs : List (List UInt8)} (h : TrTxt w W f T a l c zs) (hk : Kept NoB W W') : TrTxt w W' f T a l c zs := by
  obtain ⟨S, h1, h2, h3⟩ := h.st
  exact ⟨⟨S, h1.keptNo hk, fun k e => ⟨(h2 k e).1, Nat.lt_of_lt_of_le (h2 k e).2 hk.size⟩, h3⟩, hk.row h.row (fun _ _ e => e), h.fresh, h.keep.trans hk, h.len⟩
/-- A call that changes the tree alone. -/
theorem TrTxt.call {w W : World} {f : Nat} {T T' : FsP} {a : Option Addr} {l c : Nat} {zs : List (List UInt8)} {fn : Nat} {args : Array Value} {v : Value} (h : TrTxt w W f T a l c zs)
    (hc : ∀ S, FsSt S W f T → Calls Try.prog fn args W fun e w' => e = .returned v ∧ FsSt (Grow S W w') w' f T' ∧ Kept S W w') : Calls Try.prog fn args W fun e w' => e = .returned v ∧ Hid (TrTxt w w' f T' a l c zs) := by
  obtain ⟨S, h1, h2, h3⟩ := h.st
  refine (hc S h1).mono ?_
  rintro e w' ⟨rfl, q1, q2⟩
  have hs := q2.size
  have hw := h.keep.size
  refine ⟨rfl, Lib.hid ⟨⟨_, q1, fun k e => ?_, fun k hk e => ?_⟩, q2.row h.row (fun k hk e => h3 k hk e), h.fresh, keep_on h.keep q2 (fun i hi e => by have := (h2 i e).1; omega), h.len⟩⟩
  · rcases e with e | e
    · exact ⟨(h2 k e).1, by have := (h2 k e).2; omega⟩
    · exact ⟨by omega, e.2⟩
  · rcases e with e | e
    · exact h3 k hk e
    · have := (h.row.lt k hk).2; omega
/-- A call that only reads the tree. -/
theorem TrTxt.reads {w W : World} {f : Nat} {T : FsP} {a : Option Addr} {l c : Nat} {zs : List (List UInt8)} {fn : Nat} {args : Array Value} {v : Value} (h : TrTxt w W f T a l c zs)
    (hc : ∀ S, FsSt S W f T → Calls Try.prog fn args W fun e w' => e = .returned v ∧ Kept NoB W w') : Calls Try.prog fn args W fun e w' => e = .returned v ∧ Hid (TrTxt w w' f T a l c zs) := by
  obtain ⟨S, h1, h2, h3⟩ := h.st
  refine (hc S h1).mono ?_
  rintro e w' ⟨rfl, q⟩
  exact ⟨rfl, Lib.hid (h.kept q)⟩
theorem TrTxt.start {w W : World} {f : Nat} {T : FsP} (h : FsOwn w W f T) : TrTxt w W f T none 0 0 [] :=
  ⟨⟨_, h.st, fun k e => e, fun k e => by simp [Value.ownBlock] at e⟩, World.ownsRow_nil _ _ _ _, fun k e => by (simp [Value.ownBlock] at e), h.keep, rfl⟩
/-- The row grows. -/
theorem TrTxt.grow {w W W' : World} {f : Nat} {T : FsP} {a a' : Option Addr} {l l' c c' : Nat} {zs zs' : List (List UInt8)} (h : TrTxt w W f T a l c zs) (ho : W'.ownsRow 0 9 1 (.slice a' l' c') l' (zs'.map (fun s => .string (strB s)))) (hl : l' = zs'.length)
    (hg : W.grownBy W' (Value.slice a l c).ownBlock) (hn : ∀ k, (Value.slice a' l' c').ownBlock = some k → (Value.slice a l c).ownBlock = some k ∨ W.heap.size ≤ k) : TrTxt w W' f T a' l' c' zs' := by
  obtain ⟨S, h1, h2, h3⟩ := h.st
  have hk : Kept (OwnB (.slice a l c)) W W' := (Kept.refl _ W).grown hg (fun k _ e => e)
  have hs := hk.size
  have hw := h.keep.size
  refine ⟨⟨S, h1.kept hk (fun k e hK => h3 k hK e), fun k e => ⟨(h2 k e).1, by have := (h2 k e).2; omega⟩, fun k hk2 e => ?_⟩, ho, fun k hk2 => ?_, keep_on h.keep hk (fun i hi e => by have := h.fresh i e; omega), hl⟩
  · rcases hn k hk2 with q | q
    · exact h3 k q e
    · have := (h2 k e).2; omega
  · rcases hn k hk2 with q | q
    · exact h.fresh k q
    · omega
/-- Another row, made since. -/
theorem TrTxt.turn {w W W' : World} {f : Nat} {T : FsP} {a a' : Option Addr} {l l' c c' : Nat} {zs zs' : List (List UInt8)} (h : TrTxt w W f T a l c zs) (hk : Kept NoB W W') (ho : W'.ownsRow 0 9 1 (.slice a' l' c') l' (zs'.map (fun s => .string (strB s)))) (hl : l' = zs'.length)
    (hn : ∀ k, (Value.slice a' l' c').ownBlock = some k → W.heap.size ≤ k) : TrTxt w W' f T a' l' c' zs' := by
  obtain ⟨S, h1, h2, h3⟩ := h.st
  have hs := hk.size
  have hw := h.keep.size
  refine ⟨⟨S, h1.keptNo hk, fun k e => ⟨(h2 k e).1, by have := (h2 k e).2; omega⟩, fun k hk2 e => ?_⟩, ho, fun k hk2 => ?_, h.keep.trans hk, hl⟩
  · have := hn k hk2
    have := (h2 k e).2; omega
  · have := hn k hk2
    omega
theorem TrTxt.cell {w W : World} {f : Nat} {T : FsP} {a : Option Addr} {l c : Nat} {zs : List (List UInt8)} (h : TrTxt w W f T a l c zs) {i : Nat} (hi : i < zs.length) : ∃ g, a = some ⟨g, 0, none⟩ ∧ W.cell? ⟨g, i, none⟩ = some (.string (strB zs[i])) := by
  have hl := h.len
  rcases h.row.2 with ⟨q1, q2⟩ | ⟨g, cc, cur, q1, _, q2, q3, q4, q5, q6⟩
  · omega
  · simp only [Value.slice.injEq, true_and] at q1
    obtain ⟨rfl, rfl⟩ := q1
    refine ⟨g, rfl, ?_⟩
    rw [cell_of_row W g i cur _ _ q2, ← Array.getElem?_toList]
    have e : (cur.toList.take (l * 1))[i]? = some (.string (strB zs[i])) := by rw [q6]; simp [hi]
    rw [List.getElem?_take] at e
    split at e
    · exact e
    · cases e
end Go.Proofs.Ytilndmmjdbhmgaa
