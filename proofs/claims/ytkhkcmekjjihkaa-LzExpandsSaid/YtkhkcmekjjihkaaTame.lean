/-
  Tokens that came in; tokens that may be, made of some.
-/
import Derived.Test.YtkhkcmekjjihkaaAwake6
import Derived.Test.YtkhkcmekjjihkaaMask
namespace Go.Proofs.Ytkhkcmekjjihkaa
open Go.RowKit
set_option linter.unusedVariables false
set_option linter.unusedSimpArgs false

theorem cells_tok : Try.prog.cellsOf 31 = 3 := by kernel_rfl
theorem infoT : (Try.prog.info? 31).map (fun i => (i.zero, i.size, i.bytes)) = some (some (.agg #[.int .i64 0, .int .i64 0, .int .u8 0]), 3, 24) := by kernel_rfl
theorem toks_open {w : World} {v : Value} (h : Arg w 22 v) :
    ∃ (ao : Option Addr) (cap : Nat) (ts : List Tk), v = .slice ao ts.length cap ∧ Toks w ao ts ∧ AllT ts ∧ ts.length ≤ cap ∧ cap ≤ maxLen ∧ (ao = none → cap = 0) := by
  obtain ⟨ao, len, cap, rfl, hl, hm, hn, hc⟩ := h.slice Try.underlying22
  rw [cells_tok] at hc
  have key : ∀ i, ∃ t : Tk, t.wf ∧ (∀ x, ao = some x → i < len → w.cell? (x.add (i * 3)) = some (.int .i64 t.l) ∧ w.cell? (x.add (i * 3 + 1)) = some (.int .i64 t.d) ∧ w.cell? (x.add (i * 3 + 2)) = some (.int .u8 t.c)) := by
    intro i
    by_cases hi : i < len
    · cases ao with
      | none => exact ⟨⟨0, 0, 0⟩, by unfold Tk.wf; decide, (fun x hx => by cases hx)⟩
      | some x =>
        obtain ⟨cs, hr, hcl, hcc⟩ := hc x rfl i hi
        obtain ⟨_, hf⟩ := hr.struct Try.underlying31
        match cs, hcl with
        | [c0, c1, c2], _ =>
          have i64c : Try.prog.cellsOf 3 = 1 := by kernel_rfl
          have u8c : Try.prog.cellsOf 5 = 1 := by kernel_rfl
          have r0 := hf 0 _ rfl
          have r1 := hf 1 _ rfl
          have r2 := hf 2 _ rfl
          simp [i64c, u8c] at r0 r1 r2
          obtain ⟨a, ea, wa⟩ := r0.int Try.underlying3
          obtain ⟨b, eb, wb⟩ := r1.int Try.underlying3
          obtain ⟨c, ec, wc⟩ := r2.int Try.underlying5
          simp at ea eb ec
          subst ea eb ec
          have u := u8_bd wc
          refine ⟨⟨a, b, c⟩, ⟨i64_bd wa, i64_bd wb, u.1, by simp only; omega⟩, ?_⟩
          intro y hy _
          cases hy
          exact ⟨by simpa using hcc 0 (by simp), by simpa using hcc 1 (by simp), by simpa using hcc 2 (by simp)⟩
    · exact ⟨⟨0, 0, 0⟩, by unfold Tk.wf; decide, (fun x _ h => absurd h hi)⟩
  obtain ⟨f, hf⟩ := choose1 key
  refine ⟨ao, cap, (List.range len).map f, by simp, ?_, ?_, by simpa using hl, hm, (fun h => (hn h).2)⟩
  · intro i hi
    have hil : i < len := by simpa using hi
    cases ao with
    | none => have := (hn rfl).1; omega
    | some x =>
      obtain ⟨h0, _, _⟩ := (hf 0).2 x rfl (by omega)
      obtain ⟨b, off, spot⟩ := x
      have hs : spot = none := by
        have := World.cell?_spot h0
        simpa [Addr.add] using this
      subst hs
      obtain ⟨h1, h2, h3⟩ := (hf i).2 _ rfl hil
      rw [addr_add] at h1 h2 h3
      rw [range_getD f len i _ hil]
      exact ⟨b, off, rfl, h1, h2, h3⟩
  · intro t ht
    obtain ⟨i, _, rfl⟩ := List.mem_map.1 ht
    exact (hf i).1

/-- Each of a row of tokens may be put behind those ahead of it. -/
def good (most : Int) : List Tk → List Int → Prop
  | [], _ => True
  | t :: r, bs => t.no bs.length most = 0 ∧ good most r (t.put bs)
def putAll (ts : List Tk) (bs : List Int) : List Int := ts.foldl (fun b t => t.put b) bs
theorem putAll_snoc (ts : List Tk) (t : Tk) (bs : List Int) : putAll (ts ++ [t]) bs = t.put (putAll ts bs) := by unfold putAll; rw [List.foldl_append]; rfl
theorem good_snoc (most : Int) (ts : List Tk) (t : Tk) (bs : List Int) (h : good most ts bs) (ht : t.no (putAll ts bs).length most = 0) : good most (ts ++ [t]) bs := by
  induction ts generalizing bs with
  | nil => exact ⟨ht, trivial⟩
  | cons s r ih => exact ⟨h.1, ih (s.put bs) h.2 ht⟩
theorem good_exp (most : Int) (ts : List Tk) (bs : List Int) (i : Nat) (h : good most ts bs) : expF most ts bs i = (putAll ts bs, i + ts.length, 0) := by
  induction ts generalizing bs i with
  | nil => rfl
  | cons t r ih =>
    unfold expF
    rw [if_pos h.1, ih (t.put bs) (i + 1) h.2]
    show (putAll (t :: r) bs, i + 1 + r.length, (0 : Int)) = _
    rw [List.length_cons, show i + 1 + r.length = i + (r.length + 1) from by omega]
theorem good_take (most : Int) (ts : List Tk) (k : Nat) (bs : List Int) (h : good most ts bs) : good most (ts.take k) bs := by
  induction ts generalizing bs k with
  | nil => simp [good]
  | cons t r ih =>
    cases k with
    | zero => exact trivial
    | succ k => exact ⟨h.1, ih k (t.put bs) h.2⟩
theorem good_at (most : Int) (ts : List Tk) (bs : List Int) (h : good most ts bs) : ∀ j, j < ts.length → (ts.getD j ⟨0, 0, 0⟩).no (putAll (ts.take j) bs).length most = 0 := by
  induction ts generalizing bs with
  | nil => intro j hj; simp at hj
  | cons t r ih =>
    intro j hj
    cases j with
    | zero => exact h.1
    | succ j => exact ih (t.put bs) h.2 j (by simpa using hj)
theorem putAll_succ (ts : List Tk) (bs : List Int) (j : Nat) (hj : j < ts.length) : putAll (ts.take (j + 1)) bs = (ts.getD j ⟨0, 0, 0⟩).put (putAll (ts.take j) bs) := by
  rw [List.take_succ_eq_append_getElem hj, putAll_snoc]; simp [List.getD, hj]
theorem copyN_pre (D k : Nat) (bs : List Int) : bs <+: copyN D k bs := by
  induction k with
  | zero => exact List.prefix_refl _
  | succ k ih => exact ih.trans (List.prefix_append _ _)
theorem put_pre (t : Tk) (bs : List Int) : bs <+: t.put bs := by
  unfold Tk.put
  split
  · exact List.prefix_append _ _
  · exact copyN_pre _ _ _
theorem putAll_pre (ts : List Tk) (bs : List Int) : bs <+: putAll ts bs := by
  induction ts generalizing bs with
  | nil => exact List.prefix_refl _
  | cons t r ih => exact (put_pre t bs).trans (ih (t.put bs))
theorem putAll_take_pre (ts : List Tk) (k : Nat) (bs : List Int) : putAll (ts.take k) bs <+: putAll ts bs := by
  have : putAll ts bs = putAll (ts.drop k) (putAll (ts.take k) bs) := by unfold putAll; rw [← List.foldl_append, List.take_append_drop]
  rw [this]; exact putAll_pre _ _
theorem putAll_all (ts : List Tk) (bs : List Int) (h : AllB bs) (ht : AllT ts) : AllB (putAll ts bs) := by
  induction ts generalizing bs with
  | nil => exact h
  | cons t r ih => exact ih (t.put bs) (put_all t bs h (ht t (by simp))) (fun x hx => ht x (by simp [hx]))

/-- Tokens in a row of the call's own. -/
def tcells (ts : List Tk) : List Value := ts.flatMap fun t => [.int .i64 t.l, .int .i64 t.d, .int .u8 t.c]
theorem tcells_len (ts : List Tk) : (tcells ts).length = ts.length * 3 := by
  induction ts with
  | nil => rfl
  | cons t r ih => simp only [tcells, List.flatMap_cons, List.length_append, List.length_cons, List.length_nil] at ih ⊢; omega
theorem tcells_get (ts : List Tk) : ∀ i, i < ts.length → (tcells ts)[i * 3]? = some (.int .i64 (ts.getD i ⟨0, 0, 0⟩).l) ∧ (tcells ts)[i * 3 + 1]? = some (.int .i64 (ts.getD i ⟨0, 0, 0⟩).d) ∧ (tcells ts)[i * 3 + 2]? = some (.int .u8 (ts.getD i ⟨0, 0, 0⟩).c) := by
  induction ts with
  | nil => intro i hi; simp at hi
  | cons t r ih =>
    intro i hi
    have e : tcells (t :: r) = .int .i64 t.l :: .int .i64 t.d :: .int .u8 t.c :: tcells r := rfl
    rw [e]
    cases i with
    | zero => exact ⟨rfl, rfl, rfl⟩
    | succ i =>
      have := ih i (by simpa using hi)
      rw [show (i + 1) * 3 = i * 3 + 1 + 1 + 1 from by omega]
      exact this
theorem own_shapeS {w : World} {base e s : Nat} {v : Value} {n : Nat} {xs : List Value} (h : w.ownsRow base e s v n xs) : ∃ ao cap, v = .slice ao n cap := by
  rcases h.2 with ⟨rfl, rfl⟩ | ⟨g, cap, cur, rfl, _⟩
  · exact ⟨none, 0, rfl⟩
  · exact ⟨_, cap, rfl⟩
theorem toks_own {w : World} {ao : Option Addr} {cap : Nat} {ts : List Tk} (h : w.ownsRow 0 31 3 (.slice ao ts.length cap) ts.length (tcells ts)) : Toks w ao ts := by
  intro i hi
  rcases h.2 with ⟨_, hz⟩ | ⟨g, c, cur, hv, _⟩
  · omega
  · simp at hv
    obtain ⟨rfl, rfl⟩ := hv
    obtain ⟨h1, h2, h3⟩ := tcells_get ts i hi
    exact ⟨g, 0, rfl, by rw [Nat.zero_add, h.cellAt _ (by omega)]; exact h1, by rw [Nat.zero_add, h.cellAt _ (by omega)]; exact h2, by rw [Nat.zero_add, h.cellAt _ (by omega)]; exact h3⟩
theorem tcells_snoc (ts : List Tk) (t : Tk) : tcells (ts ++ [t]) = tcells ts ++ [.int .i64 t.l, .int .i64 t.d, .int .u8 t.c] := by
  unfold tcells; rw [List.flatMap_append]; rfl
end Go.Proofs.Ytkhkcmekjjihkaa
