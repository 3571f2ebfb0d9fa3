/-
  Tokens of bytes, on paper; own rows of tokens.
-/
import Derived.Test.YtifoldonmmobpaaDoorMatJ
import Derived.Test.YtifoldonmmobpaaDoorToks
namespace Go.Proofs.YtifoldonmmobpaaDoor
open Go.RowKit
set_option linter.unusedVariables false
set_option linter.unusedSimpArgs false
set_option maxRecDepth 20000

/-- One token, and where the next one begins. -/
def lazyN (lv : Int) (L : List UInt8) (i : Nat) : Nat × Nat :=
  if lv < 1 then (0, 0) else if 7 ≤ lv ∧ 0 < (longN L i).1 ∧ (longN L i).1 < (longN L (i + 1)).1 then (0, 0) else longN L i
def litT (L : List UInt8) (i : Nat) : Tk := ⟨0, 0, ((L.getD i 0).toNat : Int)⟩
def stepT (lv : Int) (L : List UInt8) (i : Nat) : Tk × Nat := if (lazyN lv L i).1 = 0 then (litT L i, i + 1) else (⟨(lazyN lv L i).1, (lazyN lv L i).2, 0⟩, i + (lazyN lv L i).1)
theorem step_lt (lv : Int) (L : List UInt8) (i : Nat) : i < (stepT lv L i).2 := by
  unfold stepT
  split
  · exact Nat.lt_succ_self i
  · rename_i h
    show i < i + _
    omega
def restT (lv : Int) (L : List UInt8) (i : Nat) : List Tk := if h : i < L.length then (stepT lv L i).1 :: restT lv L (stepT lv L i).2 else []
  termination_by L.length - i
  decreasing_by (have := step_lt lv L i; omega)
theorem rest_step (lv : Int) (L : List UInt8) (i : Nat) (h : i < L.length) : restT lv L i = (stepT lv L i).1 :: restT lv L (stepT lv L i).2 := by
  rw [restT, dif_pos h]
theorem rest_end (lv : Int) (L : List UInt8) (i : Nat) (h : L.length ≤ i) : restT lv L i = [] := by
  rw [restT, dif_neg (by omega)]
theorem long_bd (L : List UInt8) (i : Nat) (hi : i ≤ L.length) : (longN L i).1 ≤ 258 ∧ i + (longN L i).1 ≤ L.length ∧ (longN L i).2 ≤ 32768 := by
  rcases long_ok L i with ⟨h1, h2, _⟩ | ⟨h1, h2, h3, h4, _⟩
  · omega
  · rw [mostN] at h2; omega
theorem lazy_bd (lv : Int) (L : List UInt8) (i : Nat) (hi : i ≤ L.length) : (lazyN lv L i).1 ≤ 258 ∧ i + (lazyN lv L i).1 ≤ L.length ∧ (lazyN lv L i).2 ≤ 32768 := by
  have h := long_bd L i hi
  have h0 : ((0, 0) : Nat × Nat).1 ≤ 258 ∧ i + ((0, 0) : Nat × Nat).1 ≤ L.length ∧ ((0, 0) : Nat × Nat).2 ≤ 32768 := ⟨by decide, hi, by decide⟩
  unfold lazyN
  split
  · exact h0
  · split
    · exact h0
    · exact h
theorem step_lit {lv : Int} {L : List UInt8} {i : Nat} (h : (lazyN lv L i).1 = 0) : stepT lv L i = (litT L i, i + 1) := if_pos h
theorem step_tok {lv : Int} {L : List UInt8} {i : Nat} (h : (lazyN lv L i).1 ≠ 0) : stepT lv L i = (⟨(lazyN lv L i).1, (lazyN lv L i).2, 0⟩, i + (lazyN lv L i).1) := if_neg h
theorem step_le (lv : Int) (L : List UInt8) (i : Nat) (hi : i < L.length) : (stepT lv L i).2 ≤ L.length := by
  have := lazy_bd lv L i (by omega)
  by_cases h : (lazyN lv L i).1 = 0
  · rw [step_lit h]; exact hi
  · rw [step_tok h]; exact this.2.1
/-- No more tokens than bytes. -/
theorem rest_len (lv : Int) (L : List UInt8) : ∀ k i, L.length - i ≤ k → i ≤ L.length → (restT lv L i).length ≤ L.length - i := by
  intro k
  induction k with
  | zero => intro i h hi; rw [rest_end lv L i (by omega)]; simp
  | succ k ih =>
    intro i h hi
    by_cases hl : i < L.length
    · have h1 := step_lt lv L i
      have h2 := step_le lv L i hl
      rw [rest_step lv L i hl, List.length_cons]
      have := ih (stepT lv L i).2 (by omega) h2
      omega
    · rw [rest_end lv L i (by omega)]; simp

theorem infoTk : (Tryd.prog.info? 26).map (fun i => (i.zero, i.size, i.bytes)) = some (some (.agg #[.int .i64 0, .int .i64 0, .int .u8 0]), 3, 24) := by kernel_rfl
def tkC (ts : List Tk) : List Value := ts.flatMap fun t => [.int .i64 t.l, .int .i64 t.d, .int .u8 t.c]
theorem tkC_len (ts : List Tk) : (tkC ts).length = ts.length * 3 := by
  induction ts with
  | nil => rfl
  | cons p r ih => simp [tkC] at ih ⊢; omega
theorem tkC_at : ∀ (ts : List Tk) (i : Nat) (h : i < ts.length), (tkC ts)[i * 3]? = some (.int .i64 ts[i].l) ∧ (tkC ts)[i * 3 + 1]? = some (.int .i64 ts[i].d) ∧ (tkC ts)[i * 3 + 2]? = some (.int .u8 ts[i].c) := by
  intro ts
  induction ts with
  | nil => intro i hi; simp at hi
  | cons p r ih =>
    intro i hi
    have e : tkC (p :: r) = .int .i64 p.l :: .int .i64 p.d :: .int .u8 p.c :: tkC r := by simp [tkC]
    rw [e]
    cases i with
    | zero => exact ⟨rfl, rfl, rfl⟩
    | succ i =>
      have hi' : i < r.length := by simpa using hi
      obtain ⟨h1, h2, h3⟩ := ih i hi'
      rw [show (i + 1) * 3 = i * 3 + 1 + 1 + 1 by omega]
      refine ⟨by simpa using h1, ?_, ?_⟩
      · rw [List.getElem?_cons_succ, List.getElem?_cons_succ, List.getElem?_cons_succ]; simpa using h2
      · rw [List.getElem?_cons_succ, List.getElem?_cons_succ, List.getElem?_cons_succ]; simpa using h3
/-- A row of tokens of the call's own. -/
structure TkSt (lo : Nat) (w : World) (a : Option Addr) (l c : Nat) (ts : List Tk) : Prop where
  len : l = ts.length
  own : w.ownsRow 0 26 3 (.slice a l c) l (tkC ts)
  fresh : ∀ k, (Value.slice a l c).ownBlock = some k → lo ≤ k
theorem TkSt.start (lo : Nat) (w : World) : TkSt lo w none 0 0 [] := ⟨rfl, World.ownsRow_nil _ _ _ _, (fun k hk => by simp [Value.ownBlock] at hk)⟩
theorem TkSt.keptS {S : Nat → Prop} {lo : Nat} {w w' : World} {a : Option Addr} {l c : Nat} {ts : List Tk} (h : TkSt lo w a l c ts) (hk : Kept S w w') (hs : ∀ k, lo ≤ k → ¬ S k) : TkSt lo w' a l c ts :=
  ⟨h.len, hk.row h.own (fun k hk2 => hs k (h.fresh k hk2)), h.fresh⟩
theorem TkSt.reads {lo : Nat} {w : World} {a : Option Addr} {l c : Nat} {ts : List Tk} (h : TkSt lo w a l c ts) : Toks w a ts := by
  intro i hi
  have hl := h.len
  have e : ts.getD i ⟨0, 0, 0⟩ = ts[i] := by simp [List.getD, hi]
  rw [e]
  rcases h.own.2 with ⟨_, hz⟩ | ⟨g, cc, cur, hv, _⟩
  · omega
  · simp at hv
    obtain ⟨rfl, rfl⟩ := hv
    obtain ⟨h1, h2, h3⟩ := tkC_at ts i hi
    refine ⟨g, 0, rfl, ?_, ?_, ?_⟩
    · rw [Nat.zero_add, ← h1]; exact h.own.cellAt (i * 3) (by omega)
    · rw [Nat.zero_add, ← h2]; exact h.own.cellAt (i * 3 + 1) (by omega)
    · rw [Nat.zero_add, ← h3]; exact h.own.cellAt (i * 3 + 2) (by omega)
theorem TkSt.cap {lo : Nat} {w : World} {a : Option Addr} {l c : Nat} {ts : List Tk} (h : TkSt lo w a l c ts) : l ≤ c ∧ c ≤ maxLen ∧ (a = none → c = 0) := by
  rcases h.own.2 with ⟨hv, hz⟩ | ⟨g, cc, cur, hv, _, _, h1, h2, _⟩
  · simp at hv
    obtain ⟨_, rfl, rfl⟩ := hv
    exact ⟨Nat.le_refl _, Nat.zero_le _, fun _ => rfl⟩
  · simp at hv
    obtain ⟨rfl, rfl⟩ := hv
    exact ⟨h1, h2, fun h => by cases h⟩
theorem slice_shape {w : World} {base e s : Nat} {v : Value} {n : Nat} {xs : List Value} (h : w.ownsRow base e s v n xs) : ∃ ao cap, v = .slice ao n cap := by
  rcases h.2 with ⟨rfl, rfl⟩ | ⟨g, cap, cur, rfl, _⟩
  · exact ⟨none, 0, rfl⟩
  · exact ⟨_, cap, rfl⟩
/-- One token more. -/
theorem wpList_tk {ops : Array Oper} {rest : List Oper} {o : Oper} {act : Act} {w : World} {Q : Exit → Act → World → Prop} (hgd : o.guard = none) (s x : Operand)
    (ho : o.op = .call { callee := .builtin .append, args := #[s, x], argTypes := #[23, 23] })
    {lo : Nat} {a1 : Option Addr} {l1 c1 : Nat} {ts : List Tk} (hS : TkSt lo w a1 l1 c1 ts) (hlo : lo ≤ w.heap.size) (hs : act.eval s = .slice a1 l1 c1)
    (g cx : Nat) (t : Tk) (hx : act.eval x = .slice (some ⟨g, 0, none⟩) 1 cx) (h0 : w.cell? ⟨g, 0, none⟩ = some (.int .i64 t.l)) (h1 : w.cell? ⟨g, 1, none⟩ = some (.int .i64 t.d)) (h2' : w.cell? ⟨g, 2, none⟩ = some (.int .u8 t.c)) (hn : l1 ≤ 1000000)
    (h : ∀ a2 c2 w', TkSt lo w' a2 (l1 + 1) c2 (ts ++ [t]) → Kept (fun k => lo ≤ k) w w' → wpList Tryd.prog ops Q rest (act.put o.dst (.slice a2 (l1 + 1) c2)) w') : wpList Tryd.prog ops Q (o :: rest) act w := by
  obtain ⟨i0, hi, hz0, hz1, hz2⟩ := info_parts infoTk
  refine wpList_app w hgd s x 23 ho 26 i0 (.agg #[.int .i64 0, .int .i64 0, .int .u8 0]) 3 24 Tryd.underlying23 hi hz0 hz1 hz2 rfl (by decide) _ l1 (tkC ts) hs hS.own ⟨g, 0, none⟩ 1 cx [.int .i64 t.l, .int .i64 t.d, .int .u8 t.c] hx rfl ?_ ?_ (by unfold maxLen; omega) (by omega) ?_
  · intro j u hu
    rw [addr_add, Nat.zero_add]
    match j with
    | 0 => simp at hu; subst hu; exact h0
    | 1 => simp at hu; subst hu; exact h1
    | 2 => simp at hu; subst hu; exact h2'
    | j + 3 => simp at hu
  · intro u hu
    simp at hu
    rcases hu with rfl | rfl | rfl <;> rfl
  intro v' w' h2 h3 h4
  obtain ⟨a2, c2, rfl⟩ := slice_shape h2
  refine h _ _ _ ⟨by rw [List.length_append, ← hS.len]; rfl, by simpa [tkC] using h2, ?_⟩ ((Kept.refl _ w).grown h3 (fun k _ e => hS.fresh k e))
  intro k hk
  rcases h4 k hk with h | h
  · exact hS.fresh k h
  · omega
end Go.Proofs.YtifoldonmmobpaaDoor
