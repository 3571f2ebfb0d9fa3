/-
  Rows of heads of the call's own; what each of them holds stays.
  gzip.All: how a row of members is gone through, on paper; what stays in memory while it is.
  gzip.All of a row of members, whole or with a tail that is wrong.
-/
import Derived.Test.YtfmjfgmbjdhogaaGreatDoorMg26
import Derived.Great.BuildSlice
namespace Go.Proofs.YtfmjfgmbjdhogaaGreatDoor
open Go.RowKit
set_option linter.unusedVariables false
set_option linter.unusedSimpArgs false
set_option maxRecDepth 20000

theorem infoGzB : (Tryz.prog.info? 42).map (fun i => (i.zero, i.size, i.bytes)) = some (some (.agg gz0), 9, 88) := by kernel_rfl
structure GzE where
  a : Option Addr
  k : Nat
  g : GzP
def gzCs (es : List GzE) : List Value := es.flatMap fun y => (gzV y.a y.k y.g).toList
theorem gzV_len (a : Option Addr) (k : Nat) (g : GzP) : (gzV a k g).toList.length = 9 := rfl
theorem gzCs_at : ∀ (es : List GzE) (i : Nat) (h : i < es.length) (j : Nat), j < 9 → (gzCs es)[i * 9 + j]? = (gzV es[i].a es[i].k es[i].g)[j]?
  | [], i, h, _, _ => absurd h (Nat.not_lt_zero _)
  | y :: r, i, h, j, hj => by
    have e : gzCs (y :: r) = (gzV y.a y.k y.g).toList ++ gzCs r := rfl
    rw [e]
    cases i with
    | zero =>
      rw [Nat.zero_mul, Nat.zero_add, List.getElem?_append_left (by rw [gzV_len]; exact hj)]
      rw [Array.getElem?_toList]; rfl
    | succ i =>
      rw [List.getElem?_append_right (by rw [gzV_len]; omega), gzV_len, show (i + 1) * 9 + j - 9 = i * 9 + j by omega]
      exact gzCs_at r i (by simpa using h) j hj
structure HdSt (lo : Nat) (w : World) (a : Option Addr) (l c : Nat) (es : List GzE) : Prop where
  len : l = es.length
  own : w.ownsRow 0 42 9 (.slice a l c) l (gzCs es)
  fresh : ∀ k, (Value.slice a l c).ownBlock = some k → lo ≤ k
theorem HdSt.start (lo : Nat) (w : World) : HdSt lo w none 0 0 [] := ⟨rfl, World.ownsRow_nil _ _ _ _, (fun k hk => by simp [Value.ownBlock] at hk)⟩
theorem HdSt.keptS {S : Nat → Prop} {lo : Nat} {w w' : World} {a : Option Addr} {l c : Nat} {es : List GzE} (h : HdSt lo w a l c es) (hk : Kept S w w') (hs : ∀ k, (Value.slice a l c).ownBlock = some k → ¬ S k) : HdSt lo w' a l c es :=
  ⟨h.len, hk.row h.own hs, h.fresh⟩
theorem HdSt.no {lo : Nat} {w w' : World} {a : Option Addr} {l c : Nat} {es : List GzE} (h : HdSt lo w a l c es) (hk : Kept NoB w w') : HdSt lo w' a l c es := h.keptS hk (fun _ _ e => e)
theorem HdSt.ne {lo : Nat} {w w0 : World} {a b : Option Addr} {l c m d : Nat} {es : List GzE} {L : List UInt8} (h : HdSt lo w a l c es) (hb : BySt w0 w b m d L) : ∀ k, (Value.slice a l c).ownBlock = some k → ¬ OwnB (.slice b m d) k := by
  intro k hk hq
  rcases h.own.2 with ⟨hv, _⟩ | ⟨g, cc, cur, hv, _, hg, _⟩
  · simp at hv; obtain ⟨rfl, _⟩ := hv; simp [Value.ownBlock] at hk
  · simp at hv
    obtain ⟨rfl, rfl⟩ := hv
    simp [Value.ownBlock] at hk
    subst hk
    exact row_ne hb.own hg (by decide) g hq rfl
theorem BySt.ne {lo : Nat} {w w0 : World} {a b : Option Addr} {l c m d : Nat} {es : List GzE} {L : List UInt8} (hb : BySt w0 w b m d L) (h : HdSt lo w a l c es) : ∀ k, (Value.slice b m d).ownBlock = some k → ¬ OwnB (.slice a l c) k := fun k hk hq => h.ne hb k hq hk
theorem HdSt.cell {lo : Nat} {w : World} {a : Option Addr} {l c : Nat} {es : List GzE} (h : HdSt lo w a l c es) (i : Nat) (hi : i < es.length) : ∃ g, a = some ⟨g, 0, none⟩ ∧ ∀ j, j < 9 → w.cell? ⟨g, i * 9 + j, none⟩ = (gzV es[i].a es[i].k es[i].g)[j]? := by
  have hl := h.len
  rcases h.own.2 with ⟨_, hz⟩ | ⟨g, cc, cur, hv, _⟩
  · omega
  · simp at hv
    obtain ⟨rfl, rfl⟩ := hv
    refine ⟨g, rfl, fun j hj => ?_⟩
    rw [← gzCs_at es i hi j hj]
    exact h.own.cellAt (i * 9 + j) (by omega)
theorem wpList_gz {ops : Array Oper} {rest : List Oper} {o : Oper} {act : Act} {w : World} {Q : Exit → Act → World → Prop} (hgd : o.guard = none) (s x : Operand)
    (ho : o.op = .call { callee := .builtin .append, args := #[s, x], argTypes := #[40, 40] })
    {lo : Nat} {a1 : Option Addr} {l1 c1 : Nat} {es : List GzE} (hS : HdSt lo w a1 l1 c1 es) (hlo : lo ≤ w.heap.size) (hs : act.eval s = .slice a1 l1 c1)
    (g cx : Nat) (y : GzE) (hx : act.eval x = .slice (some ⟨g, 0, none⟩) 1 cx) (hg : w.heap[g]? = some (.cells (gzV y.a y.k y.g) 42 (0, 0))) (hn : l1 ≤ 100000)
    (h : ∀ a2 c2 w', HdSt lo w' a2 (l1 + 1) c2 (es ++ [y]) → Kept (OwnB (.slice a1 l1 c1)) w w' → (∀ k, (Value.slice a2 (l1 + 1) c2).ownBlock = some k → (Value.slice a1 l1 c1).ownBlock = some k ∨ w.heap.size ≤ k) → wpList Tryz.prog ops Q rest (act.put o.dst (.slice a2 (l1 + 1) c2)) w') : wpList Tryz.prog ops Q (o :: rest) act w := by
  obtain ⟨i0, hi, hz0, hz1, hz2⟩ := info_parts infoGzB
  refine wpList_app w hgd s x 40 ho 42 i0 (.agg gz0) 9 88 Tryz.underlying40 hi hz0 hz1 hz2 rfl (by decide) _ l1 (gzCs es) hs hS.own ⟨g, 0, none⟩ 1 cx (gzV y.a y.k y.g).toList hx rfl ?_ ?_ (by unfold maxLen; omega) (by omega) ?_
  · intro j u hu
    rw [addr_add, Nat.zero_add, obj_cell hg j, ← Array.getElem?_toList]
    exact hu
  · intro u hu
    have : ((gzV y.a y.k y.g).toList).all (·.oneCell') = true := rfl
    exact List.all_eq_true.1 this u hu
  intro v' w' h2 h3 h4
  obtain ⟨a2, c2, rfl⟩ := slice_shape h2
  refine h _ _ _ ⟨by rw [List.length_append, ← hS.len]; rfl, by simpa [gzCs] using h2, ?_⟩ ((Kept.refl _ w).grown h3 (fun k _ e => e)) h4
  intro k hk
  rcases h4 k hk with h | h
  · exact hS.fresh k h
  · omega
theorem wpList_by_rowX {w : World} {ops : Array Oper} {rest : List Oper} {o : Oper} {act : Act} {Q : Exit → Act → World → Prop} (hgd : o.guard = none) (s x : Operand)
    (ho : o.op = .call { callee := .builtin .append, args := #[s, x], argTypes := #[22, 22] })
    {w0 : World} {a : Option Addr} {l c : Nat} {L : List UInt8} (hS : BySt w0 w a l c L) (hs : act.eval s = .slice a l c) (ad : Addr) (cx m : Nat) (M : List UInt8) (hm : m = M.length) (hx : act.eval x = .slice (some ad) m cx) (hr : Reads w (some ad) (nb M)) (hn : l + m ≤ 100000000)
    (h : ∀ a2 c2 w', BySt w0 w' a2 (l + m) c2 (L ++ M) → Kept (OwnB (.slice a l c)) w w' → (∀ k, (Value.slice a2 (l + m) c2).ownBlock = some k → (Value.slice a l c).ownBlock = some k ∨ w.heap.size ≤ k) → wpList Tryz.prog ops Q rest (act.put o.dst (.slice a2 (l + m) c2)) w') : wpList Tryz.prog ops Q (o :: rest) act w := by
  obtain ⟨i0, hi, hz0, hz1, hz2⟩ := info_parts info5
  refine wpList_app w hgd s x 22 ho 5 i0 (.int .u8 0) 1 1 Tryz.underlying22 hi hz0 hz1 hz2 rfl (by decide) _ l (bc L) hs hS.own ad m cx (bc M) hx (by simp [bc, hm]) ?_ ?_ (by unfold maxLen; omega) (by omega) ?_
  · rw [bc_nb]; exact reads_news hr
  · rw [bc_nb]; exact news_one _
  intro v' w' h2 h3 h4
  obtain ⟨a2, c2, rfl, hb⟩ := hS.grow h2 hm h3 h4
  exact h _ _ _ hb ((Kept.refl _ w).grown h3 (fun k _ e => e)) h4
structure EntOk (w : World) (ov hv : Option Nat) (y : GzE) : Prop where
  rd : Reads w y.a (nb y.g.extra)
  cap : y.g.extra.length ≤ y.k
  most : y.k ≤ maxLen
  nil : y.a = none → y.k = 0
  apart : y.g.extra = [] ∨ ∃ q, y.a = some q ∧ q.block < w.heap.size ∧ ov ≠ some q.block ∧ hv ≠ some q.block
theorem reads_nilG {w : World} {a : Option Addr} {bs : List Int} (h : bs = []) : Reads w a bs := by
  subst h
  cases a with
  | none => exact ⟨fun _ => rfl, fun a e => by cases e⟩
  | some a => exact reads_empty
theorem EntOk.step {w w' : World} {ov hv ov2 hv2 : Option Nat} {y : GzE} {S : Nat → Prop} (h : EntOk w ov hv y) (hk : Kept S w w') (hS : ∀ k, S k → ov = some k ∨ hv = some k ∨ w.heap.size ≤ k) (ho : ∀ k, ov2 = some k → ov = some k ∨ w.heap.size ≤ k) (hh : ∀ k, hv2 = some k → hv = some k ∨ w.heap.size ≤ k) : EntOk w' ov2 hv2 y := by
  refine ⟨?_, h.cap, h.most, h.nil, ?_⟩
  · rcases h.apart with e | ⟨q, hq, hb, h1, h2⟩
    · exact reads_nilG (by rw [e]; rfl)
    · refine h.rd.kept hk (fun a ha hs => ?_)
      rw [hq] at ha
      cases ha
      rcases hS _ hs with e | e | e
      · exact h1 e
      · exact h2 e
      · omega
  · rcases h.apart with e | ⟨q, hq, hb, h1, h2⟩
    · exact .inl e
    · refine .inr ⟨q, hq, Nat.lt_of_lt_of_le hb hk.size, fun e => ?_, fun e => ?_⟩
      · rcases ho _ e with e | e
        · exact h1 e
        · omega
      · rcases hh _ e with e | e
        · exact h2 e
        · omega
end Go.Proofs.YtfmjfgmbjdhogaaGreatDoor

namespace Go.Proofs.YtfmjfgmbjdhogaaGreatDoor
open Go.RowKit
set_option linter.unusedVariables false
set_option linter.unusedSimpArgs false
set_option maxRecDepth 20000

structure Mm where
  g : GzP
  L : List UInt8
  body : List UInt8
structure Mm.Ok (m : Mm) : Prop where
  ok : m.g.Ok
  pk : ∃ lv qs, PackedP lv m.L (nb m.body) qs
  bl : m.body.length ≤ 256
  b0 : 0 < m.body.length
  ll : m.L.length ≤ 1000
structure Rnd (b : List Int) (at_ M : Nat) (out : List UInt8) (m : Mm) (tl : List Int) : Prop where
  hd : b.drop at_ = nb (headG m.g) ++ (nb m.body ++ tl)
  ok : m.Ok
  room : out.length + m.L.length ≤ M
def Mm.next (m : Mm) (at_ : Nat) : Nat := at_ + (headG m.g).length + m.body.length
inductive GoG (b : List Int) (M : Nat) : Nat → List UInt8 → List GzP → Nat → Int → List UInt8 → List GzP → Prop
  | bad {at_ : Nat} {out : List UInt8} {gs : List GzP} {m : Mm} {tl : List Int} {r : Nat} {e : Int} : Rnd b at_ M out m tl → tailS tl (crcL m.L) m.L.length = (r, e) → e ≠ 0 → GoG b M at_ out gs (m.next at_ + r) e (out ++ m.L) (gs ++ [m.g])
  | done {at_ : Nat} {out : List UInt8} {gs : List GzP} {m : Mm} {tl : List Int} : Rnd b at_ M out m tl → tailS tl (crcL m.L) m.L.length = (0, 0) → m.next at_ + 8 + leadZ (b.drop (m.next at_ + 8)) = b.length → GoG b M at_ out gs 0 0 (out ++ m.L) (gs ++ [m.g])
  | junk {at_ : Nat} {out : List UInt8} {gs : List GzP} {m : Mm} {tl : List Int} : Rnd b at_ M out m tl → tailS tl (crcL m.L) m.L.length = (0, 0) → m.next at_ + 8 + leadZ (b.drop (m.next at_ + 8)) ≠ b.length → 0 < leadZ (b.drop (m.next at_ + 8)) → GoG b M at_ out gs (m.next at_ + 8 + leadZ (b.drop (m.next at_ + 8))) 8 (out ++ m.L) (gs ++ [m.g])
  | next {at_ : Nat} {out : List UInt8} {gs : List GzP} {m : Mm} {tl : List Int} {a2 : Nat} {e2 : Int} {o2 : List UInt8} {g2 : List GzP} : Rnd b at_ M out m tl → tailS tl (crcL m.L) m.L.length = (0, 0) → m.next at_ + 8 ≠ b.length → leadZ (b.drop (m.next at_ + 8)) = 0 → GoG b M (m.next at_ + 8) (out ++ m.L) (gs ++ [m.g]) a2 e2 o2 g2 → GoG b M at_ out gs a2 e2 o2 g2
theorem Rnd.len {b : List Int} {at_ M : Nat} {out : List UInt8} {m : Mm} {tl : List Int} (h : Rnd b at_ M out m tl) : at_ < b.length ∧ m.next at_ + tl.length = b.length ∧ b.drop (at_ + (headG m.g).length) = nb m.body ++ tl ∧ b.drop (m.next at_) = tl ∧ at_ + 10 ≤ at_ + (headG m.g).length := by
  have h1 := headG_len m.g h.ok.ok
  have h2 := congrArg List.length h.hd
  rw [List.length_drop, List.length_append, List.length_append, nb_len, nb_len] at h2
  have e1 : b.drop (at_ + (headG m.g).length) = nb m.body ++ tl := by
    rw [← List.drop_drop, h.hd, ← nb_len, List.drop_left]
  refine ⟨by omega, by unfold Mm.next; omega, e1, ?_, by omega⟩
  unfold Mm.next
  rw [← List.drop_drop, e1, ← nb_len, List.drop_left]
structure GzI (w1 W : World) (oa : Option Addr) (ol oc : Nat) (out : List UInt8) (ha : Option Addr) (hl hc : Nat) (es : List GzE) : Prop where
  ob : BySt w1 W oa ol oc out
  hs : HdSt w1.heap.size W ha hl hc es
  en : ∀ y ∈ es, EntOk W (Value.slice oa ol oc).ownBlock (Value.slice ha hl hc).ownBlock y
theorem GzI.no {w1 W W2 : World} {oa ha : Option Addr} {ol oc hl hc : Nat} {out : List UInt8} {es : List GzE} (h : GzI w1 W oa ol oc out ha hl hc es) (hk : Kept NoB W W2) : GzI w1 W2 oa ol oc out ha hl hc es :=
  ⟨h.ob.on hk, h.hs.no hk, fun y hy => (h.en y hy).step hk (fun _ e => e.elim) (fun _ e => .inl e) (fun _ e => .inl e)⟩
theorem GzI.head {w1 W W2 : World} {oa ha h2 : Option Addr} {ol oc hl hc l2 c2 : Nat} {out : List UInt8} {es : List GzE} {y : GzE} (h : GzI w1 W oa ol oc out ha hl hc es) (hs : HdSt w1.heap.size W2 h2 l2 c2 (es ++ [y])) (hk : Kept (OwnB (.slice ha hl hc)) W W2)
    (hr : ∀ k, (Value.slice h2 l2 c2).ownBlock = some k → (Value.slice ha hl hc).ownBlock = some k ∨ W.heap.size ≤ k) (hy : EntOk W (Value.slice oa ol oc).ownBlock (Value.slice ha hl hc).ownBlock y) : GzI w1 W2 oa ol oc out h2 l2 c2 (es ++ [y]) := by
  have hb := h.ob
  have hkn : Kept NoB w1 W2 := ⟨hk.os.trans hb.kept.os, hk.tape.trans hb.kept.tape, hk.output.trans hb.kept.output, Nat.le_trans hb.kept.size hk.size, fun k hk1 _ => (hk.block k (Nat.lt_of_lt_of_le hk1 hb.kept.size) (fun e => by have := h.hs.fresh k e; omega)).trans (hb.kept.block k hk1 (fun e => e))⟩
  refine ⟨⟨hb.len, hk.row hb.own (fun k e => hb.ne h.hs k e), hkn, hb.fresh⟩, hs, fun z hz => ?_⟩
  have st : ∀ z, EntOk W (Value.slice oa ol oc).ownBlock (Value.slice ha hl hc).ownBlock z → EntOk W2 (Value.slice oa ol oc).ownBlock (Value.slice h2 l2 c2).ownBlock z := fun z hz => hz.step hk (fun k e => .inr (.inl e)) (fun _ e => .inl e) hr
  rcases List.mem_append.1 hz with hz | hz
  · exact st z (h.en z hz)
  · simp only [List.mem_singleton] at hz; subst hz; exact st z hy
theorem GzI.grow {w1 W W2 : World} {oa ha o2 : Option Addr} {ol oc hl hc l2 c2 : Nat} {out out2 : List UInt8} {es : List GzE} (h : GzI w1 W oa ol oc out ha hl hc es) (hb : BySt w1 W2 o2 l2 c2 out2) (hk : Kept (OwnB (.slice oa ol oc)) W W2)
    (hr : ∀ k, (Value.slice o2 l2 c2).ownBlock = some k → (Value.slice oa ol oc).ownBlock = some k ∨ W.heap.size ≤ k) : GzI w1 W2 o2 l2 c2 out2 ha hl hc es :=
  ⟨hb, h.hs.keptS hk (fun k e => h.hs.ne h.ob k e), fun y hy => (h.en y hy).step hk (fun k e => .inl e) hr (fun _ e => .inl e)⟩
theorem GzI.ent {w1 W W0 : World} {oa ha : Option Addr} {ol oc hl hc : Nat} {out : List UInt8} {es : List GzE} (h0 : GzI w1 W0 oa ol oc out ha hl hc es) (hk : Kept NoB W0 W) {a : Option Addr} {k : Nat} {g : GzP} (hr : Reads W a (nb g.extra)) (hc1 : g.extra.length ≤ k) (hm : k ≤ maxLen) (hn : a = none → k = 0) (hf : ∀ q, a = some q → W0.heap.size ≤ q.block) :
    EntOk W (Value.slice oa ol oc).ownBlock (Value.slice ha hl hc).ownBlock ⟨a, k, g⟩ := by
  refine ⟨hr, hc1, hm, hn, ?_⟩
  by_cases he : g.extra = []
  · exact .inl he
  · obtain ⟨b, o, rfl, hb, _⟩ := hr.at (by rw [nb_len]; cases h : g.extra with | nil => exact absurd h he | cons => simp)
    have hq := hf _ rfl
    refine .inr ⟨_, rfl, hb, fun e => ?_, fun e => ?_⟩
    · have := (h0.ob.own.lt _ e).2; dsimp only at hq this; omega
    · have := (h0.hs.own.lt _ e).2; dsimp only at hq this; omega
theorem fill_oneG (a : Option Addr) (k : Nat) (g : GzP) : Instr.fill (fun i => some (i * 9, 9)) ((Array.range (1 * 9)).map ((Value.agg gz0).cells[· % (Value.agg gz0).cells.size]!)) [(0, .agg (gzV a k g))] = some (gzV a k g) := by
  kernel_rfl
theorem wpList_build_one {ops : Array Oper} {rest : List Oper} {o : Oper} {act : Act} {w : World} {Q : Exit → Act → World → Prop} (hgd : o.guard = none) (x : Operand) (ho : o.op = .buildSlice 40 1 #[(0, x)]) (a : Option Addr) (k : Nat) (g : GzP)
    (hx : act.eval x = .agg (gzV a k g)) (h : wpList Tryz.prog ops Q rest (act.put o.dst (.slice (some ⟨w.heap.size, 0, none⟩) 1 1)) (w.alloc (.cells (gzV a k g) 42))) : wpList Tryz.prog ops Q (o :: rest) act w :=
  wpList_plain hgd fun _ hK => by
    obtain ⟨i0, hi, hz0, hz1, hz2⟩ := info_parts infoGzB
    refine wp_buildSlice 40 42 1 _ ho (gzV a k g) i0 _ Tryz.underlying40 hi hz0 (by rw [hz1]; decide) (by rw [hz1]; decide) ?_ (hK _ _ h)
    rw [hz1]
    have e : (#[(0, x)].map fun (i, x) => (i, act.eval x)).toList = [(0, .agg (gzV a k g))] := by simp [hx]
    rw [e]
    exact fill_oneG a k g
end Go.Proofs.YtfmjfgmbjdhogaaGreatDoor

namespace Go.Proofs.YtfmjfgmbjdhogaaGreatDoor
open Go.RowKit
set_option linter.unusedVariables false
set_option linter.unusedSimpArgs false
set_option maxRecDepth 20000

theorem GoG.rnd {b : List Int} {M at_ : Nat} {out : List UInt8} {gs : List GzP} {a2 : Nat} {e2 : Int} {o2 : List UInt8} {g2 : List GzP} (h : GoG b M at_ out gs a2 e2 o2 g2) : ∃ m tl, Rnd b at_ M out m tl ∧
    ((∃ r e, tailS tl (crcL m.L) m.L.length = (r, e) ∧ e ≠ 0 ∧ a2 = m.next at_ + r ∧ e2 = e ∧ o2 = out ++ m.L ∧ g2 = gs ++ [m.g]) ∨
     (tailS tl (crcL m.L) m.L.length = (0, 0) ∧ ((m.next at_ + 8 + leadZ (b.drop (m.next at_ + 8)) = b.length ∧ a2 = 0 ∧ e2 = 0 ∧ o2 = out ++ m.L ∧ g2 = gs ++ [m.g]) ∨
       (m.next at_ + 8 + leadZ (b.drop (m.next at_ + 8)) ≠ b.length ∧ 0 < leadZ (b.drop (m.next at_ + 8)) ∧ a2 = m.next at_ + 8 + leadZ (b.drop (m.next at_ + 8)) ∧ e2 = 8 ∧ o2 = out ++ m.L ∧ g2 = gs ++ [m.g]) ∨
       (m.next at_ + 8 ≠ b.length ∧ leadZ (b.drop (m.next at_ + 8)) = 0 ∧ GoG b M (m.next at_ + 8) (out ++ m.L) (gs ++ [m.g]) a2 e2 o2 g2)))) := by
  cases h with
  | bad hr ht he => exact ⟨_, _, hr, .inl ⟨_, _, ht, he, rfl, rfl, rfl, rfl⟩⟩
  | done hr ht hz => exact ⟨_, _, hr, .inr ⟨ht, .inl ⟨hz, rfl, rfl, rfl, rfl⟩⟩⟩
  | junk hr ht hn hz => exact ⟨_, _, hr, .inr ⟨ht, .inr (.inl ⟨hn, hz, rfl, rfl, rfl, rfl⟩)⟩⟩
  | next hr ht hn hz h => exact ⟨_, _, hr, .inr ⟨ht, .inr (.inr ⟨hn, hz, h⟩)⟩⟩
theorem tailS_ok {tl : List Int} {cr fl : Nat} (h : tailS tl cr fl = (0, 0)) : 8 ≤ tl.length := by
  unfold tailS at h
  split at h
  · exact absurd (show (7 : Int) = 0 from congrArg Prod.snd h) (by decide)
  · split at h
    · exact absurd (show (2 : Int) = 0 from congrArg Prod.snd h) (by decide)
    · omega
theorem leadZ_le : ∀ l, leadZ l ≤ l.length
  | [] => Nat.le_refl _
  | x :: r => by rw [leadZ, List.length_cons]; have := leadZ_le r; split <;> omega
theorem tailS_le (tl : List Int) (cr fl : Nat) : (tailS tl cr fl).1 ≤ tl.length := by
  unfold tailS
  split
  · exact Nat.zero_le _
  · split
    · exact Nat.le_refl _
    · split <;> exact Nat.zero_le _
theorem GzI.base {w w1 W : World} {oa ha : Option Addr} {ol oc hl hc : Nat} {out : List UInt8} {es : List GzE} (h : GzI w1 W oa ol oc out ha hl hc es) (hk : Kept NoB w w1) : GzI w W oa ol oc out ha hl hc es :=
  ⟨⟨h.ob.len, h.ob.own, hk.trans h.ob.kept, fun k e => Nat.le_trans hk.size (h.ob.fresh k e)⟩, ⟨h.hs.len, h.hs.own, fun k e => Nat.le_trans hk.size (h.hs.fresh k e)⟩, h.en⟩
def AllGR (w : World) (a2 : Nat) (e2 : Int) (o2 : List UInt8) (g2 : List GzP) (e : Ending) (w' : World) : Prop :=
  ∃ (oa : Option Addr) (ol oc : Nat) (ha : Option Addr) (hl hc : Nat) (es : List GzE), e = .returned (.tuple #[.slice oa ol oc, .slice ha hl hc, .int .i64 (a2 : Int), .int .i64 e2]) ∧ Hid (GzI w w' oa ol oc o2 ha hl hc es) ∧ Hid (es.map (·.g) = g2)
set_option maxHeartbeats 16000000 in
theorem gzall_any (w : World) (bo : Option Addr) (n c : Nat) (b : List Int) (z : Int) (M : Nat) (a2 : Nat) (e2 : Int) (o2 : List UInt8) (g2 : List GzP) (hn : n = b.length) (hR : CurRow w bo c b) (hnl : n ≤ 100000) (hz : z = (M : Int)) (hM : M ≤ 1000000) (hG : GoG b M 0 [] [] a2 e2 o2 g2) :
    Calls Tryz.prog 18 #[.slice bo n c, .int .i64 z] w (AllGR w a2 e2 o2 g2) := by
  subst hz
  have hcap : n ≤ c := by rw [hn]; exact hR.cap
  have HN := Lib.hid hn; have HR := Lib.hid hR; have HG := Lib.hid hG
  have HNt := Lib.hid (newt_any w)
  clear hn hR hG
  go_enter Tryz.func18, Tryz.ntmps18
  go_wp2_with fail
  refine HNt.out.mono ?_
  rintro e w1 ⟨T, rfl, hT, hTl, hk1⟩
  have HT := Lib.hid hT; have HK1 := Lib.hid hk1
  clear hT hTl hk1 HNt
  go_wp2_with fail
  go_loopw [4, 5, 6, 9, 10, 11, 12, 13, 14, 15, 16, 17] (fun v4 v5 v6 _ _ _ _ _ _ _ _ _ wr => ∃ (oa : Option Addr) (ol oc : Nat) (out : List UInt8) (ha : Option Addr) (hl hc : Nat) (es : List GzE) (at_ : Nat), v4 = .slice oa ol oc ∧ v5 = .slice ha hl hc ∧ v6 = .int .i64 (at_ : Int) ∧ at_ ≤ n ∧ hl ≤ at_ ∧ ol ≤ M ∧ Hid (GzI w1 wr oa ol oc out ha hl hc es) ∧ Hid (GoG b M at_ out (es.map (·.g)) a2 e2 o2 g2)) (fun _ _ v6 _ _ _ _ _ _ _ _ _ _ => n - (intOf v6).toNat)
  case atStart => exact ⟨none, 0, 0, [], none, 0, 0, [], 0, rfl, rfl, rfl, Nat.zero_le _, Nat.le_refl _, Nat.zero_le _, Lib.hid ⟨BySt.nil _, HdSt.start _ _, fun y hy => by cases hy⟩, HG⟩
  case round =>
    obtain ⟨oa, ol, oc, out, ha, hl, hc, es, at_, rfl, rfl, rfl, hat, hhl, hom, HI, HGo⟩ := hrel
    obtain ⟨m, tl, hrn, hwhat⟩ := HGo.out.rnd
    obtain ⟨l1, l2, l3, l4, l5⟩ := hrn.len
    have HWh := Lib.hid hwhat
    have HRow : Hid (∀ W, Kept NoB w1 W → CurRow W bo c b) := Lib.hid (fun W hk => (HR.out.keptNo HK1.out).keptNo hk)
    -- ReadHead
    obtain ⟨p1, hs1, hp1⟩ := slg_l bo n c at_ b HN.out hat hcap HR.out.nil
    have hd1 : (b.drop at_).take (n - at_) = b.drop at_ := List.take_of_length_le (by rw [List.length_drop, HN.out]; exact Nat.le_refl _)
    have hsub : ∀ W, Kept NoB w1 W → CurRow W p1 (c - at_) (b.drop at_) := fun W hk => by
      have h := HRow.out W hk
      have hr := hp1.reads W h.rd
      rw [hd1] at hr
      exact ⟨hr, h.all.drop _, by rw [List.length_drop, ← HN.out]; omega, by have := h.most; omega, fun e => by have := h.nil (hp1.nil.1 e); omega⟩
    have hkr := HI.out.ob.kept
    have HRH := Lib.hid (readhead_any wr p1 (n - at_) (c - at_) (b.drop at_) (by rw [List.length_drop, HN.out]) (hsub wr hkr) (by rw [List.length_drop, ← HN.out]; omega))
    have hback := gz_back hrn.ok.ok (nb m.body ++ tl)
    rw [← hrn.hd] at hback
    have HBk := Lib.hid hback; have HRn := Lib.hid hrn
    -- numbers
    obtain ⟨H1, hH1⟩ : ∃ x, x = (headG m.g).length := ⟨_, rfl⟩
    obtain ⟨bl, hbl⟩ : ∃ x, x = m.body.length := ⟨_, rfl⟩
    obtain ⟨at2, hat2⟩ : ∃ x, x = at_ + H1 := ⟨_, rfl⟩
    obtain ⟨at3, hat3⟩ : ∃ x, x = m.next at_ := ⟨_, rfl⟩
    have hnx : at3 = at2 + bl := by rw [hat3, hat2, hH1, hbl]; rfl
    have hA2 : (at_ : Int) + (H1 : Int) = (at2 : Int) := by omega
    have hA3 : (at2 : Int) + (bl : Int) = (at3 : Int) := by omega
    rw [← hH1, ← hat2] at l3
    rw [← hat3] at l2 l4 HWh
    have hH1b : H1 ≤ 70000 := by rw [hH1]; exact (headG_len m.g hrn.ok.ok).2
    have hH10 : 10 ≤ H1 := by rw [hH1]; exact (headG_len m.g hrn.ok.ok).1
    have hblb : bl ≤ 256 := by rw [hbl]; exact hrn.ok.bl
    have hat3n : at3 ≤ n := by rw [HN.out]; omega
    have hat2n : at2 ≤ n := by omega
    have L2 := Lib.hid l2; have L3 := Lib.hid l3; have L4 := Lib.hid l4; have HH1 := Lib.hid hH1; have HBl := Lib.hid hbl; have HA3e := Lib.hid hat3; have HNx := Lib.hid hnx
    obtain ⟨p2, hs2, hp2⟩ := slg_l bo n c at2 b HN.out hat2n hcap HR.out.nil
    obtain ⟨p3, hs3, hp3⟩ := slg_l bo n c at3 b HN.out hat3n hcap HR.out.nil
    have HSub : Hid (∀ (p : Option Addr) (at4 : Nat), at4 ≤ n → PartG bo b at4 n p → ∀ W, Kept NoB w1 W → CurRow W p (c - at4) (b.drop at4)) := Lib.hid (fun p at4 h4 hp W hk => by
      have h := HRow.out W hk
      have hr := hp.reads W h.rd
      rw [List.take_of_length_le (by rw [List.length_drop, HN.out]; exact Nat.le_refl _)] at hr
      exact ⟨hr, h.all.drop _, by rw [List.length_drop, ← HN.out]; omega, by have := h.most; omega, fun e => by have := h.nil (hp.nil.1 e); omega⟩)
    have HS2 := Lib.hid (HSub.out p2 at2 hat2n hp2); have HS3 := Lib.hid (HSub.out p3 at3 hat3n hp3)
    have holn := HI.out.ob.len
    have hroom := hrn.room
    obtain ⟨ml, hml⟩ : ∃ x, x = m.L.length := ⟨_, rfl⟩
    have hrm : ol + ml ≤ M := by rw [holn, hml]; exact hroom
    have hml1 : ml ≤ 1000 := by rw [hml]; exact hrn.ok.ll
    have HMl := Lib.hid hml
    obtain ⟨Mr, hMr⟩ : ∃ x, x = M - ol := ⟨_, rfl⟩
    have hsubM : IntKind.i64.wrap ((M : Int) - (ol : Int)) = (Mr : Int) := by rw [IntWalk.i64_in _ (by omega)]; omega
    have hMrb : ml ≤ Mr := by omega
    have hMr2 : Mr ≤ 1000000 := by omega
    clear hwhat hp1 hd1 hsub hback hrn HGo l1 l2 l3 l4 l5 hH1 hbl hat2 hat3 hnx hp2 hp3 holn hroom hml hMr HSub
    go_wp2_with fail
    refine HRH.out.mono ?_
    rintro e w3 ⟨a, k, g', n', rfl, hz1, hz2, hx, hk3⟩
    have he0 : (hdS (b.drop at_)).s14.e = 0 := by rw [HBk.out.1]
    obtain ⟨hg', hn'⟩ := hz1.out he0
    rw [HBk.out.2] at hg'
    have hn2 : n' = H1 := by rw [hn', HBk.out.1, HH1.out]
    subst hg' hn2
    rw [he0]
    obtain ⟨hx1, hx2, hx3, hx4, hx5⟩ := hx.out
    have hG1 : (w3.alloc (.cells gz0 42)).heap[w3.heap.size]? = some (.cells gz0 42 (0, 0)) := heap_alloc_new _ _
    have hG2 : ((w3.alloc (.cells gz0 42)).setRow w3.heap.size (gzV a k m.g)).heap[w3.heap.size]? = some (.cells (gzV a k m.g) 42 (0, 0)) := setRow_heap _ _ _ _ _ _ hG1
    have hk4 : Kept NoB w3 ((w3.alloc (.cells gz0 42)).setRow w3.heap.size (gzV a k m.g)) := by
      have h1 : Kept NoB w3 (w3.alloc (.cells gz0 42)) := (Kept.refl _ _).alloc _
      exact ⟨h1.os, h1.tape, h1.output, by simp [World.setRow], fun k hk hs => (setRow_other _ _ k _ (by omega)).trans (h1.block k hk hs)⟩
    have hone : (gzV a k m.g).all (·.oneCell') = true := by unfold gzV; rw [← Array.all_toList]; rfl
    unfold gz0 at hG1 hG2 hk4
    have HG1 := Lib.hid hG1; have HOne := Lib.hid hone
    clear hz1 hz2 hx hn' he0 hG1 hone HRH HBk
    go_upto_region 3 with (refine wpList_store_row rfl 42 (.tmp 9) (.tmp 24) rfl w3.heap.size (gzV a k m.g) rfl rfl _ _ HG1.out infoGz rfl HOne.out ?_)
    generalize (w3.alloc (.cells #[.bool false, .bool false, .bool false, .slice none 0 0, .string ⟨#[]⟩, .string ⟨#[]⟩, .int .i64 0, .int .i64 0, .int .i64 0] 42)).setRow w3.heap.size (gzV a k m.g) = w4 at hG2 hk4 ⊢
    generalize w3.heap.size = G at hG2 ⊢
    have hk34 := hk3.trans hk4
    have hlo4 : w1.heap.size ≤ (w4.alloc (.cells (gzV a k m.g) 42)).heap.size := by
      have h1 := HI.out.ob.kept.size
      have h2 := hk34.size
      simp; omega
    have hka : Kept NoB wr (w4.alloc (.cells (gzV a k m.g) 42)) := hk34.alloc _
    have HEnt := Lib.hid (HI.out.ent hka (hx1.keptNo (hk4.alloc _)) hx2 hx3 hx4 hx5)
    have HIa := Lib.hid (HI.out.no hka)
    have HG2 := Lib.hid hG2; have HLo := Lib.hid hlo4
    have hhl2 : hl ≤ 100000 := by omega
    clear hG2 hk4 hk34 hka hx1 hx2 hx3 hx4 hx5 hk3 hlo4 HG1 HI
    go_upto_region 9 with (first
      | (refine wpList_load_row rfl 42 (.tmp 9) rfl G rfl 42 (gzV a k m.g) (0, 0) _ HG2.out Tryz.underlying42 rfl infoGz ?_)
      | (refine wpList_build_one rfl (.tmp 37) rfl a k m.g rfl ?_)
      | (at_builtin; refine wpList_gz rfl (.tmp 36) (.tmp 38) rfl HIa.out.hs HLo.out rfl w4.heap.size 1 ⟨a, k, m.g⟩ rfl (heap_alloc_new _ _) hhl2 ?_; intro h5 c5 w5 hS5 hk5 hr5; have HI5 := Lib.hid (HIa.out.head hS5 hk5 hr5 HEnt.out); clear hS5 hk5 hr5))
    have hIn : ∀ lv qs, PackedP lv m.L (nb m.body) qs → Calls Tryz.prog 45 #[.slice p2 (n - at2) (c - at2), .int .i64 (Mr : Int)] w5 (InfGR w5 (nb m.body).length m.L) := fun lv qs hP =>
      inflated_any w5 p2 (n - at2) (c - at2) (b.drop at2) (nb m.body) tl lv m.L qs (Mr : Int) Mr L3.out (by rw [List.length_drop, HN.out]) (HS2.out w5 HI5.out.ob.kept) (by omega) hP (by rw [nb_len, ← HBl.out]; exact hblb) (by rw [nb_len]; exact HRn.out.ok.b0) rfl (by rw [← HMl.out]; exact hMrb) (by have := HRn.out.ok.ll; omega) hMr2
    obtain ⟨lv, qs, hPk⟩ := HRn.out.ok.pk
    have hInf := hIn lv qs hPk
    rw [nb_len, ← HBl.out] at hInf
    have HInf := Lib.hid hInf
    clear hIn hPk hInf HIa HEnt
    go_wp2_with fail
    refine HInf.out.mono ?_
    rintro e w6 ⟨fo, fl, fc, rfl, HFl, HFs⟩
    have hfl : fl = ml := by rw [HFl.out, HMl.out]
    subst hfl
    have hk6 := HFs.out.kept
    have hI6 := HI5.out.no hk6
    have hcapF := HFs.out.cap
    have hapart : ∀ q, fo = some q → (Value.slice oa ol oc).ownBlock ≠ some q.block := fun q hq e => by
      have h1 := (HI5.out.ob.own.lt _ e).2
      have h2 := HFs.out.fresh q.block (by subst hq; exact own_block HFs.out.own rfl)
      omega
    have hcur6 : CurRow w6 fo fc (nb m.L) := ⟨HFs.out.reads, nb_all _, by rw [nb_len, ← HMl.out]; exact hcapF.1, hcapF.2.1, hcapF.2.2⟩
    have HI6 := Lib.hid hI6; have HCu := Lib.hid hcur6; have HAp := Lib.hid hapart
    have hob : ol + fl ≤ 100000000 := by omega
    clear hk6 hI6 hcapF hapart hcur6 HInf HI5 hs2
    go_upto_region 10 with fail
    go_cut [4] from 56 to 58 (fun v4 wx => ∃ (o7 : Option Addr) (l7 c7 : Nat), v4 = .slice o7 l7 c7 ∧ l7 ≤ M ∧ Hid (GzI w1 wx o7 l7 c7 (out ++ m.L) h5 (hl + 1) c5 (es ++ [⟨a, k, m.g⟩])) ∧ Hid (CurRow wx fo fc (nb m.L)))
    case first =>
      cases fo with
      | none =>
        have hfc := HCu.out.nil rfl
        have hL0 : m.L = [] := by
          have h1 := HCu.out.cap
          rw [nb_len] at h1
          exact List.eq_nil_of_length_eq_zero (by omega)
        have hf0 : fl = 0 := by rw [HMl.out, hL0]; rfl
        subst hfc
        subst hf0
        go_wp2_with (at_builtin; refine wpList_by_none rfl (.tmp 56) (.tmp 57) rfl HI6.out.ob rfl rfl ?_)
        go_meet
        exact ⟨oa, ol, oc, rfl, hom, Lib.hid (by rw [hL0, List.append_nil]; exact HI6.out), HCu⟩
      | some ad =>
        go_wp2_with (at_builtin; refine wpList_by_rowX rfl (.tmp 56) (.tmp 57) rfl HI6.out.ob rfl ad fc fl m.L HMl.out rfl HCu.out.rd hob ?_; intro o7 c7 w7 hS7 hk7 hr7; have HI7 := Lib.hid (HI6.out.grow hS7 hk7 hr7); have HC7 : Hid (CurRow w7 (some ad) fc (nb m.L)) := Lib.hid ⟨HCu.out.rd.kept hk7 (fun a ha e => by cases ha; exact HAp.out _ rfl e), HCu.out.all, HCu.out.cap, HCu.out.most, HCu.out.nil⟩; clear hS7 hk7 hr7)
        go_meet
        exact ⟨o7, _, c7, rfl, hrm, HI7, HC7⟩
    case rest =>
    obtain ⟨o7, l7, c7, rfl, hl7, HI7, HC7⟩ := hcut
    have htl := L4.out
    have HTl := Lib.hid (tail_any wc T p3 (n - at3) (c - at3) (b.drop at3) fo fl fc (nb m.L) (HT.out.keptNo HI7.out.ob.kept) (HS3.out wc HI7.out.ob.kept) (by rw [List.length_drop, HN.out]) HC7.out (by rw [nb_len, HMl.out]) (by omega))
    rw [htl] at HTl
    have HTl : Hid (Calls Tryz.prog 46 #[.pointer (some ⟨T, 0, none⟩), .slice p3 (n - at3) (c - at3), .slice fo fl fc] wc fun e w' => e = .returned (.tuple #[.int .i64 ((tailS tl (crcL m.L) fl).1 : Nat), .int .i64 (tailS tl (crcL m.L) fl).2]) ∧ Kept NoB wc w') := HTl
    rw [HMl.out] at HTl
    have hrl := tailS_le tl (crcL m.L) m.L.length
    have htn : tl.length ≤ n := by have := L2.out; have := HN.out; omega
    obtain ⟨⟨r, er⟩, hre⟩ : ∃ t, t = tailS tl (crcL m.L) m.L.length := ⟨_, rfl⟩
    rw [← hre] at HTl HWh hrl
    have HRe := Lib.hid hre
    dsimp only at HTl hrl
    rw [← HMl.out] at HTl
    have hrb : r ≤ 100000 := by omega
    clear hre hrl htn htl
    go_wp2_with fail
    refine HTl.out.mono ?_
    rintro e w8 ⟨rfl, hk8⟩
    have HI8 := Lib.hid (HI7.out.no hk8)
    clear hk8 HTl HI7 HI6 HCu HAp HC7 HFs
    have hfin : ∀ w9, Kept NoB w8 w9 → GzI w w9 o7 l7 c7 (out ++ m.L) h5 (hl + 1) c5 (es ++ [⟨a, k, m.g⟩]) := fun w9 hk => (HI8.out.no hk).base HK1.out
    have HFin := Lib.hid hfin
    have HMap : Hid ((es ++ [(⟨a, k, m.g⟩ : GzE)]).map (·.g) = es.map (·.g) ++ [m.g]) := Lib.hid (by simp)
    clear hfin
    rcases HWh.out with ⟨r', e', h1, h2, h3, h4, h5', h6⟩ | ⟨h1, h2⟩
    · cases h1
      have he2 : (er == 0) = false := by simpa using h2
      have HA := Lib.hid h3; have HE := Lib.hid h4; have HO := Lib.hid h5'; have HGs := Lib.hid h6
      clear h2 h3 h4 h5' h6 HWh hs3
      go_wp2
      refine bodyPost_ret (results_tmp4 rfl _ _ _) rfl ?_
      refine ⟨o7, l7, c7, h5, hl + 1, c5, _, ?_, Lib.hid (by rw [HO.out]; exact HFin.out w8 (Kept.refl _ _)), Lib.hid (by rw [HMap.out, HGs.out])⟩
      rw [HA.out, HE.out]
      first | rfl | (push_cast; rfl)
    · cases h1
      have h8 := tailS_ok HRe.out.symm
      obtain ⟨at4, hat4⟩ : ∃ x, x = at3 + 8 := ⟨_, rfl⟩
      have hA4 : (at3 : Int) + 8 = (at4 : Int) := by omega
      have hat4n : at4 ≤ n := by have := L2.out; have := HN.out; omega
      obtain ⟨p4, hs4, hp4⟩ := slg_l bo n c at4 b HN.out hat4n hcap HR.out.nil
      rw [← hat4] at h2
      have hrow := HRow.out w8 HI8.out.ob.kept
      have hr4 := hp4.reads w8 hrow.rd
      rw [List.take_of_length_le (by rw [List.length_drop, HN.out]; exact Nat.le_refl _)] at hr4
      have HNo := Lib.hid (noughts_anyG w8 p4 (n - at4) (c - at4) (b.drop at4) (by rw [List.length_drop, HN.out]) hr4 (by omega))
      have hzl := leadZ_le (b.drop at4)
      rw [List.length_drop, ← HN.out] at hzl
      obtain ⟨Z, hZ⟩ : ∃ x, x = leadZ (b.drop at4) := ⟨_, rfl⟩
      rw [← hZ] at HNo hzl h2
      rw [← HN.out] at h2
      have hZb : Z ≤ 100000 := by omega
      have hatg : at_ < at4 := by have := HNx.out; omega
      have HW := Lib.hid h2; have HA4e := Lib.hid hat4
      clear h8 h2 hat4 hp4 hrow hr4 hZ HWh
      have hcase : (at4 + Z = n) ∨ (at4 + Z ≠ n) := by omega
      rcases hcase with hq | hq
      · have hdone : a2 = 0 ∧ e2 = 0 ∧ o2 = out ++ m.L ∧ g2 = es.map (·.g) ++ [m.g] := by
          rcases HW.out with ⟨_, h⟩ | ⟨h, _⟩ | ⟨h, h', _⟩
          · exact h
          · exact absurd hq h
          · omega
        have hq2 : ((at4 : Int) + (Z : Int) == (n : Int)) = true := by rw [beq_iff_eq]; omega
        have hq3 : (at4 : Int) + (Z : Int) = (n : Int) := by omega
        obtain ⟨d1, d2, d3, d4⟩ := hdone
        have HD1 := Lib.hid d1; have HD2 := Lib.hid d2; have HD3 := Lib.hid d3; have HD4 := Lib.hid d4
        clear d1 d2 d3 d4 hq HW
        go_wp2_with fail
        refine HNo.out.mono ?_
        rintro e w9 ⟨rfl, rfl⟩
        go_wp2
        refine bodyPost_ret (results_tmp4 rfl _ _ _) rfl ?_
        refine ⟨o7, l7, c7, h5, hl + 1, c5, _, ?_, Lib.hid (by rw [HD3.out]; exact HFin.out _ (Kept.refl _ _)), Lib.hid (by rw [HMap.out, HD4.out])⟩
        rw [HD1.out, HD2.out]
        rfl
      · have hq2 : ((at4 : Int) + (Z : Int) == (n : Int)) = false := by rw [beq_eq_false_iff_ne]; omega
        by_cases hz0 : Z = 0
        · subst hz0
          have hgo : GoG b M at4 (out ++ m.L) (es.map (·.g) ++ [m.g]) a2 e2 o2 g2 := by
            rcases HW.out with ⟨h, _⟩ | ⟨_, h, _⟩ | ⟨_, _, h⟩
            · exact absurd h hq
            · omega
            · exact h
          have hq4 : ((at4 : Int) == (n : Int)) = false := by rw [beq_eq_false_iff_ne]; omega
          have HGo := Lib.hid hgo
          clear hgo HW hq hq2
          go_wp2_with fail
          refine HNo.out.mono ?_
          rintro e w9 ⟨rfl, rfl⟩
          go_wp2
          go_roundw
          case rel => exact ⟨o7, l7, c7, out ++ m.L, h5, hl + 1, c5, es ++ [⟨a, k, m.g⟩], at4, rfl, rfl, by go_num, hat4n, by omega, hl7, HI8, Lib.hid (by rw [HMap.out]; exact HGo.out)⟩
          case measure => simp [intOf]; omega
        · have hjunk : a2 = at4 + Z ∧ e2 = 8 ∧ o2 = out ++ m.L ∧ g2 = es.map (·.g) ++ [m.g] := by
            rcases HW.out with ⟨h, _⟩ | ⟨_, _, h⟩ | ⟨_, h, _⟩
            · exact absurd h hq
            · exact h
            · exact absurd h hz0
          obtain ⟨d1, d2, d3, d4⟩ := hjunk
          have HD1 := Lib.hid d1; have HD2 := Lib.hid d2; have HD3 := Lib.hid d3; have HD4 := Lib.hid d4
          have hzp : (0 : Int) < (Z : Int) := by omega
          clear d1 d2 d3 d4 hq HW hz0
          go_wp2_with fail
          refine HNo.out.mono ?_
          rintro e w9 ⟨rfl, rfl⟩
          go_wp2
          refine bodyPost_ret (results_tmp4 rfl _ _ _) rfl ?_
          refine ⟨o7, l7, c7, h5, hl + 1, c5, _, ?_, Lib.hid (by rw [HD3.out]; exact HFin.out _ (Kept.refl _ _)), Lib.hid (by rw [HMap.out, HD4.out])⟩
          rw [HD1.out, HD2.out]
          first | rfl | (push_cast; rfl)
end Go.Proofs.YtfmjfgmbjdhogaaGreatDoor
