/-
  A tree of files in memory: what lies where; what reads it.
-/
import Derived.Test.YtilndmmjdbhmgaaFsA
import Derived.Deep.MidRow
import Derived.Laws.Rows
import Derived.Laws.Tables
namespace Go.Proofs.Ytilndmmjdbhmgaa
open Go.RowKit
open Go.Maps (Keyed)
set_option linter.unusedVariables false
set_option linter.unusedSimpArgs false
set_option maxRecDepth 20000

theorem infoFp : (Try.prog.info? 61).map (fun i => (i.zero, i.size, i.bytes)) = some (some (.agg #[.int .i64 0, .slice none 0 0]), 2, 32) := by kernel_rfl
/-- A node's cells. -/
def ndC (n : NdP) (m : Option Nat) (a : Option Addr) (c : Nat) : List Value := nvC n.v ++ [.map m, .int .i64 n.par, .slice a n.data.length c]
/-- A piece, and where its bytes lie. -/
abbrev FpQ := Fp × (Option Addr × Nat)
def fcells (qs : List FpQ) : List Value := qs.flatMap fun q => [.int .i64 q.1.1, .slice q.2.1 q.1.2.length q.2.2]
/-- A mark of a block. -/
inductive Lab where
  | no
  | fs
  | tab
  | nd (i : Int)
  | nm (i : Int)
  | row (i : Int)
  | byt (i : Int)
/-- What was written of node i lies in a row of pieces, each with its own row of bytes. -/
structure DatSt (L : Nat → Lab) (i : Int) (w : World) (a : Option Addr) (l c : Nat) (qs : List FpQ) : Prop where
  len : l = qs.length
  own : w.ownsRow 0 61 2 (.slice a l c) l (fcells qs)
  lab : ∀ k, (Value.slice a l c).ownBlock = some k → L k = .row i
  each : ∀ q ∈ qs, w.ownsRow 0 5 1 (.slice q.2.1 q.1.2.length q.2.2) q.1.2.length (bc q.1.2)
  labs : ∀ q ∈ qs, ∀ k, (Value.slice q.2.1 q.1.2.length q.2.2).ownBlock = some k → L k = .byt i
  apart : qs.Pairwise (fun p q => ∀ k, (Value.slice p.2.1 p.1.2.length p.2.2).ownBlock = some k → (Value.slice q.2.1 q.1.2.length q.2.2).ownBlock ≠ some k)
/-- Node i lies in block b. -/
structure NdSt (L : Nat → Lab) (i : Int) (w : World) (b : Nat) (n : NdP) (m : Option Nat) (a : Option Addr) (c : Nat) (qs : List FpQ) : Prop where
  obj : w.heap[b]? = some (.cells (ndC n m a c).toArray 71 (0, 0))
  lab : L b = .nd i
  dir : n.v.kind = 6 → ∃ mb, m = some mb ∧ L mb = .nm i ∧ NamesAt w mb n.names
  plain : n.v.kind ≠ 6 → m = none
  dat : DatSt L i w a n.data.length c qs
  data : qs.map Prod.fst = n.data
def fsC (mb : Nat) (T : FsP) : List Value := [.map (some mb), .int .i64 T.next, .int .i64 T.quota, .int .i64 T.used, .int .i64 T.clock]
/-- A tree of files at f; S: the blocks that are its own. -/
structure FsIn (L : Nat → Lab) (B : Int → Option Nat) (mb : Nat) (S : Nat → Prop) (w : World) (f : Nat) (T : FsP) : Prop where
  ok : OkT T
  obj : w.heap[f]? = some (.cells (fsC mb T).toArray 74 (0, 0))
  labf : L f = .fs
  labm : L mb = .tab
  tab : NodesAt w mb B T.cnt
  dom : ∀ i, (B i).isSome = (T.nd i).isSome
  node : ∀ i n b, T.nd i = some n → B i = some b → ∃ m a c qs, NdSt L i w b n m a c qs
  own : ∀ k, (∀ x, L k = x → x ≠ .no) → S k ∧ k < w.heap.size
def FsSt (S : Nat → Prop) (w : World) (f : Nat) (T : FsP) : Prop := ∃ L B mb, FsIn L B mb S w f T

theorem DatSt.kept {L : Nat → Lab} {i : Int} {w w' : World} {a : Option Addr} {l c : Nat} {qs : List FpQ} {K : Nat → Prop} (h : DatSt L i w a l c qs) (hk : Kept K w w') (hr : ∀ k, L k = .row i → ¬ K k) (hb : ∀ k, L k = .byt i → ¬ K k) : DatSt L i w' a l c qs :=
  ⟨h.len, hk.row h.own (fun k e => hr k (h.lab k e)), h.lab, fun q hq => hk.row (h.each q hq) (fun k e => hb k (h.labs q hq k e)), h.labs, h.apart⟩
theorem NdSt.kept {L : Nat → Lab} {i : Int} {w w' : World} {b : Nat} {n : NdP} {m : Option Nat} {a : Option Addr} {c : Nat} {qs : List FpQ} {K : Nat → Prop} (h : NdSt L i w b n m a c qs) (hk : Kept K w w')
    (h1 : ∀ k, L k = .nd i → ¬ K k) (h2 : ∀ k, L k = .nm i → ¬ K k) (h3 : ∀ k, L k = .row i → ¬ K k) (h4 : ∀ k, L k = .byt i → ¬ K k) : NdSt L i w' b n m a c qs where
  obj := hk.obj h.obj (h1 b h.lab)
  lab := h.lab
  dir := fun hd => by
    obtain ⟨mb, e1, e2, e3⟩ := h.dir hd
    exact ⟨mb, e1, e2, MapF.kept e3 hk (h2 mb e2)⟩
  plain := h.plain
  dat := h.dat.kept hk h3 h4
  data := h.data
theorem FsIn.kept {L : Nat → Lab} {B : Int → Option Nat} {mb : Nat} {S : Nat → Prop} {w w' : World} {f : Nat} {T : FsP} {K : Nat → Prop} (h : FsIn L B mb S w f T) (hk : Kept K w w') (hs : ∀ k, S k → ¬ K k) : FsIn L B mb S w' f T := by
  have key : ∀ k x, L k = x → x ≠ .no → ¬ K k := fun k x e hx => hs k (h.own k (fun y ey => by rw [← ey, e]; exact hx)).1
  refine ⟨h.ok, hk.obj h.obj (key f .fs h.labf (by simp)), h.labf, h.labm, MapF.kept h.tab hk (key mb .tab h.labm (by simp)), h.dom, ?_, fun k hk' => ⟨(h.own k hk').1, Nat.lt_of_lt_of_le (h.own k hk').2 hk.size⟩⟩
  intro i n b hn hb
  obtain ⟨m, a, c, qs, hq⟩ := h.node i n b hn hb
  exact ⟨m, a, c, qs, hq.kept hk (fun k e => key k _ e (by simp)) (fun k e => key k _ e (by simp)) (fun k e => key k _ e (by simp)) (fun k e => key k _ e (by simp))⟩
theorem FsSt.kept {S : Nat → Prop} {w w' : World} {f : Nat} {T : FsP} {K : Nat → Prop} (h : FsSt S w f T) (hk : Kept K w w') (hs : ∀ k, S k → ¬ K k) : FsSt S w' f T := by
  obtain ⟨L, B, mb, h⟩ := h
  exact ⟨L, B, mb, h.kept hk hs⟩
theorem FsSt.keptNo {S : Nat → Prop} {w w' : World} {f : Nat} {T : FsP} (h : FsSt S w f T) (hk : Kept NoB w w') : FsSt S w' f T := h.kept hk (fun _ _ e => e)
/-- The blocks of a tree's own, behind a call that made some. -/
def Grow (S : Nat → Prop) (w w' : World) : Nat → Prop := fun k => S k ∨ (w.heap.size ≤ k ∧ k < w'.heap.size)

theorem FsIn.cells {L : Nat → Lab} {B : Int → Option Nat} {mb : Nat} {S : Nat → Prop} {w : World} {f : Nat} {T : FsP} (h : FsIn L B mb S w f T) :
    w.cell? ⟨f, 0, none⟩ = some (.map (some mb)) ∧ w.cell? ⟨f, 1, none⟩ = some (.int .i64 T.next) ∧ w.cell? ⟨f, 2, none⟩ = some (.int .i64 T.quota) ∧ w.cell? ⟨f, 3, none⟩ = some (.int .i64 T.used) ∧ w.cell? ⟨f, 4, none⟩ = some (.int .i64 T.clock) := by
  have h0 := h.obj
  exact ⟨by rw [obj_cell h0]; rfl, by rw [obj_cell h0]; rfl, by rw [obj_cell h0]; rfl, by rw [obj_cell h0]; rfl, by rw [obj_cell h0]; rfl⟩
theorem FsIn.keptNo {L : Nat → Lab} {B : Int → Option Nat} {mb : Nat} {S : Nat → Prop} {w w' : World} {f : Nat} {T : FsP} (h : FsIn L B mb S w f T) (hk : Kept NoB w w') : FsIn L B mb S w' f T := h.kept hk (fun _ _ e => e)

/-! ### what only reads -/
theorem root_any (f : Nat) (w : World) : Calls Try.prog 24 #[.pointer (some ⟨f, 0, none⟩)] w fun e w' => e = .returned (.int .i64 1) ∧ w' = w := by
  go_enter Try.func24, Try.ntmps24
  go_wp2
  go_ret
  exact ⟨rfl, rfl⟩
theorem used_any {S : Nat → Prop} {w : World} {f : Nat} {T : FsP} (h : FsSt S w f T) : Calls Try.prog 11 #[.pointer (some ⟨f, 0, none⟩)] w fun e w' => e = .returned (.int .i64 T.used) ∧ w' = w := by
  obtain ⟨L, B, mb, h⟩ := h
  obtain ⟨c0, c1, c2, c3, c4⟩ := h.cells
  clear h
  go_enter Try.func11, Try.ntmps11
  go_wp2
  go_ret
  exact ⟨rfl, rfl⟩
theorem clock_any {S : Nat → Prop} {w : World} {f : Nat} {T : FsP} (h : FsSt S w f T) : Calls Try.prog 10 #[.pointer (some ⟨f, 0, none⟩)] w fun e w' => e = .returned (.int .i64 T.clock) ∧ w' = w := by
  obtain ⟨L, B, mb, h⟩ := h
  obtain ⟨c0, c1, c2, c3, c4⟩ := h.cells
  clear h
  go_enter Try.func10, Try.ntmps10
  go_wp2
  go_ret
  exact ⟨rfl, rfl⟩
end Go.Proofs.Ytilndmmjdbhmgaa
