/-
  What is kept of a world while a call writes some blocks alone; rows of bytes; objects of two or more fields. Nothing of the program is named here.
  Maps of the call's own, told by what each key leads to.
  What was written of a file, on paper: pieces that rise, none beside another; bytes put, cut, read; how many bytes fit.
  What was written of a file, on paper: which bytes there are behind a write and a cut; reading; how many fit.
  Numbers made of bytes, the lowest first; bits of them. No Go in sight.
  bytes.Clone: a copy in memory of the call's own.
  What comes in, opened as it is needed: 'Rd w t cs': the cells cs read as a value of type t. One lemma for each kind of type.
  Small things that many walks want: rows of bytes that are read, told as strings, told anew; rows that a call owns.
  What is told of a node: on paper, and as cells; what may be made.
  A tree of files on paper: what each call makes of it, and what it answers.
  What a part may be, on paper; texts as rows of bytes.
-/
import Derived.WalkKit
import Derived.WalkSpells
import Derived.WalkLawsBesides
import Derived.Deep.QuietTactic
import Derived.BigQuiet
import Derived.Lib.Hide
import Derived.Maps.OwnSet
import Derived.Maps.OwnOps
import Derived.Maps.RangeWalk
import Derived.Laws.BitsAllLaws
import Derived.Test.YtjjgadanobeamaaDoorRows
import Derived.ProofKit
import Derived.OpenShut
import Derived.ShutString
import Derived.ChangeOld
import Derived.Deep.Slices
import Derived.Deep.Fields
import Derived.Deep.DeepCutAuto
import Derived.Deep.RegionHeld3
import Derived.BigRegion
import Derived.Laws.BytesArg
import Derived.Laws.AppendOwnNone
import Derived.Lib.IndexAny
import Derived.Lib.BytesEntry
import Derived.OwnWalk
namespace Go.Proofs.YtjjgadanobeamaaDoor
open Go.RowKit

structure Kept (S : Nat → Prop) (w w' : World) : Prop where
  os : w'.os = w.os
  tape : w'.tape = w.tape
  output : w'.output = w.output
  size : w.heap.size ≤ w'.heap.size
  block : ∀ k, k < w.heap.size → ¬ S k → w'.heap[k]? = w.heap[k]?

def NoB : Nat → Prop := fun _ => False
def OneB (r : Nat) : Nat → Prop := fun k => k = r
def OwnB (v : Value) : Nat → Prop := fun k => v.ownBlock = some k
theorem Kept.refl (S : Nat → Prop) (w : World) : Kept S w w := ⟨rfl, rfl, rfl, Nat.le_refl _, fun _ _ _ => rfl⟩
theorem Kept.trans {S : Nat → Prop} {a b c : World} (h : Kept S a b) (k : Kept S b c) : Kept S a c :=
  ⟨k.os.trans h.os, k.tape.trans h.tape, k.output.trans h.output, Nat.le_trans h.size k.size, fun i hi hs => (k.block i (Nat.lt_of_lt_of_le hi h.size) hs).trans (h.block i hi hs)⟩
theorem Kept.mono {S T : Nat → Prop} {a b : World} (h : Kept S a b) (hs : ∀ k, k < a.heap.size → S k → T k) : Kept T a b :=
  ⟨h.os, h.tape, h.output, h.size, fun i hi ht => h.block i hi (fun s => ht (hs i hi s))⟩
theorem Kept.drew {S : Nat → Prop} {a b : World} (h : Kept S a b) : Kept S a b.drew := ⟨h.os, h.tape, h.output, h.size, h.block⟩
theorem Kept.drewN {S : Nat → Prop} {a b : World} (h : Kept S a b) (n : Nat) : Kept S a (b.drewN n) := ⟨h.os, h.tape, h.output, h.size, h.block⟩
theorem Kept.setCell {S : Nat → Prop} {a b : World} (h : Kept S a b) {p : Addr} (hp : S p.block ∨ a.heap.size ≤ p.block) (u : Value) : Kept S a (b.setCell p u) :=
  ⟨h.os, h.tape, h.output, by simpa using h.size, fun i hi hs => (Below.heap_setCell _ _ _ _ (fun e => by rcases hp with hp | hp; exact hs (e ▸ hp); omega)).trans (h.block i hi hs)⟩
theorem Kept.alloc {S : Nat → Prop} {a b : World} (h : Kept S a b) (o : Obj) : Kept S a (b.alloc o) :=
  ⟨h.os, h.tape, h.output, by have := h.size; simp; omega, fun i hi hs => (Below.heap_alloc _ _ _ (Nat.lt_of_lt_of_le hi h.size)).trans (h.block i hi hs)⟩
theorem Kept.grown {S : Nat → Prop} {a b c : World} (h : Kept S a b) {row : Option Nat} (g : b.grownBy c row) (hr : ∀ k, k < a.heap.size → row = some k → S k) : Kept S a c :=
  ⟨g.os.trans h.os, g.tape.trans h.tape, g.output.trans h.output, Nat.le_trans h.size g.size,
    fun i hi hs => (g.block i (Nat.lt_of_lt_of_le hi h.size) (fun e => hs (hr i hi e.symm))).trans (h.block i hi hs)⟩
theorem Kept.ofBelow {S : Nat → Prop} {a b c : World} (h : Kept S a b) (g : Below b.heap.size b c) : Kept S a c :=
  ⟨g.os.trans h.os, g.tape.trans h.tape, g.output.trans h.output, Nat.le_trans h.size g.size,
    fun i hi hs => (g.block i (Nat.lt_of_lt_of_le hi h.size)).trans (h.block i hi hs)⟩
theorem Kept.below {S : Nat → Prop} {w a b : World} (h : Kept S a b) (hb : Below w.heap.size w a) (hs : ∀ k, S k → w.heap.size ≤ k) : Below w.heap.size w b :=
  ⟨h.os.trans hb.os, h.tape.trans hb.tape, h.output.trans hb.output, Nat.le_trans hb.size h.size,
    fun i hi => (h.block i (Nat.lt_of_lt_of_le hi hb.size) (fun s => by have := hs i s; omega)).trans (hb.block i hi)⟩
theorem Kept.belowNo {w a b : World} (h : Kept NoB a b) (hb : Below w.heap.size w a) : Below w.heap.size w b := h.below hb (fun _ s => s.elim)

theorem Kept.row {S : Nat → Prop} {a b : World} (h : Kept S a b) {base e size n : Nat} {v : Value} {xs : List Value} (ho : a.ownsRow base e size v n xs) (hs : ∀ k, v.ownBlock = some k → ¬ S k) : b.ownsRow base e size v n xs := by
  refine ⟨ho.1, ?_⟩
  rcases ho.2 with hn | ⟨g, cap, cur, rfl, hb, hg, rest⟩
  · exact .inl hn
  · exact .inr ⟨g, cap, cur, rfl, hb, (h.block g (Array.getElem?_eq_some_iff.1 hg).1 (hs g rfl)).trans hg, rest⟩
theorem Kept.obj {S : Nat → Prop} {a b : World} (h : Kept S a b) {R : Nat} {o : Obj} (ho : a.heap[R]? = some o) (hs : ¬ S R) : b.heap[R]? = some o :=
  (h.block R (Array.getElem?_eq_some_iff.1 ho).1 hs).trans ho

theorem obj_cell {w : World} {R : Nat} {cs : Array Value} {t : TypeId} (h : w.heap[R]? = some (.cells cs t (0, 0))) (i : Nat) : w.cell? ⟨R, i, none⟩ = cs[i]? := cell_of_row w R i cs t (0, 0) h
theorem obj_free {w : World} {R : Nat} {cs : Array Value} {t : TypeId} (h : w.heap[R]? = some (.cells cs t (0, 0))) (i : Nat) : w.frozen? ⟨R, i, none⟩ = false := frozen_of_row w R i cs t h
theorem obj_set {w : World} {R : Nat} {cs : Array Value} {t : TypeId} (h : w.heap[R]? = some (.cells cs t (0, 0))) (i : Nat) (u : Value) : (w.setCell ⟨R, i, none⟩ u).heap[R]? = some (.cells (cs.setIfInBounds i u) t (0, 0)) :=
  heap_setCell_same w R i cs t u h
theorem obj_lt {w : World} {R : Nat} {o : Obj} (h : w.heap[R]? = some o) : R < w.heap.size := (Array.getElem?_eq_some_iff.1 h).1

section
variable {P : Program} (w : World)
theorem run_app (e t ty : TypeId) (i : TypeInfo) (z : Value) (size bytes : Nat) (ht : P.underlying t = some (.slice e)) (hi : P.info? e = some i) (hz : i.zero = some z)
    (hsize : i.size = size) (hby : i.bytes = bytes) (hzs : z.cells.size = size) (hsz : 0 < size)
    (v : Value) (n : Nat) (xs : List Value) (hown : w.ownsRow 0 e size v n xs)
    (a : Addr) (m c : Nat) (news : List Value) (hl : news.length = m * size) (hnews : ∀ j u, news[j]? = some u → w.cell? (a.add j) = some u) (h1 : ∀ u ∈ news, u.oneCell' = true)
    (h63 : n + m ≤ maxLen) (hbytes : (n + m) * bytes ≤ 140737488355328) :
    ∃ v' w', (Builtin.append_ #[t, t] ty #[v, .slice (some a) m c]).run P w = .ok v' w' ∧ w'.ownsRow 0 e size v' (n + m) (xs ++ news) ∧ w.grownBy w' v.ownBlock ∧
      (∀ k, v'.ownBlock = some k → v.ownBlock = some k ∨ w.heap.size ≤ k) := by
  obtain ⟨v', w', hr, ho, hg, hn⟩ := run_append_own (P := P) w 0 t ty e i z size bytes ht hi hz hsize hby hzs hsz v n xs hown a m c news hl hnews h1 h63 hbytes (Nat.zero_le _)
  refine ⟨v', w', hr, ho, hg, ?_⟩
  intro k hk
  have hown2 := hown
  rcases hown.2 with ⟨rfl, rfl⟩ | ⟨g, cap, cur, rfl, hbg, hgg, hnc, hcm, hcs, htake⟩
  · have hx : xs = [] := List.eq_nil_of_length_eq_zero (by simpa using hown.1)
    subst hx
    obtain ⟨v2, w2, hr2, ho2, _, _⟩ := run_append_own (P := P) w w.heap.size t ty e i z size bytes ht hi hz hsize hby hzs hsz _ 0 [] (World.ownsRow_nil w w.heap.size e size) a m c news hl hnews h1 h63 hbytes (Nat.le_refl _)
    rw [hr] at hr2
    cases hr2
    exact .inr (ho2.lt k hk).1
  · by_cases hroom : n + m ≤ cap
    · obtain ⟨w2, hr2, _, _⟩ := run_append_fits (P := P) w 0 t ty e i size ht hi hsize g n cap xs hown a m c news hl hnews h1 hroom
      rw [hr] at hr2
      cases hr2
      exact .inl hk
    · subst hsize
      subst hby
      have holds : ∀ j u, xs[j]? = some u → w.cell? ((⟨g, 0, none⟩ : Addr).add j) = some u := hown.cells (g := g) rfl
      have hr2 := run_append_grow (P := P) w t ty e i z ht hi hz ⟨g, 0, none⟩ n cap xs hown.1 holds a m c news hl hnews (by omega) (by simp only [maxLen] at h63; omega) (growslice_fits (by omega) hbytes)
      rw [hr] at hr2
      cases hr2
      simp [Value.ownBlock] at hk
      exact .inr (by omega)

theorem wpList_app {ops : Array Oper} {rest : List Oper} {o : Oper} {a : Act} {Q : Exit → Act → World → Prop} (hgd : o.guard = none) (s x : Operand) (t : TypeId)
    (ho : o.op = .call { callee := .builtin .append, args := #[s, x], argTypes := #[t, t] })
    (e : TypeId) (i : TypeInfo) (z : Value) (size bytes : Nat) (ht : P.underlying t = some (.slice e)) (hi : P.info? e = some i) (hz : i.zero = some z)
    (hsize : i.size = size) (hby : i.bytes = bytes) (hzs : z.cells.size = size) (hsz : 0 < size)
    (v : Value) (n : Nat) (xs : List Value) (hs : a.eval s = v) (hown : w.ownsRow 0 e size v n xs)
    (ad : Addr) (m c : Nat) (news : List Value) (hx : a.eval x = .slice (some ad) m c) (hl : news.length = m * size) (hnews : ∀ j u, news[j]? = some u → w.cell? (ad.add j) = some u) (h1 : ∀ u ∈ news, u.oneCell' = true)
    (h63 : n + m ≤ maxLen) (hbytes : (n + m) * bytes ≤ 140737488355328)
    (h : ∀ v' w', w'.ownsRow 0 e size v' (n + m) (xs ++ news) → w.grownBy w' v.ownBlock → (∀ k, v'.ownBlock = some k → v.ownBlock = some k ∨ w.heap.size ≤ k) → wpList P ops Q rest (a.put o.dst v') w') : wpList P ops Q (o :: rest) a w :=
  wpList_plain hgd fun _ hK => by
    obtain ⟨v', w', hr, h2, h3, h4⟩ := run_app (P := P) w e t o.type i z size bytes ht hi hz hsize hby hzs hsz v n xs hown ad m c news hl hnews h1 h63 hbytes
    unfold Oper.wp execOp
    simp only [ho, resolve, invoke, builtin, Sem.run_bind, Sem.run_pure, Result.andThen_ok, List.map_toArray, List.map_cons, List.map_nil, hs, hx, hr]
    exact hK _ _ (h v' w' h2 h3 h4)
end

end Go.Proofs.YtjjgadanobeamaaDoor

namespace Go.Proofs.YtjjgadanobeamaaDoor
open Go.RowKit
open Go.Maps (Keyed)
open Go.WideElems (Fit rd rg pl rd_val elemAt)
set_option linter.unusedVariables false
set_option linter.unusedSimpArgs false

abbrev Dt := DataW Unit
abbrev Rdr := Value → Option (Dt × List MemPlace)

def MapF (w : World) (P : Program) (k : TypeId) (R : Rdr) (b : Nat) (F : Lit → Option Dt) (c : Nat) : Prop :=
  ∃ D, w.ownsMap P k R b c D ∧ Maps.size D = c ∧ (∀ l, Maps.has D l = (F l).isSome) ∧ ∀ l d z, F l = some d → D.atKey l z = d

def updF (F : Lit → Option Dt) (kl : Lit) (d : Dt) : Lit → Option Dt := fun l => if l.sameKey kl then some d else F l
def delF (F : Lit → Option Dt) (kl : Lit) : Lit → Option Dt := fun l => if l.sameKey kl then none else F l

theorem own_tight {w : World} {P : Program} {k : TypeId} {R : Rdr} {b n : Nat} {D : Dt} (h : w.ownsMap P k R b n D) : w.ownsMap P k R b (Maps.size D) D := by
  obtain ⟨es, clock, hb, F, hs, rfl⟩ := h
  exact ⟨es, clock, hb, F, by simp [Maps.size, length_sorted], rfl⟩

section
variable {w w' : World} {P : Program} {k t e : TypeId} {R : Rdr} {b c : Nat} {F : Lit → Option Dt}

theorem MapF.made (w : World) (P : Program) (k : TypeId) (R : Rdr) : MapF (w.alloc (.map #[] 0)) P k R w.heap.size (fun _ => none) 0 :=
  ⟨.map [], World.ownsMap_made w P k R, rfl, fun l => rfl, fun l d z h => by cases h⟩
theorem MapF.lt (h : MapF w P k R b F c) : b < w.heap.size := by obtain ⟨D, ho, _⟩ := h; exact ho.lt
theorem MapF.heap (h : MapF w P k R b F c) (hb : w'.heap[b]? = w.heap[b]?) : MapF w' P k R b F c := by
  obtain ⟨D, ⟨es, clock, h1, h2⟩, h3⟩ := h
  exact ⟨D, ⟨es, clock, hb.trans h1, h2⟩, h3⟩
theorem MapF.kept {S : Nat → Prop} (h : MapF w P k R b F c) (hk : Kept S w w') (hs : ¬ S b) : MapF w' P k R b F c := h.heap (hk.block b h.lt hs)
theorem MapF.ne_cells (h : MapF w P k R b F c) {R' : Nat} {cs : Array Value} {ty : TypeId} {fr : Nat × Nat} (ho : w.heap[R']? = some (.cells cs ty fr)) : b ≠ R' := by
  obtain ⟨D, ⟨es, clock, h1, h2⟩, h3⟩ := h
  intro e
  rw [← e, h1] at ho
  cases ho

theorem MapF.look_ok (h : MapF w P k R b F c) (K : Keyed P k) (ht : P.underlying t = some (.map k e)) {z : Value} (hz : (zeroValue e).run P w = .ok z w) {zd : Dt} {zp : List MemPlace} (hzd : R z = some (zd, zp))
    {key : Value} {kl : Lit} (hkey : keyOf P k key = some kl) : ∃ v ps, (Instr.lookup t (.map (some b)) key true).run P w = .ok (.tuple #[v, .bool (F kl).isSome]) w ∧ R v = some ((F kl).getD zd, ps) := by
  obtain ⟨D, ho, hc, hh, ha⟩ := h
  obtain ⟨v, ps, hr, hv⟩ := ho.look_ok K ht hz hzd hkey
  refine ⟨v, ps, by rw [hr, hh], ?_⟩
  rw [hv]
  cases hF : F kl with
  | some d => rw [ha kl d zd hF]; rfl
  | none => rw [Maps.atKey_of_not_has (by rw [hh, hF]; rfl)]; rfl

theorem MapF.len (h : MapF w P k R b F c) (ht : P.underlying t = some (.map k e)) (ty : TypeId) : (Builtin.len_ #[t] ty #[.map (some b)]).run P w = .ok (.int .i64 c) w := by
  obtain ⟨D, ho, hc, _⟩ := h
  rw [ho.len ht ty, hc]

theorem MapF.store (h : MapF w P k R b F c) (K : Keyed P k) (ht : P.underlying t = some (.map k e)) (hn : c < maxLen) {key val : Value} {kl : Lit} {d : Dt} {ps : List MemPlace}
    (hkey : keyOf P k key = some kl) (hv : R val = some (d, ps)) : ∃ w', (Instr.mapUpdate t (.map (some b)) key val).run P w = .ok () w' ∧ MapF w' P k R b (updF F kl d) (if (F kl).isSome then c else c + 1) ∧ w.mapTurned w' b := by
  obtain ⟨D, ho, hc, hh, ha⟩ := h
  have hkl := K.key hkey
  have hD := ho.isMap
  obtain ⟨w1, hr, ho1, ht1⟩ := ho.store K ht hn hkey hv
  refine ⟨w1, hr, ⟨D.put kl d, ?_, ?_, ?_, ?_⟩, ht1⟩
  · have := own_tight ho1
    rw [Maps.size_put (ho.tidy K), hh, hc] at this
    exact this
  · rw [Maps.size_put (ho.tidy K), hh, hc]
  · intro l
    unfold updF
    by_cases hl : l.sameKey kl = true
    · have := WideAt.sameKey_eq hl
      subst this
      rw [if_pos hl, Maps.has_put_same hD hkl]
      rfl
    · have hne : l ≠ kl := fun e => hl (by rw [e]; exact WideAt.sameKey_self hkl)
      rw [if_neg hl, Maps.has_put_other hne, hh]
  · intro l d' z h'
    unfold updF at h'
    by_cases hl : l.sameKey kl = true
    · have := WideAt.sameKey_eq hl
      subst this
      rw [if_pos hl] at h'
      cases h'
      exact Maps.atKey_put_same hD hkl d z
    · have hne : l ≠ kl := fun e => hl (by rw [e]; exact WideAt.sameKey_self hkl)
      rw [if_neg hl] at h'
      rw [Maps.atKey_put_other hne]
      exact ha l d' z h'

theorem MapF.drop (h : MapF w P k R b F c) (K : Keyed P k) (ht : P.underlying t = some (.map k e)) {key : Value} {kl : Lit} (hkey : keyOf P k key = some kl) (ty : TypeId) :
    ∃ w', (Builtin.delete_ #[t, k] ty #[.map (some b), key]).run P w = .ok (.tuple #[]) w' ∧ MapF w' P k R b (delF F kl) (if (F kl).isSome then c - 1 else c) ∧ w.mapTurned w' b := by
  obtain ⟨D, ho, hc, hh, ha⟩ := h
  have hkl := K.key hkey
  obtain ⟨w1, hr, ho1, ht1⟩ := ho.drop K ht hkey ty
  have hsz := Maps.size_del (k := kl) (ho.tidy K)
  rw [hh, hc] at hsz
  have hsz' : Maps.size (D.del kl) = if (F kl).isSome then c - 1 else c := by
    split
    · rename_i hs; rw [if_pos hs] at hsz; omega
    · rename_i hs; rw [if_neg hs] at hsz; omega
  refine ⟨w1, hr, ⟨D.del kl, ?_, hsz', ?_, ?_⟩, ht1⟩
  · have := own_tight ho1
    rw [hsz'] at this
    exact this
  · intro l
    unfold delF
    by_cases hl : l.sameKey kl = true
    · have := WideAt.sameKey_eq hl
      subst this
      rw [if_pos hl, Maps.has_del_same]
      rfl
    · have hne : l ≠ kl := fun e => hl (by rw [e]; exact WideAt.sameKey_self hkl)
      rw [if_neg hl, Maps.has_del_other hne, hh]
  · intro l d' z h'
    unfold delF at h'
    by_cases hl : l.sameKey kl = true
    · rw [if_pos hl] at h'; cases h'
    · have hne : l ≠ kl := fun e => hl (by rw [e]; exact WideAt.sameKey_self hkl)
      rw [if_neg hl] at h'
      rw [Maps.atKey_del_other hne]
      exact ha l d' z h'
end
theorem turned_kept {w w' : World} {b : Nat} (h : w.mapTurned w' b) : Kept (OneB b) w w' := by
  have hg := h.grown
  exact ⟨hg.os, hg.tape, hg.output, hg.size, fun i hi hs => hg.block i hi (fun e => hs (by cases e; rfl))⟩
theorem turned_size {w w' : World} {b : Nat} (h : w.mapTurned w' b) : w'.heap.size = w.heap.size := by
  obtain ⟨es, clock, es', clock', hb, rfl⟩ := h
  simp [ChangeMaps.setBlock]
end Go.Proofs.YtjjgadanobeamaaDoor

namespace Go.Proofs.YtjjgadanobeamaaDoor
set_option linter.unusedVariables false
set_option linter.unusedSimpArgs false

abbrev Fp := Int × List UInt8
def endP (p : Fp) : Int := p.1 + p.2.length
structure OkD (l : List Fp) : Prop where
  each : ∀ p ∈ l, 0 ≤ p.1 ∧ p.2 ≠ [] ∧ endP p ≤ 1099511627776
  apart : l.Pairwise (fun p q => endP p < q.1)
def HasB (l : List Fp) (x : Int) (c : UInt8) : Prop := ∃ p ∈ l, p.1 ≤ x ∧ p.2[(x - p.1).toNat]? = some c

theorem OkD.nil : OkD [] := ⟨by simp, List.Pairwise.nil⟩
theorem HasB.lt {p : Fp} {x : Int} {c : UInt8} (h1 : p.1 ≤ x) (h : p.2[(x - p.1).toNat]? = some c) : x < endP p := by
  have := (List.getElem?_eq_some_iff.1 h).1
  unfold endP; omega
theorem mem_tw {α : Type} {q : α → Bool} : ∀ {l : List α} {x : α}, x ∈ l.takeWhile q → q x = true
  | [], x, h => by simp at h
  | y :: l, x, h => by
    rw [List.takeWhile_cons] at h
    split at h
    · rename_i hq
      rcases List.mem_cons.1 h with rfl | h
      · exact hq
      · exact mem_tw h
    · cases h
theorem drop_first {α : Type} {q : α → Bool} : ∀ {l : List α} {x : α} {t : List α}, l.dropWhile q = x :: t → q x = false
  | [], _, _, h => by simp at h
  | y :: l, x, t, h => by
    rw [List.dropWhile_cons] at h
    split at h
    · exact drop_first h
    · rename_i hq; cases h; simpa using hq
end Go.Proofs.YtjjgadanobeamaaDoor

namespace Go.Proofs.YtjjgadanobeamaaDoor
set_option linter.unusedVariables false
set_option linter.unusedSimpArgs false

def sizeD (l : List Fp) : Nat := (l.map fun p => p.2.length).sum
def fitB (is : Int → Bool) : Nat → Int → Nat → Nat × Nat
  | 0, _, _ => (0, 0)
  | s + 1, k, room => if is k then ((fitB is s (k + 1) room).1 + 1, (fitB is s (k + 1) room).2) else match room with
    | 0 => (0, 0)
    | r + 1 => ((fitB is s (k + 1) r).1 + 1, (fitB is s (k + 1) r).2 + 1)
theorem fitB_in (is : Int → Bool) : ∀ (g s : Nat) (k : Int) (room : Nat), g ≤ s → (∀ i : Nat, i < g → is (k + i) = true) → fitB is s k room = ((fitB is (s - g) (k + g) room).1 + g, (fitB is (s - g) (k + g) room).2)
  | 0, s, k, room, _, _ => by simp
  | g + 1, s, k, room, hg, h => by
    obtain ⟨s', rfl⟩ : ∃ s', s = s' + 1 := ⟨s - 1, by omega⟩
    have h0 := h 0 (by omega)
    simp at h0
    conv => lhs; unfold fitB
    rw [if_pos h0, fitB_in is g s' (k + 1) room (by omega) (fun i hi => by have := h (i + 1) (by omega); rw [← this]; congr 1; push_cast; omega)]
    have e1 : s' + 1 - (g + 1) = s' - g := by omega
    have e2 : k + ((g + 1 : Nat) : Int) = k + 1 + (g : Int) := by push_cast; omega
    rw [e1, e2]
    rfl
end Go.Proofs.YtjjgadanobeamaaDoor

namespace Go.Proofs.YtjjgadanobeamaaDoor

def AllB (bs : List Int) : Prop := ∀ b ∈ bs, 0 ≤ b ∧ b < 256

theorem AllB.take {bs : List Int} (h : AllB bs) (n : Nat) : AllB (bs.take n) := fun b hb => h b (List.mem_of_mem_take hb)
theorem AllB.drop {bs : List Int} (h : AllB bs) (n : Nat) : AllB (bs.drop n) := fun b hb => h b (List.mem_of_mem_drop hb)
theorem AllB.getD {bs : List Int} (h : AllB bs) (i : Nat) : 0 ≤ bs.getD i 0 ∧ bs.getD i 0 < 256 := by
  by_cases hi : i < bs.length
  · have : bs.getD i 0 = bs[i] := by simp [List.getD, hi]
    rw [this]; exact h _ (List.getElem_mem hi)
  · have : bs.getD i 0 = 0 := by simp [List.getD, List.getElem?_eq_none (Nat.le_of_not_lt hi)]
    omega
theorem pow_le_pow2 {a b : Nat} (h : a ≤ b) : 2 ^ a ≤ 2 ^ b := Nat.pow_le_pow_right (by decide) h

end Go.Proofs.YtjjgadanobeamaaDoor

namespace Go.Proofs.YtjjgadanobeamaaDoor
open Go.RowKit
set_option linter.unusedVariables false

def Reads (w : World) (ao : Option Addr) (xs : List Int) : Prop :=
  (ao = none → xs = []) ∧ ∀ a, ao = some a → ∀ i, i < xs.length → w.cell? (a.add i) = some (.int .u8 (xs.getD i 0))

theorem Reads.kept {S : Nat → Prop} {w w' : World} {ao : Option Addr} {xs : List Int} (h : Reads w ao xs) (hk : Kept S w w') (hs : ∀ a, ao = some a → ¬ S a.block) : Reads w' ao xs := by
  refine ⟨h.1, fun a ha i hi => ?_⟩
  have hc := h.2 a ha i hi
  have hb := World.block_lt_of_cell? w _ hc
  have e : (a.add i).block = a.block := by unfold Addr.add; split <;> rfl
  exact (World.cell?_of_block (hk.block _ hb (by rw [e]; exact hs a ha))).trans hc

theorem addr_add (g o i : Nat) : (⟨g, o, none⟩ : Addr).add i = ⟨g, o + i, none⟩ := by unfold Addr.add; split <;> simp_all

end Go.Proofs.YtjjgadanobeamaaDoor

namespace Go.Proofs.YtjjgadanobeamaaDoor
open Go.RowKit Go.ChangeShapes Go.WideShapes Go.Deep
set_option linter.unusedVariables false
set_option maxRecDepth 20000

def Rd (w : World) (t : TypeId) (cs : List Value) : Prop :=
  ∃ (H : Type) (enc : TypeId × Value → H) (base : Nat) (spare : Nat → Bool) (held : Bool) (fuel : Nat) (x : DataW H × List MemPlace), DataW.trod enc Tryd.prog w base spare held fuel t cs = some x
def Arg (w : World) (t : TypeId) (v : Value) : Prop := (∃ base, Value.okWide Tryd.prog w .any base t v) ∧ Rd w t v.cells.toList

theorem Rd.int {w : World} {t : TypeId} {cs : List Value} {k : IntKind} (ht : Tryd.prog.underlying t = some (.int k)) (h : Rd w t cs) : ∃ n, cs = [.int k n] ∧ (Lit.int k n).wf = true := by
  obtain ⟨H, enc, base, spare, held, fuel, x, hx⟩ := h
  obtain ⟨n, h1, _, h2⟩ := DataW.trod_int ht hx
  exact ⟨n, h1, h2⟩
theorem Rd.string {w : World} {t : TypeId} {cs : List Value} (ht : Tryd.prog.underlying t = some .string) (h : Rd w t cs) : ∃ s : ByteArray, cs = [.string s] ∧ s.size ≤ maxLen := by
  obtain ⟨H, enc, base, spare, held, fuel, x, hx⟩ := h
  obtain ⟨s, h1, _, h2⟩ := DataW.trod_string ht hx
  exact ⟨s, h1, h2⟩
theorem Rd.slice {w : World} {t e : TypeId} {cs : List Value} (ht : Tryd.prog.underlying t = some (.slice e)) (h : Rd w t cs) :
    ∃ (ao : Option Addr) (len cap : Nat), cs = [.slice ao len cap] ∧ len ≤ cap ∧ cap ≤ maxLen ∧ (ao = none → len = 0 ∧ cap = 0) ∧
      ∀ a, ao = some a → ∀ i, i < len → ∃ cs', Rd w e cs' ∧ cs'.length = Tryd.prog.cellsOf e ∧ ∀ j, j < cs'.length → w.cell? (a.add (i * Tryd.prog.cellsOf e + j)) = cs'[j]? := by
  obtain ⟨H, enc, base, spare, held, fuel, x, hx⟩ := h
  rcases open_slice ht hx with ⟨h0, _⟩ | ⟨a, len, cap, m, n, D, Pl, hcs, hb, hl, hm, hmm, hx2, hi⟩
  · exact ⟨none, 0, 0, h0, Nat.le_refl _, Nat.zero_le _, (fun _ => ⟨rfl, rfl⟩), (fun a ha => by cases ha)⟩
  · refine ⟨some a, len, cap, hcs, hl, hm, (fun h => by cases h), ?_⟩
    intro a' ha i hil
    cases ha
    obtain ⟨cs', h1, h2⟩ := hi i (by rw [hmm]; split <;> omega)
    obtain ⟨_, hlen, hat⟩ := World.cells?_some h1
    refine ⟨cs', ⟨H, enc, base, spare, held, n, _, h2⟩, hlen, fun j hj => ?_⟩
    rw [← Go.Deep.add_add]
    exact hat j (by omega)
theorem Rd.struct {w : World} {t : TypeId} {cs : List Value} {fs : Array Field} (ht : Tryd.prog.underlying t = some (.struct fs)) (h : Rd w t cs) :
    cs.length = Tryd.prog.cellsOf t ∧ ∀ (i : Nat) (f : Field), fs[i]? = some f → Rd w f.type ((cs.drop f.offset).take (Tryd.prog.cellsOf f.type)) := by
  obtain ⟨H, enc, base, spare, held, fuel, x, hx⟩ := h
  obtain ⟨ys, n, _, _, hlen, hyl, hf⟩ := DataW.trod_struct ht hx
  refine ⟨hlen, fun i f hi => ?_⟩
  have hil : i < fs.size := (Array.getElem?_eq_some_iff.1 hi).1
  have hy : ys[i]? = some (ys[i]'(by omega)) := List.getElem?_eq_getElem (by omega)
  exact ⟨H, enc, base, spare, held, n, _, (hf i f hi).trans hy⟩
theorem Arg.mk' {H : Type} {enc : TypeId × Value → H} {w : World} {b0 base : Nat} {spare : Nat → Bool} {held : Bool} {t : TypeId} {v : Value} {d : DataW H} {p : List MemPlace} (hv : Value.okWide Tryd.prog w .any b0 t v)
    (hd : DataW.Trod enc Tryd.prog w base spare held t v d p) : Arg w t v := by
  obtain ⟨fuel, h⟩ := hd
  exact ⟨⟨b0, hv⟩, H, enc, base, spare, held, fuel, _, h⟩
theorem Arg.int {w : World} {t : TypeId} {v : Value} {k : IntKind} (ht : Tryd.prog.underlying t = some (.int k)) (h : Arg w t v) : ∃ n, v = .int k n ∧ (Lit.int k n).wf = true := by
  obtain ⟨⟨base, hv⟩, hr⟩ := h
  obtain ⟨n, rfl⟩ := okWide_int ht hv
  obtain ⟨m, h1, h2⟩ := hr.int ht
  simp [Value.cells] at h1
  subst h1
  exact ⟨_, rfl, h2⟩
theorem Arg.slice {w : World} {t e : TypeId} {v : Value} (ht : Tryd.prog.underlying t = some (.slice e)) (h : Arg w t v) :
    ∃ (ao : Option Addr) (len cap : Nat), v = .slice ao len cap ∧ len ≤ cap ∧ cap ≤ maxLen ∧ (ao = none → len = 0 ∧ cap = 0) ∧
      ∀ a, ao = some a → ∀ i, i < len → ∃ cs', Rd w e cs' ∧ cs'.length = Tryd.prog.cellsOf e ∧ ∀ j, j < cs'.length → w.cell? (a.add (i * Tryd.prog.cellsOf e + j)) = cs'[j]? := by
  obtain ⟨⟨base, hv⟩, hr⟩ := h
  obtain ⟨a, l, c, rfl⟩ := okWide_slice ht hv
  obtain ⟨ao, len, cap, h1, rest⟩ := hr.slice ht
  simp [Value.cells] at h1
  obtain ⟨rfl, rfl, rfl⟩ := h1
  exact ⟨_, _, _, rfl, rest⟩
theorem Arg.string {w : World} {t : TypeId} {v : Value} (ht : Tryd.prog.underlying t = some .string) (h : Arg w t v) : ∃ s : ByteArray, v = .string s ∧ s.size ≤ maxLen := by
  obtain ⟨⟨base, hv⟩, hr⟩ := h
  obtain ⟨s, rfl⟩ := okWide_string ht hv
  obtain ⟨s', h1, h2⟩ := hr.string ht
  simp [Value.cells] at h1
  subst h1
  exact ⟨_, rfl, h2⟩

theorem cells_u8 : Tryd.prog.cellsOf 5 = 1 := by kernel_rfl
theorem Rd.bytes {w : World} {t : TypeId} {cs : List Value} (ht : Tryd.prog.underlying t = some (.slice 5)) (h : Rd w t cs) :
    ∃ (ao : Option Addr) (cap : Nat) (bs : List Int), cs = [.slice ao bs.length cap] ∧ bs.length ≤ cap ∧ cap ≤ maxLen ∧ Reads w ao bs ∧ AllB bs ∧ (ao = none → cap = 0) := by
  obtain ⟨H, enc, base, spare, held, fuel, x, hx⟩ := h
  rcases open_ints ht Tryd.underlying5 cells_u8 hx with ⟨hcs, _⟩ | ⟨a, l, c, zs, hcs, _, hl, hm, hz, _, hcell, hwz⟩
  · exact ⟨none, 0, [], hcs, Nat.le_refl _, Nat.zero_le _, ⟨(fun _ => rfl), (fun a ha => by cases ha)⟩, (by intro b hb; cases hb), (fun _ => rfl)⟩
  · have hzl : l ≤ zs.length := by
      have := hz
      split at this <;> omega
    have hlen : (zs.take l).length = l := by rw [List.length_take]; omega
    refine ⟨some a, c, zs.take l, by rw [hlen]; exact hcs, by rw [hlen]; exact hl, hm, ⟨(fun h => by cases h), ?_⟩, ?_, (fun h => by cases h)⟩
    · intro a' ha i hi
      cases ha
      rw [hlen] at hi
      rw [hcell i (by omega)]
      simp [List.getD, hi]
    · intro b hb
      have := hwz b (List.mem_of_mem_take hb)
      simp [Lit.wf, IntKind.min, IntKind.max, IntKind.signed, IntKind.bits] at this
      omega
theorem Arg.bytes {w : World} {t : TypeId} {v : Value} (ht : Tryd.prog.underlying t = some (.slice 5)) (h : Arg w t v) :
    ∃ (ao : Option Addr) (cap : Nat) (bs : List Int), v = .slice ao bs.length cap ∧ bs.length ≤ cap ∧ cap ≤ maxLen ∧ Reads w ao bs ∧ AllB bs ∧ (ao = none → cap = 0) := by
  obtain ⟨⟨base, hv⟩, hr⟩ := h
  obtain ⟨a, l, c, rfl⟩ := okWide_slice ht hv
  obtain ⟨ao, cap, bs, h1, rest⟩ := hr.bytes ht
  simp [Value.cells] at h1
  obtain ⟨rfl, rfl, rfl⟩ := h1
  exact ⟨_, _, _, rfl, rest⟩
theorem i64_bd {n : Int} (h : (Lit.int .i64 n).wf = true) : -9223372036854775808 ≤ n ∧ n ≤ 9223372036854775807 := by
  simpa [Lit.wf, IntKind.min, IntKind.max, IntKind.signed, IntKind.bits] using h
end Go.Proofs.YtjjgadanobeamaaDoor

namespace Go.Proofs.YtjjgadanobeamaaDoor
open Go.RowKit
set_option linter.unusedVariables false
set_option linter.unusedSimpArgs false

theorem Reads.at {w : World} {ao : Option Addr} {bs : List Int} (h : Reads w ao bs) (h0 : 0 < bs.length) :
    ∃ b off, ao = some ⟨b, off, none⟩ ∧ b < w.heap.size ∧ ∀ j, j < bs.length → w.cell? ⟨b, off + j, none⟩ = some (.int .u8 (bs.getD j 0)) := by
  cases ao with
  | none => have := h.1 rfl; subst this; simp at h0
  | some a =>
    obtain ⟨b, off, spot⟩ := a
    have hs : spot = none := by
      have := World.cell?_spot (h.2 _ rfl 0 h0)
      simpa [Addr.add] using this
    subst hs
    have h2 : ∀ j, j < bs.length → w.cell? ⟨b, off + j, none⟩ = some (.int .u8 (bs.getD j 0)) := fun j hj => by
      have := h.2 _ rfl j hj
      rwa [addr_add] at this
    exact ⟨b, off, rfl, World.block_lt_of_cell? w _ (h2 0 h0), h2⟩
theorem Reads.keptNo {w w' : World} {ao : Option Addr} {xs : List Int} (h : Reads w ao xs) (hk : Kept NoB w w') : Reads w' ao xs := h.kept hk (fun _ _ h => h)
theorem Kept.cell {w w' : World} (hk : Kept NoB w w') {a : Addr} {v : Value} (h : w.cell? a = some v) : w'.cell? a = some v :=
  (World.cell?_of_block (hk.block _ (World.block_lt_of_cell? w a h) (fun h => h))).trans h
theorem cell_new {w : World} {cs : Array Value} {t : TypeId} {k : Nat} (i : Nat) (hk : k = w.heap.size) : (w.alloc (.cells cs t)).cell? ⟨k, i, none⟩ = cs[i]? := by
  subst hk; exact cell_of_row _ _ _ cs t (0, 0) (heap_alloc_new _ _)
theorem Reads.below {w w' : World} {ao : Option Addr} {bs : List Int} (h : Reads w ao bs) (hb : Below w.heap.size w w') : Reads w' ao bs := h.keptNo ((Kept.refl NoB w).ofBelow hb)
end Go.Proofs.YtjjgadanobeamaaDoor

namespace Go.Proofs.YtjjgadanobeamaaDoor
open Go.RowKit
set_option linter.unusedVariables false
set_option linter.unusedSimpArgs false
set_option maxRecDepth 20000

structure NodeV where
  kind : Int
  mode : Int
  user : Int
  group : Int
  time : Int
  tgt : ByteArray
  major : Int
  minor : Int
  size : Int
  links : Int
  change : Int
def mayB (n : NodeV) : Bool :=
  (n.kind == 1 || n.kind == 6 || n.kind == 7 || n.kind == 3 || n.kind == 4 || n.kind == 5) &&
  (if n.kind = 3 then !n.tgt.toList.isEmpty && decide (n.tgt.size ≤ 1024) && !decide (0 ≤ Lib.indexByte n.tgt.data.toList 0) else n.tgt.toList.isEmpty) &&
  (if n.kind = 4 ∨ n.kind = 5 then decide (0 ≤ n.major) && decide (n.major ≤ 1048575) && (decide (0 ≤ n.minor) && decide (n.minor ≤ 1048575)) else decide (n.major = 0) && decide (n.minor = 0)) &&
  (decide (0 ≤ n.mode) && decide (n.mode ≤ 4095) && (decide (0 ≤ n.user) && decide (n.user ≤ 2147483647)) && (decide (0 ≤ n.group) && decide (n.group ≤ 2147483647))) &&
  decide (n.size = 0) && decide (n.links = 0) && decide (n.change = 0)
theorem infoNd : (Tryd.prog.info? 28).map (·.size) = some 11 := by kernel_rfl
def nvC (v : NodeV) : List Value := [.int .i64 v.kind, .int .i64 v.mode, .int .i64 v.user, .int .i64 v.group, .int .i64 v.time, .string v.tgt, .int .i64 v.major, .int .i64 v.minor, .int .i64 v.size, .int .i64 v.links, .int .i64 v.change]
theorem nv_one (v : NodeV) : (nvC v).toArray.all (·.oneCell') = true := by simp [nvC, Value.oneCell']
end Go.Proofs.YtjjgadanobeamaaDoor

namespace Go.Proofs.YtjjgadanobeamaaDoor
set_option linter.unusedVariables false
set_option linter.unusedSimpArgs false

abbrev Nms := List (List UInt8 × Int)
structure NdP where
  v : NodeV
  names : Nms
  par : Int
  data : List Fp
structure FsP where
  nd : Int → Option NdP
  cnt : Nat
  next : Int
  quota : Int
  used : Int
  clock : Int

def getK (l : Nms) (k : List UInt8) : Option Int := (l.find? (fun p => p.1 == k)).map (·.2)
def putK (l : Nms) (k : List UInt8) (i : Int) : Nms := l.takeWhile (fun p => decide (p.1 < k)) ++ (k, i) :: l.dropWhile (fun p => decide (p.1 < k))
def OkK (l : Nms) : Prop := l.Pairwise (fun p q => p.1 < q.1)
def updN (f : Int → Option NdP) (i : Int) (o : Option NdP) : Int → Option NdP := fun j => if j = i then o else f j
theorem updN_same (f : Int → Option NdP) (i : Int) (o : Option NdP) : updN f i o i = o := by simp [updN]
theorem updN_other (f : Int → Option NdP) {i j : Int} (o : Option NdP) (h : j ≠ i) : updN f i o j = f j := by simp [updN, h]

theorem lt_irr (a : List UInt8) : ¬ a < a := List.lt_irrefl a
theorem lt_tr {a b c : List UInt8} (h : a < b) (k : b < c) : a < c := List.lt_trans h k
theorem lt_tri (a b : List UInt8) (h : ¬ a < b) (hn : a ≠ b) : b < a := by
  by_cases hb : b < a
  · exact hb
  · exact absurd (List.le_antisymm (List.not_lt.1 hb) (List.not_lt.1 h)) hn

theorem getK_mem {l : Nms} {k : List UInt8} {i : Int} (h : getK l k = some i) : (k, i) ∈ l := by
  unfold getK at h
  cases hf : l.find? (fun p => p.1 == k) with
  | none => rw [hf] at h; cases h
  | some p =>
    rw [hf] at h
    have h1 := List.mem_of_find?_eq_some hf
    have h2 := List.find?_some hf
    simp at h h2
    rw [← h2, ← h]; exact h1
theorem OkK.inj {l : Nms} (h : OkK l) {k : List UInt8} {i j : Int} (hi : (k, i) ∈ l) (hj : (k, j) ∈ l) : i = j := by
  induction l with
  | nil => cases hi
  | cons p t ih =>
    obtain ⟨h1, h2⟩ := List.pairwise_cons.1 h
    rcases List.mem_cons.1 hi with e1 | m1 <;> rcases List.mem_cons.1 hj with e2 | m2
    · rw [← e2] at e1; exact congrArg Prod.snd e1
    · have := h1 _ m2; rw [← e1] at this; exact absurd this (lt_irr _)
    · have := h1 _ m1; rw [← e2] at this; exact absurd this (lt_irr _)
    · exact ih h2 m1 m2
theorem getK_iff {l : Nms} (h : OkK l) {k : List UInt8} {i : Int} : getK l k = some i ↔ (k, i) ∈ l := by
  constructor
  · exact getK_mem
  · intro hm
    cases hg : getK l k with
    | some j => rw [h.inj hm (getK_mem hg)]
    | none =>
      unfold getK at hg
      rw [Option.map_eq_none_iff, List.find?_eq_none] at hg
      exact absurd (beq_self_eq_true _) (hg _ hm)
theorem getK_none {l : Nms} {k : List UInt8} : getK l k = none ↔ ∀ p ∈ l, p.1 ≠ k := by
  unfold getK
  rw [Option.map_eq_none_iff, List.find?_eq_none]
  simp
theorem putK_mem {l : Nms} {k : List UInt8} {i : Int} {p : List UInt8 × Int} : p ∈ putK l k i ↔ p = (k, i) ∨ p ∈ l := by
  unfold putK
  conv => rhs; rw [← List.takeWhile_append_dropWhile (p := fun p => decide (p.1 < k)) (l := l)]
  simp only [List.mem_append, List.mem_cons]
  constructor
  · rintro (h | h | h)
    · exact .inr (.inl h)
    · exact .inl h
    · exact .inr (.inr h)
  · rintro (h | h | h)
    · exact .inr (.inl h)
    · exact .inl h
    · exact .inr (.inr h)
theorem putK_ok {l : Nms} (h : OkK l) (k : List UInt8) (i : Int) (hn : getK l k = none) : OkK (putK l k i) := by
  have hne := getK_none.1 hn
  unfold putK OkK
  have e : l = l.takeWhile (fun p => decide (p.1 < k)) ++ l.dropWhile (fun p => decide (p.1 < k)) := (List.takeWhile_append_dropWhile).symm
  have h1 : ∀ p ∈ l.takeWhile (fun p => decide (p.1 < k)), p.1 < k := fun p hp => by simpa using mem_tw hp
  cases hd : l.dropWhile (fun p => decide (p.1 < k)) with
  | nil =>
    rw [List.pairwise_append]
    refine ⟨h.sublist (List.takeWhile_sublist _), List.pairwise_singleton _ _, ?_⟩
    intro p hp q hq
    simp at hq; subst hq
    exact h1 p hp
  | cons f t =>
    have hf := drop_first hd
    simp at hf
    have hfl : f ∈ l := (List.dropWhile_sublist _).subset (by rw [hd]; exact List.mem_cons_self)
    have hkf : k < f.1 := lt_tri _ _ (by simpa using hf) (hne f hfl)
    have hall := h
    unfold OkK at hall
    rw [e, hd, List.pairwise_append, List.pairwise_cons] at hall
    obtain ⟨a1, ⟨a2, a3⟩, a4⟩ := hall
    rw [List.pairwise_append, List.pairwise_cons, List.pairwise_cons]
    refine ⟨a1, ⟨?_, a2, a3⟩, ?_⟩
    · intro q hq
      rcases List.mem_cons.1 hq with rfl | hq
      · exact hkf
      · exact lt_tr hkf (a2 q hq)
    · intro p hp q hq
      rcases List.mem_cons.1 hq with rfl | hq
      · exact h1 p hp
      · exact a4 p hp q hq
theorem getK_put {l : Nms} (h : OkK l) (k : List UInt8) (i : Int) (hn : getK l k = none) (k' : List UInt8) : getK (putK l k i) k' = if k' = k then some i else getK l k' := by
  have hp := putK_ok h k i hn
  by_cases hk : k' = k
  · subst hk
    rw [if_pos rfl, getK_iff hp, putK_mem]; exact .inl rfl
  · rw [if_neg hk]
    cases hg : getK l k' with
    | some j => rw [getK_iff hp, putK_mem]; exact .inr (getK_mem hg)
    | none =>
      rw [getK_none] at hg ⊢
      intro p hp'
      rcases putK_mem.1 hp' with rfl | hp'
      · exact fun e => hk e.symm
      · exact hg p hp'
theorem putK_len (l : Nms) (k : List UInt8) (i : Int) : (putK l k i).length = l.length + 1 := by
  unfold putK
  have := congrArg List.length (List.takeWhile_append_dropWhile (p := fun p : List UInt8 × Int => decide (p.1 < k)) (l := l))
  simp only [List.length_append, List.length_cons] at *
  omega
end Go.Proofs.YtjjgadanobeamaaDoor

namespace Go.Proofs.YtjjgadanobeamaaDoor
set_option linter.unusedVariables false
def strB (l : List UInt8) : ByteArray := ⟨l.toArray⟩
theorem strB_of (s : ByteArray) : strB s.data.toList = s := by cases s; rfl
theorem strB_size (l : List UInt8) : (strB l).size = l.length := by simp [strB, ByteArray.size]
theorem strB_data (l : List UInt8) : (strB l).data.toList = l := rfl
theorem strB_list (l : List UInt8) : (strB l).toList = l := by rw [Lib.toList_data]; rfl
def bc (L : List UInt8) : List Value := L.map fun b => Value.int .u8 (b.toNat : Int)
def okN (s : ByteArray) : Bool := !s.toList.isEmpty && decide (s.size ≤ 255) && !(s.toList == [46]) && !(s.toList == [46, 46]) && !decide (0 ≤ Lib.indexAny s.data.toList [47, 0])
end Go.Proofs.YtjjgadanobeamaaDoor
