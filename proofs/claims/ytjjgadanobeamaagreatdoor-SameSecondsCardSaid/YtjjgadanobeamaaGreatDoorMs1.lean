/-
  What is kept of a world while a call writes some blocks alone; rows of bytes; objects of two or more fields. Nothing of the program is named here.
  What a part may be, on paper; texts as rows of bytes.
  Two digits for each byte, on paper.
  Maps of the call's own, told by what each key leads to.
  What was written of a file, on paper: pieces that rise, none beside another; bytes put, cut, read; how many bytes fit.
  What was written of a file, on paper: which bytes there are behind a write and a cut; reading; how many fit.
  Numbers made of bytes, the lowest first; bits of them. No Go in sight.
  bytes.Clone: a copy in memory of the call's own.
  What comes in, opened as it is needed: 'Rd w t cs': the cells cs read as a value of type t. One lemma for each kind of type.
  Small things that many walks want: rows of bytes that are read, told as strings, told anew; rows that a call owns.
  What is told of a node: on paper, and as cells; what may be made.
-/
import Derived.WalkKit
import Derived.WalkSpells
import Derived.WalkLawsBesides
import Derived.Deep.QuietTactic
import Derived.BigQuiet
import Derived.Lib.Hide
import Derived.Lib.IndexAny
import Derived.Lib.BytesEntry
import Derived.Maps.OwnSet
import Derived.Maps.OwnOps
import Derived.Maps.RangeWalk
import Derived.Laws.BitsAllLaws
import Derived.Test.YtjjgadanobeamaaGreatDoorRows
import Derived.ProofKit
import Derived.OpenShut
import Derived.ShutString
import Derived.ChangeOld
import Derived.Deep.Slices
import Derived.Deep.Fields
import Derived.Deep.DeepCutAuto
import Derived.Deep.RegionHeld3
import Derived.BigRegion
import Derived.Laws.BytesArg
import Derived.Laws.AppendOwnNone
import Derived.OwnWalk
namespace Go.Proofs.YtjjgadanobeamaaGreatDoor
open Go.RowKit

structure Kept (S : Nat → Prop) (w w' : World) : Prop where
  os : w'.os = w.os
  tape : w'.tape = w.tape
  output : w'.output = w.output
  size : w.heap.size ≤ w'.heap.size
  block : ∀ k, k < w.heap.size → ¬ S k → w'.heap[k]? = w.heap[k]?

def NoB : Nat → Prop := fun _ => False
def OneB (r : Nat) : Nat → Prop := fun k => k = r
def OwnB (v : Value) : Nat → Prop := fun k => v.ownBlock = some k
theorem Kept.refl (S : Nat → Prop) (w : World) : Kept S w w := ⟨rfl, rfl, rfl, Nat.le_refl _, fun _ _ _ => rfl⟩
theorem Kept.trans {S : Nat → Prop} {a b c : World} (h : Kept S a b) (k : Kept S b c) : Kept S a c :=
  ⟨k.os.trans h.os, k.tape.trans h.tape, k.output.trans h.output, Nat.le_trans h.size k.size, fun i hi hs => (k.block i (Nat.lt_of_lt_of_le hi h.size) hs).trans (h.block i hi hs)⟩
theorem Kept.mono {S T : Nat → Prop} {a b : World} (h : Kept S a b) (hs : ∀ k, k < a.heap.size → S k → T k) : Kept T a b :=
  ⟨h.os, h.tape, h.output, h.size, fun i hi ht => h.block i hi (fun s => ht (hs i hi s))⟩
theorem Kept.drew {S : Nat → Prop} {a b : World} (h : Kept S a b) : Kept S a b.drew := ⟨h.os, h.tape, h.output, h.size, h.block⟩
theorem Kept.drewN {S : Nat → Prop} {a b : World} (h : Kept S a b) (n : Nat) : Kept S a (b.drewN n) := ⟨h.os, h.tape, h.output, h.size, h.block⟩
theorem Kept.setCell {S : Nat → Prop} {a b : World} (h : Kept S a b) {p : Addr} (hp : S p.block ∨ a.heap.size ≤ p.block) (u : Value) : Kept S a (b.setCell p u) :=
  ⟨h.os, h.tape, h.output, by simpa using h.size, fun i hi hs => (Below.heap_setCell _ _ _ _ (fun e => by rcases hp with hp | hp; exact hs (e ▸ hp); omega)).trans (h.block i hi hs)⟩
theorem Kept.alloc {S : Nat → Prop} {a b : World} (h : Kept S a b) (o : Obj) : Kept S a (b.alloc o) :=
  ⟨h.os, h.tape, h.output, by have := h.size; simp; omega, fun i hi hs => (Below.heap_alloc _ _ _ (Nat.lt_of_lt_of_le hi h.size)).trans (h.block i hi hs)⟩
theorem Kept.grown {S : Nat → Prop} {a b c : World} (h : Kept S a b) {row : Option Nat} (g : b.grownBy c row) (hr : ∀ k, k < a.heap.size → row = some k → S k) : Kept S a c :=
  ⟨g.os.trans h.os, g.tape.trans h.tape, g.output.trans h.output, Nat.le_trans h.size g.size,
    fun i hi hs => (g.block i (Nat.lt_of_lt_of_le hi h.size) (fun e => hs (hr i hi e.symm))).trans (h.block i hi hs)⟩
theorem Kept.ofBelow {S : Nat → Prop} {a b c : World} (h : Kept S a b) (g : Below b.heap.size b c) : Kept S a c :=
  ⟨g.os.trans h.os, g.tape.trans h.tape, g.output.trans h.output, Nat.le_trans h.size g.size,
    fun i hi hs => (g.block i (Nat.lt_of_lt_of_le hi h.size)).trans (h.block i hi hs)⟩
theorem Kept.below {S : Nat → Prop} {w a b : World} (h : Kept S a b) (hb : Below w.heap.size w a) (hs : ∀ k, S k → w.heap.size ≤ k) : Below w.heap.size w b :=
  ⟨h.os.trans hb.os, h.tape.trans hb.tape, h.output.trans hb.output, Nat.le_trans hb.size h.size,
    fun i hi => (h.block i (Nat.lt_of_lt_of_le hi hb.size) (fun s => by have := hs i s; omega)).trans (hb.block i hi)⟩
theorem Kept.belowNo {w a b : World} (h : Kept NoB a b) (hb : Below w.heap.size w a) : Below w.heap.size w b := h.below hb (fun _ s => s.elim)

theorem Kept.row {S : Nat → Prop} {a b : World} (h : Kept S a b) {base e size n : Nat} {v : Value} {xs : List Value} (ho : a.ownsRow base e size v n xs) (hs : ∀ k, v.ownBlock = some k → ¬ S k) : b.ownsRow base e size v n xs := by
  refine ⟨ho.1, ?_⟩
  rcases ho.2 with hn | ⟨g, cap, cur, rfl, hb, hg, rest⟩
  · exact .inl hn
  · exact .inr ⟨g, cap, cur, rfl, hb, (h.block g (Array.getElem?_eq_some_iff.1 hg).1 (hs g rfl)).trans hg, rest⟩
theorem Kept.obj {S : Nat → Prop} {a b : World} (h : Kept S a b) {R : Nat} {o : Obj} (ho : a.heap[R]? = some o) (hs : ¬ S R) : b.heap[R]? = some o :=
  (h.block R (Array.getElem?_eq_some_iff.1 ho).1 hs).trans ho

theorem obj_cell {w : World} {R : Nat} {cs : Array Value} {t : TypeId} (h : w.heap[R]? = some (.cells cs t (0, 0))) (i : Nat) : w.cell? ⟨R, i, none⟩ = cs[i]? := cell_of_row w R i cs t (0, 0) h
theorem obj_free {w : World} {R : Nat} {cs : Array Value} {t : TypeId} (h : w.heap[R]? = some (.cells cs t (0, 0))) (i : Nat) : w.frozen? ⟨R, i, none⟩ = false := frozen_of_row w R i cs t h
theorem obj_set {w : World} {R : Nat} {cs : Array Value} {t : TypeId} (h : w.heap[R]? = some (.cells cs t (0, 0))) (i : Nat) (u : Value) : (w.setCell ⟨R, i, none⟩ u).heap[R]? = some (.cells (cs.setIfInBounds i u) t (0, 0)) :=
  heap_setCell_same w R i cs t u h
theorem obj_lt {w : World} {R : Nat} {o : Obj} (h : w.heap[R]? = some o) : R < w.heap.size := (Array.getElem?_eq_some_iff.1 h).1

section
variable {P : Program} (w : World)
theorem run_app (e t ty : TypeId) (i : TypeInfo) (z : Value) (size bytes : Nat) (ht : P.underlying t = some (.slice e)) (hi : P.info? e = some i) (hz : i.zero = some z)
    (hsize : i.size = size) (hby : i.bytes = bytes) (hzs : z.cells.size = size) (hsz : 0 < size)
    (v : Value) (n : Nat) (xs : List Value) (hown : w.ownsRow 0 e size v n xs)
    (a : Addr) (m c : Nat) (news : List Value) (hl : news.length = m * size) (hnews : ∀ j u, news[j]? = some u → w.cell? (a.add j) = some u) (h1 : ∀ u ∈ news, u.oneCell' = true)
    (h63 : n + m ≤ maxLen) (hbytes : (n + m) * bytes ≤ 140737488355328) :
    ∃ v' w', (Builtin.append_ #[t, t] ty #[v, .slice (some a) m c]).run P w = .ok v' w' ∧ w'.ownsRow 0 e size v' (n + m) (xs ++ news) ∧ w.grownBy w' v.ownBlock ∧
      (∀ k, v'.ownBlock = some k → v.ownBlock = some k ∨ w.heap.size ≤ k) := by
  obtain ⟨v', w', hr, ho, hg, hn⟩ := run_append_own (P := P) w 0 t ty e i z size bytes ht hi hz hsize hby hzs hsz v n xs hown a m c news hl hnews h1 h63 hbytes (Nat.zero_le _)
  refine ⟨v', w', hr, ho, hg, ?_⟩
  intro k hk
  have hown2 := hown
  rcases hown.2 with ⟨rfl, rfl⟩ | ⟨g, cap, cur, rfl, hbg, hgg, hnc, hcm, hcs, htake⟩
  · have hx : xs = [] := List.eq_nil_of_length_eq_zero (by simpa using hown.1)
    subst hx
    obtain ⟨v2, w2, hr2, ho2, _, _⟩ := run_append_own (P := P) w w.heap.size t ty e i z size bytes ht hi hz hsize hby hzs hsz _ 0 [] (World.ownsRow_nil w w.heap.size e size) a m c news hl hnews h1 h63 hbytes (Nat.le_refl _)
    rw [hr] at hr2
    cases hr2
    exact .inr (ho2.lt k hk).1
  · by_cases hroom : n + m ≤ cap
    · obtain ⟨w2, hr2, _, _⟩ := run_append_fits (P := P) w 0 t ty e i size ht hi hsize g n cap xs hown a m c news hl hnews h1 hroom
      rw [hr] at hr2
      cases hr2
      exact .inl hk
    · subst hsize
      subst hby
      have holds : ∀ j u, xs[j]? = some u → w.cell? ((⟨g, 0, none⟩ : Addr).add j) = some u := hown.cells (g := g) rfl
      have hr2 := run_append_grow (P := P) w t ty e i z ht hi hz ⟨g, 0, none⟩ n cap xs hown.1 holds a m c news hl hnews (by omega) (by simp only [maxLen] at h63; omega) (growslice_fits (by omega) hbytes)
      rw [hr] at hr2
      cases hr2
      simp [Value.ownBlock] at hk
      exact .inr (by omega)

theorem wpList_app {ops : Array Oper} {rest : List Oper} {o : Oper} {a : Act} {Q : Exit → Act → World → Prop} (hgd : o.guard = none) (s x : Operand) (t : TypeId)
    (ho : o.op = .call { callee := .builtin .append, args := #[s, x], argTypes := #[t, t] })
    (e : TypeId) (i : TypeInfo) (z : Value) (size bytes : Nat) (ht : P.underlying t = some (.slice e)) (hi : P.info? e = some i) (hz : i.zero = some z)
    (hsize : i.size = size) (hby : i.bytes = bytes) (hzs : z.cells.size = size) (hsz : 0 < size)
    (v : Value) (n : Nat) (xs : List Value) (hs : a.eval s = v) (hown : w.ownsRow 0 e size v n xs)
    (ad : Addr) (m c : Nat) (news : List Value) (hx : a.eval x = .slice (some ad) m c) (hl : news.length = m * size) (hnews : ∀ j u, news[j]? = some u → w.cell? (ad.add j) = some u) (h1 : ∀ u ∈ news, u.oneCell' = true)
    (h63 : n + m ≤ maxLen) (hbytes : (n + m) * bytes ≤ 140737488355328)
    (h : ∀ v' w', w'.ownsRow 0 e size v' (n + m) (xs ++ news) → w.grownBy w' v.ownBlock → (∀ k, v'.ownBlock = some k → v.ownBlock = some k ∨ w.heap.size ≤ k) → wpList P ops Q rest (a.put o.dst v') w') : wpList P ops Q (o :: rest) a w :=
  wpList_plain hgd fun _ hK => by
    obtain ⟨v', w', hr, h2, h3, h4⟩ := run_app (P := P) w e t o.type i z size bytes ht hi hz hsize hby hzs hsz v n xs hown ad m c news hl hnews h1 h63 hbytes
    unfold Oper.wp execOp
    simp only [ho, resolve, invoke, builtin, Sem.run_bind, Sem.run_pure, Result.andThen_ok, List.map_toArray, List.map_cons, List.map_nil, hs, hx, hr]
    exact hK _ _ (h v' w' h2 h3 h4)
end

end Go.Proofs.YtjjgadanobeamaaGreatDoor

namespace Go.Proofs.YtjjgadanobeamaaGreatDoor
set_option linter.unusedVariables false
def strB (l : List UInt8) : ByteArray := ⟨l.toArray⟩
theorem strB_of (s : ByteArray) : strB s.data.toList = s := by cases s; rfl
theorem strB_size (l : List UInt8) : (strB l).size = l.length := by simp [strB, ByteArray.size]
theorem strB_data (l : List UInt8) : (strB l).data.toList = l := rfl
theorem strB_list (l : List UInt8) : (strB l).toList = l := by rw [Lib.toList_data]; rfl
def bc (L : List UInt8) : List Value := L.map fun b => Value.int .u8 (b.toNat : Int)
def nb (L : List UInt8) : List Int := L.map fun b => (b.toNat : Int)
theorem bc_nb (L : List UInt8) : bc L = (nb L).map (.int .u8) := by simp [bc, nb]
theorem nb_len (L : List UInt8) : (nb L).length = L.length := by simp [nb]
def okN (s : ByteArray) : Bool := !s.toList.isEmpty && decide (s.size ≤ 255) && !(s.toList == [46]) && !(s.toList == [46, 46]) && !decide (0 ≤ Lib.indexAny s.data.toList [47, 0])
end Go.Proofs.YtjjgadanobeamaaGreatDoor

namespace Go.Proofs.YtjjgadanobeamaaGreatDoor
set_option linter.unusedVariables false
set_option linter.unusedSimpArgs false

def hexD (n : Nat) : UInt8 := UInt8.ofNat (if n < 10 then 48 + n else 87 + n)
def hexB (s : List UInt8) : List UInt8 := s.flatMap fun b => [hexD (b.toNat / 16), hexD (b.toNat % 16)]
theorem hexB_snoc (s : List UInt8) (i : Nat) (h : i < s.length) : hexB (s.take (i + 1)) = hexB (s.take i) ++ [hexD (s[i].toNat / 16), hexD (s[i].toNat % 16)] := by
  unfold hexB
  rw [List.take_succ_eq_append_getElem h, List.flatMap_append]
  rfl
theorem hexB_len (s : List UInt8) : (hexB s).length = 2 * s.length := by
  induction s with
  | nil => rfl
  | cons b t ih =>
    show (hexD (b.toNat / 16) :: hexD (b.toNat % 16) :: hexB t).length = _
    simp only [List.length_cons, ih]
    omega
end Go.Proofs.YtjjgadanobeamaaGreatDoor

namespace Go.Proofs.YtjjgadanobeamaaGreatDoor
open Go.RowKit
open Go.Maps (Keyed)
open Go.WideElems (Fit rd rg pl rd_val elemAt)
set_option linter.unusedVariables false
set_option linter.unusedSimpArgs false

abbrev Dt := DataW Unit
abbrev Rdr := Value → Option (Dt × List MemPlace)

def MapF (w : World) (P : Program) (k : TypeId) (R : Rdr) (b : Nat) (F : Lit → Option Dt) (c : Nat) : Prop :=
  ∃ D, w.ownsMap P k R b c D ∧ Maps.size D = c ∧ (∀ l, Maps.has D l = (F l).isSome) ∧ ∀ l d z, F l = some d → D.atKey l z = d

def updF (F : Lit → Option Dt) (kl : Lit) (d : Dt) : Lit → Option Dt := fun l => if l.sameKey kl then some d else F l
def delF (F : Lit → Option Dt) (kl : Lit) : Lit → Option Dt := fun l => if l.sameKey kl then none else F l

theorem own_tight {w : World} {P : Program} {k : TypeId} {R : Rdr} {b n : Nat} {D : Dt} (h : w.ownsMap P k R b n D) : w.ownsMap P k R b (Maps.size D) D := by
  obtain ⟨es, clock, hb, F, hs, rfl⟩ := h
  exact ⟨es, clock, hb, F, by simp [Maps.size, length_sorted], rfl⟩

section
variable {w w' : World} {P : Program} {k t e : TypeId} {R : Rdr} {b c : Nat} {F : Lit → Option Dt}

theorem MapF.made (w : World) (P : Program) (k : TypeId) (R : Rdr) : MapF (w.alloc (.map #[] 0)) P k R w.heap.size (fun _ => none) 0 :=
  ⟨.map [], World.ownsMap_made w P k R, rfl, fun l => rfl, fun l d z h => by cases h⟩
theorem MapF.lt (h : MapF w P k R b F c) : b < w.heap.size := by obtain ⟨D, ho, _⟩ := h; exact ho.lt
theorem MapF.heap (h : MapF w P k R b F c) (hb : w'.heap[b]? = w.heap[b]?) : MapF w' P k R b F c := by
  obtain ⟨D, ⟨es, clock, h1, h2⟩, h3⟩ := h
  exact ⟨D, ⟨es, clock, hb.trans h1, h2⟩, h3⟩
theorem MapF.kept {S : Nat → Prop} (h : MapF w P k R b F c) (hk : Kept S w w') (hs : ¬ S b) : MapF w' P k R b F c := h.heap (hk.block b h.lt hs)
theorem MapF.ne_cells (h : MapF w P k R b F c) {R' : Nat} {cs : Array Value} {ty : TypeId} {fr : Nat × Nat} (ho : w.heap[R']? = some (.cells cs ty fr)) : b ≠ R' := by
  obtain ⟨D, ⟨es, clock, h1, h2⟩, h3⟩ := h
  intro e
  rw [← e, h1] at ho
  cases ho

theorem MapF.look_ok (h : MapF w P k R b F c) (K : Keyed P k) (ht : P.underlying t = some (.map k e)) {z : Value} (hz : (zeroValue e).run P w = .ok z w) {zd : Dt} {zp : List MemPlace} (hzd : R z = some (zd, zp))
    {key : Value} {kl : Lit} (hkey : keyOf P k key = some kl) : ∃ v ps, (Instr.lookup t (.map (some b)) key true).run P w = .ok (.tuple #[v, .bool (F kl).isSome]) w ∧ R v = some ((F kl).getD zd, ps) := by
  obtain ⟨D, ho, hc, hh, ha⟩ := h
  obtain ⟨v, ps, hr, hv⟩ := ho.look_ok K ht hz hzd hkey
  refine ⟨v, ps, by rw [hr, hh], ?_⟩
  rw [hv]
  cases hF : F kl with
  | some d => rw [ha kl d zd hF]; rfl
  | none => rw [Maps.atKey_of_not_has (by rw [hh, hF]; rfl)]; rfl

theorem MapF.look (h : MapF w P k R b F c) (K : Keyed P k) (ht : P.underlying t = some (.map k e)) {z : Value} (hz : (zeroValue e).run P w = .ok z w) {zd : Dt} {zp : List MemPlace} (hzd : R z = some (zd, zp))
    {key : Value} {kl : Lit} (hkey : keyOf P k key = some kl) : ∃ v ps, (Instr.lookup t (.map (some b)) key false).run P w = .ok v w ∧ R v = some ((F kl).getD zd, ps) := by
  obtain ⟨D, ho, hc, hh, ha⟩ := h
  obtain ⟨v, ps, hr, hv⟩ := ho.lookup K ht hz hzd hkey
  refine ⟨v, ps, hr, ?_⟩
  rw [hv]
  cases hF : F kl with
  | some d => rw [ha kl d zd hF]; rfl
  | none => rw [Maps.atKey_of_not_has (by rw [hh, hF]; rfl)]; rfl

theorem MapF.len (h : MapF w P k R b F c) (ht : P.underlying t = some (.map k e)) (ty : TypeId) : (Builtin.len_ #[t] ty #[.map (some b)]).run P w = .ok (.int .i64 c) w := by
  obtain ⟨D, ho, hc, _⟩ := h
  rw [ho.len ht ty, hc]

theorem MapF.store (h : MapF w P k R b F c) (K : Keyed P k) (ht : P.underlying t = some (.map k e)) (hn : c < maxLen) {key val : Value} {kl : Lit} {d : Dt} {ps : List MemPlace}
    (hkey : keyOf P k key = some kl) (hv : R val = some (d, ps)) : ∃ w', (Instr.mapUpdate t (.map (some b)) key val).run P w = .ok () w' ∧ MapF w' P k R b (updF F kl d) (if (F kl).isSome then c else c + 1) ∧ w.mapTurned w' b := by
  obtain ⟨D, ho, hc, hh, ha⟩ := h
  have hkl := K.key hkey
  have hD := ho.isMap
  obtain ⟨w1, hr, ho1, ht1⟩ := ho.store K ht hn hkey hv
  refine ⟨w1, hr, ⟨D.put kl d, ?_, ?_, ?_, ?_⟩, ht1⟩
  · have := own_tight ho1
    rw [Maps.size_put (ho.tidy K), hh, hc] at this
    exact this
  · rw [Maps.size_put (ho.tidy K), hh, hc]
  · intro l
    unfold updF
    by_cases hl : l.sameKey kl = true
    · have := WideAt.sameKey_eq hl
      subst this
      rw [if_pos hl, Maps.has_put_same hD hkl]
      rfl
    · have hne : l ≠ kl := fun e => hl (by rw [e]; exact WideAt.sameKey_self hkl)
      rw [if_neg hl, Maps.has_put_other hne, hh]
  · intro l d' z h'
    unfold updF at h'
    by_cases hl : l.sameKey kl = true
    · have := WideAt.sameKey_eq hl
      subst this
      rw [if_pos hl] at h'
      cases h'
      exact Maps.atKey_put_same hD hkl d z
    · have hne : l ≠ kl := fun e => hl (by rw [e]; exact WideAt.sameKey_self hkl)
      rw [if_neg hl] at h'
      rw [Maps.atKey_put_other hne]
      exact ha l d' z h'

theorem MapF.drop (h : MapF w P k R b F c) (K : Keyed P k) (ht : P.underlying t = some (.map k e)) {key : Value} {kl : Lit} (hkey : keyOf P k key = some kl) (ty : TypeId) :
    ∃ w', (Builtin.delete_ #[t, k] ty #[.map (some b), key]).run P w = .ok (.tuple #[]) w' ∧ MapF w' P k R b (delF F kl) (if (F kl).isSome then c - 1 else c) ∧ w.mapTurned w' b := by
  obtain ⟨D, ho, hc, hh, ha⟩ := h
  have hkl := K.key hkey
  obtain ⟨w1, hr, ho1, ht1⟩ := ho.drop K ht hkey ty
  have hsz := Maps.size_del (k := kl) (ho.tidy K)
  rw [hh, hc] at hsz
  have hsz' : Maps.size (D.del kl) = if (F kl).isSome then c - 1 else c := by
    split
    · rename_i hs; rw [if_pos hs] at hsz; omega
    · rename_i hs; rw [if_neg hs] at hsz; omega
  refine ⟨w1, hr, ⟨D.del kl, ?_, hsz', ?_, ?_⟩, ht1⟩
  · have := own_tight ho1
    rw [hsz'] at this
    exact this
  · intro l
    unfold delF
    by_cases hl : l.sameKey kl = true
    · have := WideAt.sameKey_eq hl
      subst this
      rw [if_pos hl, Maps.has_del_same]
      rfl
    · have hne : l ≠ kl := fun e => hl (by rw [e]; exact WideAt.sameKey_self hkl)
      rw [if_neg hl, Maps.has_del_other hne, hh]
  · intro l d' z h'
    unfold delF at h'
    by_cases hl : l.sameKey kl = true
    · rw [if_pos hl] at h'; cases h'
    · have hne : l ≠ kl := fun e => hl (by rw [e]; exact WideAt.sameKey_self hkl)
      rw [if_neg hl] at h'
      rw [Maps.atKey_del_other hne]
      exact ha l d' z h'
end
theorem turned_kept {w w' : World} {b : Nat} (h : w.mapTurned w' b) : Kept (OneB b) w w' := by
  have hg := h.grown
  exact ⟨hg.os, hg.tape, hg.output, hg.size, fun i hi hs => hg.block i hi (fun e => hs (by cases e; rfl))⟩
theorem turned_size {w w' : World} {b : Nat} (h : w.mapTurned w' b) : w'.heap.size = w.heap.size := by
  obtain ⟨es, clock, es', clock', hb, rfl⟩ := h
  simp [ChangeMaps.setBlock]
end Go.Proofs.YtjjgadanobeamaaGreatDoor

namespace Go.Proofs.YtjjgadanobeamaaGreatDoor
set_option linter.unusedVariables false
set_option linter.unusedSimpArgs false

abbrev Fp := Int × List UInt8
def endP (p : Fp) : Int := p.1 + p.2.length
structure OkD (l : List Fp) : Prop where
  each : ∀ p ∈ l, 0 ≤ p.1 ∧ p.2 ≠ [] ∧ endP p ≤ 1099511627776
  apart : l.Pairwise (fun p q => endP p < q.1)
def HasB (l : List Fp) (x : Int) (c : UInt8) : Prop := ∃ p ∈ l, p.1 ≤ x ∧ p.2[(x - p.1).toNat]? = some c

theorem OkD.nil : OkD [] := ⟨by simp, List.Pairwise.nil⟩
theorem HasB.lt {p : Fp} {x : Int} {c : UInt8} (h1 : p.1 ≤ x) (h : p.2[(x - p.1).toNat]? = some c) : x < endP p := by
  have := (List.getElem?_eq_some_iff.1 h).1
  unfold endP; omega
def joinP (m : List Fp) (k : Int) (b : List UInt8) : Fp :=
  match m.head?, m.getLast? with
  | some f, some z => (min f.1 k, f.2.take (k - f.1).toNat ++ b ++ z.2.drop (k + b.length - z.1).toNat)
  | _, _ => (k, b)
def aheadP (l : List Fp) (k : Int) : List Fp := l.takeWhile (fun p => decide (endP p < k))
def touchP (l : List Fp) (k s : Int) : List Fp := (l.dropWhile (fun p => decide (endP p < k))).takeWhile (fun p => decide (p.1 ≤ s))
def behindP (l : List Fp) (k s : Int) : List Fp := (l.dropWhile (fun p => decide (endP p < k))).dropWhile (fun p => decide (p.1 ≤ s))
def putP (l : List Fp) (k : Int) (b : List UInt8) : List Fp := aheadP l k ++ joinP (touchP l k (k + b.length)) k b :: behindP l k (k + b.length)

theorem split3 (l : List Fp) (k s : Int) : l = aheadP l k ++ (touchP l k s ++ behindP l k s) := by
  unfold aheadP touchP behindP
  rw [List.takeWhile_append_dropWhile, List.takeWhile_append_dropWhile]
theorem mem_tw {α : Type} {q : α → Bool} : ∀ {l : List α} {x : α}, x ∈ l.takeWhile q → q x = true
  | [], x, h => by simp at h
  | y :: l, x, h => by
    rw [List.takeWhile_cons] at h
    split at h
    · rename_i hq
      rcases List.mem_cons.1 h with rfl | h
      · exact hq
      · exact mem_tw h
    · cases h
theorem ahead_end {l : List Fp} {k : Int} : ∀ p ∈ aheadP l k, endP p < k := fun p hp => by
  have := mem_tw hp
  simpa using this
theorem drop_first {α : Type} {q : α → Bool} : ∀ {l : List α} {x : α} {t : List α}, l.dropWhile q = x :: t → q x = false
  | [], _, _, h => by simp at h
  | y :: l, x, t, h => by
    rw [List.dropWhile_cons] at h
    split at h
    · exact drop_first h
    · rename_i hq; cases h; simpa using hq
theorem drop_end {l : List Fp} (h : OkD l) (k : Int) : ∀ p ∈ l.dropWhile (fun p => decide (endP p < k)), k ≤ endP p := by
  intro p hp
  cases hd : l.dropWhile (fun p => decide (endP p < k)) with
  | nil => rw [hd] at hp; cases hp
  | cons f t =>
    have hf := drop_first hd
    simp at hf
    have hap : (f :: t).Pairwise (fun p q => endP p < q.1) := by rw [← hd]; exact h.apart.sublist (List.dropWhile_sublist _)
    rw [hd] at hp
    rcases List.mem_cons.1 hp with rfl | hp'
    · exact hf
    · have h1 := (List.pairwise_cons.1 hap).1 p hp'
      have h2 : p ∈ l := (List.dropWhile_sublist _).subset (by rw [hd]; exact List.mem_cons_of_mem _ hp')
      have := (h.each p h2)
      unfold endP at *; omega
theorem touch_end {l : List Fp} (h : OkD l) (k s : Int) : ∀ p ∈ touchP l k s, k ≤ endP p ∧ p.1 ≤ s := by
  intro p hp
  unfold touchP at hp
  have h1 := mem_tw hp
  exact ⟨drop_end h k p (List.IsPrefix.subset (List.takeWhile_prefix _) hp), by simpa using h1⟩
end Go.Proofs.YtjjgadanobeamaaGreatDoor

namespace Go.Proofs.YtjjgadanobeamaaGreatDoor
set_option linter.unusedVariables false
set_option linter.unusedSimpArgs false

def sizeD (l : List Fp) : Nat := (l.map fun p => p.2.length).sum
theorem sizeD_cons (p : Fp) (l : List Fp) : sizeD (p :: l) = p.2.length + sizeD l := by simp [sizeD]

def fitB (is : Int → Bool) : Nat → Int → Nat → Nat × Nat
  | 0, _, _ => (0, 0)
  | s + 1, k, room => if is k then ((fitB is s (k + 1) room).1 + 1, (fitB is s (k + 1) room).2) else match room with
    | 0 => (0, 0)
    | r + 1 => ((fitB is s (k + 1) r).1 + 1, (fitB is s (k + 1) r).2 + 1)
theorem fitB_in (is : Int → Bool) : ∀ (g s : Nat) (k : Int) (room : Nat), g ≤ s → (∀ i : Nat, i < g → is (k + i) = true) → fitB is s k room = ((fitB is (s - g) (k + g) room).1 + g, (fitB is (s - g) (k + g) room).2)
  | 0, s, k, room, _, _ => by simp
  | g + 1, s, k, room, hg, h => by
    obtain ⟨s', rfl⟩ : ∃ s', s = s' + 1 := ⟨s - 1, by omega⟩
    have h0 := h 0 (by omega)
    simp at h0
    conv => lhs; unfold fitB
    rw [if_pos h0, fitB_in is g s' (k + 1) room (by omega) (fun i hi => by have := h (i + 1) (by omega); rw [← this]; congr 1; push_cast; omega)]
    have e1 : s' + 1 - (g + 1) = s' - g := by omega
    have e2 : k + ((g + 1 : Nat) : Int) = k + 1 + (g : Int) := by push_cast; omega
    rw [e1, e2]
    rfl
end Go.Proofs.YtjjgadanobeamaaGreatDoor

namespace Go.Proofs.YtjjgadanobeamaaGreatDoor

def AllB (bs : List Int) : Prop := ∀ b ∈ bs, 0 ≤ b ∧ b < 256

theorem AllB.take {bs : List Int} (h : AllB bs) (n : Nat) : AllB (bs.take n) := fun b hb => h b (List.mem_of_mem_take hb)
theorem AllB.drop {bs : List Int} (h : AllB bs) (n : Nat) : AllB (bs.drop n) := fun b hb => h b (List.mem_of_mem_drop hb)
theorem AllB.getD {bs : List Int} (h : AllB bs) (i : Nat) : 0 ≤ bs.getD i 0 ∧ bs.getD i 0 < 256 := by
  by_cases hi : i < bs.length
  · have : bs.getD i 0 = bs[i] := by simp [List.getD, hi]
    rw [this]; exact h _ (List.getElem_mem hi)
  · have : bs.getD i 0 = 0 := by simp [List.getD, List.getElem?_eq_none (Nat.le_of_not_lt hi)]
    omega
end Go.Proofs.YtjjgadanobeamaaGreatDoor

namespace Go.Proofs.YtjjgadanobeamaaGreatDoor
open Go.RowKit
set_option linter.unusedVariables false

theorem info5 : (Tryz.prog.info? 5).map (fun i => (i.zero, i.size, i.bytes)) = some (some (.int .u8 0), 1, 1) := by kernel_rfl

def Reads (w : World) (ao : Option Addr) (xs : List Int) : Prop :=
  (ao = none → xs = []) ∧ ∀ a, ao = some a → ∀ i, i < xs.length → w.cell? (a.add i) = some (.int .u8 (xs.getD i 0))

theorem Reads.kept {S : Nat → Prop} {w w' : World} {ao : Option Addr} {xs : List Int} (h : Reads w ao xs) (hk : Kept S w w') (hs : ∀ a, ao = some a → ¬ S a.block) : Reads w' ao xs := by
  refine ⟨h.1, fun a ha i hi => ?_⟩
  have hc := h.2 a ha i hi
  have hb := World.block_lt_of_cell? w _ hc
  have e : (a.add i).block = a.block := by unfold Addr.add; split <;> rfl
  exact (World.cell?_of_block (hk.block _ hb (by rw [e]; exact hs a ha))).trans hc

theorem addr_add (g o i : Nat) : (⟨g, o, none⟩ : Addr).add i = ⟨g, o + i, none⟩ := by unfold Addr.add; split <;> simp_all

theorem own_reads {w : World} {ao : Option Addr} {n cap : Nat} {xs : List Int} (h : w.ownsRow 0 5 1 (.slice ao n cap) xs.length (xs.map (.int .u8))) (hn : n = xs.length) : Reads w ao xs := by
  subst hn
  refine ⟨fun e => ?_, fun a e i hi => ?_⟩
  · subst e
    rcases h.2 with ⟨_, hz⟩ | ⟨g, c, cur, hv, _⟩
    · exact List.eq_nil_of_length_eq_zero hz
    · simp at hv
  · subst e
    obtain ⟨g, rfl⟩ : ∃ g, a = ⟨g, 0, none⟩ := by
      rcases h.2 with ⟨hv, _⟩ | ⟨g, c, cur, hv, _⟩
      · simp at hv
      · simp at hv; exact ⟨g, hv.1⟩
    rw [addr_add, Nat.zero_add, h.cellAt i (by omega)]
    simp [List.getD, hi]

end Go.Proofs.YtjjgadanobeamaaGreatDoor

namespace Go.Proofs.YtjjgadanobeamaaGreatDoor
open Go.RowKit Go.ChangeShapes Go.WideShapes Go.Deep
set_option linter.unusedVariables false
set_option maxRecDepth 20000

def Rd (w : World) (t : TypeId) (cs : List Value) : Prop :=
  ∃ (H : Type) (enc : TypeId × Value → H) (base : Nat) (spare : Nat → Bool) (held : Bool) (fuel : Nat) (x : DataW H × List MemPlace), DataW.trod enc Tryz.prog w base spare held fuel t cs = some x
def Arg (w : World) (t : TypeId) (v : Value) : Prop := (∃ base, Value.okWide Tryz.prog w .any base t v) ∧ Rd w t v.cells.toList

theorem Rd.int {w : World} {t : TypeId} {cs : List Value} {k : IntKind} (ht : Tryz.prog.underlying t = some (.int k)) (h : Rd w t cs) : ∃ n, cs = [.int k n] ∧ (Lit.int k n).wf = true := by
  obtain ⟨H, enc, base, spare, held, fuel, x, hx⟩ := h
  obtain ⟨n, h1, _, h2⟩ := DataW.trod_int ht hx
  exact ⟨n, h1, h2⟩
theorem Rd.string {w : World} {t : TypeId} {cs : List Value} (ht : Tryz.prog.underlying t = some .string) (h : Rd w t cs) : ∃ s : ByteArray, cs = [.string s] ∧ s.size ≤ maxLen := by
  obtain ⟨H, enc, base, spare, held, fuel, x, hx⟩ := h
  obtain ⟨s, h1, _, h2⟩ := DataW.trod_string ht hx
  exact ⟨s, h1, h2⟩
theorem Rd.slice {w : World} {t e : TypeId} {cs : List Value} (ht : Tryz.prog.underlying t = some (.slice e)) (h : Rd w t cs) :
    ∃ (ao : Option Addr) (len cap : Nat), cs = [.slice ao len cap] ∧ len ≤ cap ∧ cap ≤ maxLen ∧ (ao = none → len = 0 ∧ cap = 0) ∧
      ∀ a, ao = some a → ∀ i, i < len → ∃ cs', Rd w e cs' ∧ cs'.length = Tryz.prog.cellsOf e ∧ ∀ j, j < cs'.length → w.cell? (a.add (i * Tryz.prog.cellsOf e + j)) = cs'[j]? := by
  obtain ⟨H, enc, base, spare, held, fuel, x, hx⟩ := h
  rcases open_slice ht hx with ⟨h0, _⟩ | ⟨a, len, cap, m, n, D, Pl, hcs, hb, hl, hm, hmm, hx2, hi⟩
  · exact ⟨none, 0, 0, h0, Nat.le_refl _, Nat.zero_le _, (fun _ => ⟨rfl, rfl⟩), (fun a ha => by cases ha)⟩
  · refine ⟨some a, len, cap, hcs, hl, hm, (fun h => by cases h), ?_⟩
    intro a' ha i hil
    cases ha
    obtain ⟨cs', h1, h2⟩ := hi i (by rw [hmm]; split <;> omega)
    obtain ⟨_, hlen, hat⟩ := World.cells?_some h1
    refine ⟨cs', ⟨H, enc, base, spare, held, n, _, h2⟩, hlen, fun j hj => ?_⟩
    rw [← Go.Deep.add_add]
    exact hat j (by omega)
theorem Rd.struct {w : World} {t : TypeId} {cs : List Value} {fs : Array Field} (ht : Tryz.prog.underlying t = some (.struct fs)) (h : Rd w t cs) :
    cs.length = Tryz.prog.cellsOf t ∧ ∀ (i : Nat) (f : Field), fs[i]? = some f → Rd w f.type ((cs.drop f.offset).take (Tryz.prog.cellsOf f.type)) := by
  obtain ⟨H, enc, base, spare, held, fuel, x, hx⟩ := h
  obtain ⟨ys, n, _, _, hlen, hyl, hf⟩ := DataW.trod_struct ht hx
  refine ⟨hlen, fun i f hi => ?_⟩
  have hil : i < fs.size := (Array.getElem?_eq_some_iff.1 hi).1
  have hy : ys[i]? = some (ys[i]'(by omega)) := List.getElem?_eq_getElem (by omega)
  exact ⟨H, enc, base, spare, held, n, _, (hf i f hi).trans hy⟩
theorem Arg.mk' {H : Type} {enc : TypeId × Value → H} {w : World} {b0 base : Nat} {spare : Nat → Bool} {held : Bool} {t : TypeId} {v : Value} {d : DataW H} {p : List MemPlace} (hv : Value.okWide Tryz.prog w .any b0 t v)
    (hd : DataW.Trod enc Tryz.prog w base spare held t v d p) : Arg w t v := by
  obtain ⟨fuel, h⟩ := hd
  exact ⟨⟨b0, hv⟩, H, enc, base, spare, held, fuel, _, h⟩
theorem Arg.int {w : World} {t : TypeId} {v : Value} {k : IntKind} (ht : Tryz.prog.underlying t = some (.int k)) (h : Arg w t v) : ∃ n, v = .int k n ∧ (Lit.int k n).wf = true := by
  obtain ⟨⟨base, hv⟩, hr⟩ := h
  obtain ⟨n, rfl⟩ := okWide_int ht hv
  obtain ⟨m, h1, h2⟩ := hr.int ht
  simp [Value.cells] at h1
  subst h1
  exact ⟨_, rfl, h2⟩
theorem Arg.slice {w : World} {t e : TypeId} {v : Value} (ht : Tryz.prog.underlying t = some (.slice e)) (h : Arg w t v) :
    ∃ (ao : Option Addr) (len cap : Nat), v = .slice ao len cap ∧ len ≤ cap ∧ cap ≤ maxLen ∧ (ao = none → len = 0 ∧ cap = 0) ∧
      ∀ a, ao = some a → ∀ i, i < len → ∃ cs', Rd w e cs' ∧ cs'.length = Tryz.prog.cellsOf e ∧ ∀ j, j < cs'.length → w.cell? (a.add (i * Tryz.prog.cellsOf e + j)) = cs'[j]? := by
  obtain ⟨⟨base, hv⟩, hr⟩ := h
  obtain ⟨a, l, c, rfl⟩ := okWide_slice ht hv
  obtain ⟨ao, len, cap, h1, rest⟩ := hr.slice ht
  simp [Value.cells] at h1
  obtain ⟨rfl, rfl, rfl⟩ := h1
  exact ⟨_, _, _, rfl, rest⟩
theorem Arg.string {w : World} {t : TypeId} {v : Value} (ht : Tryz.prog.underlying t = some .string) (h : Arg w t v) : ∃ s : ByteArray, v = .string s ∧ s.size ≤ maxLen := by
  obtain ⟨⟨base, hv⟩, hr⟩ := h
  obtain ⟨s, rfl⟩ := okWide_string ht hv
  obtain ⟨s', h1, h2⟩ := hr.string ht
  simp [Value.cells] at h1
  subst h1
  exact ⟨_, rfl, h2⟩

theorem cells_u8 : Tryz.prog.cellsOf 5 = 1 := by kernel_rfl
theorem Rd.bytes {w : World} {t : TypeId} {cs : List Value} (ht : Tryz.prog.underlying t = some (.slice 5)) (h : Rd w t cs) :
    ∃ (ao : Option Addr) (cap : Nat) (bs : List Int), cs = [.slice ao bs.length cap] ∧ bs.length ≤ cap ∧ cap ≤ maxLen ∧ Reads w ao bs ∧ AllB bs ∧ (ao = none → cap = 0) := by
  obtain ⟨H, enc, base, spare, held, fuel, x, hx⟩ := h
  rcases open_ints ht Tryz.underlying5 cells_u8 hx with ⟨hcs, _⟩ | ⟨a, l, c, zs, hcs, _, hl, hm, hz, _, hcell, hwz⟩
  · exact ⟨none, 0, [], hcs, Nat.le_refl _, Nat.zero_le _, ⟨(fun _ => rfl), (fun a ha => by cases ha)⟩, (by intro b hb; cases hb), (fun _ => rfl)⟩
  · have hzl : l ≤ zs.length := by
      have := hz
      split at this <;> omega
    have hlen : (zs.take l).length = l := by rw [List.length_take]; omega
    refine ⟨some a, c, zs.take l, by rw [hlen]; exact hcs, by rw [hlen]; exact hl, hm, ⟨(fun h => by cases h), ?_⟩, ?_, (fun h => by cases h)⟩
    · intro a' ha i hi
      cases ha
      rw [hlen] at hi
      rw [hcell i (by omega)]
      simp [List.getD, hi]
    · intro b hb
      have := hwz b (List.mem_of_mem_take hb)
      simp [Lit.wf, IntKind.min, IntKind.max, IntKind.signed, IntKind.bits] at this
      omega
theorem Arg.bytes {w : World} {t : TypeId} {v : Value} (ht : Tryz.prog.underlying t = some (.slice 5)) (h : Arg w t v) :
    ∃ (ao : Option Addr) (cap : Nat) (bs : List Int), v = .slice ao bs.length cap ∧ bs.length ≤ cap ∧ cap ≤ maxLen ∧ Reads w ao bs ∧ AllB bs ∧ (ao = none → cap = 0) := by
  obtain ⟨⟨base, hv⟩, hr⟩ := h
  obtain ⟨a, l, c, rfl⟩ := okWide_slice ht hv
  obtain ⟨ao, cap, bs, h1, rest⟩ := hr.bytes ht
  simp [Value.cells] at h1
  obtain ⟨rfl, rfl, rfl⟩ := h1
  exact ⟨_, _, _, rfl, rest⟩
theorem i64_bd {n : Int} (h : (Lit.int .i64 n).wf = true) : -9223372036854775808 ≤ n ∧ n ≤ 9223372036854775807 := by
  simpa [Lit.wf, IntKind.min, IntKind.max, IntKind.signed, IntKind.bits] using h
end Go.Proofs.YtjjgadanobeamaaGreatDoor

namespace Go.Proofs.YtjjgadanobeamaaGreatDoor
open Go.RowKit
set_option linter.unusedVariables false
set_option linter.unusedSimpArgs false

theorem Reads.at {w : World} {ao : Option Addr} {bs : List Int} (h : Reads w ao bs) (h0 : 0 < bs.length) :
    ∃ b off, ao = some ⟨b, off, none⟩ ∧ b < w.heap.size ∧ ∀ j, j < bs.length → w.cell? ⟨b, off + j, none⟩ = some (.int .u8 (bs.getD j 0)) := by
  cases ao with
  | none => have := h.1 rfl; subst this; simp at h0
  | some a =>
    obtain ⟨b, off, spot⟩ := a
    have hs : spot = none := by
      have := World.cell?_spot (h.2 _ rfl 0 h0)
      simpa [Addr.add] using this
    subst hs
    have h2 : ∀ j, j < bs.length → w.cell? ⟨b, off + j, none⟩ = some (.int .u8 (bs.getD j 0)) := fun j hj => by
      have := h.2 _ rfl j hj
      rwa [addr_add] at this
    exact ⟨b, off, rfl, World.block_lt_of_cell? w _ (h2 0 h0), h2⟩
theorem Reads.keptNo {w w' : World} {ao : Option Addr} {xs : List Int} (h : Reads w ao xs) (hk : Kept NoB w w') : Reads w' ao xs := h.kept hk (fun _ _ h => h)
theorem Kept.cell {w w' : World} (hk : Kept NoB w w') {a : Addr} {v : Value} (h : w.cell? a = some v) : w'.cell? a = some v :=
  (World.cell?_of_block (hk.block _ (World.block_lt_of_cell? w a h) (fun h => h))).trans h
theorem cell_new {w : World} {cs : Array Value} {t : TypeId} {k : Nat} (i : Nat) (hk : k = w.heap.size) : (w.alloc (.cells cs t)).cell? ⟨k, i, none⟩ = cs[i]? := by
  subst hk; exact cell_of_row _ _ _ cs t (0, 0) (heap_alloc_new _ _)
theorem own_cap {w : World} {base e n cap : Nat} {ao : Option Addr} {xs : List Value} (h : w.ownsRow base e 1 (.slice ao n cap) n xs) : n ≤ cap ∧ cap ≤ maxLen := by
  rcases h.2 with ⟨hv, hn⟩ | ⟨g, c, cur, hv, _, _, h1, h2, _⟩
  · simp at hv; obtain ⟨_, rfl, rfl⟩ := hv; exact ⟨Nat.le_refl _, Nat.zero_le _⟩
  · simp at hv; obtain ⟨_, rfl⟩ := hv; exact ⟨h1, h2⟩
theorem own_nil {w : World} {base e n cap : Nat} {ao : Option Addr} {xs : List Value} (h : w.ownsRow base e 1 (.slice ao n cap) n xs) : ao = none → cap = 0 := by
  intro ha
  subst ha
  rcases h.2 with ⟨hv, hn⟩ | ⟨g, c, cur, hv, _⟩
  · simp at hv; exact hv.2
  · simp at hv
theorem conv_reads {w : World} {ao : Option Addr} {n cap : Nat} {xs : List Int} (h : Reads w ao xs) (hn : n = xs.length) (h0 : ao = none → cap = 0) :
    (convert 26 9 (.slice ao n cap)).run Tryz.prog w = .ok (.string (strOfNums xs)) w := by
  subst hn
  by_cases hx : xs = []
  · subst hx
    cases ao with
    | none => exact run_convert_bytes_nil (P := Tryz.prog) w _ 5 Tryz.underlying26 Tryz.underlying5 _ _ _ Tryz.underlying9
    | some a =>
      show (convert 26 9 (.slice (some a) 0 cap)).run Tryz.prog w = .ok (.string (strOfNums [])) w
      rw [run_convert_bytes_string w 26 9 5 (some a) 0 cap Tryz.underlying26 Tryz.underlying5 Tryz.underlying9]
      simp [Conv.bytesToString, loadCells, loadCellsFrom]
      rfl
  · obtain ⟨b, off, rfl, _, hc⟩ := h.at (by cases xs with | nil => exact absurd rfl hx | cons => simp)
    exact run_convert_bytes_arg (P := Tryz.prog) w _ 5 Tryz.underlying26 Tryz.underlying5 b off xs.length cap xs rfl hc _ Tryz.underlying9
theorem Reads.below {w w' : World} {ao : Option Addr} {bs : List Int} (h : Reads w ao bs) (hb : Below w.heap.size w w') : Reads w' ao bs := h.keptNo ((Kept.refl NoB w).ofBelow hb)
end Go.Proofs.YtjjgadanobeamaaGreatDoor

namespace Go.Proofs.YtjjgadanobeamaaGreatDoor
open Go.RowKit
set_option linter.unusedVariables false
set_option linter.unusedSimpArgs false
set_option maxRecDepth 20000

structure NodeV where
  kind : Int
  mode : Int
  user : Int
  group : Int
  time : Int
  tgt : ByteArray
  major : Int
  minor : Int
  size : Int
  links : Int
  change : Int
def mayB (n : NodeV) : Bool :=
  (n.kind == 1 || n.kind == 6 || n.kind == 7 || n.kind == 3 || n.kind == 4 || n.kind == 5) &&
  (if n.kind = 3 then !n.tgt.toList.isEmpty && decide (n.tgt.size ≤ 1024) && !decide (0 ≤ Lib.indexByte n.tgt.data.toList 0) else n.tgt.toList.isEmpty) &&
  (if n.kind = 4 ∨ n.kind = 5 then decide (0 ≤ n.major) && decide (n.major ≤ 1048575) && (decide (0 ≤ n.minor) && decide (n.minor ≤ 1048575)) else decide (n.major = 0) && decide (n.minor = 0)) &&
  (decide (0 ≤ n.mode) && decide (n.mode ≤ 4095) && (decide (0 ≤ n.user) && decide (n.user ≤ 2147483647)) && (decide (0 ≤ n.group) && decide (n.group ≤ 2147483647))) &&
  decide (n.size = 0) && decide (n.links = 0) && decide (n.change = 0)
theorem infoNd : (Tryz.prog.info? 25).map (·.size) = some 11 := by kernel_rfl
def nvC (v : NodeV) : List Value := [.int .i64 v.kind, .int .i64 v.mode, .int .i64 v.user, .int .i64 v.group, .int .i64 v.time, .string v.tgt, .int .i64 v.major, .int .i64 v.minor, .int .i64 v.size, .int .i64 v.links, .int .i64 v.change]
theorem nv_one (v : NodeV) : (nvC v).toArray.all (·.oneCell') = true := by simp [nvC, Value.oneCell']
end Go.Proofs.YtjjgadanobeamaaGreatDoor
