/-
  What is kept of a world while a call writes some blocks alone; rows of bytes; objects of two or more fields. Nothing of the program is named here.
  What a part may be, on paper; texts as rows of bytes.
  Two digits for each byte, on paper.
  Maps of the call's own, told by what each key leads to.
  What was written of a file, on paper: pieces that rise, none beside another; bytes put, cut, read; how many bytes fit.
  What was written of a file, on paper: which bytes there are behind a write and a cut; reading; how many fit.
  Numbers made of bytes, the lowest first; bits of them. No Go in sight.
-/
import Derived.WalkKit
import Derived.WalkSpells
import Derived.WalkLawsBesides
import Derived.Deep.QuietTactic
import Derived.BigQuiet
import Derived.Lib.Hide
import Derived.Lib.IndexAny
import Derived.Lib.BytesEntry
import Derived.Maps.OwnSet
import Derived.Maps.OwnOps
import Derived.Maps.RangeWalk
import Derived.Laws.BitsAllLaws
namespace Go.Proofs.YtjjgadanobeamaaGreatDoor
open Go.RowKit

structure Kept (S : Nat → Prop) (w w' : World) : Prop where
  os : w'.os = w.os
  tape : w'.tape = w.tape
  output : w'.output = w.output
  size : w.heap.size ≤ w'.heap.size
  block : ∀ k, k < w.heap.size → ¬ S k → w'.heap[k]? = w.heap[k]?

def NoB : Nat → Prop := fun _ => False
def OneB (r : Nat) : Nat → Prop := fun k => k = r
def OwnB (v : Value) : Nat → Prop := fun k => v.ownBlock = some k
def OrB (S T : Nat → Prop) : Nat → Prop := fun k => S k ∨ T k

theorem Kept.refl (S : Nat → Prop) (w : World) : Kept S w w := ⟨rfl, rfl, rfl, Nat.le_refl _, fun _ _ _ => rfl⟩
theorem Kept.trans {S : Nat → Prop} {a b c : World} (h : Kept S a b) (k : Kept S b c) : Kept S a c :=
  ⟨k.os.trans h.os, k.tape.trans h.tape, k.output.trans h.output, Nat.le_trans h.size k.size, fun i hi hs => (k.block i (Nat.lt_of_lt_of_le hi h.size) hs).trans (h.block i hi hs)⟩
theorem Kept.mono {S T : Nat → Prop} {a b : World} (h : Kept S a b) (hs : ∀ k, k < a.heap.size → S k → T k) : Kept T a b :=
  ⟨h.os, h.tape, h.output, h.size, fun i hi ht => h.block i hi (fun s => ht (hs i hi s))⟩
theorem Kept.drew {S : Nat → Prop} {a b : World} (h : Kept S a b) : Kept S a b.drew := ⟨h.os, h.tape, h.output, h.size, h.block⟩
theorem Kept.drewN {S : Nat → Prop} {a b : World} (h : Kept S a b) (n : Nat) : Kept S a (b.drewN n) := ⟨h.os, h.tape, h.output, h.size, h.block⟩
theorem Kept.setCell {S : Nat → Prop} {a b : World} (h : Kept S a b) {p : Addr} (hp : S p.block ∨ a.heap.size ≤ p.block) (u : Value) : Kept S a (b.setCell p u) :=
  ⟨h.os, h.tape, h.output, by simpa using h.size, fun i hi hs => (Below.heap_setCell _ _ _ _ (fun e => by rcases hp with hp | hp; exact hs (e ▸ hp); omega)).trans (h.block i hi hs)⟩
theorem Kept.alloc {S : Nat → Prop} {a b : World} (h : Kept S a b) (o : Obj) : Kept S a (b.alloc o) :=
  ⟨h.os, h.tape, h.output, by have := h.size; simp; omega, fun i hi hs => (Below.heap_alloc _ _ _ (Nat.lt_of_lt_of_le hi h.size)).trans (h.block i hi hs)⟩
theorem Kept.grown {S : Nat → Prop} {a b c : World} (h : Kept S a b) {row : Option Nat} (g : b.grownBy c row) (hr : ∀ k, k < a.heap.size → row = some k → S k) : Kept S a c :=
  ⟨g.os.trans h.os, g.tape.trans h.tape, g.output.trans h.output, Nat.le_trans h.size g.size,
    fun i hi hs => (g.block i (Nat.lt_of_lt_of_le hi h.size) (fun e => hs (hr i hi e.symm))).trans (h.block i hi hs)⟩
theorem Kept.ofBelow {S : Nat → Prop} {a b c : World} (h : Kept S a b) (g : Below b.heap.size b c) : Kept S a c :=
  ⟨g.os.trans h.os, g.tape.trans h.tape, g.output.trans h.output, Nat.le_trans h.size g.size,
    fun i hi hs => (g.block i (Nat.lt_of_lt_of_le hi h.size)).trans (h.block i hi hs)⟩
theorem Kept.below {S : Nat → Prop} {w a b : World} (h : Kept S a b) (hb : Below w.heap.size w a) (hs : ∀ k, S k → w.heap.size ≤ k) : Below w.heap.size w b :=
  ⟨h.os.trans hb.os, h.tape.trans hb.tape, h.output.trans hb.output, Nat.le_trans hb.size h.size,
    fun i hi => (h.block i (Nat.lt_of_lt_of_le hi hb.size) (fun s => by have := hs i s; omega)).trans (hb.block i hi)⟩
theorem Kept.belowNo {w a b : World} (h : Kept NoB a b) (hb : Below w.heap.size w a) : Below w.heap.size w b := h.below hb (fun _ s => s.elim)

theorem Kept.row {S : Nat → Prop} {a b : World} (h : Kept S a b) {base e size n : Nat} {v : Value} {xs : List Value} (ho : a.ownsRow base e size v n xs) (hs : ∀ k, v.ownBlock = some k → ¬ S k) : b.ownsRow base e size v n xs := by
  refine ⟨ho.1, ?_⟩
  rcases ho.2 with hn | ⟨g, cap, cur, rfl, hb, hg, rest⟩
  · exact .inl hn
  · exact .inr ⟨g, cap, cur, rfl, hb, (h.block g (Array.getElem?_eq_some_iff.1 hg).1 (hs g rfl)).trans hg, rest⟩
theorem Kept.obj {S : Nat → Prop} {a b : World} (h : Kept S a b) {R : Nat} {o : Obj} (ho : a.heap[R]? = some o) (hs : ¬ S R) : b.heap[R]? = some o :=
  (h.block R (Array.getElem?_eq_some_iff.1 ho).1 hs).trans ho

theorem obj_cell {w : World} {R : Nat} {cs : Array Value} {t : TypeId} (h : w.heap[R]? = some (.cells cs t (0, 0))) (i : Nat) : w.cell? ⟨R, i, none⟩ = cs[i]? := cell_of_row w R i cs t (0, 0) h
theorem obj_free {w : World} {R : Nat} {cs : Array Value} {t : TypeId} (h : w.heap[R]? = some (.cells cs t (0, 0))) (i : Nat) : w.frozen? ⟨R, i, none⟩ = false := frozen_of_row w R i cs t h
theorem obj_set {w : World} {R : Nat} {cs : Array Value} {t : TypeId} (h : w.heap[R]? = some (.cells cs t (0, 0))) (i : Nat) (u : Value) : (w.setCell ⟨R, i, none⟩ u).heap[R]? = some (.cells (cs.setIfInBounds i u) t (0, 0)) :=
  heap_setCell_same w R i cs t u h
theorem obj_lt {w : World} {R : Nat} {o : Obj} (h : w.heap[R]? = some o) : R < w.heap.size := (Array.getElem?_eq_some_iff.1 h).1

section
variable {P : Program} (w : World)
theorem run_app (e t ty : TypeId) (i : TypeInfo) (z : Value) (size bytes : Nat) (ht : P.underlying t = some (.slice e)) (hi : P.info? e = some i) (hz : i.zero = some z)
    (hsize : i.size = size) (hby : i.bytes = bytes) (hzs : z.cells.size = size) (hsz : 0 < size)
    (v : Value) (n : Nat) (xs : List Value) (hown : w.ownsRow 0 e size v n xs)
    (a : Addr) (m c : Nat) (news : List Value) (hl : news.length = m * size) (hnews : ∀ j u, news[j]? = some u → w.cell? (a.add j) = some u) (h1 : ∀ u ∈ news, u.oneCell' = true)
    (h63 : n + m ≤ maxLen) (hbytes : (n + m) * bytes ≤ 140737488355328) :
    ∃ v' w', (Builtin.append_ #[t, t] ty #[v, .slice (some a) m c]).run P w = .ok v' w' ∧ w'.ownsRow 0 e size v' (n + m) (xs ++ news) ∧ w.grownBy w' v.ownBlock ∧
      (∀ k, v'.ownBlock = some k → v.ownBlock = some k ∨ w.heap.size ≤ k) := by
  obtain ⟨v', w', hr, ho, hg, hn⟩ := run_append_own (P := P) w 0 t ty e i z size bytes ht hi hz hsize hby hzs hsz v n xs hown a m c news hl hnews h1 h63 hbytes (Nat.zero_le _)
  refine ⟨v', w', hr, ho, hg, ?_⟩
  intro k hk
  have hown2 := hown
  rcases hown.2 with ⟨rfl, rfl⟩ | ⟨g, cap, cur, rfl, hbg, hgg, hnc, hcm, hcs, htake⟩
  · have hx : xs = [] := List.eq_nil_of_length_eq_zero (by simpa using hown.1)
    subst hx
    obtain ⟨v2, w2, hr2, ho2, _, _⟩ := run_append_own (P := P) w w.heap.size t ty e i z size bytes ht hi hz hsize hby hzs hsz _ 0 [] (World.ownsRow_nil w w.heap.size e size) a m c news hl hnews h1 h63 hbytes (Nat.le_refl _)
    rw [hr] at hr2
    cases hr2
    exact .inr (ho2.lt k hk).1
  · by_cases hroom : n + m ≤ cap
    · obtain ⟨w2, hr2, _, _⟩ := run_append_fits (P := P) w 0 t ty e i size ht hi hsize g n cap xs hown a m c news hl hnews h1 hroom
      rw [hr] at hr2
      cases hr2
      exact .inl hk
    · subst hsize
      subst hby
      have holds : ∀ j u, xs[j]? = some u → w.cell? ((⟨g, 0, none⟩ : Addr).add j) = some u := hown.cells (g := g) rfl
      have hr2 := run_append_grow (P := P) w t ty e i z ht hi hz ⟨g, 0, none⟩ n cap xs hown.1 holds a m c news hl hnews (by omega) (by simp only [maxLen] at h63; omega) (growslice_fits (by omega) hbytes)
      rw [hr] at hr2
      cases hr2
      simp [Value.ownBlock] at hk
      exact .inr (by omega)

theorem wpList_app {ops : Array Oper} {rest : List Oper} {o : Oper} {a : Act} {Q : Exit → Act → World → Prop} (hgd : o.guard = none) (s x : Operand) (t : TypeId)
    (ho : o.op = .call { callee := .builtin .append, args := #[s, x], argTypes := #[t, t] })
    (e : TypeId) (i : TypeInfo) (z : Value) (size bytes : Nat) (ht : P.underlying t = some (.slice e)) (hi : P.info? e = some i) (hz : i.zero = some z)
    (hsize : i.size = size) (hby : i.bytes = bytes) (hzs : z.cells.size = size) (hsz : 0 < size)
    (v : Value) (n : Nat) (xs : List Value) (hs : a.eval s = v) (hown : w.ownsRow 0 e size v n xs)
    (ad : Addr) (m c : Nat) (news : List Value) (hx : a.eval x = .slice (some ad) m c) (hl : news.length = m * size) (hnews : ∀ j u, news[j]? = some u → w.cell? (ad.add j) = some u) (h1 : ∀ u ∈ news, u.oneCell' = true)
    (h63 : n + m ≤ maxLen) (hbytes : (n + m) * bytes ≤ 140737488355328)
    (h : ∀ v' w', w'.ownsRow 0 e size v' (n + m) (xs ++ news) → w.grownBy w' v.ownBlock → (∀ k, v'.ownBlock = some k → v.ownBlock = some k ∨ w.heap.size ≤ k) → wpList P ops Q rest (a.put o.dst v') w') : wpList P ops Q (o :: rest) a w :=
  wpList_plain hgd fun _ hK => by
    obtain ⟨v', w', hr, h2, h3, h4⟩ := run_app (P := P) w e t o.type i z size bytes ht hi hz hsize hby hzs hsz v n xs hown ad m c news hl hnews h1 h63 hbytes
    unfold Oper.wp execOp
    simp only [ho, resolve, invoke, builtin, Sem.run_bind, Sem.run_pure, Result.andThen_ok, List.map_toArray, List.map_cons, List.map_nil, hs, hx, hr]
    exact hK _ _ (h v' w' h2 h3 h4)
end

end Go.Proofs.YtjjgadanobeamaaGreatDoor

namespace Go.Proofs.YtjjgadanobeamaaGreatDoor
set_option linter.unusedVariables false
def strB (l : List UInt8) : ByteArray := ⟨l.toArray⟩
theorem strB_of (s : ByteArray) : strB s.data.toList = s := by cases s; rfl
theorem strB_size (l : List UInt8) : (strB l).size = l.length := by simp [strB, ByteArray.size]
theorem strB_data (l : List UInt8) : (strB l).data.toList = l := rfl
theorem strB_list (l : List UInt8) : (strB l).toList = l := by rw [Lib.toList_data]; rfl
def bc (L : List UInt8) : List Value := L.map fun b => Value.int .u8 (b.toNat : Int)
def nb (L : List UInt8) : List Int := L.map fun b => (b.toNat : Int)
theorem bc_nb (L : List UInt8) : bc L = (nb L).map (.int .u8) := by simp [bc, nb]
theorem nb_len (L : List UInt8) : (nb L).length = L.length := by simp [nb]
def okN (s : ByteArray) : Bool := !s.toList.isEmpty && decide (s.size ≤ 255) && !(s.toList == [46]) && !(s.toList == [46, 46]) && !decide (0 ≤ Lib.indexAny s.data.toList [47, 0])
end Go.Proofs.YtjjgadanobeamaaGreatDoor

namespace Go.Proofs.YtjjgadanobeamaaGreatDoor
set_option linter.unusedVariables false
set_option linter.unusedSimpArgs false

def hexD (n : Nat) : UInt8 := UInt8.ofNat (if n < 10 then 48 + n else 87 + n)
def hexB (s : List UInt8) : List UInt8 := s.flatMap fun b => [hexD (b.toNat / 16), hexD (b.toNat % 16)]
theorem hexB_snoc (s : List UInt8) (i : Nat) (h : i < s.length) : hexB (s.take (i + 1)) = hexB (s.take i) ++ [hexD (s[i].toNat / 16), hexD (s[i].toNat % 16)] := by
  unfold hexB
  rw [List.take_succ_eq_append_getElem h, List.flatMap_append]
  rfl
theorem hexB_len (s : List UInt8) : (hexB s).length = 2 * s.length := by
  induction s with
  | nil => rfl
  | cons b t ih =>
    show (hexD (b.toNat / 16) :: hexD (b.toNat % 16) :: hexB t).length = _
    simp only [List.length_cons, ih]
    omega
end Go.Proofs.YtjjgadanobeamaaGreatDoor

namespace Go.Proofs.YtjjgadanobeamaaGreatDoor
open Go.RowKit
open Go.Maps (Keyed)
open Go.WideElems (Fit rd rg pl rd_val elemAt)
set_option linter.unusedVariables false
set_option linter.unusedSimpArgs false

abbrev Dt := DataW Unit
abbrev Rdr := Value → Option (Dt × List MemPlace)

def MapF (w : World) (P : Program) (k : TypeId) (R : Rdr) (b : Nat) (F : Lit → Option Dt) (c : Nat) : Prop :=
  ∃ D, w.ownsMap P k R b c D ∧ Maps.size D = c ∧ (∀ l, Maps.has D l = (F l).isSome) ∧ ∀ l d z, F l = some d → D.atKey l z = d

def updF (F : Lit → Option Dt) (kl : Lit) (d : Dt) : Lit → Option Dt := fun l => if l.sameKey kl then some d else F l
def delF (F : Lit → Option Dt) (kl : Lit) : Lit → Option Dt := fun l => if l.sameKey kl then none else F l

theorem own_tight {w : World} {P : Program} {k : TypeId} {R : Rdr} {b n : Nat} {D : Dt} (h : w.ownsMap P k R b n D) : w.ownsMap P k R b (Maps.size D) D := by
  obtain ⟨es, clock, hb, F, hs, rfl⟩ := h
  exact ⟨es, clock, hb, F, by simp [Maps.size, length_sorted], rfl⟩

section
variable {w w' : World} {P : Program} {k t e : TypeId} {R : Rdr} {b c : Nat} {F : Lit → Option Dt}

theorem MapF.made (w : World) (P : Program) (k : TypeId) (R : Rdr) : MapF (w.alloc (.map #[] 0)) P k R w.heap.size (fun _ => none) 0 :=
  ⟨.map [], World.ownsMap_made w P k R, rfl, fun l => rfl, fun l d z h => by cases h⟩
theorem MapF.lt (h : MapF w P k R b F c) : b < w.heap.size := by obtain ⟨D, ho, _⟩ := h; exact ho.lt
theorem MapF.heap (h : MapF w P k R b F c) (hb : w'.heap[b]? = w.heap[b]?) : MapF w' P k R b F c := by
  obtain ⟨D, ⟨es, clock, h1, h2⟩, h3⟩ := h
  exact ⟨D, ⟨es, clock, hb.trans h1, h2⟩, h3⟩
theorem MapF.kept {S : Nat → Prop} (h : MapF w P k R b F c) (hk : Kept S w w') (hs : ¬ S b) : MapF w' P k R b F c := h.heap (hk.block b h.lt hs)
theorem MapF.ne_cells (h : MapF w P k R b F c) {R' : Nat} {cs : Array Value} {ty : TypeId} {fr : Nat × Nat} (ho : w.heap[R']? = some (.cells cs ty fr)) : b ≠ R' := by
  obtain ⟨D, ⟨es, clock, h1, h2⟩, h3⟩ := h
  intro e
  rw [← e, h1] at ho
  cases ho

theorem MapF.look_ok (h : MapF w P k R b F c) (K : Keyed P k) (ht : P.underlying t = some (.map k e)) {z : Value} (hz : (zeroValue e).run P w = .ok z w) {zd : Dt} {zp : List MemPlace} (hzd : R z = some (zd, zp))
    {key : Value} {kl : Lit} (hkey : keyOf P k key = some kl) : ∃ v ps, (Instr.lookup t (.map (some b)) key true).run P w = .ok (.tuple #[v, .bool (F kl).isSome]) w ∧ R v = some ((F kl).getD zd, ps) := by
  obtain ⟨D, ho, hc, hh, ha⟩ := h
  obtain ⟨v, ps, hr, hv⟩ := ho.look_ok K ht hz hzd hkey
  refine ⟨v, ps, by rw [hr, hh], ?_⟩
  rw [hv]
  cases hF : F kl with
  | some d => rw [ha kl d zd hF]; rfl
  | none => rw [Maps.atKey_of_not_has (by rw [hh, hF]; rfl)]; rfl

theorem MapF.look (h : MapF w P k R b F c) (K : Keyed P k) (ht : P.underlying t = some (.map k e)) {z : Value} (hz : (zeroValue e).run P w = .ok z w) {zd : Dt} {zp : List MemPlace} (hzd : R z = some (zd, zp))
    {key : Value} {kl : Lit} (hkey : keyOf P k key = some kl) : ∃ v ps, (Instr.lookup t (.map (some b)) key false).run P w = .ok v w ∧ R v = some ((F kl).getD zd, ps) := by
  obtain ⟨D, ho, hc, hh, ha⟩ := h
  obtain ⟨v, ps, hr, hv⟩ := ho.lookup K ht hz hzd hkey
  refine ⟨v, ps, hr, ?_⟩
  rw [hv]
  cases hF : F kl with
  | some d => rw [ha kl d zd hF]; rfl
  | none => rw [Maps.atKey_of_not_has (by rw [hh, hF]; rfl)]; rfl

theorem MapF.len (h : MapF w P k R b F c) (ht : P.underlying t = some (.map k e)) (ty : TypeId) : (Builtin.len_ #[t] ty #[.map (some b)]).run P w = .ok (.int .i64 c) w := by
  obtain ⟨D, ho, hc, _⟩ := h
  rw [ho.len ht ty, hc]

theorem MapF.store (h : MapF w P k R b F c) (K : Keyed P k) (ht : P.underlying t = some (.map k e)) (hn : c < maxLen) {key val : Value} {kl : Lit} {d : Dt} {ps : List MemPlace}
    (hkey : keyOf P k key = some kl) (hv : R val = some (d, ps)) : ∃ w', (Instr.mapUpdate t (.map (some b)) key val).run P w = .ok () w' ∧ MapF w' P k R b (updF F kl d) (if (F kl).isSome then c else c + 1) ∧ w.mapTurned w' b := by
  obtain ⟨D, ho, hc, hh, ha⟩ := h
  have hkl := K.key hkey
  have hD := ho.isMap
  obtain ⟨w1, hr, ho1, ht1⟩ := ho.store K ht hn hkey hv
  refine ⟨w1, hr, ⟨D.put kl d, ?_, ?_, ?_, ?_⟩, ht1⟩
  · have := own_tight ho1
    rw [Maps.size_put (ho.tidy K), hh, hc] at this
    exact this
  · rw [Maps.size_put (ho.tidy K), hh, hc]
  · intro l
    unfold updF
    by_cases hl : l.sameKey kl = true
    · have := WideAt.sameKey_eq hl
      subst this
      rw [if_pos hl, Maps.has_put_same hD hkl]
      rfl
    · have hne : l ≠ kl := fun e => hl (by rw [e]; exact WideAt.sameKey_self hkl)
      rw [if_neg hl, Maps.has_put_other hne, hh]
  · intro l d' z h'
    unfold updF at h'
    by_cases hl : l.sameKey kl = true
    · have := WideAt.sameKey_eq hl
      subst this
      rw [if_pos hl] at h'
      cases h'
      exact Maps.atKey_put_same hD hkl d z
    · have hne : l ≠ kl := fun e => hl (by rw [e]; exact WideAt.sameKey_self hkl)
      rw [if_neg hl] at h'
      rw [Maps.atKey_put_other hne]
      exact ha l d' z h'

theorem MapF.drop (h : MapF w P k R b F c) (K : Keyed P k) (ht : P.underlying t = some (.map k e)) {key : Value} {kl : Lit} (hkey : keyOf P k key = some kl) (ty : TypeId) :
    ∃ w', (Builtin.delete_ #[t, k] ty #[.map (some b), key]).run P w = .ok (.tuple #[]) w' ∧ MapF w' P k R b (delF F kl) (if (F kl).isSome then c - 1 else c) ∧ w.mapTurned w' b := by
  obtain ⟨D, ho, hc, hh, ha⟩ := h
  have hkl := K.key hkey
  obtain ⟨w1, hr, ho1, ht1⟩ := ho.drop K ht hkey ty
  have hsz := Maps.size_del (k := kl) (ho.tidy K)
  rw [hh, hc] at hsz
  have hsz' : Maps.size (D.del kl) = if (F kl).isSome then c - 1 else c := by
    split
    · rename_i hs; rw [if_pos hs] at hsz; omega
    · rename_i hs; rw [if_neg hs] at hsz; omega
  refine ⟨w1, hr, ⟨D.del kl, ?_, hsz', ?_, ?_⟩, ht1⟩
  · have := own_tight ho1
    rw [hsz'] at this
    exact this
  · intro l
    unfold delF
    by_cases hl : l.sameKey kl = true
    · have := WideAt.sameKey_eq hl
      subst this
      rw [if_pos hl, Maps.has_del_same]
      rfl
    · have hne : l ≠ kl := fun e => hl (by rw [e]; exact WideAt.sameKey_self hkl)
      rw [if_neg hl, Maps.has_del_other hne, hh]
  · intro l d' z h'
    unfold delF at h'
    by_cases hl : l.sameKey kl = true
    · rw [if_pos hl] at h'; cases h'
    · have hne : l ≠ kl := fun e => hl (by rw [e]; exact WideAt.sameKey_self hkl)
      rw [if_neg hl] at h'
      rw [Maps.atKey_del_other hne]
      exact ha l d' z h'
end
theorem turned_kept {w w' : World} {b : Nat} (h : w.mapTurned w' b) : Kept (OneB b) w w' := by
  have hg := h.grown
  exact ⟨hg.os, hg.tape, hg.output, hg.size, fun i hi hs => hg.block i hi (fun e => hs (by cases e; rfl))⟩
theorem turned_size {w w' : World} {b : Nat} (h : w.mapTurned w' b) : w'.heap.size = w.heap.size := by
  obtain ⟨es, clock, es', clock', hb, rfl⟩ := h
  simp [ChangeMaps.setBlock]
end Go.Proofs.YtjjgadanobeamaaGreatDoor

namespace Go.Proofs.YtjjgadanobeamaaGreatDoor
set_option linter.unusedVariables false
set_option linter.unusedSimpArgs false

abbrev Fp := Int × List UInt8
def endP (p : Fp) : Int := p.1 + p.2.length
structure OkD (l : List Fp) : Prop where
  each : ∀ p ∈ l, 0 ≤ p.1 ∧ p.2 ≠ [] ∧ endP p ≤ 1099511627776
  apart : l.Pairwise (fun p q => endP p < q.1)
def HasB (l : List Fp) (x : Int) (c : UInt8) : Prop := ∃ p ∈ l, p.1 ≤ x ∧ p.2[(x - p.1).toNat]? = some c

theorem OkD.nil : OkD [] := ⟨by simp, List.Pairwise.nil⟩
theorem HasB.lt {p : Fp} {x : Int} {c : UInt8} (h1 : p.1 ≤ x) (h : p.2[(x - p.1).toNat]? = some c) : x < endP p := by
  have := (List.getElem?_eq_some_iff.1 h).1
  unfold endP; omega
theorem hasB_append (a b : List Fp) (x : Int) (c : UInt8) : HasB (a ++ b) x c ↔ HasB a x c ∨ HasB b x c := by
  unfold HasB
  simp only [List.mem_append]
  constructor
  · rintro ⟨p, h | h, h2⟩
    · exact .inl ⟨p, h, h2⟩
    · exact .inr ⟨p, h, h2⟩
  · rintro (⟨p, h, h2⟩ | ⟨p, h, h2⟩)
    · exact ⟨p, .inl h, h2⟩
    · exact ⟨p, .inr h, h2⟩
theorem hasB_one (p : Fp) (x : Int) (c : UInt8) : HasB [p] x c ↔ p.1 ≤ x ∧ p.2[(x - p.1).toNat]? = some c := by simp [HasB]

def joinP (m : List Fp) (k : Int) (b : List UInt8) : Fp :=
  match m.head?, m.getLast? with
  | some f, some z => (min f.1 k, f.2.take (k - f.1).toNat ++ b ++ z.2.drop (k + b.length - z.1).toNat)
  | _, _ => (k, b)
def aheadP (l : List Fp) (k : Int) : List Fp := l.takeWhile (fun p => decide (endP p < k))
def touchP (l : List Fp) (k s : Int) : List Fp := (l.dropWhile (fun p => decide (endP p < k))).takeWhile (fun p => decide (p.1 ≤ s))
def behindP (l : List Fp) (k s : Int) : List Fp := (l.dropWhile (fun p => decide (endP p < k))).dropWhile (fun p => decide (p.1 ≤ s))
def putP (l : List Fp) (k : Int) (b : List UInt8) : List Fp := aheadP l k ++ joinP (touchP l k (k + b.length)) k b :: behindP l k (k + b.length)

theorem split3 (l : List Fp) (k s : Int) : l = aheadP l k ++ (touchP l k s ++ behindP l k s) := by
  unfold aheadP touchP behindP
  rw [List.takeWhile_append_dropWhile, List.takeWhile_append_dropWhile]
theorem mem_tw {α : Type} {q : α → Bool} : ∀ {l : List α} {x : α}, x ∈ l.takeWhile q → q x = true
  | [], x, h => by simp at h
  | y :: l, x, h => by
    rw [List.takeWhile_cons] at h
    split at h
    · rename_i hq
      rcases List.mem_cons.1 h with rfl | h
      · exact hq
      · exact mem_tw h
    · cases h
theorem ahead_end {l : List Fp} {k : Int} : ∀ p ∈ aheadP l k, endP p < k := fun p hp => by
  have := mem_tw hp
  simpa using this
theorem drop_first {α : Type} {q : α → Bool} : ∀ {l : List α} {x : α} {t : List α}, l.dropWhile q = x :: t → q x = false
  | [], _, _, h => by simp at h
  | y :: l, x, t, h => by
    rw [List.dropWhile_cons] at h
    split at h
    · exact drop_first h
    · rename_i hq; cases h; simpa using hq
theorem drop_end {l : List Fp} (h : OkD l) (k : Int) : ∀ p ∈ l.dropWhile (fun p => decide (endP p < k)), k ≤ endP p := by
  intro p hp
  cases hd : l.dropWhile (fun p => decide (endP p < k)) with
  | nil => rw [hd] at hp; cases hp
  | cons f t =>
    have hf := drop_first hd
    simp at hf
    have hap : (f :: t).Pairwise (fun p q => endP p < q.1) := by rw [← hd]; exact h.apart.sublist (List.dropWhile_sublist _)
    rw [hd] at hp
    rcases List.mem_cons.1 hp with rfl | hp'
    · exact hf
    · have h1 := (List.pairwise_cons.1 hap).1 p hp'
      have h2 : p ∈ l := (List.dropWhile_sublist _).subset (by rw [hd]; exact List.mem_cons_of_mem _ hp')
      have := (h.each p h2)
      unfold endP at *; omega
theorem touch_end {l : List Fp} (h : OkD l) (k s : Int) : ∀ p ∈ touchP l k s, k ≤ endP p ∧ p.1 ≤ s := by
  intro p hp
  unfold touchP at hp
  have h1 := mem_tw hp
  exact ⟨drop_end h k p (List.IsPrefix.subset (List.takeWhile_prefix _) hp), by simpa using h1⟩
theorem behind_at {l : List Fp} (h : OkD l) (k s : Int) : ∀ p ∈ behindP l k s, s < p.1 := by
  intro p hp
  unfold behindP at hp
  cases hd : (l.dropWhile (fun p => decide (endP p < k))).dropWhile (fun p => decide (p.1 ≤ s)) with
  | nil => rw [hd] at hp; cases hp
  | cons f t =>
    have hf := drop_first hd
    simp at hf
    have hap : (f :: t).Pairwise (fun p q => endP p < q.1) := by rw [← hd]; exact (h.apart.sublist (List.dropWhile_sublist _)).sublist (List.dropWhile_sublist _)
    rw [hd] at hp
    rcases List.mem_cons.1 hp with rfl | hp'
    · exact hf
    · have h1 := (List.pairwise_cons.1 hap).1 p hp'
      have h2 : f ∈ l := (List.dropWhile_sublist _).subset ((List.dropWhile_sublist _).subset (by rw [hd]; exact List.mem_cons_self))
      have := (h.each f h2)
      unfold endP at *; omega
theorem join_some {m : List Fp} (hm : m ≠ []) (k : Int) (b : List UInt8) : ∃ f z r y, m = f :: r ∧ m = y ++ [z] ∧ joinP m k b = (min f.1 k, f.2.take (k - f.1).toNat ++ b ++ z.2.drop (k + b.length - z.1).toNat) := by
  cases m with
  | nil => exact absurd rfl hm
  | cons f r =>
    refine ⟨f, (f :: r).getLast (by simp), r, (f :: r).dropLast, rfl, (List.dropLast_concat_getLast (by simp)).symm, ?_⟩
    unfold joinP
    rw [List.head?_cons, List.getLast?_eq_some_getLast (by simp)]
theorem join_none (k : Int) (b : List UInt8) : joinP [] k b = (k, b) := rfl
theorem join_ends {l : List Fp} (h : OkD l) {m : List Fp} (hml : m.Sublist l) (k : Int) (b : List UInt8) (hk : 0 ≤ k) (hb : b ≠ []) (ht : ∀ p ∈ m, k ≤ endP p ∧ p.1 ≤ k + b.length) (hmost : k + b.length ≤ 1099511627776) :
    0 ≤ (joinP m k b).1 ∧ (joinP m k b).1 ≤ k ∧ (joinP m k b).2 ≠ [] ∧ endP (joinP m k b) ≤ 1099511627776 ∧ (m = [] → joinP m k b = (k, b)) ∧
    (∀ f r, m = f :: r → (joinP m k b).1 = min f.1 k) ∧ (m = [] → endP (joinP m k b) = k + b.length) ∧ (∀ z y, m = y ++ [z] → endP (joinP m k b) = max (endP z) (k + b.length)) := by
  by_cases hm : m = []
  · subst hm
    rw [join_none]
    refine ⟨hk, by simp, hb, by simpa [endP] using hmost, fun _ => rfl, (fun f r e => by cases e), (fun _ => rfl), (fun z y e => by simp at e)⟩
  · obtain ⟨f, z, r, y, e1, e2, e3⟩ := join_some hm k b
    have hfm : f ∈ m := by rw [e1]; exact List.mem_cons_self
    have hzm : z ∈ m := by rw [e2]; simp
    have hf := h.each f (hml.subset hfm)
    have hz := h.each z (hml.subset hzm)
    have tf := ht f hfm
    have tz := ht z hzm
    have hl : ((f.2.take (k - f.1).toNat).length : Int) = k - min f.1 k := by
      rw [List.length_take]; unfold endP at tf; omega
    have hz2 : ((z.2.drop (k + b.length - z.1).toNat).length : Int) = max (endP z) (k + b.length) - (k + b.length) := by
      rw [List.length_drop]; unfold endP at *; omega
    have hend : endP (joinP m k b) = max (endP z) (k + b.length) := by
      rw [e3]; unfold endP; simp only [List.length_append]; push_cast; unfold endP at hz2; omega
    rw [hend]
    rw [e3]
    refine ⟨by simp only; omega, by simp only; omega, by simp [hb], by have := hz.2.2; omega, fun e => absurd e hm, ?_, fun e => absurd e hm, ?_⟩
    · intro f' r' e
      rw [e1] at e; cases e; rfl
    · intro z' y' e
      rw [e2] at e
      have := List.append_inj_right' e rfl
      cases this; rfl
theorem pair_sub {l m : List Fp} (h : OkD l) (hs : m.Sublist l) : m.Pairwise (fun p q => endP p < q.1) := h.apart.sublist hs
theorem put_ok {l : List Fp} (h : OkD l) (k : Int) (b : List UInt8) (hk : 0 ≤ k) (hb : b ≠ []) (hmost : k + b.length ≤ 1099511627776) : OkD (putP l k b) := by
  have hs := split3 l k (k + b.length)
  have hta := touch_end h k (k + b.length)
  have hba := behind_at h k (k + b.length)
  have haa := @ahead_end l k
  unfold putP
  generalize aheadP l k = A at *
  generalize touchP l k (k + b.length) = M at *
  generalize behindP l k (k + b.length) = Z at *
  have hAl : A.Sublist l := by rw [hs]; exact List.sublist_append_left _ _
  have hMl : M.Sublist l := by rw [hs]; exact (List.sublist_append_left _ _).trans (List.sublist_append_right _ _)
  have hZl : Z.Sublist l := by rw [hs]; exact (List.sublist_append_right _ _).trans (List.sublist_append_right _ _)
  obtain ⟨j1, j2, j3, j4, j5, j6, j7, j8⟩ := join_ends h hMl k b hk hb hta hmost
  have hap := h.apart
  rw [hs, List.pairwise_append, List.pairwise_append] at hap
  obtain ⟨a1, ⟨a2, a3, a4⟩, a5⟩ := hap
  constructor
  · intro p hp
    rcases List.mem_append.1 hp with hp | hp
    · exact h.each p (hAl.subset hp)
    · rcases List.mem_cons.1 hp with rfl | hp
      · exact ⟨j1, j3, j4⟩
      · exact h.each p (hZl.subset hp)
  · rw [List.pairwise_append, List.pairwise_cons]
    refine ⟨a1, ⟨?_, a3⟩, ?_⟩
    · intro q hq
      have hq1 := hba q hq
      by_cases hM : M = []
      · rw [j7 hM]; exact hq1
      · obtain ⟨f, z, r, y, e1, e2, e3⟩ := join_some hM k b
        rw [j8 z y e2]
        have := a4 z (by rw [e2]; simp) q hq
        omega
    · intro p hp q hq
      rcases List.mem_cons.1 hq with rfl | hq
      · have hp1 := haa p hp
        by_cases hM : M = []
        · rw [j5 hM]; exact hp1
        · obtain ⟨f, z, r, y, e1, e2, e3⟩ := join_some hM k b
          rw [j6 f r e1]
          have := a5 p hp f (by rw [e1]; simp)
          omega
      · exact a5 p hp q (List.mem_append.2 (.inr hq))
end Go.Proofs.YtjjgadanobeamaaGreatDoor

namespace Go.Proofs.YtjjgadanobeamaaGreatDoor
set_option linter.unusedVariables false
set_option linter.unusedSimpArgs false

theorem join_has {l : List Fp} (h : OkD l) {m : List Fp} (hml : m.Sublist l) (k : Int) (b : List UInt8) (hk : 0 ≤ k) (ht : ∀ p ∈ m, k ≤ endP p ∧ p.1 ≤ k + b.length) (x : Int) (c : UInt8) :
    ((joinP m k b).1 ≤ x ∧ (joinP m k b).2[(x - (joinP m k b).1).toNat]? = some c) ↔ (k ≤ x ∧ b[(x - k).toNat]? = some c) ∨ ((x < k ∨ k + b.length ≤ x) ∧ HasB m x c) := by
  by_cases hm : m = []
  · subst hm
    rw [join_none]
    constructor
    · intro h'; exact .inl h'
    · rintro (h' | ⟨_, p, hp, _⟩)
      · exact h'
      · cases hp
  · obtain ⟨f, z, r, y, e1, e2, e3⟩ := join_some hm k b
    have hfm : f ∈ m := by rw [e1]; exact List.mem_cons_self
    have hzm : z ∈ m := by rw [e2]; simp
    have hf := h.each f (hml.subset hfm)
    have hz := h.each z (hml.subset hzm)
    have tf := ht f hfm
    have tz := ht z hzm
    have hap := pair_sub h hml
    have hl : (f.2.take (k - f.1).toNat).length = (k - min f.1 k).toNat := by
      rw [List.length_take]; unfold endP at tf; omega
    rw [e3]
    simp only
    -- what lies ahead of k is the first one's, what lies behind is the last one's
    have hahead : ∀ p ∈ m, x < k → p.1 ≤ x → p.2[(x - p.1).toNat]? = some c → p = f := by
      intro p hp hx h1 h2
      rw [e1] at hp hap
      rcases List.mem_cons.1 hp with rfl | hp
      · rfl
      · have := (List.pairwise_cons.1 hap).1 p hp
        omega
    have hbehind : ∀ p ∈ m, k + b.length ≤ x → p.1 ≤ x → p.2[(x - p.1).toNat]? = some c → p = z := by
      intro p hp hx h1 h2
      have hlt := HasB.lt h1 h2
      rw [e2] at hp hap
      rcases List.mem_append.1 hp with hp | hp
      · have := (List.pairwise_append.1 hap).2.2 p hp z (by simp)
        omega
      · simpa using hp
    by_cases hx1 : x < k
    · constructor
      · rintro ⟨g1, g2⟩
        right
        refine ⟨.inl hx1, f, hfm, by omega, ?_⟩
        rw [List.append_assoc, List.getElem?_append_left (by rw [hl]; omega)] at g2
        rw [List.getElem?_take] at g2
        split at g2
        · rw [← g2]; congr 1; omega
        · cases g2
      · rintro (⟨g1, _⟩ | ⟨_, p, hp, g1, g2⟩)
        · omega
        · have := hahead p hp hx1 g1 g2
          subst this
          refine ⟨by omega, ?_⟩
          rw [List.append_assoc, List.getElem?_append_left (by rw [hl]; omega), List.getElem?_take, if_pos (by omega), ← g2]
          congr 1; omega
    · by_cases hx2 : x < k + b.length
      · constructor
        · rintro ⟨g1, g2⟩
          left
          refine ⟨by omega, ?_⟩
          rw [List.append_assoc, List.getElem?_append_right (by rw [hl]; omega), List.getElem?_append_left (by rw [hl]; omega), hl] at g2
          rw [← g2]; congr 1; omega
        · rintro (⟨g1, g2⟩ | ⟨h', _⟩)
          · refine ⟨by omega, ?_⟩
            rw [List.append_assoc, List.getElem?_append_right (by rw [hl]; omega), List.getElem?_append_left (by rw [hl]; omega), hl, ← g2]
            congr 1; omega
          · omega
      · constructor
        · rintro ⟨g1, g2⟩
          right
          refine ⟨.inr (by omega), z, hzm, by omega, ?_⟩
          rw [List.append_assoc, List.getElem?_append_right (by rw [hl]; omega), List.getElem?_append_right (by rw [hl]; omega), hl, List.getElem?_drop] at g2
          rw [← g2]; congr 1; omega
        · rintro (⟨g1, g2⟩ | ⟨_, p, hp, g1, g2⟩)
          · have := (List.getElem?_eq_some_iff.1 g2).1; omega
          · have := hbehind p hp (by omega) g1 g2
            subst this
            refine ⟨by omega, ?_⟩
            rw [List.append_assoc, List.getElem?_append_right (by rw [hl]; omega), List.getElem?_append_right (by rw [hl]; omega), hl, List.getElem?_drop, ← g2]
            congr 1; omega
theorem put_has {l : List Fp} (h : OkD l) (k : Int) (b : List UInt8) (hk : 0 ≤ k) (hb : b ≠ []) (x : Int) (c : UInt8) :
    HasB (putP l k b) x c ↔ (k ≤ x ∧ b[(x - k).toNat]? = some c) ∨ ((x < k ∨ k + b.length ≤ x) ∧ HasB l x c) := by
  have hs := split3 l k (k + b.length)
  have hta := touch_end h k (k + b.length)
  have hba := behind_at h k (k + b.length)
  have haa := @ahead_end l k
  have hbl : 0 < b.length := List.length_pos_iff.2 hb
  unfold putP
  generalize aheadP l k = A at *
  generalize touchP l k (k + b.length) = M at *
  generalize behindP l k (k + b.length) = Z at *
  have hMl : M.Sublist l := by rw [hs]; exact (List.sublist_append_left _ _).trans (List.sublist_append_right _ _)
  have hj := join_has h hMl k b hk hta x c
  have e : A ++ joinP M k b :: Z = A ++ ([joinP M k b] ++ Z) := rfl
  rw [e, hasB_append, hasB_append, hasB_one, hj]
  conv => rhs; rw [hs, hasB_append, hasB_append]
  have hA : HasB A x c → x < k := by
    rintro ⟨p, hp, g1, g2⟩
    have := haa p hp
    have := HasB.lt g1 g2
    omega
  have hZ : HasB Z x c → k + b.length ≤ x := by
    rintro ⟨p, hp, g1, g2⟩
    have := hba p hp
    omega
  constructor
  · rintro (h' | (h' | ⟨h1, h2⟩) | h')
    · exact .inr ⟨.inl (hA h'), .inl h'⟩
    · exact .inl h'
    · exact .inr ⟨h1, .inr (.inl h2)⟩
    · exact .inr ⟨.inr (hZ h'), .inr (.inr h')⟩
  · rintro (h' | ⟨h1, h2 | h2 | h2⟩)
    · exact .inr (.inl (.inl h'))
    · exact .inl h2
    · exact .inr (.inl (.inr ⟨h1, h2⟩))
    · exact .inr (.inr h2)

def cutP (l : List Fp) (s : Int) : List Fp :=
  l.takeWhile (fun p => decide (endP p ≤ s)) ++
    match (l.dropWhile (fun p => decide (endP p ≤ s))) with
    | p :: _ => if p.1 < s then [(p.1, p.2.take (s - p.1).toNat)] else []
    | [] => []
def sizeD (l : List Fp) : Nat := (l.map fun p => p.2.length).sum
theorem sizeD_append (a b : List Fp) : sizeD (a ++ b) = sizeD a + sizeD b := by simp [sizeD]
theorem sizeD_cons (p : Fp) (l : List Fp) : sizeD (p :: l) = p.2.length + sizeD l := by simp [sizeD]

theorem cut_ok {l : List Fp} (h : OkD l) (s : Int) (hs : 0 ≤ s) : OkD (cutP l s) := by
  have e : l = l.takeWhile (fun p => decide (endP p ≤ s)) ++ l.dropWhile (fun p => decide (endP p ≤ s)) := (List.takeWhile_append_dropWhile).symm
  unfold cutP
  generalize l.takeWhile (fun p => decide (endP p ≤ s)) = A at *
  cases hd : l.dropWhile (fun p => decide (endP p ≤ s)) with
  | nil =>
    simp only [List.append_nil]
    have hA : A.Sublist l := by rw [e]; exact List.sublist_append_left _ _
    exact ⟨fun p hp => h.each p (hA.subset hp), h.apart.sublist hA⟩
  | cons p t =>
    rw [hd] at e
    have hA : A.Sublist l := by rw [e]; exact List.sublist_append_left _ _
    have hpl : p ∈ l := by rw [e]; simp
    have hp := h.each p hpl
    have hf := drop_first hd
    simp at hf
    simp only
    split
    · rename_i hlt
      constructor
      · intro q hq
        rcases List.mem_append.1 hq with hq | hq
        · exact h.each q (hA.subset hq)
        · simp at hq; subst hq
          refine ⟨hp.1, ?_, ?_⟩
          · intro e'
            have := congrArg List.length e'
            simp at this
            rcases this with h' | h'
            · omega
            · exact hp.2.1 h'
          · have := hp.2.2; unfold endP at *; simp only [List.length_take]; omega
      · rw [List.pairwise_append]
        refine ⟨h.apart.sublist hA, List.pairwise_singleton _ _, ?_⟩
        intro q hq r hr
        simp at hr; subst hr
        have hap := h.apart
        rw [e, List.pairwise_append] at hap
        exact hap.2.2 q hq p (by simp)
    · simp only [List.append_nil]
      exact ⟨fun p hp => h.each p (hA.subset hp), h.apart.sublist hA⟩
def fitB (is : Int → Bool) : Nat → Int → Nat → Nat × Nat
  | 0, _, _ => (0, 0)
  | s + 1, k, room => if is k then ((fitB is s (k + 1) room).1 + 1, (fitB is s (k + 1) room).2) else match room with
    | 0 => (0, 0)
    | r + 1 => ((fitB is s (k + 1) r).1 + 1, (fitB is s (k + 1) r).2 + 1)
theorem fitB_le (is : Int → Bool) : ∀ (s : Nat) (k : Int) (room : Nat), (fitB is s k room).1 ≤ s ∧ (fitB is s k room).2 ≤ room ∧ (fitB is s k room).2 ≤ (fitB is s k room).1
  | 0, k, room => by simp [fitB]
  | s + 1, k, room => by
    unfold fitB
    split
    · have := fitB_le is s (k + 1) room
      simp only; omega
    · cases room with
      | zero => simp
      | succ r =>
        have := fitB_le is s (k + 1) r
        simp only; omega
theorem fitB_in (is : Int → Bool) : ∀ (g s : Nat) (k : Int) (room : Nat), g ≤ s → (∀ i : Nat, i < g → is (k + i) = true) → fitB is s k room = ((fitB is (s - g) (k + g) room).1 + g, (fitB is (s - g) (k + g) room).2)
  | 0, s, k, room, _, _ => by simp
  | g + 1, s, k, room, hg, h => by
    obtain ⟨s', rfl⟩ : ∃ s', s = s' + 1 := ⟨s - 1, by omega⟩
    have h0 := h 0 (by omega)
    simp at h0
    conv => lhs; unfold fitB
    rw [if_pos h0, fitB_in is g s' (k + 1) room (by omega) (fun i hi => by have := h (i + 1) (by omega); rw [← this]; congr 1; push_cast; omega)]
    have e1 : s' + 1 - (g + 1) = s' - g := by omega
    have e2 : k + ((g + 1 : Nat) : Int) = k + 1 + (g : Int) := by push_cast; omega
    rw [e1, e2]
    rfl
theorem fitB_gap (is : Int → Bool) : ∀ (g s : Nat) (k : Int) (room : Nat), g ≤ s → g ≤ room → (∀ i : Nat, i < g → is (k + i) = false) → fitB is s k room = ((fitB is (s - g) (k + g) (room - g)).1 + g, (fitB is (s - g) (k + g) (room - g)).2 + g)
  | 0, s, k, room, _, _, _ => by simp
  | g + 1, s, k, room, hg, hr, h => by
    obtain ⟨s', rfl⟩ : ∃ s', s = s' + 1 := ⟨s - 1, by omega⟩
    obtain ⟨r', rfl⟩ : ∃ r', room = r' + 1 := ⟨room - 1, by omega⟩
    have h0 := h 0 (by omega)
    simp at h0
    conv => lhs; unfold fitB
    rw [if_neg (by simp [h0])]
    simp only
    rw [fitB_gap is g s' (k + 1) r' (by omega) (by omega) (fun i hi => by have := h (i + 1) (by omega); rw [← this]; congr 1; push_cast; omega)]
    have e1 : s' + 1 - (g + 1) = s' - g := by omega
    have e2 : k + ((g + 1 : Nat) : Int) = k + 1 + (g : Int) := by push_cast; omega
    have e3 : r' + 1 - (g + 1) = r' - g := by omega
    rw [e1, e2, e3]
    rfl
theorem fitB_full (is : Int → Bool) (g s : Nat) (k : Int) (room : Nat) (hg : g ≤ s) (hr : room < g) (h : ∀ i : Nat, i < g → is (k + i) = false) : fitB is s k room = (room, room) := by
  rw [fitB_gap is room s k room (by omega) (Nat.le_refl _) (fun i hi => h i (by omega))]
  obtain ⟨s', e⟩ : ∃ s', s - room = s' + 1 := ⟨s - room - 1, by omega⟩
  rw [e, Nat.sub_self]
  unfold fitB
  rw [if_neg (by rw [h room hr]; simp)]
  simp
end Go.Proofs.YtjjgadanobeamaaGreatDoor

namespace Go.Proofs.YtjjgadanobeamaaGreatDoor

def AllB (bs : List Int) : Prop := ∀ b ∈ bs, 0 ≤ b ∧ b < 256

theorem AllB.take {bs : List Int} (h : AllB bs) (n : Nat) : AllB (bs.take n) := fun b hb => h b (List.mem_of_mem_take hb)
theorem AllB.drop {bs : List Int} (h : AllB bs) (n : Nat) : AllB (bs.drop n) := fun b hb => h b (List.mem_of_mem_drop hb)
theorem AllB.getD {bs : List Int} (h : AllB bs) (i : Nat) : 0 ≤ bs.getD i 0 ∧ bs.getD i 0 < 256 := by
  by_cases hi : i < bs.length
  · have : bs.getD i 0 = bs[i] := by simp [List.getD, hi]
    rw [this]; exact h _ (List.getElem_mem hi)
  · have : bs.getD i 0 = 0 := by simp [List.getD, List.getElem?_eq_none (Nat.le_of_not_lt hi)]
    omega
theorem pow_le_pow2 {a b : Nat} (h : a ≤ b) : 2 ^ a ≤ 2 ^ b := Nat.pow_le_pow_right (by decide) h

end Go.Proofs.YtjjgadanobeamaaGreatDoor
