/-
  Maps of the call's own, told by what each key leads to.
  A tree of files on paper: a name that is moved keeps what always holds.
  A tree of files in memory: its nodes, their names, what was written of them; the blocks of each bear a mark of their own.
  A tree of files in memory: what lies where; what reads it.
  sort.Search: the first place at which a predicate that stays true is true.
  What was written of a file, in memory: where a piece ends; how many pieces end no later.
-/
import Derived.Test.YtgbakogihkdddaaGreatDoorMx3
import Derived.Maps.OwnSet
import Derived.Maps.OwnOps
import Derived.Maps.RangeWalk
import Derived.OwnWalk
import Derived.Deep.MidRow
import Derived.Laws.Rows
import Derived.Laws.Tables
import Derived.Deep.RegionHeld3
namespace Go.Proofs.YtgbakogihkdddaaGreatDoor
open Go.RowKit
open Go.Maps (Keyed)
open Go.WideElems (Fit rd rg pl rd_val elemAt)
set_option linter.unusedVariables false
set_option linter.unusedSimpArgs false

abbrev Dt := DataW Unit
abbrev Rdr := Value → Option (Dt × List MemPlace)

/-- Block b is a map of c entries; each key leads to what F says. -/
def MapF (w : World) (P : Program) (k : TypeId) (R : Rdr) (b : Nat) (F : Lit → Option Dt) (c : Nat) : Prop :=
  ∃ D, w.ownsMap P k R b c D ∧ Maps.size D = c ∧ (∀ l, Maps.has D l = (F l).isSome) ∧ ∀ l d z, F l = some d → D.atKey l z = d

/-- F but for one key. -/
def updF (F : Lit → Option Dt) (kl : Lit) (d : Dt) : Lit → Option Dt := fun l => if l.sameKey kl then some d else F l
def delF (F : Lit → Option Dt) (kl : Lit) : Lit → Option Dt := fun l => if l.sameKey kl then none else F l

theorem own_tight {w : World} {P : Program} {k : TypeId} {R : Rdr} {b n : Nat} {D : Dt} (h : w.ownsMap P k R b n D) : w.ownsMap P k R b (Maps.size D) D := by
  obtain ⟨es, clock, hb, F, hs, rfl⟩ := h
  exact ⟨es, clock, hb, F, by simp [Maps.size, length_sorted], rfl⟩

section
variable {w w' : World} {P : Program} {k t e : TypeId} {R : Rdr} {b c : Nat} {F : Lit → Option Dt}

theorem MapF.made (w : World) (P : Program) (k : TypeId) (R : Rdr) : MapF (w.alloc (.map #[] 0)) P k R w.heap.size (fun _ => none) 0 :=
  ⟨.map [], World.ownsMap_made w P k R, rfl, fun l => rfl, fun l d z h => by cases h⟩
theorem MapF.lt (h : MapF w P k R b F c) : b < w.heap.size := by obtain ⟨D, ho, _⟩ := h; exact ho.lt
theorem MapF.heap (h : MapF w P k R b F c) (hb : w'.heap[b]? = w.heap[b]?) : MapF w' P k R b F c := by
  obtain ⟨D, ⟨es, clock, h1, h2⟩, h3⟩ := h
  exact ⟨D, ⟨es, clock, hb.trans h1, h2⟩, h3⟩
theorem MapF.kept {S : Nat → Prop} (h : MapF w P k R b F c) (hk : Kept S w w') (hs : ¬ S b) : MapF w' P k R b F c := h.heap (hk.block b h.lt hs)
theorem MapF.ne_cells (h : MapF w P k R b F c) {R' : Nat} {cs : Array Value} {ty : TypeId} {fr : Nat × Nat} (ho : w.heap[R']? = some (.cells cs ty fr)) : b ≠ R' := by
  obtain ⟨D, ⟨es, clock, h1, h2⟩, h3⟩ := h
  intro e
  rw [← e, h1] at ho
  cases ho

theorem MapF.look_ok (h : MapF w P k R b F c) (K : Keyed P k) (ht : P.underlying t = some (.map k e)) {z : Value} (hz : (zeroValue e).run P w = .ok z w) {zd : Dt} {zp : List MemPlace} (hzd : R z = some (zd, zp))
    {key : Value} {kl : Lit} (hkey : keyOf P k key = some kl) : ∃ v ps, (Instr.lookup t (.map (some b)) key true).run P w = .ok (.tuple #[v, .bool (F kl).isSome]) w ∧ R v = some ((F kl).getD zd, ps) := by
  obtain ⟨D, ho, hc, hh, ha⟩ := h
  obtain ⟨v, ps, hr, hv⟩ := ho.look_ok K ht hz hzd hkey
  refine ⟨v, ps, by rw [hr, hh], ?_⟩
  rw [hv]
  cases hF : F kl with
  | some d => rw [ha kl d zd hF]; rfl
  | none => rw [Maps.atKey_of_not_has (by rw [hh, hF]; rfl)]; rfl

theorem MapF.look (h : MapF w P k R b F c) (K : Keyed P k) (ht : P.underlying t = some (.map k e)) {z : Value} (hz : (zeroValue e).run P w = .ok z w) {zd : Dt} {zp : List MemPlace} (hzd : R z = some (zd, zp))
    {key : Value} {kl : Lit} (hkey : keyOf P k key = some kl) : ∃ v ps, (Instr.lookup t (.map (some b)) key false).run P w = .ok v w ∧ R v = some ((F kl).getD zd, ps) := by
  obtain ⟨D, ho, hc, hh, ha⟩ := h
  obtain ⟨v, ps, hr, hv⟩ := ho.lookup K ht hz hzd hkey
  refine ⟨v, ps, hr, ?_⟩
  rw [hv]
  cases hF : F kl with
  | some d => rw [ha kl d zd hF]; rfl
  | none => rw [Maps.atKey_of_not_has (by rw [hh, hF]; rfl)]; rfl

theorem MapF.len (h : MapF w P k R b F c) (ht : P.underlying t = some (.map k e)) (ty : TypeId) : (Builtin.len_ #[t] ty #[.map (some b)]).run P w = .ok (.int .i64 c) w := by
  obtain ⟨D, ho, hc, _⟩ := h
  rw [ho.len ht ty, hc]

theorem MapF.store (h : MapF w P k R b F c) (K : Keyed P k) (ht : P.underlying t = some (.map k e)) (hn : c < maxLen) {key val : Value} {kl : Lit} {d : Dt} {ps : List MemPlace}
    (hkey : keyOf P k key = some kl) (hv : R val = some (d, ps)) : ∃ w', (Instr.mapUpdate t (.map (some b)) key val).run P w = .ok () w' ∧ MapF w' P k R b (updF F kl d) (if (F kl).isSome then c else c + 1) ∧ w.mapTurned w' b := by
  obtain ⟨D, ho, hc, hh, ha⟩ := h
  have hkl := K.key hkey
  have hD := ho.isMap
  obtain ⟨w1, hr, ho1, ht1⟩ := ho.store K ht hn hkey hv
  refine ⟨w1, hr, ⟨D.put kl d, ?_, ?_, ?_, ?_⟩, ht1⟩
  · have := own_tight ho1
    rw [Maps.size_put (ho.tidy K), hh, hc] at this
    exact this
  · rw [Maps.size_put (ho.tidy K), hh, hc]
  · intro l
    unfold updF
    by_cases hl : l.sameKey kl = true
    · have := WideAt.sameKey_eq hl
      subst this
      rw [if_pos hl, Maps.has_put_same hD hkl]
      rfl
    · have hne : l ≠ kl := fun e => hl (by rw [e]; exact WideAt.sameKey_self hkl)
      rw [if_neg hl, Maps.has_put_other hne, hh]
  · intro l d' z h'
    unfold updF at h'
    by_cases hl : l.sameKey kl = true
    · have := WideAt.sameKey_eq hl
      subst this
      rw [if_pos hl] at h'
      cases h'
      exact Maps.atKey_put_same hD hkl d z
    · have hne : l ≠ kl := fun e => hl (by rw [e]; exact WideAt.sameKey_self hkl)
      rw [if_neg hl] at h'
      rw [Maps.atKey_put_other hne]
      exact ha l d' z h'

theorem MapF.drop (h : MapF w P k R b F c) (K : Keyed P k) (ht : P.underlying t = some (.map k e)) {key : Value} {kl : Lit} (hkey : keyOf P k key = some kl) (ty : TypeId) :
    ∃ w', (Builtin.delete_ #[t, k] ty #[.map (some b), key]).run P w = .ok (.tuple #[]) w' ∧ MapF w' P k R b (delF F kl) (if (F kl).isSome then c - 1 else c) ∧ w.mapTurned w' b := by
  obtain ⟨D, ho, hc, hh, ha⟩ := h
  have hkl := K.key hkey
  obtain ⟨w1, hr, ho1, ht1⟩ := ho.drop K ht hkey ty
  have hsz := Maps.size_del (k := kl) (ho.tidy K)
  rw [hh, hc] at hsz
  have hsz' : Maps.size (D.del kl) = if (F kl).isSome then c - 1 else c := by
    split
    · rename_i hs; rw [if_pos hs] at hsz; omega
    · rename_i hs; rw [if_neg hs] at hsz; omega
  refine ⟨w1, hr, ⟨D.del kl, ?_, hsz', ?_, ?_⟩, ht1⟩
  · have := own_tight ho1
    rw [hsz'] at this
    exact this
  · intro l
    unfold delF
    by_cases hl : l.sameKey kl = true
    · have := WideAt.sameKey_eq hl
      subst this
      rw [if_pos hl, Maps.has_del_same]
      rfl
    · have hne : l ≠ kl := fun e => hl (by rw [e]; exact WideAt.sameKey_self hkl)
      rw [if_neg hl, Maps.has_del_other hne, hh]
  · intro l d' z h'
    unfold delF at h'
    by_cases hl : l.sameKey kl = true
    · rw [if_pos hl] at h'; cases h'
    · have hne : l ≠ kl := fun e => hl (by rw [e]; exact WideAt.sameKey_self hkl)
      rw [if_neg hl] at h'
      rw [Maps.atKey_del_other hne]
      exact ha l d' z h'
end
theorem turned_kept {w w' : World} {b : Nat} (h : w.mapTurned w' b) : Kept (OneB b) w w' := by
  have hg := h.grown
  exact ⟨hg.os, hg.tape, hg.output, hg.size, fun i hi hs => hg.block i hi (fun e => hs (by cases e; rfl))⟩
theorem turned_size {w w' : World} {b : Nat} (h : w.mapTurned w' b) : w'.heap.size = w.heap.size := by
  obtain ⟨es, clock, es', clock', hb, rfl⟩ := h
  simp [ChangeMaps.setBlock]
end Go.Proofs.YtgbakogihkdddaaGreatDoor

namespace Go.Proofs.YtgbakogihkdddaaGreatDoor
set_option linter.unusedVariables false
set_option linter.unusedSimpArgs false

theorem moveT_ok {T : FsP} (h : OkT T) {dir dst ino : Int} {d e m : NdP} {part asn : List UInt8} (hd : T.nd dir = some d) (hk : d.v.kind = 6) (he : T.nd dst = some e) (hek : e.v.kind = 6) (hp : okN (strB asn) = true) (hg : getK d.names part = some ino) (ha : getK e.names asn = none)
    (hm : T.nd ino = some m) (hup : m.v.kind = 6 → ¬ Up T ino dst) (hclk : T.clock + 1 ≤ 9223372036854775807) : OkT (moveT T dir d part dst e asn ino m) := by
  have od := h.node dir d hd
  have oe := h.node dst e he
  have om := h.node ino m hm
  have hN := h.next
  have hC := h.clock
  have hmem := getK_mem hg
  have hi1 : ino ≠ 1 := (od.names _ hmem).2.1
  obtain ⟨r, hr⟩ := h.rank
  -- a child lies deeper
  have hdeep : ∀ x a, T.nd x = some a → ∀ y, (∃ k, (k, y) ∈ a.names) → ∀ b, T.nd y = some b → b.v.kind = 6 → r x < r y := by
    rintro x a hx y ⟨k, hky⟩ b hb hb6
    obtain ⟨_, h2, b', h3, h4⟩ := (h.node x a hx).names _ hky
    simp only at h2 h3
    rw [hb] at h3; cases h3
    have := hr y b hb hb6 h2
    rw [h4 hb6] at this
    exact this
  have hdn : dir ≠ ino := fun q => by
    subst q
    rw [hd] at hm; cases hm
    exact Nat.lt_irrefl _ (hdeep dir d hd dir ⟨part, hmem⟩ d hd hk)
  have htn : dst ≠ ino := fun q => by
    subst q
    rw [he] at hm; cases hm
    exact hup hek Up.self
  obtain ⟨c, hcd⟩ : ∃ c, c = T.clock + 1 := ⟨_, rfl⟩
  obtain ⟨d1, hd1⟩ : ∃ d1, d1 = named c d (delK d.names part) := ⟨_, rfl⟩
  obtain ⟨e1, he1⟩ : ∃ e1, e1 = (if dst = dir then named c d (putK (delK d.names part) asn ino) else named c e (putK e.names asn ino)) := ⟨_, rfl⟩
  obtain ⟨m1, hm1⟩ : ∃ m1, m1 = moved c dst m := ⟨_, rfl⟩
  obtain ⟨nd, hnd⟩ : ∃ nd, nd = updN (updN (updN T.nd dir (some d1)) dst (some e1)) ino (some m1) := ⟨_, rfl⟩
  have hT : moveT T dir d part dst e asn ino m = { T with clock := c, nd := nd } := by
    unfold moveT cutN; rw [hnd, hd1, he1, hm1, hcd]
  rw [hT]
  have nI : nd ino = some m1 := by rw [hnd, updN_same]
  have nT : nd dst = some e1 := by rw [hnd, updN_other _ _ htn, updN_same]
  have nD : dst ≠ dir → nd dir = some d1 := fun q => by rw [hnd, updN_other _ _ hdn, updN_other _ _ (fun q' => q q'.symm), updN_same]
  have nO : ∀ x, x ≠ ino → x ≠ dst → x ≠ dir → nd x = T.nd x := fun x q1 q2 q3 => by rw [hnd, updN_other _ _ q1, updN_other _ _ q2, updN_other _ _ q3]
  have hdelok := delK_ok od.sorted part
  have hasn : dst = dir → getK (delK d.names part) asn = none := fun q => by
    rw [getK_del od.sorted]
    subst q
    rw [hd] at he; cases he
    rw [ha]; split <;> rfl
  have ev : e1.v.kind = 6 ∧ e1.par = e.par ∧ e1.data = e.data ∧ OkK e1.names ∧ (∀ p, p ∈ e1.names ↔ p = (asn, ino) ∨ (p ∈ e.names ∧ (dst = dir → p.1 ≠ part))) := by
    rw [he1]
    split
    · rename_i q
      have q' := q
      subst q'
      rw [hd] at he; cases he
      refine ⟨hk, rfl, rfl, putK_ok hdelok asn ino (hasn q), fun p => ?_⟩
      show p ∈ putK (delK d.names part) asn ino ↔ _
      rw [putK_mem, delK_mem]
      simp
    · rename_i q
      refine ⟨hek, rfl, rfl, putK_ok oe.sorted asn ino ha, fun p => ?_⟩
      show p ∈ putK e.names asn ino ↔ _
      rw [putK_mem]
      simp [q]
  obtain ⟨ev1, ev2, ev3, ev4, ev5⟩ := ev
  have m1k : m1.v.kind = m.v.kind := by rw [hm1]; rfl
  have m1n : m1.names = m.names := by rw [hm1]; rfl
  -- each node goes on, with the same kind; its names but the one
  have hex : ∀ x a, T.nd x = some a → ∃ a', nd x = some a' ∧ a'.v.kind = a.v.kind ∧ a'.data = a.data ∧ (x ≠ ino → a'.par = a.par) ∧ (∀ k y, (k, y) ∈ a.names → ¬ (x = dir ∧ k = part) → (k, y) ∈ a'.names) := by
    intro x a hx
    by_cases q1 : x = ino
    · subst q1
      rw [hm] at hx; cases hx
      exact ⟨m1, nI, m1k, by rw [hm1]; rfl, fun q => absurd rfl q, fun k y hky _ => by rw [m1n]; exact hky⟩
    · by_cases q2 : x = dst
      · subst q2
        rw [he] at hx; cases hx
        exact ⟨e1, nT, by rw [ev1, hek], ev3, fun _ => ev2, fun k y hky hno => (ev5 _).2 (.inr ⟨hky, fun q q' => hno ⟨q, q'⟩⟩)⟩
      · by_cases q3 : x = dir
        · subst q3
          rw [hd] at hx; cases hx
          refine ⟨d1, nD (fun q => q2 q.symm), by rw [hd1]; rfl, by rw [hd1]; rfl, fun _ => by rw [hd1]; rfl, fun k y hky hno => ?_⟩
          rw [hd1]
          exact delK_mem.2 ⟨hky, fun q => hno ⟨rfl, q⟩⟩
        · exact ⟨a, by rw [nO x q1 q2 q3]; exact hx, rfl, rfl, fun _ => rfl, fun k y hky _ => hky⟩
  -- .. and back
  have hback : ∀ x a', nd x = some a' → ∃ a, T.nd x = some a ∧ a'.v.kind = a.v.kind ∧ (∀ k y, (k, y) ∈ a'.names → (x = dst ∧ k = asn ∧ y = ino) ∨ ((k, y) ∈ a.names ∧ ¬ (x = dir ∧ k = part))) := by
    intro x a' hx
    by_cases q1 : x = ino
    · subst q1
      rw [nI] at hx; cases hx
      exact ⟨m, hm, m1k, fun k y hky => .inr ⟨by rw [← m1n]; exact hky, fun q => hdn q.1.symm⟩⟩
    · by_cases q2 : x = dst
      · subst q2
        rw [nT] at hx; cases hx
        refine ⟨e, he, by rw [ev1, hek], fun k y hky => ?_⟩
        rcases (ev5 _).1 hky with q | ⟨q, q'⟩
        · cases q; exact .inl ⟨rfl, rfl, rfl⟩
        · exact .inr ⟨q, fun z => q' z.1 z.2⟩
      · by_cases q3 : x = dir
        · subst q3
          rw [nD (fun q => q2 q.symm)] at hx; cases hx
          refine ⟨d, hd, by rw [hd1]; rfl, fun k y hky => ?_⟩
          rw [hd1] at hky
          obtain ⟨z1, z2⟩ := delK_mem.1 hky
          exact .inr ⟨z1, fun z => z2 z.2⟩
        · rw [nO x q1 q2 q3] at hx
          exact ⟨a', hx, rfl, fun k y hky => .inr ⟨hky, fun z => q3 z.1⟩⟩
  have hsum : ∀ g : Option NdP → Nat, (∀ a b : NdP, a.names = b.names → a.data = b.data → g (some a) = g (some b)) → g (some d1) + g (some e1) + (if dst = dir then 0 else 0) = g (some d1) + g (some e1) ∧
      (if dst = dir then sumN nd g (T.next + 1).toNat + g (some d) = sumN T.nd g (T.next + 1).toNat + g (some e1) else sumN nd g (T.next + 1).toNat + g (some d) + g (some e) = sumN T.nd g (T.next + 1).toNat + g (some d1) + g (some e1)) := by
    intro g hgg
    refine ⟨by split <;> rfl, ?_⟩
    have s1 := sumN_upd T.nd g (some d1) dir (T.next + 1).toNat (by have := od.low; omega) (by have := od.high; omega)
    have s2 := sumN_upd (updN T.nd dir (some d1)) g (some e1) dst (T.next + 1).toNat (by have := oe.low; omega) (by have := oe.high; omega)
    have s3 := sumN_upd (updN (updN T.nd dir (some d1)) dst (some e1)) g (some m1) ino (T.next + 1).toNat (by have := om.low; omega) (by have := om.high; omega)
    rw [← hnd] at s3
    rw [updN_other _ _ (fun q => htn q.symm), updN_other _ _ (fun q => hdn q.symm), hm, hgg m1 m m1n (by rw [hm1]; rfl)] at s3
    rw [hd] at s1
    split
    · rename_i q
      rw [q, updN_same] at s2
      rw [q] at s3
      omega
    · rename_i q
      rw [updN_other _ _ q, he] at s2
      omega
  have hlk : ∀ x, sumN nd (gLink x) (T.next + 1).toNat = sumN T.nd (gLink x) (T.next + 1).toNat := by
    intro x
    have s := (hsum (gLink x) (fun a b q _ => by rw [gLink_some, gLink_some, q])).2
    have c1 := delK_count od.sorted hg (fun p => p.2 == x)
    split at s
    · rename_i q
      have q' := q
      subst q'
      rw [hd] at he; cases he
      have c2 := putK_count (delK d.names part) asn ino (fun p => p.2 == x)
      rw [gLink_some, gLink_some, he1, if_pos rfl] at s
      simp only [named, touch] at s
      simp only at c1 c2
      omega
    · rename_i q
      have c2 := putK_count e.names asn ino (fun p => p.2 == x)
      rw [gLink_some, gLink_some, gLink_some, gLink_some, he1, if_neg q, hd1] at s
      simp only [named, touch] at s
      simp only at c1 c2
      omega
  -- a directory has one name
  have hone : m.v.kind = 6 → ∀ x a k, T.nd x = some a → (k, ino) ∈ a.names → x = dir ∧ k = part := by
    intro hm6 x a k hx hkx
    obtain ⟨_, _, b, z1, z2⟩ := od.names _ hmem
    simp only at z1
    rw [hm] at z1; cases z1
    obtain ⟨_, _, b, z3, z4⟩ := (h.node x a hx).names _ hkx
    simp only at z3
    rw [hm] at z3; cases z3
    have hxd : x = dir := by rw [← z4 hm6, ← z2 hm6]
    refine ⟨hxd, ?_⟩
    subst hxd
    rw [hd] at hx; cases hx
    have l1 := om.links
    have l2 := om.one hm6
    rw [if_neg hi1] at l1
    have l3 := @sumN_le T.nd (gLink ino) (T.next + 1).toNat x.toNat (by have := od.low; have := od.high; omega)
    have l4 : ((x.toNat : Nat) : Int) = x := by have := od.low; omega
    rw [l4, hd, gLink_some] at l3
    have c1 := delK_count od.sorted hg (fun p => p.2 == ino)
    simp only [beq_self_eq_true, if_true] at c1
    have c2 : (delK d.names part).countP (fun p => p.2 == ino) = 0 := by omega
    rw [List.countP_eq_zero] at c2
    by_cases hkp : k = part
    · exact hkp
    · exact absurd (by simp) (c2 (k, ino) (delK_mem.2 ⟨hkx, hkp⟩))
  have hother : ∀ x a, T.nd x = some a → ∀ a', nd x = some a' → a'.v.links = a.v.links := by
    intro x a hx a' hx'
    by_cases q1 : x = ino
    · subst q1
      rw [hm] at hx; cases hx
      rw [nI] at hx'; cases hx'
      rw [hm1]; rfl
    · by_cases q2 : x = dst
      · subst q2
        rw [he] at hx; cases hx
        rw [nT] at hx'; cases hx'
        rw [he1]
        split
        · rename_i q; subst q; rw [hd] at he; cases he; rfl
        · rfl
      · by_cases q3 : x = dir
        · subst q3
          rw [hd] at hx; cases hx
          rw [nD (fun q => q2 q.symm)] at hx'; cases hx'
          rw [hd1]; rfl
        · rw [nO x q1 q2 q3, hx] at hx'; cases hx'; rfl
  -- what of a node doesn't hang on names
  have hv : ∀ x a, T.nd x = some a → ∀ a', nd x = some a' → a'.v.size = a.v.size ∧ a'.v.mode = a.v.mode ∧ a'.v.user = a.v.user ∧ a'.v.group = a.v.group ∧ (a'.v.time = a.v.time ∨ a'.v.time = c) ∧ a'.v.major = a.v.major ∧ a'.v.minor = a.v.minor ∧ a'.v.tgt = a.v.tgt ∧ (a'.v.change = a.v.change ∨ a'.v.change = c) ∧ OkK a'.names := by
    intro x a hx a' hx'
    by_cases q1 : x = ino
    · subst q1
      rw [hm] at hx; cases hx
      rw [nI] at hx'; cases hx'
      refine ⟨?_, ?_, ?_, ?_, .inl ?_, ?_, ?_, ?_, .inr ?_, by rw [m1n]; exact om.sorted⟩ <;> (rw [hm1]; rfl)
    · by_cases q2 : x = dst
      · subst q2
        rw [he] at hx; cases hx
        rw [nT] at hx'; cases hx'
        have : e1 = named c e e1.names := by
          rw [he1]
          split
          · rename_i q; subst q; rw [hd] at he; cases he; rfl
          · rfl
        refine ⟨?_, ?_, ?_, ?_, .inr ?_, ?_, ?_, ?_, .inr ?_, ev4⟩ <;> (rw [this]; rfl)
      · by_cases q3 : x = dir
        · subst q3
          rw [hd] at hx; cases hx
          rw [nD (fun q => q2 q.symm)] at hx'; cases hx'
          refine ⟨?_, ?_, ?_, ?_, .inr ?_, ?_, ?_, ?_, .inr ?_, by rw [hd1]; exact hdelok⟩ <;> (rw [hd1]; rfl)
        · rw [nO x q1 q2 q3, hx] at hx'; cases hx'
          exact ⟨rfl, rfl, rfl, rfl, .inl rfl, rfl, rfl, rfl, .inl rfl, (h.node x a hx).sorted⟩
  have hfew : ∀ x a, T.nd x = some a → ∀ a', nd x = some a' → a'.names.length ≤ a.names.length + 1 := by
    intro x a hx a' hx'
    have hdl := delK_len od.sorted hg
    by_cases q1 : x = ino
    · subst q1
      rw [hm] at hx; cases hx
      rw [nI] at hx'; cases hx'
      rw [m1n]; omega
    · by_cases q2 : x = dst
      · subst q2
        rw [he] at hx; cases hx
        rw [nT] at hx'; cases hx'
        rw [he1]
        split
        · rename_i q; subst q; rw [hd] at he; cases he
          show (putK _ _ _).length ≤ _
          rw [putK_len]; omega
        · show (putK _ _ _).length ≤ _
          rw [putK_len]; omega
      · by_cases q3 : x = dir
        · subst q3
          rw [hd] at hx; cases hx
          rw [nD (fun q => q2 q.symm)] at hx'; cases hx'
          rw [hd1]
          show (delK _ _).length ≤ _
          omega
        · rw [nO x q1 q2 q3, hx] at hx'; cases hx'; omega
  refine ⟨?_, ?_, ⟨hN.1, by show T.next ≤ c + 1; omega⟩, by show 0 ≤ c; omega, h.quota, ?_, h.room, ?_, h.most, ?_⟩
  · obtain ⟨a, z1, z2, z3⟩ := h.root
    obtain ⟨a', q1, q2, _, q3, _⟩ := hex 1 a z1
    exact ⟨a', q1, by rw [q2]; exact z2, by rw [q3 (fun q => hi1 q.symm)]; exact z3⟩
  · intro x a' hx'
    obtain ⟨a, hx, hkk, hnm⟩ := hback x a' hx'
    have ox := h.node x a hx
    obtain ⟨a'', q1, q2, q3, q4, q5⟩ := hex x a hx
    have q1' : nd x = some a' := hx'
    rw [q1] at q1'; cases q1'
    obtain ⟨v1, v2, v3, v4, v5, v6, v7, v8, v9, v10⟩ := hv x a hx a' q1
    have vl := hother x a hx a' q1
    refine ⟨ox.low, ox.high, v10, ?_, ?_, by rw [q3]; exact ox.data, (fun z => by rw [q3]; exact ox.plain (by rw [← q2]; exact z)), (by rw [q3, v1]; exact ox.inside), by rw [v1]; exact ox.size, ?_, ?_, ?_, ?_, by rw [v2]; exact ox.mode, by rw [v3]; exact ox.user, by rw [v4]; exact ox.group, ?_, by rw [q2]; exact ox.kind, by rw [v6, v7]; exact ox.dev, by rw [v8]; exact ox.tgt, ?_, ?_⟩
    · intro p hp'
      rcases hnm p.1 p.2 hp' with ⟨z1, z2, z3⟩ | ⟨z1, z2⟩
      · rw [z2, z3]
        refine ⟨hp, hi1, m1, nI, fun hm6 => ?_⟩
        rw [z1, hm1]
        unfold moved
        simp only
        rw [if_pos (by rw [← m1k]; exact hm6)]
      · obtain ⟨w1, w2, b, w3, w4⟩ := ox.names p z1
        obtain ⟨b', u1, u2, _, u3, _⟩ := hex p.2 b w3
        refine ⟨w1, w2, b', u1, fun hb6 => ?_⟩
        rw [u2] at hb6
        by_cases hpi : p.2 = ino
        · rw [hpi] at w3
          rw [hm] at w3; cases w3
          have := hone hb6 x a p.1 hx (by rw [← hpi]; exact z1)
          exact absurd this z2
        · rw [u3 hpi]; exact w4 hb6
    · intro hk6
      have hne : a.v.kind ≠ 6 := by rw [← q2]; exact hk6
      have h0 := ox.file hne
      rw [List.eq_nil_iff_forall_not_mem]
      intro p hp'
      rcases hnm p.1 p.2 hp' with ⟨z1, _⟩ | ⟨z1, _⟩
      · rw [z1, he] at hx; cases hx; exact hne hek
      · rw [h0] at z1; cases z1
    · intro hk6 hx1
      by_cases hxi : x = ino
      · subst hxi
        rw [nI] at q1; cases q1
        have hm6 : m.v.kind = 6 := by rw [← m1k]; exact hk6
        refine ⟨e1, ?_, ev1, asn, (ev5 _).2 (.inl rfl)⟩
        rw [hm1]
        unfold moved
        simp only
        rw [if_pos hm6]
        exact nT
      · obtain ⟨b, w1, w2, k, w3⟩ := ox.par (by rw [← q2]; exact hk6) hx1
        rw [q4 hxi]
        obtain ⟨b', u1, u2, _, _, u3⟩ := hex _ b w1
        refine ⟨b', u1, by rw [u2]; exact w2, k, u3 k x w3 ?_⟩
        rintro ⟨s1, s2⟩
        rw [s1, hd] at w1; cases w1
        rw [s2] at w3
        exact hxi (od.sorted.inj w3 hmem)
    · show a'.v.links = (sumN nd (gLink x) (T.next + 1).toNat : Nat) + _
      rw [hlk, vl]; exact ox.links
    · rw [vl]; have := ox.most; show a.v.links ≤ c + 1; omega
    · have := ox.change
      show 0 ≤ a'.v.change ∧ a'.v.change ≤ c
      rcases v9 with v9 | v9 <;> rw [v9] <;> omega
    · rcases v5 with v5 | v5 <;> rw [v5]
      · exact ox.time
      · omega
    · intro hk6
      rw [vl]; exact ox.one (by rw [← q2]; exact hk6)
    · have := hfew x a hx a' q1
      have := ox.few
      show (a'.names.length : Int) ≤ c; omega
  · have s := (hsum gSize (fun a b _ q => by show sizeD a.data = sizeD b.data; rw [q])).2
    have hu := h.used
    show T.used = (sumN nd gSize (T.next + 1).toNat : Nat)
    have g1 : gSize (some d1) = gSize (some d) := by rw [hd1]; rfl
    have g2 : gSize (some e1) = gSize (some e) := by show sizeD e1.data = sizeD e.data; rw [ev3]
    split at s
    · rename_i q; subst q; rw [hd] at he; cases he; omega
    · omega
  · have s := (hsum gOne (fun a b _ q => rfl)).2
    have hu := h.cnt
    show T.cnt = sumN nd gOne (T.next + 1).toNat
    have g1 : gOne (some d1) = gOne (some d) := rfl
    have g2 : gOne (some e1) = gOne (some e) := rfl
    have g3 : gOne (some e1) = gOne (some d) := rfl
    split at s <;> omega
  · -- all below what was moved lies deeper now
    classical
    refine ⟨fun x => if m.v.kind = 6 ∧ Up T ino x then r x + r dst + 1 else r x, ?_⟩
    intro x a' hx' hk6 hx1
    obtain ⟨a, hx, hkk, hnm⟩ := hback x a' hx'
    obtain ⟨a'', q1, q2, q3, q4, q5⟩ := hex x a hx
    have q1' : nd x = some a' := hx'
    rw [q1] at q1'; cases q1'
    have ha6 : a.v.kind = 6 := by rw [← q2]; exact hk6
    have hrx := hr x a hx ha6 hx1
    simp only
    by_cases hxi : x = ino
    · subst hxi
      rw [nI] at q1; cases q1
      have hm6 : m.v.kind = 6 := by rw [← m1k]; exact hk6
      have hpar : m1.par = dst := by rw [hm1]; unfold moved; simp only; rw [if_pos hm6]
      rw [hpar, if_neg (fun z => hup hm6 z.2), if_pos ⟨hm6, Up.self⟩]
      omega
    · rw [q4 hxi]
      by_cases hu : m.v.kind = 6 ∧ Up T ino x
      · have hu2 : Up T ino a.par := by
          cases hu.2 with
          | self => exact absurd rfl hxi
          | step _ n w1 w2 w3 w4 => rw [hx] at w1; cases w1; exact w4
        rw [if_pos hu, if_pos ⟨hu.1, hu2⟩]; omega
      · have hu2 : ¬ (m.v.kind = 6 ∧ Up T ino a.par) := fun z => hu ⟨z.1, Up.step x a hx ha6 hx1 z.2⟩
        rw [if_neg hu, if_neg hu2]; exact hrx
end Go.Proofs.YtgbakogihkdddaaGreatDoor

namespace Go.Proofs.YtgbakogihkdddaaGreatDoor
open Go.RowKit
open Go.Maps (Keyed)
set_option linter.unusedVariables false
set_option linter.unusedSimpArgs false
set_option maxRecDepth 20000

/-! ### maps of nodes, and of names -/
/-- A pointer to a block's beginning, read. -/
def ptrR : Rdr := fun v => match v with
  | .pointer none => some (.nil, [])
  | .pointer (some a) => if a.off = 0 ∧ a.spot = none then some (.lit (.int .i64 a.block), []) else none
  | _ => none
def ptrV (o : Option Nat) : Value := .pointer (o.map fun b => ⟨b, 0, none⟩)
theorem ptrR_mk (b : Nat) : ptrR (.pointer (some ⟨b, 0, none⟩)) = some (.lit (.int .i64 b), []) := by simp [ptrR]
theorem ptrR_inv {v : Value} {b : Nat} {ps : List MemPlace} (h : ptrR v = some (.lit (.int .i64 b), ps)) : v = .pointer (some ⟨b, 0, none⟩) := by
  unfold ptrR at h
  split at h
  · cases h
  · rename_i a
    split at h
    · rename_i h2
      simp at h
      obtain ⟨x, o, s⟩ := a
      simp at h h2
      obtain ⟨rfl, rfl⟩ := h2
      have : x = b := by omega
      rw [this]
    · cases h
  · cases h
theorem ptrR_nil {v : Value} {ps : List MemPlace} (h : ptrR v = some (.nil, ps)) : v = .pointer none := by
  unfold ptrR at h
  split at h
  · rfl
  · split at h <;> cases h
  · cases h
/-- Which block a number's node lies in. -/
def ndF (B : Int → Option Nat) : Lit → Option Dt
  | .int .i64 k => (B k).map fun b => .lit (.int .i64 b)
  | _ => none
/-- Which number a name leads to. -/
def nmF (l : Nms) : Lit → Option Dt
  | .string s => (getK l s).map fun i => .lit (.int .i64 i)
  | _ => none
theorem ndF_upd (B : Int → Option Nat) (k : Int) (b : Nat) : updF (ndF B) (.int .i64 k) (.lit (.int .i64 b)) = ndF (fun j => if j = k then some b else B j) := by
  funext l
  unfold updF
  by_cases h : l.sameKey (.int .i64 k) = true
  · have := WideAt.sameKey_eq h
    subst this
    rw [if_pos h]
    simp [ndF]
  · rw [if_neg h]
    cases l with
    | int q n =>
      cases q <;> try rfl
      have : n ≠ k := fun e => h (by rw [e]; exact WideAt.sameKey_self trivial)
      simp [ndF, this]
    | _ => rfl
theorem ndF_del (B : Int → Option Nat) (k : Int) : delF (ndF B) (.int .i64 k) = ndF (fun j => if j = k then none else B j) := by
  funext l
  unfold delF
  by_cases h : l.sameKey (.int .i64 k) = true
  · have := WideAt.sameKey_eq h
    subst this
    rw [if_pos h]
    simp [ndF]
  · rw [if_neg h]
    cases l with
    | int q n =>
      cases q <;> try rfl
      have : n ≠ k := fun e => h (by rw [e]; exact WideAt.sameKey_self trivial)
      simp [ndF, this]
    | _ => rfl
theorem nmF_put {l : Nms} (h : OkK l) (k : List UInt8) (i : Int) (hn : getK l k = none) : updF (nmF l) (.string k) (.lit (.int .i64 i)) = nmF (putK l k i) := by
  funext x
  unfold updF
  by_cases hx : x.sameKey (.string k) = true
  · have := WideAt.sameKey_eq hx
    subst this
    rw [if_pos hx]
    simp [nmF, getK_put h k i hn]
  · rw [if_neg hx]
    cases x with
    | string s =>
      have : s ≠ k := fun e => hx (by rw [e]; exact WideAt.sameKey_self trivial)
      simp [nmF, getK_put h k i hn, this]
    | _ => rfl
theorem nmF_del {l : Nms} (h : OkK l) (k : List UInt8) : delF (nmF l) (.string k) = nmF (delK l k) := by
  funext x
  unfold delF
  by_cases hx : x.sameKey (.string k) = true
  · have := WideAt.sameKey_eq hx
    subst this
    rw [if_pos hx]
    simp [nmF, getK_del h]
  · rw [if_neg hx]
    cases x with
    | string s =>
      have : s ≠ k := fun e => hx (by rw [e]; exact WideAt.sameKey_self trivial)
      simp [nmF, getK_del h, this]
    | _ => rfl
theorem nmF_nil : nmF [] = fun _ => none := by
  funext x
  cases x <;> rfl

theorem law_int : Keyed Tryz.prog 3 := Maps.int_keyed Tryz.underlying3
theorem law_str : Keyed Tryz.prog 9 := Maps.string_keyed Tryz.underlying9
theorem zeroPtr (w : World) : (zeroValue 59).run Tryz.prog w = .ok (.pointer none) w := by kernel_rfl
theorem zeroInt (w : World) : (zeroValue 3).run Tryz.prog w = .ok (.int .i64 0) w := by kernel_rfl
/-- The map of nodes. -/
def NodesAt (w : World) (mb : Nat) (B : Int → Option Nat) (c : Nat) : Prop := MapF w Tryz.prog 3 ptrR mb (ndF B) c
/-- A directory's map of names. -/
def NamesAt (w : World) (mb : Nat) (l : Nms) : Prop := MapF w Tryz.prog 9 (plainElem Tryz.prog 3) mb (nmF l) l.length
theorem i64_wf {k : Int} (h : -9223372036854775808 ≤ k ∧ k ≤ 9223372036854775807) : (Lit.int .i64 k).wf = true := WalkArith.wf_i64 h
theorem nodes_ok {w : World} {mb : Nat} {B : Int → Option Nat} {c : Nat} (h : NodesAt w mb B c) (k : Int) (hk : -9223372036854775808 ≤ k ∧ k ≤ 9223372036854775807) :
    ∀ W, W.heap[mb]? = w.heap[mb]? → (Instr.lookup 64 (.map (some mb)) (.int .i64 k) true).run Tryz.prog W = .ok (.tuple #[ptrV (B k), .bool (B k).isSome]) W := by
  intro W hW
  have hm : NodesAt W mb B c := MapF.heap h hW
  obtain ⟨v, ps, hr, hv⟩ := MapF.look_ok hm law_int Tryz.underlying64 (zeroPtr W) (zd := .nil) (zp := []) rfl (Maps.keyOf_int_mk Tryz.underlying3 (i64_wf hk))
  rw [hr]
  cases hB : B k with
  | some b =>
    simp [ndF, hB] at hv
    rw [ptrR_inv hv]
    simp [ndF, hB, ptrV]
  | none =>
    simp [ndF, hB] at hv
    rw [ptrR_nil hv]
    simp [ndF, hB, ptrV]
theorem nodes_at {w : World} {mb : Nat} {B : Int → Option Nat} {c : Nat} (h : NodesAt w mb B c) (k : Int) (hk : -9223372036854775808 ≤ k ∧ k ≤ 9223372036854775807) :
    ∀ W, W.heap[mb]? = w.heap[mb]? → (Instr.lookup 64 (.map (some mb)) (.int .i64 k) false).run Tryz.prog W = .ok (ptrV (B k)) W := by
  intro W hW
  have hm : NodesAt W mb B c := MapF.heap h hW
  obtain ⟨v, ps, hr, hv⟩ := MapF.look hm law_int Tryz.underlying64 (zeroPtr W) (zd := .nil) (zp := []) rfl (Maps.keyOf_int_mk Tryz.underlying3 (i64_wf hk))
  rw [hr]
  cases hB : B k with
  | some b =>
    simp [ndF, hB] at hv
    rw [ptrR_inv hv]
    simp [ptrV]
  | none =>
    simp [ndF, hB] at hv
    rw [ptrR_nil hv]
    simp [ptrV]
theorem names_ok {w : World} {mb : Nat} {l : Nms} (h : NamesAt w mb l) (s : ByteArray) (hs : s.size ≤ maxLen) :
    ∀ W, W.heap[mb]? = w.heap[mb]? → (Instr.lookup 60 (.map (some mb)) (.string s) true).run Tryz.prog W = .ok (.tuple #[.int .i64 ((getK l s.data.toList).getD 0), .bool (getK l s.data.toList).isSome]) W := by
  intro W hW
  have hm : NamesAt W mb l := MapF.heap h hW
  obtain ⟨v, ps, hr, hv⟩ := MapF.look_ok hm law_str Tryz.underlying60 (zeroInt W) (plainElem_int Tryz.underlying3 (by decide)) (WideMaps.keyOf_string_mk Tryz.underlying9 hs)
  rw [hr]
  obtain ⟨a, rfl, ha, _⟩ := plainElem_int_inv Tryz.underlying3 hv
  cases hB : getK l s.data.toList with
  | some b =>
    simp [nmF, hB] at ha
    simp [nmF, hB, ha]
  | none =>
    simp [nmF, hB] at ha
    simp [nmF, hB, ha]
end Go.Proofs.YtgbakogihkdddaaGreatDoor

namespace Go.Proofs.YtgbakogihkdddaaGreatDoor
open Go.RowKit
open Go.Maps (Keyed)
set_option linter.unusedVariables false
set_option linter.unusedSimpArgs false
set_option maxRecDepth 20000

theorem infoFp : (Tryz.prog.info? 40).map (fun i => (i.zero, i.size, i.bytes)) = some (some (.agg #[.int .i64 0, .slice none 0 0]), 2, 32) := by kernel_rfl
/-- A node's cells. -/
def ndC (n : NdP) (m : Option Nat) (a : Option Addr) (c : Nat) : List Value := nvC n.v ++ [.map m, .int .i64 n.par, .slice a n.data.length c]
/-- A piece, and where its bytes lie. -/
abbrev FpQ := Fp × (Option Addr × Nat)
def fcells (qs : List FpQ) : List Value := qs.flatMap fun q => [.int .i64 q.1.1, .slice q.2.1 q.1.2.length q.2.2]
/-- A mark of a block. -/
inductive Lab where
  | no
  | fs
  | tab
  | nd (i : Int)
  | nm (i : Int)
  | row (i : Int)
  | byt (i : Int)
/-- What was written of node i lies in a row of pieces, each with its own row of bytes. -/
structure DatSt (L : Nat → Lab) (i : Int) (w : World) (a : Option Addr) (l c : Nat) (qs : List FpQ) : Prop where
  len : l = qs.length
  own : w.ownsRow 0 40 2 (.slice a l c) l (fcells qs)
  lab : ∀ k, (Value.slice a l c).ownBlock = some k → L k = .row i
  each : ∀ q ∈ qs, w.ownsRow 0 5 1 (.slice q.2.1 q.1.2.length q.2.2) q.1.2.length (bc q.1.2)
  labs : ∀ q ∈ qs, ∀ k, (Value.slice q.2.1 q.1.2.length q.2.2).ownBlock = some k → L k = .byt i
  apart : qs.Pairwise (fun p q => ∀ k, (Value.slice p.2.1 p.1.2.length p.2.2).ownBlock = some k → (Value.slice q.2.1 q.1.2.length q.2.2).ownBlock ≠ some k)
/-- Node i lies in block b. -/
structure NdSt (L : Nat → Lab) (i : Int) (w : World) (b : Nat) (n : NdP) (m : Option Nat) (a : Option Addr) (c : Nat) (qs : List FpQ) : Prop where
  obj : w.heap[b]? = some (.cells (ndC n m a c).toArray 63 (0, 0))
  lab : L b = .nd i
  dir : n.v.kind = 6 → ∃ mb, m = some mb ∧ L mb = .nm i ∧ NamesAt w mb n.names
  plain : n.v.kind ≠ 6 → m = none
  dat : DatSt L i w a n.data.length c qs
  data : qs.map Prod.fst = n.data
def fsC (mb : Nat) (T : FsP) : List Value := [.map (some mb), .int .i64 T.next, .int .i64 T.quota, .int .i64 T.used, .int .i64 T.clock]
/-- A tree of files at f; S: the blocks that are its own. -/
structure FsIn (L : Nat → Lab) (B : Int → Option Nat) (mb : Nat) (S : Nat → Prop) (w : World) (f : Nat) (T : FsP) : Prop where
  ok : OkT T
  obj : w.heap[f]? = some (.cells (fsC mb T).toArray 66 (0, 0))
  labf : L f = .fs
  labm : L mb = .tab
  tab : NodesAt w mb B T.cnt
  dom : ∀ i, (B i).isSome = (T.nd i).isSome
  node : ∀ i n b, T.nd i = some n → B i = some b → ∃ m a c qs, NdSt L i w b n m a c qs
  own : ∀ k, (∀ x, L k = x → x ≠ .no) → S k ∧ k < w.heap.size
def FsSt (S : Nat → Prop) (w : World) (f : Nat) (T : FsP) : Prop := ∃ L B mb, FsIn L B mb S w f T

theorem DatSt.kept {L : Nat → Lab} {i : Int} {w w' : World} {a : Option Addr} {l c : Nat} {qs : List FpQ} {K : Nat → Prop} (h : DatSt L i w a l c qs) (hk : Kept K w w') (hr : ∀ k, L k = .row i → ¬ K k) (hb : ∀ k, L k = .byt i → ¬ K k) : DatSt L i w' a l c qs :=
  ⟨h.len, hk.row h.own (fun k e => hr k (h.lab k e)), h.lab, fun q hq => hk.row (h.each q hq) (fun k e => hb k (h.labs q hq k e)), h.labs, h.apart⟩
theorem NdSt.kept {L : Nat → Lab} {i : Int} {w w' : World} {b : Nat} {n : NdP} {m : Option Nat} {a : Option Addr} {c : Nat} {qs : List FpQ} {K : Nat → Prop} (h : NdSt L i w b n m a c qs) (hk : Kept K w w')
    (h1 : ∀ k, L k = .nd i → ¬ K k) (h2 : ∀ k, L k = .nm i → ¬ K k) (h3 : ∀ k, L k = .row i → ¬ K k) (h4 : ∀ k, L k = .byt i → ¬ K k) : NdSt L i w' b n m a c qs where
  obj := hk.obj h.obj (h1 b h.lab)
  lab := h.lab
  dir := fun hd => by
    obtain ⟨mb, e1, e2, e3⟩ := h.dir hd
    exact ⟨mb, e1, e2, MapF.kept e3 hk (h2 mb e2)⟩
  plain := h.plain
  dat := h.dat.kept hk h3 h4
  data := h.data
theorem FsIn.kept {L : Nat → Lab} {B : Int → Option Nat} {mb : Nat} {S : Nat → Prop} {w w' : World} {f : Nat} {T : FsP} {K : Nat → Prop} (h : FsIn L B mb S w f T) (hk : Kept K w w') (hs : ∀ k, S k → ¬ K k) : FsIn L B mb S w' f T := by
  have key : ∀ k x, L k = x → x ≠ .no → ¬ K k := fun k x e hx => hs k (h.own k (fun y ey => by rw [← ey, e]; exact hx)).1
  refine ⟨h.ok, hk.obj h.obj (key f .fs h.labf (by simp)), h.labf, h.labm, MapF.kept h.tab hk (key mb .tab h.labm (by simp)), h.dom, ?_, fun k hk' => ⟨(h.own k hk').1, Nat.lt_of_lt_of_le (h.own k hk').2 hk.size⟩⟩
  intro i n b hn hb
  obtain ⟨m, a, c, qs, hq⟩ := h.node i n b hn hb
  exact ⟨m, a, c, qs, hq.kept hk (fun k e => key k _ e (by simp)) (fun k e => key k _ e (by simp)) (fun k e => key k _ e (by simp)) (fun k e => key k _ e (by simp))⟩
theorem FsSt.kept {S : Nat → Prop} {w w' : World} {f : Nat} {T : FsP} {K : Nat → Prop} (h : FsSt S w f T) (hk : Kept K w w') (hs : ∀ k, S k → ¬ K k) : FsSt S w' f T := by
  obtain ⟨L, B, mb, h⟩ := h
  exact ⟨L, B, mb, h.kept hk hs⟩
theorem FsSt.keptNo {S : Nat → Prop} {w w' : World} {f : Nat} {T : FsP} (h : FsSt S w f T) (hk : Kept NoB w w') : FsSt S w' f T := h.kept hk (fun _ _ e => e)
/-- The blocks of a tree's own, behind a call that made some. -/
def Grow (S : Nat → Prop) (w w' : World) : Nat → Prop := fun k => S k ∨ (w.heap.size ≤ k ∧ k < w'.heap.size)

theorem FsIn.cells {L : Nat → Lab} {B : Int → Option Nat} {mb : Nat} {S : Nat → Prop} {w : World} {f : Nat} {T : FsP} (h : FsIn L B mb S w f T) :
    w.cell? ⟨f, 0, none⟩ = some (.map (some mb)) ∧ w.cell? ⟨f, 1, none⟩ = some (.int .i64 T.next) ∧ w.cell? ⟨f, 2, none⟩ = some (.int .i64 T.quota) ∧ w.cell? ⟨f, 3, none⟩ = some (.int .i64 T.used) ∧ w.cell? ⟨f, 4, none⟩ = some (.int .i64 T.clock) := by
  have h0 := h.obj
  exact ⟨by rw [obj_cell h0]; rfl, by rw [obj_cell h0]; rfl, by rw [obj_cell h0]; rfl, by rw [obj_cell h0]; rfl, by rw [obj_cell h0]; rfl⟩
theorem FsIn.keptNo {L : Nat → Lab} {B : Int → Option Nat} {mb : Nat} {S : Nat → Prop} {w w' : World} {f : Nat} {T : FsP} (h : FsIn L B mb S w f T) (hk : Kept NoB w w') : FsIn L B mb S w' f T := h.kept hk (fun _ _ e => e)

/-! ### what only reads -/
theorem used_any {S : Nat → Prop} {w : World} {f : Nat} {T : FsP} (h : FsSt S w f T) : Calls Tryz.prog 18 #[.pointer (some ⟨f, 0, none⟩)] w fun e w' => e = .returned (.int .i64 T.used) ∧ w' = w := by
  obtain ⟨L, B, mb, h⟩ := h
  obtain ⟨c0, c1, c2, c3, c4⟩ := h.cells
  clear h
  go_enter Tryz.func18, Tryz.ntmps18
  go_wp2
  go_ret
  exact ⟨rfl, rfl⟩
theorem clock_any {S : Nat → Prop} {w : World} {f : Nat} {T : FsP} (h : FsSt S w f T) : Calls Tryz.prog 22 #[.pointer (some ⟨f, 0, none⟩)] w fun e w' => e = .returned (.int .i64 T.clock) ∧ w' = w := by
  obtain ⟨L, B, mb, h⟩ := h
  obtain ⟨c0, c1, c2, c3, c4⟩ := h.cells
  clear h
  go_enter Tryz.func22, Tryz.ntmps22
  go_wp2
  go_ret
  exact ⟨rfl, rfl⟩
end Go.Proofs.YtgbakogihkdddaaGreatDoor

namespace Go.Proofs.YtgbakogihkdddaaGreatDoor
open Go.RowKit
set_option linter.unusedVariables false
set_option linter.unusedSimpArgs false
set_option maxRecDepth 20000

set_option maxHeartbeats 2000000 in
theorem search_after (n : Nat) (cb : Array Value) (p : Nat → Bool) (w : World) (hn : n ≤ 1099511627776) (hmono : ∀ a b, a ≤ b → b < n → p a = true → p b = true)
    (hf : ∀ W i, Kept NoB w W → i < n → Calls Tryz.prog 70 (#[.int .i64 (i : Int)] ++ cb) W fun e w' => e = .returned (.bool (p i)) ∧ Kept NoB W w') :
    Calls Tryz.prog 48 #[.int .i64 (n : Int), .func (.func 70) #[] cb] w fun e w' => ∃ i : Nat, e = .returned (.int .i64 (i : Int)) ∧ i ≤ n ∧ (∀ k, k < i → p k = false) ∧ (∀ k, i ≤ k → k < n → p k = true) ∧ Kept NoB w w' := by
  have HF := Lib.hid hf; have HM := Lib.hid hmono
  clear hf hmono
  go_enter Tryz.func48, Tryz.ntmps48
  go_wp2
  go_loopw [5, 6, 7, 11] (fun v5 v6 _v7 _v11 wr => ∃ i j : Nat, v5 = .int .i64 (i : Int) ∧ v6 = .int .i64 (j : Int) ∧ i ≤ j ∧ j ≤ n ∧ Hid ((∀ k, k < i → p k = false) ∧ (∀ k, j ≤ k → k < n → p k = true) ∧ Kept NoB w wr)) (fun v5 v6 _ _ _ => (intOf v6).toNat - (intOf v5).toNat)
  case atStart => exact ⟨0, n, rfl, rfl, by omega, by omega, Lib.hid ⟨fun k hk => by omega, fun k h1 h2 => by omega, Kept.refl _ _⟩⟩
  case round =>
    obtain ⟨i, j, rfl, rfl, hij, hjn, HS⟩ := hrel
    by_cases hlt : (i : Int) < (j : Int)
    · obtain ⟨h, hh⟩ : ∃ h : Nat, h = (i + j) / 2 := ⟨_, rfl⟩
      have hh1 : i ≤ h := by omega
      have hh2 : h < j := by omega
      have hh3 : ((i : Int) + (j : Int)) / 2 = (h : Int) := by omega
      have HH := Lib.hid hh3
      clear hh hh3
      go_upto_region 4 with fail
      rw [HH.out]
      have HC := Lib.hid (HF.out wr h HS.out.2.2 (by omega))
      obtain ⟨q, hq⟩ : ∃ q, q = p h := ⟨_, rfl⟩
      rw [← hq] at HC
      have HQ := Lib.hid hq
      clear hq
      cases q
      · go_wp2_with (go_at_call 70; fail)
        refine HC.out.mono ?_
        rintro e w2 ⟨rfl, hk2⟩
        have HK := Lib.hid (HS.out.2.2.trans hk2)
        clear hk2
        go_wp2
        go_roundw
        case rel => exact ⟨h + 1, j, by go_num, rfl, by omega, hjn, Lib.hid ⟨(fun k hk => by
          cases e : p k with
          | false => rfl
          | true =>
            have := HM.out k h (by omega) (by omega) e
            rw [← HQ.out] at this
            cases this), HS.out.2.1, HK.out⟩⟩
        case measure => simp [intOf]; omega
      · go_wp2_with (go_at_call 70; fail)
        refine HC.out.mono ?_
        rintro e w2 ⟨rfl, hk2⟩
        have HK := Lib.hid (HS.out.2.2.trans hk2)
        clear hk2
        go_wp2
        go_roundw
        case rel => exact ⟨i, h, rfl, by go_num, hh1, by omega, Lib.hid ⟨HS.out.1, fun k h1 h2 => HM.out h k h1 h2 HQ.out.symm, HK.out⟩⟩
        case measure => simp [intOf]; omega
    · have hij2 : j = i := by omega
      go_wp2
      go_ret
      exact ⟨i, rfl, by omega, HS.out.1, fun k h1 h2 => HS.out.2.1 k (by omega) h2, HS.out.2.2⟩
set_option maxHeartbeats 2000000 in
theorem search_put (n : Nat) (cb : Array Value) (p : Nat → Bool) (w : World) (hn : n ≤ 1099511627776) (hmono : ∀ a b, a ≤ b → b < n → p a = true → p b = true)
    (hf : ∀ W i, Kept NoB w W → i < n → Calls Tryz.prog 49 (#[.int .i64 (i : Int)] ++ cb) W fun e w' => e = .returned (.bool (p i)) ∧ Kept NoB W w') :
    Calls Tryz.prog 48 #[.int .i64 (n : Int), .func (.func 49) #[] cb] w fun e w' => ∃ i : Nat, e = .returned (.int .i64 (i : Int)) ∧ i ≤ n ∧ (∀ k, k < i → p k = false) ∧ (∀ k, i ≤ k → k < n → p k = true) ∧ Kept NoB w w' := by
  have HF := Lib.hid hf; have HM := Lib.hid hmono
  clear hf hmono
  go_enter Tryz.func48, Tryz.ntmps48
  go_wp2
  go_loopw [5, 6, 7, 11] (fun v5 v6 _v7 _v11 wr => ∃ i j : Nat, v5 = .int .i64 (i : Int) ∧ v6 = .int .i64 (j : Int) ∧ i ≤ j ∧ j ≤ n ∧ Hid ((∀ k, k < i → p k = false) ∧ (∀ k, j ≤ k → k < n → p k = true) ∧ Kept NoB w wr)) (fun v5 v6 _ _ _ => (intOf v6).toNat - (intOf v5).toNat)
  case atStart => exact ⟨0, n, rfl, rfl, by omega, by omega, Lib.hid ⟨fun k hk => by omega, fun k h1 h2 => by omega, Kept.refl _ _⟩⟩
  case round =>
    obtain ⟨i, j, rfl, rfl, hij, hjn, HS⟩ := hrel
    by_cases hlt : (i : Int) < (j : Int)
    · obtain ⟨h, hh⟩ : ∃ h : Nat, h = (i + j) / 2 := ⟨_, rfl⟩
      have hh1 : i ≤ h := by omega
      have hh2 : h < j := by omega
      have hh3 : ((i : Int) + (j : Int)) / 2 = (h : Int) := by omega
      have HH := Lib.hid hh3
      clear hh hh3
      go_upto_region 4 with fail
      rw [HH.out]
      have HC := Lib.hid (HF.out wr h HS.out.2.2 (by omega))
      obtain ⟨q, hq⟩ : ∃ q, q = p h := ⟨_, rfl⟩
      rw [← hq] at HC
      have HQ := Lib.hid hq
      clear hq
      cases q
      · go_wp2_with (go_at_call 49; fail)
        refine HC.out.mono ?_
        rintro e w2 ⟨rfl, hk2⟩
        have HK := Lib.hid (HS.out.2.2.trans hk2)
        clear hk2
        go_wp2
        go_roundw
        case rel => exact ⟨h + 1, j, by go_num, rfl, by omega, hjn, Lib.hid ⟨(fun k hk => by
          cases e : p k with
          | false => rfl
          | true =>
            have := HM.out k h (by omega) (by omega) e
            rw [← HQ.out] at this
            cases this), HS.out.2.1, HK.out⟩⟩
        case measure => simp [intOf]; omega
      · go_wp2_with (go_at_call 49; fail)
        refine HC.out.mono ?_
        rintro e w2 ⟨rfl, hk2⟩
        have HK := Lib.hid (HS.out.2.2.trans hk2)
        clear hk2
        go_wp2
        go_roundw
        case rel => exact ⟨i, h, rfl, by go_num, hh1, by omega, Lib.hid ⟨HS.out.1, fun k h1 h2 => HM.out h k h1 h2 HQ.out.symm, HK.out⟩⟩
        case measure => simp [intOf]; omega
    · have hij2 : j = i := by omega
      go_wp2
      go_ret
      exact ⟨i, rfl, by omega, HS.out.1, fun k h1 h2 => HS.out.2.1 k (by omega) h2, HS.out.2.2⟩
end Go.Proofs.YtgbakogihkdddaaGreatDoor

namespace Go.Proofs.YtgbakogihkdddaaGreatDoor
open Go.RowKit
set_option linter.unusedVariables false
set_option linter.unusedSimpArgs false
set_option maxRecDepth 20000

/-- A row of pieces is read. -/
def RdD (w : World) (ao : Option Addr) (l : List Fp) : Prop :=
  ∀ i (hi : i < l.length), ∃ (b off : Nat) (bo : Option Addr) (bc : Nat), ao = some ⟨b, off, none⟩ ∧ w.cell? ⟨b, off + i * 2, none⟩ = some (.int .i64 l[i].1) ∧
    w.cell? ⟨b, off + (i * 2 + 1), none⟩ = some (.slice bo l[i].2.length bc) ∧ l[i].2.length ≤ bc ∧ bc ≤ maxLen
theorem RdD.kept {w w' : World} {ao : Option Addr} {l : List Fp} (h : RdD w ao l) (hk : Kept NoB w w') : RdD w' ao l := by
  intro i hi
  obtain ⟨b, off, bo, bc, h1, h2, h3, h4⟩ := h i hi
  exact ⟨b, off, bo, bc, h1, hk.cell h2, hk.cell h3, h4⟩

set_option maxHeartbeats 1000000 in
theorem end_any (z : Int) (n : Nat) (bo : Option Addr) (bc : Nat) (w : World) (hz : 0 ≤ z ∧ z + (n : Int) ≤ 4611686018427387904) :
    Calls Tryz.prog 47 #[.agg #[.int .i64 z, .slice bo n bc]] w fun e w' => e = .returned (.int .i64 (z + (n : Int))) ∧ w' = w.alloc (.cells #[.int .i64 z, .slice bo n bc] 40) := by
  go_enter Tryz.func47, Tryz.ntmps47
  go_wp2
  go_ret
  exact ⟨rfl, rfl⟩

set_option maxHeartbeats 2000000 in
/-- The closure of after. -/
theorem after1_any (l : List Fp) (hl : OkD l) (a : Option Addr) (c : Nat) (B1 B2 : Nat) (k : Int) (i : Nat) (hi : i < l.length) (w : World) (hr : RdD w a l)
    (h1 : w.cell? ⟨B1, 0, none⟩ = some (.slice a l.length c)) (h2 : w.cell? ⟨B2, 0, none⟩ = some (.int .i64 k)) (hlen : l.length ≤ 1099511627776) :
    Calls Tryz.prog 70 #[.int .i64 (i : Int), .pointer (some ⟨B1, 0, none⟩), .pointer (some ⟨B2, 0, none⟩)] w fun e w' => e = .returned (.bool (decide (k < endP l[i]))) ∧ Kept NoB w w' := by
  obtain ⟨b, off, bo, bc, rfl, c0, c1, q1, q2⟩ := hr i hi
  obtain ⟨n, hn⟩ : ∃ n, n = l.length := ⟨_, rfl⟩
  rw [← hn] at h1 hi hlen
  have hp := hl.each l[i] (List.getElem_mem (by rw [← hn]; exact hi))
  obtain ⟨z, hz⟩ : ∃ z, z = l[i].1 := ⟨_, rfl⟩
  obtain ⟨m, hm⟩ : ∃ m, m = l[i].2.length := ⟨_, rfl⟩
  have hE : endP l[i] = z + (m : Int) := by rw [hz, hm]; rfl
  rw [hE]
  have hz0 : 0 ≤ z := by rw [hz]; exact hp.1
  have hz1 : z + (m : Int) ≤ 1099511627776 := by rw [← hE]; exact hp.2.2
  rw [← hz] at c0
  rw [← hm] at c1 q1
  rw [show off + (i * 2 + 1) = off + i * 2 + 1 by omega] at c1
  have HE : Hid (∀ W, Calls Tryz.prog 47 #[.agg #[.int .i64 z, .slice bo m bc]] W fun e w' => e = .returned (.int .i64 (z + (m : Int))) ∧ Kept NoB W w') := Lib.hid (fun W => (end_any z m bo bc W ⟨hz0, by omega⟩).mono (by rintro e w' ⟨rfl, rfl⟩; exact ⟨rfl, (Kept.refl NoB W).alloc _⟩))
  have D0 : ∀ W, Kept NoB w W → W.cell? ⟨b, off + i * 2, none⟩ = some (.int .i64 z) := fun W hk => hk.cell c0
  have D1 : ∀ W, Kept NoB w W → W.cell? ⟨b, off + i * 2 + 1, none⟩ = some (.slice bo m bc) := fun W hk => hk.cell c1
  have D2 : ∀ W, Kept NoB w W → W.cell? ⟨B1, 0, none⟩ = some (.slice (some ⟨b, off, none⟩) n c) := fun W hk => hk.cell h1
  have D3 : ∀ W, Kept NoB w W → W.cell? ⟨B2, 0, none⟩ = some (.int .i64 k) := fun W hk => hk.cell h2
  clear hE hz hm hp hr hn hl c0 c1 h1 h2
  go_enter Tryz.func70, Tryz.ntmps70
  go_upto_region 1 with fail
  go_region_held3 (fun W => Kept NoB w W) (first | assumption | exact Kept.drew (Kept.refl _ _) | exact Kept.drew (by assumption) | exact Kept.trans (by assumption) hkn) ((go_at_call 47; ((with_reducible refine (HE.out _).mono ?_); rintro e wn ⟨rfl, hkn⟩)))
  have hkw : Kept NoB w wn := by assumption
  have HKw := Lib.hid hkw
  clear hkw hkn
  go_wp2
  go_ret
  exact ⟨rfl, HKw.out⟩

theorem fcells_len (qs : List FpQ) : (fcells qs).length = qs.length * 2 := by
  induction qs with
  | nil => rfl
  | cons p r ih => simp [fcells] at ih ⊢; omega
theorem fcells_at : ∀ (qs : List FpQ) (i : Nat) (h : i < qs.length), (fcells qs)[i * 2]? = some (.int .i64 qs[i].1.1) ∧ (fcells qs)[i * 2 + 1]? = some (.slice qs[i].2.1 qs[i].1.2.length qs[i].2.2) := by
  intro qs
  induction qs with
  | nil => intro i hi; simp at hi
  | cons p r ih =>
    intro i hi
    have e : fcells (p :: r) = .int .i64 p.1.1 :: .slice p.2.1 p.1.2.length p.2.2 :: fcells r := by simp [fcells]
    rw [e]
    cases i with
    | zero => exact ⟨rfl, rfl⟩
    | succ i =>
      have hi' : i < r.length := by simpa using hi
      obtain ⟨h1, h2⟩ := ih i hi'
      rw [show (i + 1) * 2 = i * 2 + 1 + 1 by omega]
      refine ⟨?_, ?_⟩
      · simpa using h1
      · rw [List.getElem?_cons_succ, List.getElem?_cons_succ]; simpa using h2
theorem DatSt.cap {L : Nat → Lab} {i : Int} {w : World} {a : Option Addr} {l c : Nat} {qs : List FpQ} (h : DatSt L i w a l c qs) : l ≤ c ∧ c ≤ maxLen ∧ (a = none → l = 0 ∧ c = 0) := by
  rcases h.own.2 with ⟨hv, hz⟩ | ⟨g, cc, cur, hv, _, _, h1, h2, _⟩
  · simp at hv
    obtain ⟨rfl, rfl, rfl⟩ := hv
    exact ⟨Nat.le_refl _, Nat.zero_le _, fun _ => ⟨rfl, rfl⟩⟩
  · simp at hv
    obtain ⟨rfl, rfl⟩ := hv
    exact ⟨h1, h2, fun e => by cases e⟩
/-- Its cells lie in one block, from the beginning on. -/
theorem DatSt.cells {L : Nat → Lab} {i : Int} {w : World} {a : Option Addr} {l c : Nat} {qs : List FpQ} (h : DatSt L i w a l c qs) (h0 : 0 < l) :
    ∃ g cur, a = some ⟨g, 0, none⟩ ∧ w.heap[g]? = some (.cells cur 40 (0, 0)) ∧ cur.size = c * 2 ∧ cur.toList.take (l * 2) = fcells qs ∧ L g = .row i := by
  rcases h.own.2 with ⟨hv, hz⟩ | ⟨g, cc, cur, hv, _, hg, h1, h2, h3, h4⟩
  · omega
  · simp at hv
    obtain ⟨rfl, rfl⟩ := hv
    exact ⟨g, cur, rfl, hg, h3, h4, h.lab g (by simp [Value.ownBlock])⟩
theorem DatSt.rd {L : Nat → Lab} {i : Int} {w : World} {a : Option Addr} {l c : Nat} {qs : List FpQ} (h : DatSt L i w a l c qs) : RdD w a (qs.map Prod.fst) := by
  intro j hj
  have hj' : j < qs.length := by simpa using hj
  have hl := h.len
  obtain ⟨g, cur, rfl, hg, h3, h4, _⟩ := h.cells (by omega)
  obtain ⟨e1, e2⟩ := fcells_at qs j hj'
  have hown := h.each qs[j] (List.getElem_mem hj')
  obtain ⟨k1, k2⟩ := own_cap hown
  have hcur : ∀ (x : Nat) (v : Value), (fcells qs)[x]? = some v → cur[x]? = some v := by
    intro x v hx
    rw [← h4] at hx
    rw [List.getElem?_take] at hx
    split at hx
    · simpa using hx
    · cases hx
  refine ⟨g, 0, qs[j].2.1, qs[j].2.2, rfl, ?_, ?_, ?_, k2⟩
  · rw [Nat.zero_add, obj_cell hg, hcur _ _ e1]; simp
  · rw [Nat.zero_add, obj_cell hg, hcur _ _ e2]; simp
  · simpa using k1
theorem ahead_count (l : List Fp) (h : OkD l) (k : Int) (n : Nat) (hn : n ≤ l.length) (h1 : ∀ i (hi : i < l.length), i < n → ¬ k < endP l[i]) (h2 : ∀ i (hi : i < l.length), n ≤ i → k < endP l[i]) : n = (aheadP l (k + 1)).length := by
  unfold aheadP
  induction l generalizing n with
  | nil => simp at hn; subst hn; rfl
  | cons p t ih =>
    have ht : OkD t := ⟨fun q hq => h.each q (List.mem_cons_of_mem _ hq), (List.pairwise_cons.1 h.apart).2⟩
    rw [List.takeWhile_cons]
    cases n with
    | zero =>
      have := h2 0 (by simp) (by omega)
      simp only [List.getElem_cons_zero] at this
      rw [if_neg (by simp; omega)]
      rfl
    | succ n =>
      have := h1 0 (by simp) (by omega)
      simp only [List.getElem_cons_zero] at this
      rw [if_pos (by simp; omega)]
      simp only [List.length_cons]
      rw [← ih ht n (by simpa using hn) (fun i hi hin => by have := h1 (i + 1) (by simpa using hi) (by omega); simpa using this) (fun i hi hin => by have := h2 (i + 1) (by simpa using hi) (by omega); simpa using this)]
theorem okD_mono {l : List Fp} (h : OkD l) {i j : Nat} (hi : i < l.length) (hj : j < l.length) (hij : i ≤ j) : endP l[i] ≤ endP l[j] := by
  rcases Nat.lt_or_ge i j with hlt | hge
  · have := List.pairwise_iff_getElem.1 h.apart i j hi hj hlt
    unfold endP at *; omega
  · have : i = j := by omega
    subst this; exact Int.le_refl _
set_option maxHeartbeats 1000000 in
/-- How many pieces end no later than k. -/
theorem after_any (l : List Fp) (hl : OkD l) (a : Option Addr) (c : Nat) (k : Int) (w : World) (hr : RdD w a l) (hc : l.length ≤ c) (hcm : c ≤ maxLen) (hlen : l.length ≤ 1099511627776) (hk : -4611686018427387904 ≤ k ∧ k ≤ 4611686018427387904) :
    Calls Tryz.prog 46 #[.slice a l.length c, .int .i64 k] w fun e w' => e = .returned (.int .i64 ((aheadP l (k + 1)).length : Int)) ∧ Kept NoB w w' := by
  obtain ⟨w1, hw1⟩ : ∃ w1, w1 = (w.alloc (.cells #[.slice a l.length c] 61)).alloc (.cells #[.int .i64 k] 3) := ⟨_, rfl⟩
  have hk1 : Kept NoB w w1 := by rw [hw1]; exact ((Kept.refl NoB w).alloc _).alloc _
  have b1 : w1.cell? ⟨w.heap.size, 0, none⟩ = some (.slice a l.length c) := by
    rw [hw1]; exact ((Kept.refl NoB _).alloc _).cell (cell_new 0 rfl)
  have b2 : w1.cell? ⟨w.heap.size + 1, 0, none⟩ = some (.int .i64 k) := by
    rw [hw1]; exact cell_new 0 (by simp)
  have hS := search_after l.length #[.pointer (some ⟨w.heap.size, 0, none⟩), .pointer (some ⟨w.heap.size + 1, 0, none⟩)] (fun i => if hi : i < l.length then decide (k < endP l[i]) else true) w1 hlen
    (fun x y hxy hy hx => by
      have hxl : x < l.length := by omega
      simp only [hxl, hy, dif_pos, decide_eq_true_eq] at hx ⊢
      have := okD_mono hl hxl hy hxy
      omega)
    (fun W i hkW hi => by
      have := after1_any l hl a c w.heap.size (w.heap.size + 1) k i hi W ((hr.kept hk1).kept hkW) (hkW.cell b1) (hkW.cell b2) hlen
      simp only [hi, dif_pos]
      exact this)
  have hA : ∀ n, n ≤ l.length → (∀ j, j < n → (if hi : j < l.length then decide (k < endP l[j]) else true) = false) → (∀ j, n ≤ j → j < l.length → (if hi : j < l.length then decide (k < endP l[j]) else true) = true) → n = (aheadP l (k + 1)).length := by
    intro n hn h1 h2
    refine ahead_count l hl k n hn (fun i hi hin => ?_) (fun i hi hin => ?_)
    · have := h1 i hin; simp only [hi, dif_pos, decide_eq_false_iff_not] at this; exact this
    · have := h2 i hin hi; simp only [hi, dif_pos, decide_eq_true_eq] at this; exact this
  have hS2 : Calls Tryz.prog 48 #[.int .i64 (l.length : Int), .func (.func 70) #[] #[.pointer (some ⟨w.heap.size, 0, none⟩), .pointer (some ⟨w.heap.size + 1, 0, none⟩)]] w1 fun e w' => e = .returned (.int .i64 ((aheadP l (k + 1)).length : Int)) ∧ Kept NoB w1 w' := by
    refine hS.mono ?_
    rintro e w' ⟨i, rfl, h1, h2, h3, h4⟩
    exact ⟨by rw [hA i h1 h2 h3], h4⟩
  have HS := Lib.hid hS2; have HW := Lib.hid hw1; have HK1 := Lib.hid hk1
  obtain ⟨A, hAe⟩ : ∃ A, A = (aheadP l (k + 1)).length := ⟨_, rfl⟩
  rw [← hAe] at HS ⊢
  obtain ⟨n, hn⟩ : ∃ n, n = l.length := ⟨_, rfl⟩
  rw [← hn] at HS HW hc b1 ⊢
  clear hS hS2 hw1 hk1 b2 hA hr hAe hn hl hlen
  go_enter Tryz.func46, Tryz.ntmps46
  go_upto_region 1 with fail
  rw [← HW.out]
  go_wp2_with fail
  refine HS.out.mono ?_
  rintro e w2 ⟨rfl, hk2⟩
  go_wp2
  go_ret
  exact ⟨rfl, HK1.out.trans hk2⟩
end Go.Proofs.YtgbakogihkdddaaGreatDoor
