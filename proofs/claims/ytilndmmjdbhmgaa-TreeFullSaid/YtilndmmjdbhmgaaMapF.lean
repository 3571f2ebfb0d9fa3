/-
  Maps of the call's own, told by what each key leads to.
-/
import Derived.Maps.OwnSet
import Derived.Maps.OwnOps
import Derived.Maps.RangeWalk
import Derived.Test.YtilndmmjdbhmgaaBase
namespace Go.Proofs.Ytilndmmjdbhmgaa
open Go.RowKit
open Go.Maps (Keyed)
open Go.WideElems (Fit rd rg pl rd_val elemAt)
set_option linter.unusedVariables false
set_option linter.unusedSimpArgs false

abbrev Dt := DataW Unit
abbrev Rdr := Value → Option (Dt × List MemPlace)

/-- Block b is a map of c entries; each key leads to what F says. -/
def MapF (w : World) (P : Program) (k : TypeId) (R : Rdr) (b : Nat) (F : Lit → Option Dt) (c : Nat) : Prop :=
  ∃ D, w.ownsMap P k R b c D ∧ Maps.size D = c ∧ (∀ l, Maps.has D l = (F l).isSome) ∧ ∀ l d z, F l = some d → D.atKey l z = d

/-- F but for one key. -/
def updF (F : Lit → Option Dt) (kl : Lit) (d : Dt) : Lit → Option Dt := fun l => if l.sameKey kl then some d else F l
def delF (F : Lit → Option Dt) (kl : Lit) : Lit → Option Dt := fun l => if l.sameKey kl then none else F l

theorem own_tight {w : World} {P : Program} {k : TypeId} {R : Rdr} {b n : Nat} {D : Dt} (h : w.ownsMap P k R b n D) : w.ownsMap P k R b (Maps.size D) D := by
  obtain ⟨es, clock, hb, F, hs, rfl⟩ := h
  exact ⟨es, clock, hb, F, by simp [Maps.size, length_sorted], rfl⟩

section
variable {w w' : World} {P : Program} {k t e : TypeId} {R : Rdr} {b c : Nat} {F : Lit → Option Dt}

theorem MapF.made (w : World) (P : Program) (k : TypeId) (R : Rdr) : MapF (w.alloc (.map #[] 0)) P k R w.heap.size (fun _ => none) 0 :=
  ⟨.map [], World.ownsMap_made w P k R, rfl, fun l => rfl, fun l d z h => by cases h⟩
theorem MapF.lt (h : MapF w P k R b F c) : b < w.heap.size := by obtain ⟨D, ho, _⟩ := h; exact ho.lt
theorem MapF.heap (h : MapF w P k R b F c) (hb : w'.heap[b]? = w.heap[b]?) : MapF w' P k R b F c := by
  obtain ⟨D, ⟨es, clock, h1, h2⟩, h3⟩ := h
  exact ⟨D, ⟨es, clock, hb.trans h1, h2⟩, h3⟩
theorem MapF.kept {S : Nat → Prop} (h : MapF w P k R b F c) (hk : Kept S w w') (hs : ¬ S b) : MapF w' P k R b F c := h.heap (hk.block b h.lt hs)
theorem MapF.ne_cells (h : MapF w P k R b F c) {R' : Nat} {cs : Array Value} {ty : TypeId} {fr : Nat × Nat} (ho : w.heap[R']? = some (.cells cs ty fr)) : b ≠ R' := by
  obtain ⟨D, ⟨es, clock, h1, h2⟩, h3⟩ := h
  intro e
  rw [← e, h1] at ho
  cases ho

theorem MapF.look_ok (h : MapF w P k R b F c) (K : Keyed P k) (ht : P.underlying t = some (.map k e)) {z : Value} (hz : (zeroValue e).run P w = .ok z w) {zd : Dt} {zp : List MemPlace} (hzd : R z = some (zd, zp))
    {key : Value} {kl : Lit} (hkey : keyOf P k key = some kl) : ∃ v ps, (Instr.lookup t (.map (some b)) key true).run P w = .ok (.tuple #[v, .bool (F kl).isSome]) w ∧ R v = some ((F kl).getD zd, ps) := by
  obtain ⟨D, ho, hc, hh, ha⟩ := h
  obtain ⟨v, ps, hr, hv⟩ := ho.look_ok K ht hz hzd hkey
  refine ⟨v, ps, by rw [hr, hh], ?_⟩
  rw [hv]
  cases hF : F kl with
  | some d => rw [ha kl d zd hF]; rfl
  | none => rw [Maps.atKey_of_not_has (by rw [hh, hF]; rfl)]; rfl

theorem MapF.look (h : MapF w P k R b F c) (K : Keyed P k) (ht : P.underlying t = some (.map k e)) {z : Value} (hz : (zeroValue e).run P w = .ok z w) {zd : Dt} {zp : List MemPlace} (hzd : R z = some (zd, zp))
    {key : Value} {kl : Lit} (hkey : keyOf P k key = some kl) : ∃ v ps, (Instr.lookup t (.map (some b)) key false).run P w = .ok v w ∧ R v = some ((F kl).getD zd, ps) := by
  obtain ⟨D, ho, hc, hh, ha⟩ := h
  obtain ⟨v, ps, hr, hv⟩ := ho.lookup K ht hz hzd hkey
  refine ⟨v, ps, hr, ?_⟩
  rw [hv]
  cases hF : F kl with
  | some d => rw [ha kl d zd hF]; rfl
  | none => rw [Maps.atKey_of_not_has (by rw [hh, hF]; rfl)]; rfl

theorem MapF.len (h : MapF w P k R b F c) (ht : P.underlying t = some (.map k e)) (ty : TypeId) : (Builtin.len_ #[t] ty #[.map (some b)]).run P w = .ok (.int .i64 c) w := by
  obtain ⟨D, ho, hc, _⟩ := h
  rw [ho.len ht ty, hc]

theorem MapF.store (h : MapF w P k R b F c) (K : Keyed P k) (ht : P.underlying t = some (.map k e)) (hn : c < maxLen) {key val : Value} {kl : Lit} {d : Dt} {ps : List MemPlace}
    (hkey : keyOf P k key = some kl) (hv : R val = some (d, ps)) : ∃ w', (Instr.mapUpdate t (.map (some b)) key val).run P w = .ok () w' ∧ MapF w' P k R b (updF F kl d) (if (F kl).isSome then c else c + 1) ∧ w.mapTurned w' b := by
  obtain ⟨D, ho, hc, hh, ha⟩ := h
  have hkl := K.key hkey
  have hD := ho.isMap
  obtain ⟨w1, hr, ho1, ht1⟩ := ho.store K ht hn hkey hv
  refine ⟨w1, hr, ⟨D.put kl d, ?_, ?_, ?_, ?_⟩, ht1⟩
  · have := own_tight ho1
    rw [Maps.size_put (ho.tidy K), hh, hc] at this
    exact this
  · rw [Maps.size_put (ho.tidy K), hh, hc]
  · intro l
    unfold updF
    by_cases hl : l.sameKey kl = true
    · have := WideAt.sameKey_eq hl
      subst this
      rw [if_pos hl, Maps.has_put_same hD hkl]
      rfl
    · have hne : l ≠ kl := fun e => hl (by rw [e]; exact WideAt.sameKey_self hkl)
      rw [if_neg hl, Maps.has_put_other hne, hh]
  · intro l d' z h'
    unfold updF at h'
    by_cases hl : l.sameKey kl = true
    · have := WideAt.sameKey_eq hl
      subst this
      rw [if_pos hl] at h'
      cases h'
      exact Maps.atKey_put_same hD hkl d z
    · have hne : l ≠ kl := fun e => hl (by rw [e]; exact WideAt.sameKey_self hkl)
      rw [if_neg hl] at h'
      rw [Maps.atKey_put_other hne]
      exact ha l d' z h'

theorem MapF.drop (h : MapF w P k R b F c) (K : Keyed P k) (ht : P.underlying t = some (.map k e)) {key : Value} {kl : Lit} (hkey : keyOf P k key = some kl) (ty : TypeId) :
    ∃ w', (Builtin.delete_ #[t, k] ty #[.map (some b), key]).run P w = .ok (.tuple #[]) w' ∧ MapF w' P k R b (delF F kl) (if (F kl).isSome then c - 1 else c) ∧ w.mapTurned w' b := by
  obtain ⟨D, ho, hc, hh, ha⟩ := h
  have hkl := K.key hkey
  obtain ⟨w1, hr, ho1, ht1⟩ := ho.drop K ht hkey ty
  have hsz := Maps.size_del (k := kl) (ho.tidy K)
  rw [hh, hc] at hsz
  have hsz' : Maps.size (D.del kl) = if (F kl).isSome then c - 1 else c := by
    split
    · rename_i hs; rw [if_pos hs] at hsz; omega
    · rename_i hs; rw [if_neg hs] at hsz; omega
  refine ⟨w1, hr, ⟨D.del kl, ?_, hsz', ?_, ?_⟩, ht1⟩
  · have := own_tight ho1
    rw [hsz'] at this
    exact this
  · intro l
    unfold delF
    by_cases hl : l.sameKey kl = true
    · have := WideAt.sameKey_eq hl
      subst this
      rw [if_pos hl, Maps.has_del_same]
      rfl
    · have hne : l ≠ kl := fun e => hl (by rw [e]; exact WideAt.sameKey_self hkl)
      rw [if_neg hl, Maps.has_del_other hne, hh]
  · intro l d' z h'
    unfold delF at h'
    by_cases hl : l.sameKey kl = true
    · rw [if_pos hl] at h'; cases h'
    · have hne : l ≠ kl := fun e => hl (by rw [e]; exact WideAt.sameKey_self hkl)
      rw [if_neg hl] at h'
      rw [Maps.atKey_del_other hne]
      exact ha l d' z h'
end
theorem turned_kept {w w' : World} {b : Nat} (h : w.mapTurned w' b) : Kept (OneB b) w w' := by
  have hg := h.grown
  exact ⟨hg.os, hg.tape, hg.output, hg.size, fun i hi hs => hg.block i hi (fun e => hs (by cases e; rfl))⟩
theorem turned_size {w w' : World} {b : Nat} (h : w.mapTurned w' b) : w'.heap.size = w.heap.size := by
  obtain ⟨es, clock, es', clock', hb, rfl⟩ := h
  simp [ChangeMaps.setBlock]
end Go.Proofs.Ytilndmmjdbhmgaa
