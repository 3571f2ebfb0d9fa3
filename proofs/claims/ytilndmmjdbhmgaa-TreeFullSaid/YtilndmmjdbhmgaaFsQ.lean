/-
  A tree of files in memory: one node with other data.
-/
import Derived.Test.YtilndmmjdbhmgaaFsO
namespace Go.Proofs.Ytilndmmjdbhmgaa
open Go.RowKit
set_option linter.unusedVariables false
set_option linter.unusedSimpArgs false

theorem data_done {L : Nat → Lab} {B : Int → Option Nat} {mb : Nat} {S : Nat → Prop} {w w' : World} {f : Nat} {T T' : FsP} (h : FsIn L B mb S w f T) {i : Int} {n n' : NdP} {D : Nat} {m : Option Nat} {a a' : Option Addr} {c c' : Nat} {qs qs' : List FpQ} {K : Nat → Prop}
    (hB : B i = some D) (hN : NdSt L i w D n m a c qs) (ok' : OkT T') (hnd : T'.nd = updN T.nd i (some n')) (hcnt : T'.cnt = T.cnt) (hkind : n'.v.kind = n.v.kind) (hnames : n'.names = n.names) (hk : Kept K w w')
    (hK : ∀ j, K j → j < w.heap.size → j = f ∨ j = D ∨ L j = .row i ∨ L j = .byt i) (obj' : w'.heap[f]? = some (.cells (fsC mb T').toArray 74 (0, 0))) (nd' : w'.heap[D]? = some (.cells (ndC n' m a' c').toArray 71 (0, 0)))
    (dat : DatO w' a' c' qs') (hq : qs'.map Prod.fst = n'.data) (hrow : ∀ j, (Value.slice a' qs'.length c').ownBlock = some j → L j = .row i ∨ w.heap.size ≤ j) (hbyt : ∀ j, BytB qs' j → L j = .byt i ∨ w.heap.size ≤ j) :
    FsSt (Grow S w w') w' f T' ∧ Kept S w w' := by
  have hlf := h.labf
  have hlm := h.labm
  have hlD := hN.lab
  have hS : ∀ j x, L j = x → x ≠ .no → S j ∧ j < w.heap.size := fun j x => h.low
  have hk2 : Kept (fun j => K j ∧ j < w.heap.size) w w' := hk.mono (fun j hj e => ⟨e, hj⟩)
  have hlen : qs'.length = n'.data.length := by rw [← hq]; simp
  obtain ⟨L', hL'⟩ : ∃ L' : Nat → Lab, L' = fun j => if w.heap.size ≤ j then (if (Value.slice a' qs'.length c').ownBlock = some j then .row i else if j < w'.heap.size then .byt i else .no) else L j := ⟨_, rfl⟩
  have hold : ∀ j, j < w.heap.size → L' j = L j := fun j hj => by rw [hL']; exact if_neg (by omega)
  have hL1 : ∀ j x, L j = x → x ≠ .no → L' j = x := fun j x e hx => by rw [hold j (hS j x e hx).2]; exact e
  have hrow2 : ∀ j, (Value.slice a' qs'.length c').ownBlock = some j → L' j = .row i := fun j hj => by
    rcases Nat.lt_or_ge j w.heap.size with h1 | h1
    · rw [hold j h1]
      rcases hrow j hj with h2 | h2
      · exact h2
      · omega
    · rw [hL']
      show (if w.heap.size ≤ j then _ else _) = _
      rw [if_pos h1, if_pos hj]
  have hbyt2 : ∀ j, BytB qs' j → L' j = .byt i := fun j hj => by
    rcases Nat.lt_or_ge j w.heap.size with h1 | h1
    · rw [hold j h1]
      rcases hbyt j hj with h2 | h2
      · exact h2
      · omega
    · rw [hL']
      show (if w.heap.size ≤ j then _ else _) = _
      rw [if_pos h1, if_neg (row_byt dat hj), if_pos (by obtain ⟨q, hq, e⟩ := hj; exact ((dat.each q hq).lt j e).2)]
  have hno : ∀ j x, L j = x → x ≠ .no → x ≠ .fs → x ≠ .nd i → x ≠ .row i → x ≠ .byt i → ¬ K j := fun j x e h0 h1 h2 h3 h4 hj => by
    rcases hK j hj (hS j x e h0).2 with e2 | e2 | e2 | e2
    · subst e2; rw [hlf] at e; exact h1 e.symm
    · subst e2; rw [hlD] at e; exact h2 e.symm
    · rw [e2] at e; exact h3 e.symm
    · rw [e2] at e; exact h4 e.symm
  refine ⟨⟨L', B, mb, FsIn.rebuild h ok' hk2 obj' ?_ ?_ hL1 ?_ ?_⟩, hk.mono (fun j hj e => ?_)⟩
  · rw [hcnt]
    exact MapF.kept h.tab hk (hno mb _ hlm (by simp) (by simp) (by simp) (by simp) (by simp))
  · intro x
    rw [hnd]
    by_cases e : x = i
    · subst e; rw [updN_same, hB]; rfl
    · rw [updN_other _ _ e]; exact h.dom x
  · intro x nx bx hx hbx
    rw [hnd] at hx
    by_cases e : x = i
    · subst e
      rw [updN_same] at hx
      cases hx
      rw [hB] at hbx
      cases hbx
      right
      refine ⟨m, a', c', qs', nd', hL1 _ _ hlD (by simp), fun h6 => ?_, fun h6 => hN.plain (by rw [← hkind]; exact h6), ⟨by rw [hlen], by rw [← hlen]; exact dat.own, fun j hj => hrow2 j (by rw [hlen]; exact hj), dat.each, fun q hq j hj => hbyt2 j ⟨q, hq, hj⟩, dat.apart⟩, hq⟩
      rw [hkind] at h6
      obtain ⟨mb2, e1, e2, e3⟩ := hN.dir h6
      refine ⟨mb2, e1, hL1 _ _ e2 (by simp), ?_⟩
      rw [hnames]
      exact MapF.kept e3 hk (hno mb2 _ e2 (by simp) (by simp) (by simp) (by simp) (by simp))
    · rw [updN_other _ _ e] at hx
      refine .inl ⟨hx, hbx, fun j ⟨hj, hj2⟩ => ?_⟩
      have e' : i ≠ x := fun q => e q.symm
      rcases hK j hj hj2 with e2 | e2 | e2 | e2
      · rw [e2, hlf]; simp
      · rw [e2, hlD]; simp [e']
      · rw [e2]; simp [e']
      · rw [e2]; simp [e']
  · intro j hj
    rcases Nat.lt_or_ge j w.heap.size with h1 | h1
    · have h2 := h.own j (fun x ex => by rw [← ex, ← hold j h1]; exact hj _ rfl)
      exact ⟨.inl h2.1, Nat.lt_of_lt_of_le h1 hk.size⟩
    · have h2 : j < w'.heap.size := by
        rcases Nat.lt_or_ge j w'.heap.size with h3 | h3
        · exact h3
        · exfalso
          refine hj _ rfl ?_
          rw [hL']
          show (if w.heap.size ≤ j then _ else _) = _
          rw [if_pos h1, if_neg (fun e => by have := (dat.own.lt j e).2; omega), if_neg (by omega)]
      exact ⟨.inr ⟨h1, h2⟩, h2⟩
  · rcases hK j e hj with e2 | e2 | e2 | e2
    · rw [e2]; exact (hS f _ hlf (by simp)).1
    · rw [e2]; exact (hS D _ hlD (by simp)).1
    · exact (hS j _ e2 (by simp)).1
    · exact (hS j _ e2 (by simp)).1
end Go.Proofs.Ytilndmmjdbhmgaa
