/-
  A tree of files in memory: nodes with other names, other marks; a node gone.
-/
import Derived.Test.YtilndmmjdbhmgaaFsQ
namespace Go.Proofs.Ytilndmmjdbhmgaa
open Go.RowKit
set_option linter.unusedVariables false
set_option linter.unusedSimpArgs false

theorem nodes_done {L : Nat → Lab} {B B' : Int → Option Nat} {mb : Nat} {S : Nat → Prop} {w w' : World} {f : Nat} {T T' : FsP} (h : FsIn L B mb S w f T) {K : Nat → Prop} (ok' : OkT T') (hk : Kept K w w')
    (hK : ∀ j, K j → j < w.heap.size → L j ≠ .no ∧ ∀ i, L j ≠ .row i ∧ L j ≠ .byt i) (obj' : w'.heap[f]? = some (.cells (fsC mb T').toArray 74 (0, 0))) (tab' : NodesAt w' mb B' T'.cnt)
    (dom' : ∀ i, (B' i).isSome = (T'.nd i).isSome) (sub : ∀ i b, B' i = some b → B i = some b)
    (node' : ∀ i b n', B' i = some b → T'.nd i = some n' → ∃ n, T.nd i = some n ∧ ((n' = n ∧ ∀ j, K j → j < w.heap.size → L j ≠ .nd i ∧ L j ≠ .nm i) ∨
      (n'.data = n.data ∧ n'.v.kind = n.v.kind ∧ ∀ m a c, w.heap[b]? = some (.cells (ndC n m a c).toArray 71 (0, 0)) → w'.heap[b]? = some (.cells (ndC n' m a c).toArray 71 (0, 0)) ∧ (n.v.kind = 6 → ∀ mb2, m = some mb2 → NamesAt w mb2 n.names → L mb2 = .nm i → NamesAt w' mb2 n'.names)))) :
    FsSt (Grow S w w') w' f T' ∧ Kept S w w' := by
  have hk2 : Kept (fun j => K j ∧ j < w.heap.size) w w' := hk.mono (fun j hj e => ⟨e, hj⟩)
  refine ⟨⟨L, B', mb, FsIn.rebuild h ok' hk2 obj' tab' dom' (fun k x e _ => e) ?_ ?_⟩, hk.mono (fun j hj e => ?_)⟩
  · intro i n' b hn' hb'
    obtain ⟨n, hn, hor⟩ := node' i b n' hb' hn'
    have hb := sub i b hb'
    rcases hor with ⟨rfl, hK2⟩ | ⟨hd, hkd, hm⟩
    · exact .inl ⟨hn, hb, fun j ⟨hj, hj2⟩ => ⟨(hK2 j hj hj2).1, (hK2 j hj hj2).2, ((hK j hj hj2).2 i).1, ((hK j hj hj2).2 i).2⟩⟩
    · right
      obtain ⟨m, a, c, qs, hN⟩ := h.node i n b hn hb
      obtain ⟨h1, h2⟩ := hm m a c hN.obj
      refine ⟨m, a, c, qs, h1, hN.lab, fun h6 => ?_, fun h6 => hN.plain (by rw [← hkd]; exact h6), ?_, by rw [hd]; exact hN.data⟩
      · rw [hkd] at h6
        obtain ⟨mb2, e1, e2, e3⟩ := hN.dir h6
        exact ⟨mb2, e1, e2, h2 h6 mb2 e1 e3 e2⟩
      · have := hN.dat.kept hk2 (fun j e hj => ((hK j hj.1 hj.2).2 i).1 e) (fun j e hj => ((hK j hj.1 hj.2).2 i).2 e)
        rw [← hd] at this
        exact this
  · intro j hj
    have := h.own j hj
    exact ⟨.inl this.1, Nat.lt_of_lt_of_le this.2 hk.size⟩
  · exact (h.own j (fun x ex => by rw [← ex]; exact (hK j e hj).1)).1
end Go.Proofs.Ytilndmmjdbhmgaa
