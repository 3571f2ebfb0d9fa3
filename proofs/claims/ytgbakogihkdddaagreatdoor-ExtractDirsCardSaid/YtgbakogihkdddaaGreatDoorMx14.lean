/-
  A tree of files in memory: Remove.
  strings.SplitSeq at "/": what its function does with the loop that ranges over it.
  A loop that ranges over strings.SplitSeq(s, "/"): what its body owes, and what follows.
-/
import Derived.Test.YtgbakogihkdddaaGreatDoorMx13
import Derived.Deep.RegionLaw
import Derived.RangeFuncKeeps
import Derived.RangeFuncLeaves
import Derived.RangeFuncCalls
import Derived.Shelf.Abstract
import Derived.WalkKit
import Derived.OwnWalkIn
import Derived.TacticsInMore
import Derived.LoopNIn
import Derived.LoopIn
import Derived.RangeFuncFrom
namespace Go.Proofs.YtgbakogihkdddaaGreatDoor
open Go.RowKit
open Go.Maps (Keyed)
set_option linter.unusedVariables false
set_option linter.unusedSimpArgs false
set_option maxRecDepth 20000

section
variable {ops : Array Oper} {rest : List Oper} {o : Oper} {a : Act} {w : World} {Q : Exit → Act → World → Prop}
theorem wpList_names_delete (hgd : o.guard = none) (m x : Operand) (hop : o.op = Op.call { callee := Callee.builtin Builtin.delete, args := #[m, x], argTypes := #[60, 9] }) {mb : Nat} {l : Nms} (hM : NamesAt w mb l) (hl : OkK l) (hm : a.eval m = .map (some mb)) {s : List UInt8} (hx : a.eval x = .string (strB s)) (hs : s.length ≤ maxLen) {i : Int} (hn : getK l s = some i)
    (h : ∀ w', NamesAt w' mb (delK l s) → Kept (OneB mb) w w' → w'.heap.size = w.heap.size → wpList Tryz.prog ops Q rest (a.put o.dst (.tuple #[])) w') : wpList Tryz.prog ops Q (o :: rest) a w := by
  refine wpList_plain hgd fun K' hK' => ?_
  obtain ⟨w', hr, h1, h2, h3⟩ := names_del hM hl s hs hn o.type
  unfold Oper.wp
  simp [execOp, hop, resolve, invoke, builtin, hm, hx, hr, Result.andThen]
  exact hK' _ _ (h w' h1 h2 h3)
theorem wpList_nodes_delete (hgd : o.guard = none) (m x : Operand) (hop : o.op = Op.call { callee := Callee.builtin Builtin.delete, args := #[m, x], argTypes := #[64, 3] }) {mb : Nat} {B : Int → Option Nat} {c : Nat} (hM : NodesAt w mb B c) (hm : a.eval m = .map (some mb)) {k : Int} (hx : a.eval x = .int .i64 k) (hk : -9223372036854775808 ≤ k ∧ k ≤ 9223372036854775807)
    (h : ∀ w', NodesAt w' mb (updB B k none) (if (B k).isSome then c - 1 else c) → Kept (OneB mb) w w' → w'.heap.size = w.heap.size → wpList Tryz.prog ops Q rest (a.put o.dst (.tuple #[])) w') : wpList Tryz.prog ops Q (o :: rest) a w := by
  refine wpList_plain hgd fun K' hK' => ?_
  obtain ⟨w', hr, h1, h2, h3⟩ := nodes_del hM k hk o.type
  unfold Oper.wp
  simp [execOp, hop, resolve, invoke, builtin, hm, hx, hr, Result.andThen]
  exact hK' _ _ (h w' h1 h2 h3)
theorem wpList_names_len (hg : o.guard = none) (m : Operand) (hop : o.op = Op.call { callee := Callee.builtin Builtin.len, args := #[m], argTypes := #[60] })
    {m1 : Option Nat} {k : Nat} (hM : (m1 = none ∧ k = 0) ∨ ∃ mb l, m1 = some mb ∧ NamesAt w mb l ∧ l.length = k) (hm : a.eval m = .map m1) (hK : wpList Tryz.prog ops Q rest (a.put o.dst (.int .i64 k)) w) : wpList Tryz.prog ops Q (o :: rest) a w := by
  refine wpList_plain hg fun K' hK' => ?_
  unfold Oper.wp
  rcases hM with ⟨rfl, rfl⟩ | ⟨mb, l, rfl, hM, rfl⟩
  · have e : (Builtin.len_ #[60] o.type #[.map none]).run Tryz.prog w = .ok (.int .i64 0) w := by
      simp [Builtin.len_, run_underlying Tryz.underlying60]
      rfl
    simp [execOp, hop, resolve, invoke, builtin, hm, e, Result.andThen]
    exact hK' _ _ hK
  · simp [execOp, hop, resolve, invoke, builtin, hm, MapF.len hM Tryz.underlying60 o.type, Result.andThen]
    exact hK' _ _ hK
end
theorem removeP_place {T : FsP} {dir : Int} {part : List UInt8} (h : placeE T dir part ≠ 0) : removeP T dir part = (T, placeE T dir part) := by
  unfold removeP placeE at *
  cases hn : T.nd dir with
  | none => rfl
  | some d =>
    rw [hn] at h
    simp only at h ⊢
    by_cases h6 : d.v.kind = 6
    · rw [if_pos h6] at h ⊢
      rw [if_pos h6]
      by_cases ho : okN (strB part) = true
      · rw [if_pos ho] at h; exact absurd rfl h
      · rw [if_neg ho, if_neg ho]
    · rw [if_neg h6, if_neg h6]
theorem removeP_none {T : FsP} {dir : Int} {part : List UInt8} {d : NdP} (hd : T.nd dir = some d) (h6 : d.v.kind = 6) (ho : okN (strB part) = true) (hg : getK d.names part = none) : removeP T dir part = (T, 10) := by
  unfold removeP
  rw [hd]
  simp only
  rw [if_pos h6, if_pos ho, hg]
theorem removeP_yes {T : FsP} {dir ino : Int} {part : List UInt8} {d m : NdP} (hd : T.nd dir = some d) (h6 : d.v.kind = 6) (ho : okN (strB part) = true) (hg : getK d.names part = some ino) (hm : T.nd ino = some m) :
    removeP T dir part = if m.names = [] then (removeT T dir d part ino m, 0) else (T, 13) := by
  unfold removeP
  rw [hd]
  simp only
  rw [if_pos h6, if_pos ho, hg]
  simp only
  rw [hm]

theorem ndC_inj {n : NdP} {m m' : Option Nat} {a a' : Option Addr} {c c' : Nat} {w : World} {b : Nat} (h1 : w.heap[b]? = some (.cells (ndC n m a c).toArray 63 (0, 0))) (h2 : w.heap[b]? = some (.cells (ndC n m' a' c').toArray 63 (0, 0))) : m = m' ∧ a = a' ∧ c = c' := by
  rw [h1] at h2
  have he2 := Option.some.inj h2
  injection he2 with he3 _ _
  have he4 : ndC n m a c = ndC n m' a' c' := by
    have := congrArg Array.toList he3
    simpa using this
  unfold ndC at he4
  simp [nvC] at he4
  exact he4
theorem two_done {L : Nat → Lab} {B : Int → Option Nat} {mb : Nat} {S : Nat → Prop} {w w' : World} {f : Nat} {T T' : FsP} (h : FsIn L B mb S w f T) {dir ino : Int} {d m : NdP} {D M mb2 : Nat} {m1 : Option Nat} {a1 a2 : Option Addr} {q1 q2 : Nat} {qs1 qs2 : List FpQ} {l : Nms} {v' : NodeV}
    (hd : T.nd dir = some d) (hm : T.nd ino = some m) (hBD : B dir = some D) (hBM : B ino = some M) (hND : NdSt L dir w D d (some mb2) a2 q2 qs2) (hNM : NdSt L ino w M m m1 a1 q1 qs1) (hl2 : L mb2 = .nm dir) (hdi : dir ≠ ino) (hkd : v'.kind = m.v.kind)
    (ok' : OkT T') {o : Option NdP} (ho : o = none ∨ o = some { m with v := v' }) (hnd : T'.nd = updN (updN T.nd dir (some (named (T.clock + 1) d l))) ino o) {B' : Int → Option Nat} (hB' : ∀ i, i ≠ ino → B' i = B i) (hB2 : o.isSome = true → B' ino = B ino) (hB3 : o = none → B' ino = none)
    (hk : Kept (fun k => k = f ∨ k = D ∨ k = mb2 ∨ k = M ∨ k = mb) w w') (o8 : w'.heap[f]? = some (.cells (fsC mb T').toArray 66 (0, 0))) (tab' : NodesAt w' mb B' T'.cnt)
    (nb8 : w'.heap[D]? = some (.cells (ndC (touch (T.clock + 1) d) (some mb2) a2 q2).toArray 63 (0, 0))) (m8 : o.isSome = true → w'.heap[M]? = some (.cells (ndC { m with v := v' } m1 a1 q1).toArray 63 (0, 0))) (t8 : NamesAt w' mb2 l) :
    FsSt (Grow S w w') w' f T' ∧ Kept S w w' := by
  have hlf := h.labf
  have hlm := h.labm
  have hlD := hND.lab
  have hlM := hNM.lab
  refine nodes_done h (B' := B') ok' hk (fun j hj _ => ?_) o8 tab' (fun i => ?_) (fun i b e => ?_) (fun i b n' hb hn' => ?_)
  · rcases hj with e | e | e | e | e
    · rw [e, hlf]; simp
    · rw [e, hlD]; simp
    · rw [e, hl2]; simp
    · rw [e, hlM]; simp
    · rw [e, hlm]; simp
  · rw [hnd]
    by_cases e1 : i = ino
    · rw [e1, updN_same]
      rcases ho with ho | ho
      · rw [hB3 ho, ho]; rfl
      · rw [hB2 (by rw [ho]; rfl), ho, hBM]; rfl
    · rw [updN_other _ _ e1, hB' i e1, h.dom]
      by_cases e2 : i = dir
      · rw [e2, updN_same, hd]; rfl
      · rw [updN_other _ _ e2]
  · by_cases e1 : i = ino
    · rw [e1] at e ⊢
      rcases ho with ho | ho
      · rw [hB3 ho] at e; cases e
      · rw [hB2 (by rw [ho]; rfl)] at e; exact e
    · rw [hB' i e1] at e; exact e
  · rw [hnd] at hn'
    by_cases e1 : i = ino
    · rw [e1, updN_same] at hn'
      have hos : o.isSome = true := by rw [hn']; rfl
      rcases ho with ho | ho
      · rw [ho] at hn'; cases hn'
      rw [ho] at hn'
      cases hn'
      rw [e1, hB2 hos, hBM] at hb
      cases hb
      rw [e1]
      refine ⟨m, hm, .inr ⟨rfl, hkd, fun m3 a3 c3 he => ?_⟩⟩
      obtain ⟨e5, e6, e7⟩ := ndC_inj hNM.obj he
      subst e5 e6 e7
      refine ⟨m8 hos, fun h6m mbI e8 e9 e10 => ?_⟩
      refine MapF.kept e9 hk (fun e => ?_)
      rcases e with e | e | e | e | e
      · rw [e, hlf] at e10; cases e10
      · rw [e, hlD] at e10; cases e10
      · rw [e, hl2] at e10; injection e10 with e11; exact hdi e11
      · rw [e, hlM] at e10; cases e10
      · rw [e, hlm] at e10; cases e10
    · rw [updN_other _ _ e1] at hn'
      rw [hB' i e1] at hb
      by_cases e2 : i = dir
      · rw [e2, updN_same] at hn'
        cases hn'
        rw [e2, hBD] at hb
        cases hb
        rw [e2]
        refine ⟨d, hd, .inr ⟨rfl, rfl, fun m3 a3 c3 he => ?_⟩⟩
        obtain ⟨e5, e6, e7⟩ := ndC_inj hND.obj he
        subst e5 e6 e7
        refine ⟨by rw [nb8]; rfl, fun _ mb3 e8 _ _ => ?_⟩
        cases e8
        exact t8
      · rw [updN_other _ _ e2] at hn'
        refine ⟨n', hn', .inl ⟨rfl, fun j hj _ => ?_⟩⟩
        have e1' : ino ≠ i := fun q => e1 q.symm
        have e2' : dir ≠ i := fun q => e2 q.symm
        rcases hj with e | e | e | e | e
        · rw [e, hlf]; simp
        · rw [e, hlD]; simp [e2']
        · rw [e, hl2]; simp [e2']
        · rw [e, hlM]; simp [e1']
        · rw [e, hlm]; simp

set_option maxHeartbeats 4000000 in
theorem remove_any {S : Nat → Prop} {w : World} {f : Nat} {T : FsP} (h : FsSt S w f T) (dir : Int) (hdir : -9223372036854775808 ≤ dir ∧ dir ≤ 9223372036854775807) (part : List UInt8) (hs : part.length < 4294967281)
    (hclk : T.clock + 1 ≤ 4611686018427387904) :
    Calls Tryz.prog 84 #[.pointer (some ⟨f, 0, none⟩), .int .i64 dir, .string (strB part)] w fun e w' =>
      e = .returned (.int .i64 (removeP T dir part).2) ∧ FsSt (Grow S w w') w' f (removeP T dir part).1 ∧ Kept S w w' := by
  obtain ⟨L, B, mb, h⟩ := h
  have HP := Lib.hid (place_in h dir hdir part hs)
  have same : ∀ w', Kept NoB w w' → FsSt (Grow S w w') w' f T ∧ Kept S w w' := fun w' hk => ⟨⟨L, B, mb, (h.keptNo hk).mono (fun k e => .inl e)⟩, hk.mono (fun k _ e => e.elim)⟩
  obtain ⟨c0, c1, c2, c3, c4⟩ := h.cells
  have HT := Lib.hid h.tab
  by_cases hp : placeE T dir part = 0
  rotate_left
  · rw [if_neg hp, ptrV_none] at HP
    rw [removeP_place hp]
    obtain ⟨z, hz⟩ : ∃ z, z = placeE T dir part := ⟨_, rfl⟩
    rw [← hz] at hp HP ⊢
    have hz2 : (z == 0) = false := by simpa using hp
    have HSm := Lib.hid same
    clear hz h hp same
    go_enter Tryz.func84, Tryz.ntmps84
    go_wp2_with fail
    refine HP.out.mono ?_
    rintro e w2 ⟨rfl, hk2⟩
    go_wp2
    go_ret
    exact ⟨rfl, HSm.out _ hk2⟩
  obtain ⟨d, hd, h6, ho⟩ := placeE_dir hp
  rw [if_pos hp, hp] at HP
  obtain ⟨D, m2, a2, q2, qs2, hBD, hND⟩ := h.at hd
  obtain ⟨mb2, rfl, hl2, hM⟩ := hND.dir h6
  rw [hBD, ptrV_some] at HP
  have hs2 : part.length ≤ maxLen := by unfold maxLen; omega
  have k11 : w.cell? ⟨D, 11, none⟩ = some (.map (some mb2)) := by rw [hND.cell 11]; rfl
  have HM := Lib.hid hM
  cases hg : getK d.names part with
  | none =>
    rw [removeP_none hd h6 ho hg]
    have HG := Lib.hid hg
    have HSm := Lib.hid same
    clear h hp same hND hM hg
    go_enter Tryz.func84, Tryz.ntmps84
    go_wp2_with fail
    refine HP.out.mono ?_
    rintro e w2 ⟨rfl, hk2⟩
    have l11 := hk2.cell k11
    have HK2 := Lib.hid hk2
    clear hk2
    go_wp2_with (first | (at_lookup; refine wpList_names_ok rfl _ _ rfl (MapF.kept HM.out HK2.out id) rfl rfl hs2 ?_; rw [HG.out]) | fail)
    go_ret
    exact ⟨rfl, HSm.out _ HK2.out⟩
  | some ino =>
    obtain ⟨_, _, m, hm, _⟩ := (h.ok.node dir d hd).names _ (getK_mem hg)
    rw [removeP_yes hd h6 ho hg hm]
    obtain ⟨M, m1, a1, q1, qs1, hBM, hNM⟩ := h.at hm
    have om := h.ok.node ino m hm
    have hino : -9223372036854775808 ≤ ino ∧ ino ≤ 9223372036854775807 := by
      have := om.low; have := om.high; have := h.ok.next; omega
    have HT2 : Hid (B ino = some M) := Lib.hid hBM
    have HG := Lib.hid hg
    have j11 : w.cell? ⟨M, 11, none⟩ = some (.map m1) := by rw [hNM.cell 11]; rfl
    have HLn : Hid ((m1 = none ∧ m.names.length = 0) ∨ ∃ mbI l, m1 = some mbI ∧ NamesAt w mbI l ∧ l.length = m.names.length) := Lib.hid (by
      by_cases hk6 : m.v.kind = 6
      · obtain ⟨x, e1, _, e3⟩ := hNM.dir hk6
        exact .inr ⟨x, _, e1, e3, rfl⟩
      · exact .inl ⟨hNM.plain hk6, by rw [om.file hk6]; rfl⟩)
    by_cases hne : m.names = []
    rotate_left
    · rw [if_neg hne]
      have hlen : (0 : Int) < (m.names.length : Int) := by
        have := List.length_pos_iff.2 hne; omega
      obtain ⟨ln, hln⟩ : ∃ ln, ln = m.names.length := ⟨_, rfl⟩
      rw [← hln] at HLn hlen
      have HSm := Lib.hid same
      clear h hp same hND hM hg hNM om hne hm hln
      go_enter Tryz.func84, Tryz.ntmps84
      go_wp2_with fail
      refine HP.out.mono ?_
      rintro e w2 ⟨rfl, hk2⟩
      have l11 := hk2.cell k11
      have l0 := hk2.cell c0
      have lj := hk2.cell j11
      have HK2 := Lib.hid hk2
      have HL2 : Hid ((m1 = none ∧ ln = 0) ∨ ∃ mbI l, m1 = some mbI ∧ NamesAt w2 mbI l ∧ l.length = ln) := Lib.hid (by
        rcases HLn.out with e | ⟨x, l, e1, e2, e3⟩
        · exact .inl e
        · exact .inr ⟨x, l, e1, MapF.kept e2 hk2 id, e3⟩)
      clear hk2
      go_wp2_with (first | (at_lookup; first | (refine wpList_names_ok rfl _ _ rfl (MapF.kept HM.out HK2.out id) rfl rfl hs2 ?_; rw [HG.out]) | (refine wpList_nodes_at rfl _ _ rfl (MapF.kept HT.out HK2.out id) rfl rfl hino ?_; rw [HT2.out, ptrV_some])) | (at_len; refine wpList_names_len rfl (.tmp 42) rfl HL2.out rfl ?_) | fail)
      go_ret
      exact ⟨rfl, HSm.out _ HK2.out⟩
    rw [if_pos hne]
    obtain ⟨ln, hln⟩ : ∃ ln, ln = m.names.length := ⟨_, rfl⟩
    rw [← hln] at HLn
    have hlen : ¬ (0 : Int) < (ln : Int) := by rw [hln, hne]; simp
    clear hln
    have HA := Lib.hid (⟨h, hm, hNM, hd, h6, ho, hND, hl2, hBD, hne⟩ : _ ∧ _ ∧ _ ∧ _ ∧ _ ∧ _ ∧ _ ∧ _ ∧ _ ∧ _)
    clear h hp same hm hNM hND hM hg hd h6 ho hl2 hBD hBM om hne
    go_enter Tryz.func84, Tryz.ntmps84
    go_wp2_with fail
    refine HP.out.mono ?_
    rintro e w3 ⟨rfl, hk3⟩
    have l11 := hk3.cell k11
    have l0 := hk3.cell c0
    have lj := hk3.cell j11
    have HK3 := Lib.hid hk3
    have HL2 : Hid ((m1 = none ∧ ln = 0) ∨ ∃ mbI l, m1 = some mbI ∧ NamesAt w3 mbI l ∧ l.length = ln) := Lib.hid (by
      rcases HLn.out with e | ⟨x, l, e1, e2, e3⟩
      · exact .inl e
      · exact .inr ⟨x, l, e1, MapF.kept e2 hk3 id, e3⟩)
    clear hk3 k11 c0 j11
    go_upto_region 10 with (first | (at_lookup; first | (refine wpList_names_ok rfl _ _ rfl (MapF.kept HM.out HK3.out id) rfl rfl hs2 ?_; rw [HG.out]) | (refine wpList_nodes_at rfl _ _ rfl (MapF.kept HT.out HK3.out id) rfl rfl hino ?_; rw [HT2.out, ptrV_some])) | (at_len; refine wpList_names_len rfl (.tmp 42) rfl HL2.out rfl ?_) | fail)
    have h := HA.out.1
    have hw3 : Kept NoB w w3 := HK3.out
    have h3 : FsIn L B mb S w3 f T := h.keptNo hw3
    obtain ⟨w4, hw4⟩ : ∃ w4, w4 = w3.alloc (.cells #[.pointer (some ⟨D, 0, none⟩)] 59) := ⟨_, rfl⟩
    have hk4 : Kept NoB w3 w4 := by rw [hw4]; exact (Kept.refl NoB w3).alloc _
    have h4 := h3.keptNo hk4
    have k34 : Kept NoB w w4 := hw3.trans hk4
    have n4 := k34.obj HA.out.2.2.2.2.2.2.1.obj id
    have r4 : w4.cell? ⟨w3.heap.size, 0, none⟩ = some (.pointer (some ⟨D, 0, none⟩)) := by rw [hw4]; exact cell_new 0 rfl
    have hb3 : D < w3.heap.size := Nat.lt_of_lt_of_le HA.out.2.2.2.2.2.2.1.lt hw3.size
    have hf3 : f < w3.heap.size := obj_lt h3.obj
    have hok := h.ok
    have HTk := Lib.hid (tick_any (w := w4) (f := f) (fc := (fsC mb T).toArray) (c := T.clock) [D] (fun _ => (ndC d (some mb2) a2 q2).toArray) (some ⟨w3.heap.size, 0, none⟩) 1 h4.obj rfl ⟨hok.clock, by omega⟩
      (fun i hi => ⟨w3.heap.size, 0, rfl, by omega, fun x hx => by simp at hx; omega, by
        have : i = 0 := by simpa using hi
        subst this; exact r4⟩)
      (fun x hx => by simp at hx; subst hx; exact ⟨n4, by simp [ndC, nvC]⟩) (by simp))
    have HW4 := Lib.hid hw4; have HK4 := Lib.hid k34
    clear hw4 hk4 h4 n4 r4 hok h3 hw3 h k34
    go_wp2_with fail
    rw [← HW4.out]
    refine HTk.out.mono ?_
    rintro e w5 ⟨rfl, o5, n5, k5, s5⟩
    have nb5 := n5 D (by simp)
    rw [tchA_nd] at nb5
    have o5' : w5.heap[f]? = some (.cells (fsC mb { T with clock := T.clock + 1 }).toArray 66 (0, 0)) := o5
    obtain ⟨h, hm, hNM, hd, h6, ho, hND, hl2, hBD, hne⟩ := HA.out
    have hlf := h.labf
    have hlm := h.labm
    have hlD := hND.lab
    have hlM := hNM.lab
    have hdi : dir ≠ ino := fun e => by
      have hg := getK_mem HG.out
      rw [e, hm] at hd
      cases hd
      rw [hne] at hg; cases hg
    have hDM : M ≠ D := fun e => by rw [e, hlD] at hlM; injection hlM with e2; exact hdi e2
    have hMf : M ≠ f := fun e => by rw [e, hlf] at hlM; cases hlM
    have k05 : Kept (fun k => k = f ∨ k = D) w w5 := HK4.out.dom.trans (k5.mono (fun k _ e => by
      rcases e with e | e
      · exact .inl e
      · exact .inr (by simpa using e)))
    have od := h.ok.node dir d hd
    have om := h.ok.node ino m hm
    have nm5 : NamesAt w5 mb2 d.names := MapF.kept HM.out k05 (fun e => by
      rcases e with e | e
      · rw [e, hlf] at hl2; cases hl2
      · rw [e, hlD] at hl2; cases hl2)
    have hfm2 : f ≠ mb2 := fun e => by rw [← e, hlf] at hl2; cases hl2
    have hDm2 : D ≠ mb2 := fun e => by rw [← e, hlD] at hl2; cases hl2
    have hMm2 : M ≠ mb2 := fun e => by rw [← e, hlM] at hl2; cases hl2
    have m5 := k05.obj (R := M) hNM.obj (fun e => by rcases e with e | e; exact hMf e; exact hDM e)
    have f11 : w5.cell? ⟨D, 11, none⟩ = some (.map (some mb2)) := by rw [obj_cell nb5]; rfl
    have HNm5 := Lib.hid nm5; have HOd := Lib.hid od; have HOm := Lib.hid om
    have H5 := Lib.hid (⟨o5', nb5, m5, k05, hdi, hDM, hMf, hfm2, hDm2, hMm2⟩ : _ ∧ _ ∧ _ ∧ _ ∧ _ ∧ _ ∧ _ ∧ _ ∧ _ ∧ _)
    have HLb := Lib.hid (⟨hlf, hlm, hlD, hlM, hl2⟩ : _ ∧ _ ∧ _ ∧ _ ∧ _)
    clear o5 n5 k5 s5 nb5 o5' h hm hNM hd h6 ho hND hl2 hBD hlf hlm hlD hlM hdi hDM hMf k05 od om nm5 hfm2 hDm2 hMm2 m5 HTk hne
    go_upto_region 12 with (first | (at_delete; refine wpList_names_delete rfl (.tmp 52) (.tmp 53) rfl HNm5.out HOd.out.sorted rfl rfl hs2 HG.out ?_; intro w6 t6 k6 s6) | fail)
    obtain ⟨o5, nb5, m5, k05, hdi, hDM, hMf, hfm2, hDm2, hMm2⟩ := H5.out
    have o6 := k6.obj (R := f) o5 (fun e => hfm2 e)
    have nb6 := k6.obj (R := D) nb5 (fun e => hDm2 e)
    have m6 := k6.obj (R := M) m5 (fun e => hMm2 e)
    obtain ⟨lk, hlk⟩ : ∃ lk, lk = m.v.links := ⟨_, rfl⟩
    have hlk2 : 1 ≤ lk ∧ lk ≤ 4611686018427387904 := by
      rw [hlk]
      have h1 := HOm.out.links
      have h2 := HOm.out.most
      have hg := getK_mem HG.out
      have h3 := @sumN_le T.nd (gLink ino) (T.next + 1).toNat dir.toNat (by have := HOd.out.low; have := HOd.out.high; omega)
      have h4 : ((dir.toNat : Nat) : Int) = dir := by have := HOd.out.low; omega
      rw [h4, HA.out.2.2.2.1] at h3
      have h5 : 0 < d.names.countP (fun p => p.2 == ino) := List.countP_pos_iff.2 ⟨_, hg, by simp⟩
      have h6 : gLink ino (some d) = d.names.countP (fun p => p.2 == ino) := rfl
      omega
    have f9 : w6.cell? ⟨M, 9, none⟩ = some (.int .i64 lk) := by rw [obj_cell m6, hlk]; rfl
    have g9 := obj_free m6 9
    obtain ⟨w7, hw7⟩ : ∃ w7, w7 = w6.setCell ⟨M, 9, none⟩ (.int .i64 (lk - 1)) := ⟨_, rfl⟩
    have o7 : w7.heap[f]? = some (.cells (fsC mb { T with clock := T.clock + 1 }).toArray 66 (0, 0)) := by rw [hw7, Below.heap_setCell _ _ _ _ hMf.symm]; exact o6
    have nb7 : w7.heap[D]? = some (.cells (ndC (touch (T.clock + 1) d) (some mb2) a2 q2).toArray 63 (0, 0)) := by rw [hw7, Below.heap_setCell _ _ _ _ hDM.symm]; exact nb6
    have m7 : w7.heap[M]? = some (.cells (ndC { m with v := { m.v with links := lk - 1 } } m1 a1 q1).toArray 63 (0, 0)) := by rw [hw7]; exact obj_set m6 9 _
    have k7 : Kept (OneB M) w6 w7 := by rw [hw7]; exact kept_one _ _ _ _
    obtain ⟨cl, hcl⟩ : ∃ cl, cl = T.clock + 1 := ⟨_, rfl⟩
    have f4 : w7.cell? ⟨f, 4, none⟩ = some (.int .i64 cl) := by rw [obj_cell o7, hcl]; rfl
    have f10 : w7.cell? ⟨M, 10, none⟩ = some (.int .i64 m.v.change) := by rw [obj_cell m7]; rfl
    have g10 := obj_free m7 10
    obtain ⟨w8, hw8⟩ : ∃ w8, w8 = w7.setCell ⟨M, 10, none⟩ (.int .i64 cl) := ⟨_, rfl⟩
    have o8 : w8.heap[f]? = some (.cells (fsC mb { T with clock := T.clock + 1 }).toArray 66 (0, 0)) := by rw [hw8, Below.heap_setCell _ _ _ _ hMf.symm]; exact o7
    have nb8 : w8.heap[D]? = some (.cells (ndC (touch (T.clock + 1) d) (some mb2) a2 q2).toArray 63 (0, 0)) := by rw [hw8, Below.heap_setCell _ _ _ _ hDM.symm]; exact nb7
    have m8 : w8.heap[M]? = some (.cells (ndC { m with v := { m.v with links := lk - 1, change := cl } } m1 a1 q1).toArray 63 (0, 0)) := by rw [hw8]; exact obj_set m7 10 _
    have k8 : Kept (OneB M) w7 w8 := by rw [hw8]; exact kept_one _ _ _ _
    have e9 : w8.cell? ⟨M, 9, none⟩ = some (.int .i64 (lk - 1)) := by rw [obj_cell m8]; rfl
    have k68 : Kept (OneB M) w6 w8 := k7.trans k8
    have HW7 := Lib.hid hw7; have HW8 := Lib.hid hw8
    have H8 := Lib.hid (⟨o8, nb8, m8, k68, t6, k6, hlk, hcl⟩ : _ ∧ _ ∧ _ ∧ _ ∧ _ ∧ _ ∧ _ ∧ _)
    clear o5 nb5 m5 k05 hdi hDM hMf hfm2 hDm2 hMm2 o6 nb6 m6 o7 nb7 m7 k7 o8 nb8 m8 k8 hw7 hw8 k68 t6 k6 hlk hcl s6 f11
    go_upto_region 13 with fail
    rw [← HW7.out]
    clear f9 g9
    go_upto_region 14 with fail
    rw [← HW8.out]
    clear f4 g10 f10
    by_cases hl1 : lk = 1
    · have hl0 : lk - 1 = 0 := by omega
      rw [hl0] at e9
      obtain ⟨o8, nb8, m8, k68, t6, k6, hlk, hcl⟩ := H8.out
      obtain ⟨us, hus⟩ : ∃ us, us = T.used := ⟨_, rfl⟩
      obtain ⟨sz, hsz⟩ : ∃ sz, sz = sizeD m.data := ⟨_, rfl⟩
      obtain ⟨dl, hdl⟩ : ∃ dl, dl = m.data.length := ⟨_, rfl⟩
      have c3' : w8.cell? ⟨f, 3, none⟩ = some (.int .i64 us) := by rw [obj_cell o8, hus]; rfl
      have g3 := obj_free o8 3
      have M13 : w8.cell? ⟨M, 13, none⟩ = some (.slice a1 dl q1) := by rw [obj_cell m8, hdl]; rfl
      have hsb := (ok_len HOm.out.data)
      have hub : (sz : Int) ≤ us ∧ us ≤ 9223372036854775807 := by
        have h1 := HA.out.1.ok.used
        have h2 := HA.out.1.ok.room
        have h3 := HA.out.1.ok.quota
        have h4 := @sumN_le T.nd gSize (T.next + 1).toNat ino.toNat (by have := HOm.out.low; have := HOm.out.high; omega)
        have h5 : ((ino.toNat : Nat) : Int) = ino := by have := HOm.out.low; omega
        rw [h5, HA.out.2.1] at h4
        have h6 : gSize (some m) = sizeD m.data := rfl
        omega
      have HSz : Hid (∀ W, Kept NoB w8 W → Calls Tryz.prog 99 #[.slice a1 dl q1] W fun e w' => e = .returned (.int .i64 (sz : Int)) ∧ Kept NoB w8 w') := Lib.hid (fun W hW => by
        obtain ⟨h, hm, hNM, hd, h6, ho, hND, hl2, hBD, hne⟩ := HA.out
        obtain ⟨hlf, hlm, hlD, hlM, _⟩ := HLb.out
        obtain ⟨_, _, _, k05, hdi, hDM, hMf, hfm2, hDm2, hMm2⟩ := H5.out
        have k08' : Kept (fun k => k = f ∨ k = D ∨ k = mb2 ∨ k = M) w w8 := ((k05.mono (fun k _ e => by rcases e with e | e; exact .inl e; exact .inr (.inl e))).trans (k6.mono (fun k _ e => .inr (.inr (.inl e))))).trans (k68.mono (fun k _ e => .inr (.inr (.inr e))))
        have hno : ∀ k x, L k = x → x ≠ .fs → x ≠ .nd dir → x ≠ .nm dir → x ≠ .nd ino → ¬ (k = f ∨ k = D ∨ k = mb2 ∨ k = M) := fun k x e1 h1 h2 h3 h4 e => by
          rcases e with e | e | e | e
          · rw [e, hlf] at e1; exact h1 e1.symm
          · rw [e, hlD] at e1; exact h2 e1.symm
          · rw [e, hl2] at e1; exact h3 e1.symm
          · rw [e, hlM] at e1; exact h4 e1.symm
        have hdat := hNM.dat.kept k08' (fun k e => hno k _ e (by simp) (by simp) (by simp) (by simp)) (fun k e => hno k _ e (by simp) (by simp) (by simp) (by simp))
        have hcp := hdat.cap
        have := size_any m.data a1 q1 W ((by rw [← hNM.data]; exact hdat.rd : RdD w8 a1 m.data).kept hW) hcp.1 hcp.2.1 (by omega)
        rw [← hdl, ← hsz] at this
        exact this.mono (fun e w' ⟨h1, h2⟩ => ⟨h1, hW.trans h2⟩))
      have hwr : IntKind.i64.wrap (us - (sz : Int)) = us - (sz : Int) := by rw [IntKind.wrap_i64]; omega
      have HU := Lib.hid (⟨hus, hsz, hdl⟩ : _ ∧ _ ∧ _)
      clear o8 nb8 m8 k68 t6 k6 hlk hcl hus hsz hdl hsb
      go_upto_region 15 with fail
      go_region_law (first
        | (go_simp; go_at_call 99; (with_reducible refine (HSz.out _ (by first | exact Kept.refl _ _ | exact (Kept.refl _ _).drew | exact (Kept.refl _ _).drewN _)).mono ?_); rintro e wn ⟨rfl, hkn⟩; have c3n := hkn.cell c3'; have g3n : wn.frozen? ⟨f, 3, none⟩ = false := obj_free (hkn.obj H8.out.1 id) 3))
      all_goals
        obtain ⟨o8, nb8, m8, k68, t6, k6, hlk, hcl⟩ := H8.out
        obtain ⟨w9, hw9⟩ : ∃ w9, w9 = wn.setCell ⟨f, 3, none⟩ (.int .i64 (us - (sz : Int))) := ⟨_, rfl⟩
        have o9 : w9.heap[f]? = some (.cells (fsC mb { T with clock := T.clock + 1, used := us - (sz : Int) }).toArray 66 (0, 0)) := by rw [hw9]; exact obj_set (hkn.obj o8 id) 3 _
        have k89 : Kept (OneB f) w8 w9 := by rw [hw9]; exact (hkn.dom).trans (kept_one _ _ _ _)
        have c09 : w9.cell? ⟨f, 0, none⟩ = some (.map (some mb)) := by rw [obj_cell o9]; rfl
        have HT9 : Hid (NodesAt w9 mb B T.cnt) := Lib.hid (by
          obtain ⟨hlf, hlm, hlD, hlM, hl2⟩ := HLb.out
          obtain ⟨_, _, _, k05, _⟩ := H5.out
          have k09 : Kept (fun k => k = f ∨ k = D ∨ k = mb2 ∨ k = M) w w9 := (((k05.mono (fun k _ e => by rcases e with e | e; exact .inl e; exact .inr (.inl e))).trans (k6.mono (fun k _ e => .inr (.inr (.inl e))))).trans (k68.mono (fun k _ e => .inr (.inr (.inr e))))).trans (k89.mono (fun k _ e => .inl e))
          exact MapF.kept HT.out k09 (fun e => by
            rcases e with e | e | e | e
            · rw [e, hlf] at hlm; cases hlm
            · rw [e, hlD] at hlm; cases hlm
            · rw [e, hl2] at hlm; cases hlm
            · rw [e, hlM] at hlm; cases hlm))
        have H9 := Lib.hid (⟨o9, k89⟩ : _ ∧ _)
        rw [← hw9]
        clear hw9 o9 k89 o8 nb8 m8 k68 t6 k6 hlk hcl c3' g3 c3n g3n M13
        go_wp2_with (first | (at_delete; refine wpList_nodes_delete rfl (.tmp 92) (.tmp 93) rfl HT9.out rfl rfl hino ?_; intro w10 t10 k10 s10) | fail)
        go_ret
        obtain ⟨h, hm, hNM, hd, h6, ho, hND, hl2, hBD, hne⟩ := HA.out
        obtain ⟨_, _, _, k05, hdi, hDM, hMf, hfm2, hDm2, hMm2⟩ := H5.out
        obtain ⟨o8, nb8, m8, k68, t6, k6, hlk, hcl⟩ := H8.out
        obtain ⟨o9, k89⟩ := H9.out
        obtain ⟨hus, hsz, _⟩ := HU.out
        obtain ⟨hlf, hlm, hlD, hlM, _⟩ := HLb.out
        have hrm : removeT T dir d part ino m = { T with clock := T.clock + 1, used := T.used - sizeD m.data, cnt := T.cnt - 1, nd := updN (updN T.nd dir (some (named (T.clock + 1) d (delK d.names part)))) ino none } := by
          unfold removeT; rw [if_pos (by rw [← hlk]; exact hl1)]
        have hok := removeT_ok h.ok hd h6 HG.out hm hne (by omega)
        have hDf : D ≠ f := fun e => by rw [e, hlf] at hlD; cases hlD
        have hmbf : f ≠ mb := fun e => by rw [← e, hlf] at hlm; cases hlm
        have hmbD : D ≠ mb := fun e => by rw [← e, hlD] at hlm; cases hlm
        have hmb2 : mb2 ≠ mb := fun e => by rw [← e, hl2] at hlm; cases hlm
        have k0x : Kept (fun k => k = f ∨ k = D ∨ k = mb2 ∨ k = M ∨ k = mb) w w10 := ((((k05.mono (fun k _ e => by rcases e with e | e; exact .inl e; exact .inr (.inl e))).trans (k6.mono (fun k _ e => .inr (.inr (.inl e))))).trans (k68.mono (fun k _ e => .inr (.inr (.inr (.inl e)))))).trans (k89.mono (fun k _ e => .inl e))).trans (k10.mono (fun k _ e => .inr (.inr (.inr (.inr e)))))
        refine ⟨rfl, ?_⟩
        rw [hrm] at hok ⊢
        have o10 := k10.obj (R := f) o9 (fun e => hmbf e)
        have nb10 := k10.obj (R := D) (k89.obj (R := D) nb8 (fun e => hDf e)) (fun e => hmbD e)
        refine two_done h hd hm hBD HT2.out hND hNM hl2 hdi (v' := m.v) rfl hok (o := none) (.inl rfl) rfl (B' := updB B ino none) (fun i hi => updB_other _ _ hi) (fun e => by cases e) (fun _ => updB_same _ _ _) k0x ?_ ?_ nb10 (fun e => by cases e) (MapF.kept (MapF.kept (MapF.kept t6 k68 (fun e => hMm2 e.symm)) k89 (fun e => hfm2 e.symm)) k10 (fun e => hmb2 e))
        · rw [← hus, ← hsz]; exact o10
        · have := t10
          rw [HT2.out] at this
          exact this
    · have hl0 : ¬ lk - 1 = 0 := by omega
      have hl0' : (lk - 1 == 0) = false := by simpa using hl0
      go_wp2_with fail
      go_ret
      obtain ⟨h, hm, hNM, hd, h6, ho, hND, hl2, hBD, hne⟩ := HA.out
      obtain ⟨_, _, _, k05, hdi, hDM, hMf, hfm2, hDm2, hMm2⟩ := H5.out
      obtain ⟨o8, nb8, m8, k68, t6, k6, hlk, hcl⟩ := H8.out
      have hrm : removeT T dir d part ino m = { T with clock := T.clock + 1, nd := updN (updN T.nd dir (some (named (T.clock + 1) d (delK d.names part)))) ino (some (linked (T.clock + 1) (-1) m)) } := by
        unfold removeT; rw [if_neg (by rw [← hlk]; exact hl1)]
      have hok := removeT_ok h.ok hd h6 HG.out hm hne (by omega)
      have k08 : Kept (fun k => k = f ∨ k = D ∨ k = mb2 ∨ k = M ∨ k = mb) w w8 := ((k05.mono (fun k _ e => by rcases e with e | e; exact .inl e; exact .inr (.inl e))).trans (k6.mono (fun k _ e => .inr (.inr (.inl e))))).trans (k68.mono (fun k _ e => .inr (.inr (.inr (.inl e)))))
      have k08' : Kept (fun k => k = f ∨ k = D ∨ k = mb2 ∨ k = M) w w8 := ((k05.mono (fun k _ e => by rcases e with e | e; exact .inl e; exact .inr (.inl e))).trans (k6.mono (fun k _ e => .inr (.inr (.inl e))))).trans (k68.mono (fun k _ e => .inr (.inr (.inr e))))
      obtain ⟨hlf, hlm, hlD, hlM, _⟩ := HLb.out
      refine ⟨rfl, ?_⟩
      rw [hrm] at hok ⊢
      refine two_done h hd hm hBD HT2.out hND hNM hl2 hdi (v' := (linked (T.clock + 1) (-1) m).v) rfl hok (.inr rfl) rfl (fun _ _ => rfl) (fun _ => rfl) (fun e => by cases e) k08 o8 ?_ nb8 (fun _ => by rw [m8, hlk, hcl]; rfl) (MapF.kept t6 k68 (fun e => hMm2 e.symm))
      exact MapF.kept h.tab k08' (fun e => by
        rcases e with e | e | e | e
        · rw [e, hlf] at hlm; cases hlm
        · rw [e, hlD] at hlm; cases hlm
        · rw [e, hl2] at hlm; cases hlm
        · rw [e, hlM] at hlm; cases hlm)
end Go.Proofs.YtgbakogihkdddaaGreatDoor

namespace Go.Proofs.YtgbakogihkdddaaGreatDoor
open Go.RowKit Go.Shelf
set_option linter.unusedVariables false
set_option linter.unusedSimpArgs false

attribute [local go_sem] Oper.semAt_some

/-- The pieces between slashes. -/
def pieces : List UInt8 → List (List UInt8)
  | [] => [[]]
  | b :: r => if b = 47 then [] :: pieces r else match pieces r with | [] => [[b]] | p :: ps => (b :: p) :: ps
theorem pieces_ne : ∀ l, pieces l ≠ []
  | [] => by simp [pieces]
  | b :: r => by
    unfold pieces
    split
    · simp
    · split <;> simp
theorem pieces_none : ∀ l : List UInt8, Lib.indexByte l 47 = -1 → pieces l = [l]
  | [], _ => rfl
  | b :: r, h => by
    unfold Lib.indexByte at h
    by_cases e : b = 47
    · subst e; simp at h
    · have e2 : (b == 47) = false := by simpa using e
      rw [e2] at h
      have hr : Lib.indexByte r 47 = -1 := by
        by_cases h3 : Lib.indexByte r 47 = -1
        · exact h3
        · have hge := Lib.indexByte_ge r 47
          have e3 : (Lib.indexByte r 47 == -1) = false := by simpa using h3
          rw [e3] at h
          simp only [Bool.false_eq_true, if_false] at h
          exact absurd h (by omega)
      rw [pieces, if_neg e, pieces_none r hr]
theorem pieces_some : ∀ (l : List UInt8) (o : Nat), Lib.indexByte l 47 = (o : Int) → o < l.length ∧ pieces l = l.take o :: pieces (l.drop (o + 1))
  | [], o, h => by simp [Lib.indexByte] at h
  | b :: r, o, h => by
    unfold Lib.indexByte at h
    by_cases e : b = 47
    · subst e
      simp at h
      have h0 : o = 0 := by omega
      subst h0
      exact ⟨by simp, by simp [pieces]⟩
    · have e2 : (b == 47) = false := by simpa using e
      rw [e2] at h
      by_cases h3 : Lib.indexByte r 47 = -1
      · rw [h3] at h
        simp at h
      · have hge := Lib.indexByte_ge r 47
        have e3 : (Lib.indexByte r 47 == -1) = false := by simpa using h3
        rw [e3] at h
        simp only [Bool.false_eq_true, if_false] at h
        obtain ⟨k, rfl⟩ : ∃ k, o = k + 1 := ⟨o - 1, by omega⟩
        obtain ⟨i1, i2⟩ := pieces_some r k (by omega)
        refine ⟨by simp; omega, ?_⟩
        rw [pieces, if_neg e, i2]
        simp
/-- The three variables that the iterator has caught. -/
structure SeqB (W : World) (b1 b2 b3 : Nat) (s : ByteArray) : Prop where
  sep : W.heap[b1]? = some (.cells #[.string ⟨#[47]⟩] 9 (0, 0))
  str : W.heap[b2]? = some (.cells #[.string s] 9 (0, 0))
  save : W.heap[b3]? = some (.cells #[.int .i64 0] 3 (0, 0))
set_option maxRecDepth 20000 in
set_option maxHeartbeats 4000000 in
theorem seq_in (bs : List UInt8) (l b1 b2 b3 : Nat) (hne : b1 ≠ b2 ∧ b3 ≠ b2) (J Jx : List (List UInt8) → World → Prop)
    (hst : ∀ pre W (v : ByteArray), J pre W → J pre (W.setCell ⟨b2, 0, none⟩ (.string v)))
    (hY : ∀ pre x W, J pre W → pre.length < (pieces bs).length → x.length ≤ bs.length → YieldAt Fence.wide 1 Tryz.prog l #[.string (strB x)] W fun e W' =>
      (e = .returned (.bool true) ∧ J (pre ++ [x]) W' ∧ (∀ s, SeqB W b1 b2 b3 s → SeqB W' b1 b2 b3 s)) ∨ (e = .returned (.bool false) ∧ Jx (pre ++ [x]) W'))
    (W : World) (hB : SeqB W b1 b2 b3 (strB bs)) (hlen : bs.length ≤ 1000000) (h0 : J [] W) :
    CallsIn Fence.wide 2 Tryz.prog 97 #[.func (.yield l) #[] #[], .pointer (some ⟨b1, 0, none⟩), .pointer (some ⟨b2, 0, none⟩), .pointer (some ⟨b3, 0, none⟩)] W fun e W' => (∃ v, e = .returned v) ∧
      (J (pieces bs) W' ∨ ∃ pre, (∃ suf, pre ++ suf = pieces bs) ∧ Jx pre W') := by
  refine callsIn_of_wp Tryz.func97 rfl trivial ?_ rfl
  simp only [Tryz.ntmps97, List.size_toArray, List.length_cons, List.length_nil, Nat.reduceAdd, Nat.reduceSub, Array.replicate_succ, Array.replicate_zero, List.push_toArray, List.append_toArray, List.nil_append, List.cons_append]
  have c1 : W.cell? ⟨b1, 0, none⟩ = some (.string ⟨#[47]⟩) := by simpa using obj_cell hB.sep 0
  have HN := Lib.hid hne; have HSt := Lib.hid hst; have HYd := Lib.hid hY; have HB := Lib.hid hB; have H0 := Lib.hid h0
  clear hne hst hY hB h0
  gi_wp2
  gi_loopw [7, 8] (fun _ _ wr => ∃ (pre : List (List UInt8)) (rest : List UInt8), Hid (pre ++ pieces rest = pieces bs) ∧ Hid (SeqB wr b1 b2 b3 (strB rest)) ∧ Hid (J pre wr) ∧ rest.length ≤ bs.length) (fun _ _ wr => match wr.cell? ⟨b2, 0, none⟩ with | some (.string s) => s.size | _ => 0)
  case atStart => exact ⟨[], bs, Lib.hid rfl, HB, H0, by omega⟩
  case round =>
    obtain ⟨pre, rest, HP, HS, HJ, hle⟩ := hrel
    have c2 : wr.cell? ⟨b2, 0, none⟩ = some (.string (strB rest)) := by simpa using obj_cell HS.out.str 0
    have c3 : wr.cell? ⟨b3, 0, none⟩ = some (.int .i64 0) := by simpa using obj_cell HS.out.save 0
    have c4 : wr.cell? ⟨b1, 0, none⟩ = some (.string ⟨#[47]⟩) := by simpa using obj_cell HS.out.sep 0
    clear c1
    have HIx := Lib.hid (Tryz.strings_Index_one (strB rest) 47 wr)
    have hfew : pre.length < (pieces bs).length := by
      rw [← HP.out, List.length_append]
      have := List.length_pos_iff.2 (pieces_ne rest)
      omega
    by_cases hm : Lib.indexByte (strB rest).data.toList 47 = -1
    · rw [hm] at HIx
      have HPn := Lib.hid (pieces_none rest hm)
      obtain ⟨fn, tmps, assign, body, hy, hR⟩ := HYd.out pre rest wr HJ.out hfew hle
      have HR := Lib.hid hR
      clear hR hm
      gi_wp2_with (refine ⟨trivial, ?_⟩; gi_at_call 69; refine (callsIn_wide.2 HIx.out).mono ?_; rintro e w' ⟨rfl, hw⟩; rw [hw]; clear hw)
      gi_wp2
      refine HR.out.mono ?_
      rintro e W' (⟨rfl, hJ', hk⟩ | ⟨rfl, hJx⟩)
      · have HF := Lib.hid (show J (pieces bs) W' from by rw [← HP.out, HPn.out]; exact hJ')
        clear hJ' hk
        gi_wp2
        go_end0
        exact ⟨⟨_, rfl⟩, .inl HF.out⟩
      · have HF := Lib.hid hJx
        clear hJx
        gi_wp2
        go_end0
        exact ⟨⟨_, rfl⟩, .inr ⟨_, ⟨[], by rw [← HP.out, HPn.out]; simp⟩, HF.out⟩⟩
    · obtain ⟨o, ho⟩ : ∃ o : Nat, Lib.indexByte (strB rest).data.toList 47 = (o : Int) := ⟨(Lib.indexByte (strB rest).data.toList 47).toNat, by
        have := Lib.indexByte_ge (strB rest).data.toList 47; omega⟩
      rw [ho] at HIx
      have ho' : Lib.indexByte rest 47 = (o : Int) := ho
      obtain ⟨hol, hps⟩ := pieces_some rest o ho'
      have HPs := Lib.hid hps
      obtain ⟨fn, tmps, assign, body, hy, hR⟩ := HYd.out pre (rest.take o) wr HJ.out hfew (by simp; omega)
      have HR := Lib.hid hR
      have hsz : (strB rest).size = rest.length := by simp [strB, ByteArray.size]
      have e5 : (strB rest).extract 0 o = strB (rest.take o) := by
        apply ByteArray.ext
        rw [ByteArray.data_extract]
        simp [strB]
      have e6 : IntKind.i64.wrap ((o : Int) + 0) = (o : Int) := by rw [IntWalk.i64_in _ (by omega)]; omega
      have e7 : IntKind.i64.wrap (o : Int) = (o : Int) := IntWalk.i64_in _ (by omega)
      clear hR ho ho' hm hps
      gi_wp2_with (refine ⟨trivial, ?_⟩; gi_at_call 69; refine (callsIn_wide.2 HIx.out).mono ?_; rintro e w' ⟨rfl, hw⟩; rw [hw]; clear hw)
      gi_wp2
      refine HR.out.mono ?_
      rintro e W' (⟨rfl, hJ', hk⟩ | ⟨rfl, hJx⟩)
      · have hS' := hk _ HS.out
        have d1 : W'.cell? ⟨b2, 0, none⟩ = some (.string (strB rest)) := by simpa using obj_cell hS'.str 0
        have d2 : W'.cell? ⟨b1, 0, none⟩ = some (.string ⟨#[47]⟩) := by simpa using obj_cell hS'.sep 0
        have f1 : W'.frozen? ⟨b2, 0, none⟩ = false := obj_free hS'.str 0
        have e8 : IntKind.i64.wrap ((o : Int) + 1) = ((o + 1 : Nat) : Int) := by rw [IntWalk.i64_in _ (by omega)]; omega
        obtain ⟨q, hq⟩ : ∃ q, q = o + 1 := ⟨_, rfl⟩
        rw [← hq] at e8
        have e9 : (strB rest).extract q rest.length = strB (rest.drop q) := by
          apply ByteArray.ext
          rw [ByteArray.data_extract]
          simp [strB]
          exact List.take_of_length_le (by simp)
        have hqn : q ≤ rest.length := by omega
        have hqi : (q : Int) ≤ (rest.length : Int) := by omega
        have HJ2 := Lib.hid (HSt.out _ _ (strB (rest.drop q)) hJ')
        have HS2 : Hid (SeqB (W'.setCell ⟨b2, 0, none⟩ (.string (strB (rest.drop q)))) b1 b2 b3 (strB (rest.drop q))) := Lib.hid
          ⟨(Below.heap_setCell _ _ _ _ HN.out.1).trans hS'.sep, by simpa using obj_set hS'.str 0 (.string (strB (rest.drop q))), (Below.heap_setCell _ _ _ _ HN.out.2).trans hS'.save⟩
        have HP2 : Hid ((pre ++ [rest.take o]) ++ pieces (rest.drop q) = pieces bs) := Lib.hid (by rw [← HP.out, HPs.out, hq]; simp)
        have HQ := Lib.hid hq
        clear hJ' hk hS' hq c2 c3 c4
        have hm1 : W'.cell? ⟨b2, 0, none⟩ = wr.cell? ⟨b2, 0, none⟩ := by rw [d1]; simpa using (obj_cell HS.out.str 0).symm
        have hm2 : (W'.setCell ⟨b2, 0, none⟩ (.string (strB (rest.drop q)))).cell? ⟨b2, 0, none⟩ = some (.string (strB (rest.drop q))) := by simpa using obj_cell HS2.out.str 0
        have hm3 : wr.cell? ⟨b2, 0, none⟩ = some (.string (strB rest)) := by rw [← hm1]; exact d1
        have HM2 := Lib.hid hm2; have HM3 := Lib.hid hm3
        clear hm1 hm2 hm3
        gi_wp2
        go_roundw
        case rel => exact ⟨_, rest.drop q, HP2, HS2, HJ2, by simp; omega⟩
        case measure =>
          rw [HM2.out, HM3.out]
          show (strB (rest.drop q)).size < (strB rest).size
          simp [strB, ByteArray.size]
          have := HQ.out
          omega
      · have HF := Lib.hid hJx
        clear hJx
        gi_wp2
        refine bodyPost_ret (results_none rfl _ _ _) rfl ?_
        exact ⟨⟨_, rfl⟩, .inr ⟨_, ⟨pieces (rest.drop (o + 1)), by rw [← HP.out, HPs.out]; simp⟩, HF.out⟩⟩
end Go.Proofs.YtgbakogihkdddaaGreatDoor

namespace Go.Proofs.YtgbakogihkdddaaGreatDoor
open Go.RowKit Go.Shelf
set_option linter.unusedVariables false
set_option linter.unusedSimpArgs false

/-- How a round may be left: off its end, or by a return. -/
def bodyEnd (b1 b2 b3 : Nat) (I Ix : List (List UInt8) → World → Prop) (xs : List (List UInt8)) (W : World) : Exit → Act → World → Prop
  | .normal, _, W' => KeepsOthers W W' ∧ (∀ s, SeqB W b1 b2 b3 s → SeqB W' b1 b2 b3 s) ∧ I xs W'
  | .ret, _, W' => KeepsOthers W W' ∧ Ix xs W'
  | _, _, _ => False
theorem SeqB.put {W : World} {b1 b2 b3 : Nat} {s : ByteArray} (h : SeqB W b1 b2 b3 s) (k : Nat) (o : Obj) (hk : k ≠ b1 ∧ k ≠ b2 ∧ k ≠ b3) : SeqB (W.putObj k o) b1 b2 b3 s :=
  ⟨(World.putObj_heap_other hk.1.symm).trans h.sep, (World.putObj_heap_other hk.2.1.symm).trans h.str, (World.putObj_heap_other hk.2.2.symm).trans h.save⟩
theorem loop_not {W : World} {k L : Nat} {cs : Array Value} {t : TypeId} {r : Loop} (h : W.heap[k]? = some (.cells cs t (0, 0))) (hl : W.heap[L]? = some (.loop r)) : L ≠ k := by
  rintro rfl
  rw [h] at hl
  cases hl

set_option maxHeartbeats 1000000 in
theorem range_seq {g : Operand} {p : Tmp} {assign body : Code} {Q : Exit → Act → World → Prop} {a : Act} {w : World} (b1 b2 b3 : Nat) (bs : List UInt8)
    (hg : a.eval g = .func (.func 97) #[] #[.pointer (some ⟨b1, 0, none⟩), .pointer (some ⟨b2, 0, none⟩), .pointer (some ⟨b3, 0, none⟩)])
    (hne : b1 ≠ b2 ∧ b3 ≠ b2) (hB : SeqB w b1 b2 b3 (strB bs)) (hlen : bs.length ≤ 1000000)
    (I Ix : List (List UInt8) → World → Prop) (hI : OwnFrom w.heap.size I) (hIx : OwnFrom w.heap.size Ix) (hIs : ∀ pre W (v : ByteArray), I pre W → I pre (W.setCell ⟨b2, 0, none⟩ (.string v))) (h0 : I [] w) (a1 : List UInt8 → Act)
    (hassign : ∀ (l : Nat) (x : List UInt8) (W : World) (K : Act → World → Prop), K (a1 x) W → assign.wpIn (Fence.wide.inRound l) 1 Tryz.prog (Exit.then K (fun _ _ _ => False)) { tmps := a.tmps.setIfInBounds p (.string (strB x)), defers := [] } W)
    (hbody : ∀ (l : Nat) (pre : List (List UInt8)) (x : List UInt8) (W : World), I pre W → pre.length < (pieces bs).length → x.length ≤ bs.length → body.wpIn (Fence.wide.inRound l) 1 Tryz.prog (bodyEnd b1 b2 b3 I Ix (pre ++ [x]) W) (a1 x) W)
    (hdone : ∀ (D : Nat) (W : World), w.heap.size ≤ D → I (pieces bs) W → W.heap[D]? = some (.deferred (some [])) → Q .normal { a with defers := { target := .collected D, args := #[] } :: a.defers } W)
    (hstop : ∀ (D : Nat) (pre : List (List UInt8)) (W : World), w.heap.size ≤ D → (∃ suf, pre ++ suf = pieces bs) → Ix pre W → W.heap[D]? = some (.deferred (some [])) → Code.ret.wpIn Fence.wide 3 Tryz.prog Q { a with defers := { target := .collected D, args := #[] } :: a.defers } W) :
    (Code.rangeFunc g #[p] assign body).wpIn Fence.wide 3 Tryz.prog Q a w := by
  refine wpIn_rangeFunc fun fn hfn => ?_
  obtain ⟨rec, hrec⟩ : ∃ rec : LoopState → Option Code → Loop, rec = fun st pe => { state := st, pending := pe, fn, tmps := a.tmps, params := #[p], assign, body, defers := w.heap.size } := ⟨_, rfl⟩
  obtain ⟨L, hL⟩ : ∃ L, L = w.heap.size + 1 := ⟨_, rfl⟩
  obtain ⟨V, hV⟩ : ∃ V, V = (w.alloc (.deferred (some []))).alloc (.loop (rec .ready none)) := ⟨_, rfl⟩
  have hVL : V.heap[L]? = some (.loop (rec .ready none)) := by
    rw [hV, hL]
    have := World.alloc_heap_new (w.alloc (.deferred (some []))) (.loop (rec .ready none))
    rwa [World.size_alloc] at this
  have hVD : V.heap[w.heap.size]? = some (.deferred (some [])) := by
    rw [hV]
    exact (Below.heap_alloc _ _ _ (by simp)).trans (World.alloc_heap_new w _)
  have hVB : SeqB V b1 b2 b3 (strB bs) := by
    have hk : Kept NoB w V := by rw [hV]; exact ((Kept.refl NoB w).alloc _).alloc _
    exact ⟨hk.obj hB.sep (fun h => h), hk.obj hB.str (fun h => h), hk.obj hB.save (fun h => h)⟩
  have hVI : I [] V := by rw [hV]; exact hI.alloc _ (hI.alloc _ h0)
  refine ⟨L, [{ target := .collected w.heap.size, args := #[] }], V, { target := .fn (.func 97) #[.pointer (some ⟨b1, 0, none⟩), .pointer (some ⟨b2, 0, none⟩), .pointer (some ⟨b3, 0, none⟩)], args := #[.func (.yield L) #[] #[]] }, V, 97,
    #[.func (.yield L) #[] #[], .pointer (some ⟨b1, 0, none⟩), .pointer (some ⟨b2, 0, none⟩), .pointer (some ⟨b3, 0, none⟩)], V, ?_, ?_, fun _ _ => trivial, ?_, fun h => (by omega), ?_⟩
  · rw [hV, hrec, hL]
    exact run_enterLoop_outer _ _ _ _ _
  · simp only [resolve, hg]
    simp [go_sem]
  · have he := enters_of (P := Tryz.prog) Tryz.func97 (by kernel_rfl) rfl
    simp [invoke, go_sem, he]
  · refine (seq_in bs L b1 b2 b3 hne
      (fun pre W => I pre W ∧ W.heap[L]? = some (.loop (rec .ready none)) ∧ W.heap[w.heap.size]? = some (.deferred (some [])) ∧ ∃ s, SeqB W b1 b2 b3 s)
      (fun pre W => Ix pre W ∧ W.heap[L]? = some (.loop (rec .done (some .ret))) ∧ W.heap[w.heap.size]? = some (.deferred (some [])))
      ?_ ?_ V hVB hlen ⟨hVI, hVL, hVD, _, hVB⟩).mono ?_
    · rintro pre W v ⟨h1, h2, h3, s, h4⟩
      have hL2 := loop_not h4.str h2
      have hD2 : w.heap.size ≠ b2 := by
        intro e
        have h5 := h4.str
        rw [← e, h3] at h5
        cases h5
      exact ⟨hIs _ _ _ h1, (Below.heap_setCell _ _ _ _ hL2).trans h2, (Below.heap_setCell _ _ _ _ hD2).trans h3, v,
        (Below.heap_setCell _ _ _ _ hne.1).trans h4.sep, by simpa using obj_set h4.str 0 (.string v), (Below.heap_setCell _ _ _ _ hne.2).trans h4.save⟩
    · rintro pre x W ⟨h1, h2, h3, s, h4⟩ hfew hxl
      have hlt : L < W.heap.size := (Array.getElem?_eq_some_iff.1 h2).1
      have hy := run_yield (P := Tryz.prog) (args := #[.string (strB x)]) h2 (by rw [hrec]; rfl)
      rw [hrec] at hy
      refine ⟨fn, a.tmps.setIfInBounds p (.string (strB x)), assign, body, by rw [hy]; simp, roundIn_of_wpIn hfn ?_⟩
      refine hassign L x W _ ?_
      refine ⟨_, run_beginRound h2 (by rw [hrec]), ?_⟩
      obtain ⟨W1, hW1⟩ : ∃ W1, W1 = W.putObj L (.loop { rec .ready none with state := .busy }) := ⟨_, rfl⟩
      rw [← hW1]
      have k2 : W1.heap[L]? = some (.loop { rec .ready none with state := .busy }) := by rw [hW1]; exact World.putObj_heap_same hlt
      have k3 : W1.heap[w.heap.size]? = some (.deferred (some [])) := by rw [hW1]; exact (World.putObj_heap_other (by omega)).trans h3
      have kB : ∀ s, SeqB W b1 b2 b3 s → SeqB W1 b1 b2 b3 s := fun s h => by rw [hW1]; exact h.put L _ ⟨loop_not h.sep h2, loop_not h.str h2, loop_not h.save h2⟩
      have kI : I pre W1 := by rw [hW1]; exact hI.putObj _ h1 (by omega) h2 rfl
      refine wpIn_mono (hbody L pre x W1 kI hfew hxl) ?_
      rintro e a3 W3 hp
      cases e with
      | normal =>
        obtain ⟨m1, m2, m3⟩ := hp
        have l2 := m1.same _ _ k2 rfl
        have l3 := m1.same _ _ k3 rfl
        have hr := run_endRound (P := Tryz.prog) none l2
        refine ⟨_, _, hr, .inl ⟨rfl, ⟨hI.putObj _ m3 (by omega) l2 rfl, ?_, (World.putObj_heap_other (by omega)).trans l3, s, ?_⟩, ?_⟩⟩
        · rw [World.putObj_heap_same (Array.getElem?_eq_some_iff.1 l2).1, hrec]
          rfl
        · have := m2 s (kB s h4)
          exact this.put L _ ⟨loop_not this.sep l2, loop_not this.str l2, loop_not this.save l2⟩
        · intro s' h
          have := m2 s' (kB s' h)
          exact this.put L _ ⟨loop_not this.sep l2, loop_not this.str l2, loop_not this.save l2⟩
      | ret =>
        obtain ⟨m1, m3⟩ := hp
        have l2 := m1.same _ _ k2 rfl
        have l3 := m1.same _ _ k3 rfl
        have hr := run_endRound (P := Tryz.prog) (some .ret) l2
        refine ⟨_, _, hr, .inr ⟨rfl, hIx.putObj _ m3 (by omega) l2 rfl, ?_, (World.putObj_heap_other (by omega)).trans l3⟩⟩
        rw [World.putObj_heap_same (Array.getElem?_eq_some_iff.1 l2).1, hrec]
        rfl
      | exit id => exact hp.elim
      | goto t => exact hp.elim
      | panic ch => exact hp.elim
      | outgrown => exact hp.elim
    · rintro e W2 ⟨⟨v, rfl⟩, (⟨h1, h2, h3, _⟩ | ⟨pre, hpr, h1, h2, h3⟩)⟩
      · refine ⟨none, _, by have := run_endLoop (P := Tryz.prog) h2 (by rw [hrec]; simp); rw [hrec] at this; exact this, ?_⟩
        exact hdone _ _ (Nat.le_refl _) (hI.putObj _ h1 (by omega) h2 rfl) ((World.putObj_heap_other (by omega)).trans h3)
      · refine ⟨some .ret, _, by have := run_endLoop (P := Tryz.prog) h2 (by rw [hrec]; simp); rw [hrec] at this; exact this, ?_⟩
        exact hstop _ pre _ (Nat.le_refl _) hpr (hIx.putObj _ h1 (by omega) h2 rfl) ((World.putObj_heap_other (by omega)).trans h3)
end Go.Proofs.YtgbakogihkdddaaGreatDoor
