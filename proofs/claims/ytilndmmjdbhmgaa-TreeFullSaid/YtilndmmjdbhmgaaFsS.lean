/-
  A tree of files in memory: Link.
-/
import Derived.Test.YtilndmmjdbhmgaaFsR
import Derived.Test.YtilndmmjdbhmgaaFsP
import Derived.Great.BuildSlice
namespace Go.Proofs.Ytilndmmjdbhmgaa
open Go.RowKit
set_option linter.unusedVariables false
set_option linter.unusedSimpArgs false
set_option maxRecDepth 20000

theorem linkP_none {T : FsP} {dir ino : Int} {part : List UInt8} (h : T.nd ino = none) : linkP T dir part ino = (T, 10) := by unfold linkP; rw [h]
theorem linkP_place {T : FsP} {dir ino : Int} {part : List UInt8} {m : NdP} (hm : T.nd ino = some m) (h : placeE T dir part ≠ 0) : linkP T dir part ino = (T, placeE T dir part) := by
  unfold linkP placeE at *
  rw [hm]
  simp only
  cases hn : T.nd dir with
  | none => rfl
  | some d =>
    rw [hn] at h
    simp only at h ⊢
    by_cases h6 : d.v.kind = 6
    · rw [if_pos h6] at h ⊢
      rw [if_pos h6]
      by_cases ho : okN (strB part) = true
      · rw [if_pos ho] at h; exact absurd rfl h
      · rw [if_neg ho, if_neg ho]
    · rw [if_neg h6, if_neg h6]
theorem linkP_yes {T : FsP} {dir ino : Int} {part : List UInt8} {m d : NdP} (hm : T.nd ino = some m) (hd : T.nd dir = some d) (h6 : d.v.kind = 6) (ho : okN (strB part) = true) :
    linkP T dir part ino = if m.v.kind = 6 then (T, 13) else if (getK d.names part).isSome then (T, 11) else (linkT T dir d part ino m, 0) := by
  unfold linkP
  rw [hm]
  simp only [hd]
  rw [if_pos h6, if_pos ho]

set_option maxHeartbeats 4000000 in
theorem link_any {S : Nat → Prop} {w : World} {f : Nat} {T : FsP} (h : FsSt S w f T) (dir : Int) (hdir : -9223372036854775808 ≤ dir ∧ dir ≤ 9223372036854775807) (part : List UInt8) (hs : part.length < 4294967281) (ino : Int) (hino : -9223372036854775808 ≤ ino ∧ ino ≤ 9223372036854775807)
    (hclk : T.clock + 1 ≤ 4611686018427387904) :
    Calls Try.prog 22 #[.pointer (some ⟨f, 0, none⟩), .int .i64 dir, .string (strB part), .int .i64 ino] w fun e w' =>
      e = .returned (.int .i64 (linkP T dir part ino).2) ∧ FsSt (Grow S w w') w' f (linkP T dir part ino).1 ∧ Kept S w w' := by
  obtain ⟨L, B, mb, h⟩ := h
  have HP := Lib.hid (place_in h dir hdir part hs)
  have same : ∀ w', Kept NoB w w' → FsSt (Grow S w w') w' f T ∧ Kept S w w' := fun w' hk => ⟨⟨L, B, mb, (h.keptNo hk).mono (fun k e => .inl e)⟩, hk.mono (fun k _ e => e.elim)⟩
  obtain ⟨c0, c1, c2, c3, c4⟩ := h.cells
  have HT := Lib.hid h.tab
  cases hm : T.nd ino with
  | none =>
    have hB := h.gone hm
    rw [linkP_none hm]
    have HSm := Lib.hid same
    clear h HP same hm
    go_enter Try.func22, Try.ntmps22
    go_wp2_with (at_lookup; refine wpList_nodes_ok rfl _ _ rfl HT.out rfl rfl hino ?_; rw [hB, ptrV_none])
    go_ret
    exact ⟨rfl, HSm.out _ (Kept.refl _ _)⟩
  | some m =>
    obtain ⟨M, m1, a1, q1, qs1, hBM, hNM⟩ := h.at hm
    have HT2 : Hid (B ino = some M) := Lib.hid hBM
    by_cases hp : placeE T dir part = 0
    rotate_left
    · rw [if_neg hp, ptrV_none] at HP
      rw [linkP_place hm hp]
      obtain ⟨z, hz⟩ : ∃ z, z = placeE T dir part := ⟨_, rfl⟩
      rw [← hz] at hp HP ⊢
      have hz2 : (z == 0) = false := by simpa using hp
      have HSm := Lib.hid same
      clear hz h hp same hm hNM
      go_enter Try.func22, Try.ntmps22
      go_wp2_with (at_lookup; refine wpList_nodes_ok rfl _ _ rfl HT.out rfl rfl hino ?_; rw [HT2.out, ptrV_some])
      refine HP.out.mono ?_
      rintro e w2 ⟨rfl, hk2⟩
      go_wp2
      go_ret
      exact ⟨rfl, HSm.out _ hk2⟩
    obtain ⟨d, hd, h6, ho⟩ := placeE_dir hp
    rw [linkP_yes hm hd h6 ho]
    rw [if_pos hp, hp] at HP
    obtain ⟨D, m2, a2, q2, qs2, hBD, hND⟩ := h.at hd
    obtain ⟨mb2, rfl, hl2, hM⟩ := hND.dir h6
    rw [hBD, ptrV_some] at HP
    have hs2 : part.length ≤ maxLen := by unfold maxLen; omega
    have k0 := hNM.cell 0
    simp [ndC, nvC] at k0
    have k11 : w.cell? ⟨D, 11, none⟩ = some (.map (some mb2)) := by rw [hND.cell 11]; rfl
    have HM := Lib.hid hM
    obtain ⟨kd, hkd⟩ : ∃ kd, kd = m.v.kind := ⟨_, rfl⟩
    rw [← hkd] at k0 ⊢
    have HKd := Lib.hid hkd
    by_cases hm6 : kd = 6
    · rw [if_pos hm6]
      have HSm := Lib.hid same
      subst hm6
      clear h hp same hm hNM hND hkd hM
      go_enter Try.func22, Try.ntmps22
      go_wp2_with (at_lookup; refine wpList_nodes_ok rfl _ _ rfl HT.out rfl rfl hino ?_; rw [HT2.out, ptrV_some])
      refine HP.out.mono ?_
      rintro e w2 ⟨rfl, hk2⟩
      have l0 := hk2.cell k0
      go_wp2
      go_ret
      exact ⟨rfl, HSm.out _ hk2⟩
    rw [if_neg hm6]
    have hm6' : (kd == 6) = false := by simpa using hm6
    by_cases hg : (getK d.names part).isSome = true
    · rw [if_pos hg]
      obtain ⟨j, hj⟩ := Option.isSome_iff_exists.1 hg
      have HG := Lib.hid hj
      have HSm := Lib.hid same
      clear h hp same hm hNM hND hkd hM hg hj
      go_enter Try.func22, Try.ntmps22
      go_wp2_with (at_lookup; refine wpList_nodes_ok rfl _ _ rfl HT.out rfl rfl hino ?_; rw [HT2.out, ptrV_some])
      refine HP.out.mono ?_
      rintro e w2 ⟨rfl, hk2⟩
      have l0 := hk2.cell k0
      have l11 := hk2.cell k11
      have HK2 := Lib.hid hk2
      clear hk2
      go_wp2_with (first | (at_lookup; refine wpList_names_ok rfl _ _ rfl (MapF.kept HM.out HK2.out id) rfl rfl hs2 ?_; rw [HG.out]) | fail)
      go_ret
      exact ⟨rfl, HSm.out _ HK2.out⟩
    rw [if_neg hg]
    have hgn : getK d.names part = none := by simpa using hg
    have HG := Lib.hid hgn
    have HA := Lib.hid (⟨h, hm, hNM, hd, h6, ho, hND, hl2, hBD⟩ : _ ∧ _ ∧ _ ∧ _ ∧ _ ∧ _ ∧ _ ∧ _ ∧ _)
    clear h hp same hm hNM hND hkd hM hg hgn hd h6 ho hl2 hBD hBM
    go_enter Try.func22, Try.ntmps22
    go_wp2_with (at_lookup; refine wpList_nodes_ok rfl _ _ rfl HT.out rfl rfl hino ?_; rw [HT2.out, ptrV_some])
    refine HP.out.mono ?_
    rintro e w3 ⟨rfl, hk3⟩
    have l0 := hk3.cell k0
    have l11 := hk3.cell k11
    have HK3 := Lib.hid hk3
    clear hk3 k0 k11
    go_upto_region 12 with (first | (at_lookup; refine wpList_names_ok rfl _ _ rfl (MapF.kept HM.out HK3.out id) rfl rfl hs2 ?_; rw [HG.out]) | fail)
    have h := HA.out.1
    have hw3 : Kept NoB w w3 := HK3.out
    have h3 : FsIn L B mb S w3 f T := h.keptNo hw3
    obtain ⟨w4, hw4⟩ : ∃ w4, w4 = w3.alloc (.cells #[.pointer (some ⟨D, 0, none⟩)] 67) := ⟨_, rfl⟩
    have hk4 : Kept NoB w3 w4 := by rw [hw4]; exact (Kept.refl NoB w3).alloc _
    have h4 := h3.keptNo hk4
    have k34 : Kept NoB w w4 := hw3.trans hk4
    have n4 := k34.obj HA.out.2.2.2.2.2.2.1.obj id
    have r4 : w4.cell? ⟨w3.heap.size, 0, none⟩ = some (.pointer (some ⟨D, 0, none⟩)) := by rw [hw4]; exact cell_new 0 rfl
    have hb3 : D < w3.heap.size := Nat.lt_of_lt_of_le HA.out.2.2.2.2.2.2.1.lt hw3.size
    have hf3 : f < w3.heap.size := obj_lt h3.obj
    have hok := h.ok
    have HTk := Lib.hid (tick_any (w := w4) (f := f) (fc := (fsC mb T).toArray) (c := T.clock) [D] (fun _ => (ndC d (some mb2) a2 q2).toArray) (some ⟨w3.heap.size, 0, none⟩) 1 h4.obj rfl ⟨hok.clock, by omega⟩
      (fun i hi => ⟨w3.heap.size, 0, rfl, by omega, fun x hx => by simp at hx; omega, by
        have : i = 0 := by simpa using hi
        subst this; exact r4⟩)
      (fun x hx => by simp at hx; subst hx; exact ⟨n4, by simp [ndC, nvC]⟩) (by simp))
    have HW4 := Lib.hid hw4; have HK4 := Lib.hid k34
    clear hw4 hk4 h4 n4 r4 hok h3 hw3 h k34
    go_wp2_with fail
    rw [← HW4.out]
    refine HTk.out.mono ?_
    rintro e w5 ⟨rfl, o5, n5, k5, s5⟩
    have nb5 := n5 D (by simp)
    rw [tchA_nd] at nb5
    have o5' : w5.heap[f]? = some (.cells (fsC mb { T with clock := T.clock + 1 }).toArray 74 (0, 0)) := o5
    obtain ⟨h, hm, hNM, hd, h6, ho, hND, hl2, hBD⟩ := HA.out
    have hlf := h.labf
    have hlm := h.labm
    have hlD := hND.lab
    have hlM := hNM.lab
    have hdi : dir ≠ ino := fun e => by
      rw [e, hm] at hd
      cases hd
      rw [HKd.out] at hm6
      exact hm6 h6
    have hDM : M ≠ D := fun e => by rw [e, hlD] at hlM; injection hlM with e2; exact hdi e2
    have hMf : M ≠ f := fun e => by rw [e, hlf] at hlM; cases hlM
    have k05 : Kept (fun k => k = f ∨ k = D) w w5 := HK4.out.dom.trans (k5.mono (fun k _ e => by
      rcases e with e | e
      · exact .inl e
      · exact .inr (by simpa using e)))
    have od := h.ok.node dir d hd
    have om := h.ok.node ino m hm
    have nm5 : NamesAt w5 mb2 d.names := MapF.kept HM.out k05 (fun e => by
      rcases e with e | e
      · rw [e, hlf] at hl2; cases hl2
      · rw [e, hlD] at hl2; cases hl2)
    have hfew := od.few
    obtain ⟨w6, hr6, t6, k6, s6⟩ := names_put nm5 od.sorted part hs2 ino hino HG.out (by unfold maxLen; omega)
    have hfm2 : f ≠ mb2 := fun e => by rw [← e, hlf] at hl2; cases hl2
    have hDm2 : D ≠ mb2 := fun e => by rw [← e, hlD] at hl2; cases hl2
    have hMm2 : M ≠ mb2 := fun e => by rw [← e, hlM] at hl2; cases hl2
    have o6 := k6.obj (R := f) o5' (fun e => hfm2 e)
    have nb6 := k6.obj (R := D) nb5 (fun e => hDm2 e)
    have m5 := k05.obj (R := M) hNM.obj (fun e => by rcases e with e | e; exact hMf e; exact hDM e)
    have m6 := k6.obj (R := M) m5 (fun e => hMm2 e)
    obtain ⟨lk, hlk⟩ : ∃ lk, lk = m.v.links := ⟨_, rfl⟩
    have hlk2 : 0 ≤ lk ∧ lk ≤ 4611686018427387904 := by
      rw [hlk]
      have := om.links
      have := om.most
      omega
    have f9 : w6.cell? ⟨M, 9, none⟩ = some (.int .i64 lk) := by rw [obj_cell m6, hlk]; rfl
    have g9 := obj_free m6 9
    have f11 : w5.cell? ⟨D, 11, none⟩ = some (.map (some mb2)) := by rw [obj_cell nb5]; rfl
    obtain ⟨w7, hw7⟩ : ∃ w7, w7 = w6.setCell ⟨M, 9, none⟩ (.int .i64 (lk + 1)) := ⟨_, rfl⟩
    have o7 : w7.heap[f]? = some (.cells (fsC mb { T with clock := T.clock + 1 }).toArray 74 (0, 0)) := by rw [hw7, Below.heap_setCell _ _ _ _ hMf.symm]; exact o6
    have nb7 : w7.heap[D]? = some (.cells (ndC (touch (T.clock + 1) d) (some mb2) a2 q2).toArray 71 (0, 0)) := by rw [hw7, Below.heap_setCell _ _ _ _ hDM.symm]; exact nb6
    have m7 : w7.heap[M]? = some (.cells (ndC { m with v := { m.v with links := lk + 1 } } m1 a1 q1).toArray 71 (0, 0)) := by rw [hw7]; exact obj_set m6 9 _
    have k7 : Kept (OneB M) w6 w7 := by rw [hw7]; exact kept_one _ _ _ _
    obtain ⟨cl, hcl⟩ : ∃ cl, cl = T.clock + 1 := ⟨_, rfl⟩
    have f4 : w7.cell? ⟨f, 4, none⟩ = some (.int .i64 cl) := by rw [obj_cell o7, hcl]; rfl
    have f10 : w7.cell? ⟨M, 10, none⟩ = some (.int .i64 m.v.change) := by rw [obj_cell m7]; rfl
    have g10 := obj_free m7 10
    obtain ⟨w8, hw8⟩ : ∃ w8, w8 = w7.setCell ⟨M, 10, none⟩ (.int .i64 cl) := ⟨_, rfl⟩
    have o8 : w8.heap[f]? = some (.cells (fsC mb { T with clock := T.clock + 1 }).toArray 74 (0, 0)) := by rw [hw8, Below.heap_setCell _ _ _ _ hMf.symm]; exact o7
    have nb8 : w8.heap[D]? = some (.cells (ndC (touch (T.clock + 1) d) (some mb2) a2 q2).toArray 71 (0, 0)) := by rw [hw8, Below.heap_setCell _ _ _ _ hDM.symm]; exact nb7
    have m8 : w8.heap[M]? = some (.cells (ndC { m with v := { m.v with links := lk + 1, change := cl } } m1 a1 q1).toArray 71 (0, 0)) := by rw [hw8]; exact obj_set m7 10 _
    have k8 : Kept (OneB M) w7 w8 := by rw [hw8]; exact kept_one _ _ _ _
    have hfin : Hid (FsSt (Grow S w w8) w8 f (linkT T dir d part ino m) ∧ Kept S w w8) := Lib.hid (by
      have k08 : Kept (fun k => k = f ∨ k = D ∨ k = mb2 ∨ k = M) w w8 := (((k05.mono (fun k _ e => by rcases e with e | e; exact .inl e; exact .inr (.inl e))).trans (k6.mono (fun k _ e => .inr (.inr (.inl e))))).trans (k7.mono (fun k _ e => .inr (.inr (.inr e))))).trans (k8.mono (fun k _ e => .inr (.inr (.inr e))))
      have k58 : Kept (fun k => k = mb2 ∨ k = M) w5 w8 := ((k6.mono (fun k _ e => .inl e)).trans (k7.mono (fun k _ e => .inr e))).trans (k8.mono (fun k _ e => .inr e))
      have hmm : mb ≠ f ∧ mb ≠ D ∧ mb ≠ mb2 ∧ mb ≠ M := ⟨fun e => (by rw [e, hlf] at hlm; cases hlm), fun e => (by rw [e, hlD] at hlm; cases hlm), fun e => (by rw [e, hl2] at hlm; cases hlm), fun e => (by rw [e, hlM] at hlm; cases hlm)⟩
      have hnd : (linkT T dir d part ino m).nd = updN (updN T.nd dir (some (named (T.clock + 1) d (putK d.names part ino)))) ino (some (linked (T.clock + 1) 1 m)) := rfl
      refine nodes_done h (B' := B) (linkT_ok h.ok hd h6 ho hm (by rw [← HKd.out]; exact hm6) HG.out (by omega)) k08 (fun j hj _ => ?_) o8 ?_ (fun i => ?_) (fun i b e => e) (fun i b n' hb hn' => ?_)
      · rcases hj with e | e | e | e
        · rw [e, hlf]; simp
        · rw [e, hlD]; simp
        · rw [e, hl2]; simp
        · rw [e, hlM]; simp
      · exact MapF.kept h.tab k08 (fun e => by rcases e with e | e | e | e; exact hmm.1 e; exact hmm.2.1 e; exact hmm.2.2.1 e; exact hmm.2.2.2 e)
      · rw [hnd, h.dom]
        by_cases e1 : i = ino
        · rw [e1, updN_same, hm]; rfl
        · rw [updN_other _ _ e1]
          by_cases e2 : i = dir
          · rw [e2, updN_same, hd]; rfl
          · rw [updN_other _ _ e2]
      · rw [hnd] at hn'
        by_cases e1 : i = ino
        · rw [e1, updN_same] at hn'
          cases hn'
          rw [e1] at hb ⊢
          have hbM : b = M := by rw [HT2.out] at hb; exact (Option.some.inj hb).symm
          refine ⟨m, hm, .inr ⟨rfl, rfl, fun m3 a3 c3 he => ?_⟩⟩
          rw [hbM, hNM.obj] at he
          have he2 := Option.some.inj he
          injection he2 with he3 _ _
          have he4 : ndC m m1 a1 q1 = ndC m m3 a3 c3 := by
            have := congrArg Array.toList he3
            simpa using this
          unfold ndC at he4
          simp [nvC] at he4
          obtain ⟨e5, e6, e7⟩ := he4
          subst e5 e6 e7
          refine ⟨by rw [hbM, m8, hlk, hcl]; rfl, fun h6m => absurd h6m (by rw [← HKd.out]; exact hm6)⟩
        · rw [updN_other _ _ e1] at hn'
          by_cases e2 : i = dir
          · rw [e2, updN_same] at hn'
            cases hn'
            rw [e2] at hb ⊢
            have hbD : b = D := by rw [hBD] at hb; exact (Option.some.inj hb).symm
            refine ⟨d, hd, .inr ⟨rfl, rfl, fun m3 a3 c3 he => ?_⟩⟩
            rw [hbD, hND.obj] at he
            have he2 := Option.some.inj he
            injection he2 with he3 _ _
            have he4 : ndC d (some mb2) a2 q2 = ndC d m3 a3 c3 := by
              have := congrArg Array.toList he3
              simpa using this
            unfold ndC at he4
            simp [nvC] at he4
            obtain ⟨e5, e6, e7⟩ := he4
            subst e5 e6 e7
            refine ⟨by rw [hbD, nb8]; rfl, fun _ mb3 e8 _ _ => ?_⟩
            cases e8
            exact MapF.kept t6 ((k7.mono (fun k _ e => e)).trans k8) (fun e => hMm2 e.symm)
          · rw [updN_other _ _ e2] at hn'
            refine ⟨n', hn', .inl ⟨rfl, fun j hj _ => ?_⟩⟩
            have e1' : ino ≠ i := fun q => e1 q.symm
            have e2' : dir ≠ i := fun q => e2 q.symm
            rcases hj with e | e | e | e
            · rw [e, hlf]; simp
            · rw [e, hlD]; simp [e2']
            · rw [e, hl2]; simp [e2']
            · rw [e, hlM]; simp [e1'])
    have HW7 := Lib.hid hw7; have HW8 := Lib.hid hw8
    clear o5 n5 k5 s5 nb5 o5' h hm hNM hd h6 ho hND hl2 hBD hlf hlm hlD hlM hdi hDM hMf k05 od om nm5 hfew t6 k6 s6 hfm2 hDm2 hMm2 o6 nb6 m5 m6 hlk o7 nb7 m7 k7 hcl o8 nb8 m8 k8 hw7 hw8 HTk
    go_upto_region 14 with fail
    clear f11 hr6
    go_upto_region 15 with fail
    rw [← HW7.out]
    clear f9 g9
    go_wp2_with fail
    go_ret
    rw [← HW8.out]
    exact ⟨rfl, hfin.out⟩
end Go.Proofs.Ytilndmmjdbhmgaa
