/-
  A tree of files in memory: Move.
-/
import Derived.Test.YtpkdfkndmgijjaaFsV
namespace Go.Proofs.Ytpkdfkndmgijjaa
open Go.RowKit
set_option linter.unusedVariables false
set_option linter.unusedSimpArgs false
set_option maxRecDepth 20000

theorem placeE_val (T : FsP) (d : Int) (p : List UInt8) : placeE T d p = 0 ∨ placeE T d p = 9 ∨ placeE T d p = 10 ∨ placeE T d p = 12 := by
  unfold placeE
  cases T.nd d with
  | none => simp
  | some n => simp only; split <;> (try split) <;> simp
theorem placesE_zero {a b : Int} (ha : a = 0 ∨ a = 9 ∨ a = 10 ∨ a = 12) (hb : b = 0 ∨ b = 9 ∨ b = 10 ∨ b = 12) (h : placesE a b = 0) : a = 0 ∧ b = 0 := by
  unfold placesE at h
  split at h
  · omega
  · split at h
    · omega
    · split at h
      · omega
      · omega
theorem moveP_err {T : FsP} {dir dst : Int} {part asn : List UInt8} (h : placesE (placeE T dir part) (placeE T dst asn) ≠ 0) : moveP T dir part dst asn = (T, placesE (placeE T dir part) (placeE T dst asn)) := by
  unfold moveP placesE at *
  by_cases h1 : placeE T dir part = 10 ∨ placeE T dst asn = 10
  · rw [if_pos h1, if_pos h1]
  · rw [if_neg h1] at h ⊢
    rw [if_neg h1]
    by_cases h2 : placeE T dir part = 12 ∨ placeE T dst asn = 12
    · rw [if_pos h2, if_pos h2]
    · rw [if_neg h2] at h ⊢
      rw [if_neg h2]
      by_cases h3 : placeE T dir part = 9 ∨ placeE T dst asn = 9
      · rw [if_pos h3, if_pos h3]
      · rw [if_neg h3] at h; exact absurd rfl h
open Classical in
theorem moveP_ok {T : FsP} {dir dst : Int} {part asn : List UInt8} {d e : NdP} (h1 : placeE T dir part = 0) (h2 : placeE T dst asn = 0) (hd : T.nd dir = some d) (he : T.nd dst = some e) :
    moveP T dir part dst asn = match getK d.names part with
      | none => (T, 10)
      | some ino =>
        if (getK e.names asn).isSome then (T, 11)
        else match T.nd ino with
          | some m => if m.v.kind = 6 ∧ Up T ino dst then (T, 13) else (moveT T dir d part dst e asn ino m, 0)
          | none => (T, 10) := by
  unfold moveP
  rw [if_neg (by rw [h1, h2]; decide), if_neg (by rw [h1, h2]; decide), if_neg (by rw [h1, h2]; decide), hd, he]
  rfl

theorem move_done {L : Nat → Lab} {B : Int → Option Nat} {mb : Nat} {S : Nat → Prop} {w w' : World} {f : Nat} {T : FsP} (h : FsIn L B mb S w f T) {dir dst ino : Int} {part asn : List UInt8} {d e m : NdP} {D E M mb2 mb3 : Nat} {m1 : Option Nat} {a1 a2 a3 : Option Addr} {q1 q2 q3 : Nat} {qs1 qs2 qs3 : List FpQ}
    (hd : T.nd dir = some d) (he : T.nd dst = some e) (hm : T.nd ino = some m) (hBD : B dir = some D) (hBE : B dst = some E) (hBM : B ino = some M) (hND : NdSt L dir w D d (some mb2) a2 q2 qs2) (hNE : NdSt L dst w E e (some mb3) a3 q3 qs3) (hNM : NdSt L ino w M m m1 a1 q1 qs1)
    (hl2 : L mb2 = .nm dir) (hl3 : L mb3 = .nm dst) (hdi : dir ≠ ino) (hsi : dst ≠ ino) (ok' : OkT (moveT T dir d part dst e asn ino m))
    (hk : Kept (fun k => k = f ∨ k = D ∨ k = E ∨ k = mb2 ∨ k = mb3 ∨ k = M) w w') (o8 : w'.heap[f]? = some (.cells (fsC mb { T with clock := T.clock + 1 }).toArray 76 (0, 0)))
    (nD : w'.heap[D]? = some (.cells (ndC (touch (T.clock + 1) d) (some mb2) a2 q2).toArray 73 (0, 0))) (nE : w'.heap[E]? = some (.cells (ndC (touch (T.clock + 1) e) (some mb3) a3 q3).toArray 73 (0, 0)))
    (nM : w'.heap[M]? = some (.cells (ndC (moved (T.clock + 1) dst m) m1 a1 q1).toArray 73 (0, 0))) (tD : dst ≠ dir → NamesAt w' mb2 (delK d.names part)) (tE : NamesAt w' mb3 (putK (if dst = dir then delK d.names part else e.names) asn ino)) :
    FsSt (Grow S w w') w' f (moveT T dir d part dst e asn ino m) ∧ Kept S w w' := by
  have hlf := h.labf
  have hlm := h.labm
  have hlD := hND.lab
  have hlE := hNE.lab
  have hlM := hNM.lab
  have hnd : (moveT T dir d part dst e asn ino m).nd = updN (updN (cutN T dir d part) dst (some (if dst = dir then named (T.clock + 1) d (putK (delK d.names part) asn ino) else named (T.clock + 1) e (putK e.names asn ino)))) ino (some (moved (T.clock + 1) dst m)) := rfl
  refine nodes_done h (B' := B) ok' hk (fun j hj _ => ?_) o8 ?_ (fun i => ?_) (fun i b e => e) (fun i b n' hb hn' => ?_)
  · rcases hj with e | e | e | e | e | e
    · rw [e, hlf]; simp
    · rw [e, hlD]; simp
    · rw [e, hlE]; simp
    · rw [e, hl2]; simp
    · rw [e, hl3]; simp
    · rw [e, hlM]; simp
  · exact MapF.kept h.tab hk (fun e => by
      rcases e with e | e | e | e | e | e
      · rw [e, hlf] at hlm; cases hlm
      · rw [e, hlD] at hlm; cases hlm
      · rw [e, hlE] at hlm; cases hlm
      · rw [e, hl2] at hlm; cases hlm
      · rw [e, hl3] at hlm; cases hlm
      · rw [e, hlM] at hlm; cases hlm)
  · rw [hnd, h.dom]
    by_cases e1 : i = ino
    · rw [e1, updN_same, hm]; rfl
    · rw [updN_other _ _ e1]
      by_cases e2 : i = dst
      · rw [e2, updN_same, he]; rfl
      · rw [updN_other _ _ e2]
        unfold cutN
        by_cases e3 : i = dir
        · rw [e3, updN_same, hd]; rfl
        · rw [updN_other _ _ e3]
  · rw [hnd] at hn'
    by_cases e1 : i = ino
    · rw [e1, updN_same] at hn'
      cases hn'
      rw [e1, hBM] at hb
      cases hb
      rw [e1]
      refine ⟨m, hm, .inr ⟨rfl, rfl, fun m3 a3 c3 he => ?_⟩⟩
      obtain ⟨e5, e6, e7⟩ := ndC_inj hNM.obj he
      subst e5 e6 e7
      refine ⟨nM, fun h6m mbI e8 e9 e10 => ?_⟩
      refine MapF.kept e9 hk (fun e => ?_)
      rcases e with e | e | e | e | e | e
      · rw [e, hlf] at e10; cases e10
      · rw [e, hlD] at e10; cases e10
      · rw [e, hlE] at e10; cases e10
      · rw [e, hl2] at e10; injection e10 with e11; exact hdi e11
      · rw [e, hl3] at e10; injection e10 with e11; exact hsi e11
      · rw [e, hlM] at e10; cases e10
    · rw [updN_other _ _ e1] at hn'
      by_cases e2 : i = dst
      · rw [e2, updN_same] at hn'
        cases hn'
        rw [e2, hBE] at hb
        cases hb
        rw [e2]
        by_cases e4 : dst = dir
        · rw [if_pos e4] at tE ⊢
          have hed : e = d := by rw [e4, hd] at he; exact (Option.some.inj he).symm
          refine ⟨e, he, .inr ⟨by rw [hed]; rfl, by rw [hed]; rfl, fun m3 a4 c4 hx => ?_⟩⟩
          obtain ⟨e5, e6, e7⟩ := ndC_inj hNE.obj hx
          subst e5 e6 e7
          refine ⟨by rw [nE, hed]; rfl, fun _ mb4 e8 _ _ => ?_⟩
          cases e8
          exact tE
        · rw [if_neg e4] at tE ⊢
          refine ⟨e, he, .inr ⟨rfl, rfl, fun m3 a4 c4 hx => ?_⟩⟩
          obtain ⟨e5, e6, e7⟩ := ndC_inj hNE.obj hx
          subst e5 e6 e7
          refine ⟨by rw [nE]; rfl, fun _ mb4 e8 _ _ => ?_⟩
          cases e8
          exact tE
      · rw [updN_other _ _ e2] at hn'
        unfold cutN at hn'
        by_cases e3 : i = dir
        · rw [e3, updN_same] at hn'
          cases hn'
          rw [e3, hBD] at hb
          cases hb
          rw [e3]
          refine ⟨d, hd, .inr ⟨rfl, rfl, fun m3 a4 c4 hx => ?_⟩⟩
          obtain ⟨e5, e6, e7⟩ := ndC_inj hND.obj hx
          subst e5 e6 e7
          refine ⟨by rw [nD]; rfl, fun _ mb4 e8 _ _ => ?_⟩
          cases e8
          exact tD (fun q => e2 (by rw [e3, q]))
        · rw [updN_other _ _ e3] at hn'
          refine ⟨n', hn', .inl ⟨rfl, fun j hj _ => ?_⟩⟩
          have e1' : ino ≠ i := fun q => e1 q.symm
          have e2' : dst ≠ i := fun q => e2 q.symm
          have e3' : dir ≠ i := fun q => e3 q.symm
          rcases hj with e | e | e | e | e | e
          · rw [e, hlf]; simp
          · rw [e, hlD]; simp [e3']
          · rw [e, hlE]; simp [e2']
          · rw [e, hl2]; simp [e3']
          · rw [e, hl3]; simp [e2']
          · rw [e, hlM]; simp [e1']

set_option maxHeartbeats 4000000 in
theorem move_any {S : Nat → Prop} {w : World} {f : Nat} {T : FsP} (h : FsSt S w f T) (dir dst : Int) (hdir : -9223372036854775808 ≤ dir ∧ dir ≤ 9223372036854775807) (hdst : -9223372036854775808 ≤ dst ∧ dst ≤ 9223372036854775807)
    (part asn : List UInt8) (hs : part.length < 4294967281) (hs2 : asn.length < 4294967281) (hclk : T.clock + 1 ≤ 4611686018427387904) :
    Calls Try.prog 25 #[.pointer (some ⟨f, 0, none⟩), .int .i64 dir, .string (strB part), .int .i64 dst, .string (strB asn)] w fun e w' =>
      e = .returned (.int .i64 (moveP T dir part dst asn).2) ∧ FsSt (Grow S w w') w' f (moveP T dir part dst asn).1 ∧ Kept S w w' := by
  obtain ⟨L, B, mb, h⟩ := h
  have HP := Lib.hid (places_in h dir dst hdir hdst part asn hs hs2)
  have same : ∀ w', Kept NoB w w' → FsSt (Grow S w w') w' f T ∧ Kept S w w' := fun w' hk => ⟨⟨L, B, mb, (h.keptNo hk).mono (fun k e => .inl e)⟩, hk.mono (fun k _ e => e.elim)⟩
  by_cases hp : placesE (placeE T dir part) (placeE T dst asn) = 0
  rotate_left
  · unfold PlacesP at HP
    rw [if_neg hp, if_neg hp, ptrV_none] at HP
    rw [moveP_err hp]
    obtain ⟨z, hz⟩ : ∃ z, z = placesE (placeE T dir part) (placeE T dst asn) := ⟨_, rfl⟩
    rw [← hz] at hp HP ⊢
    have hz2 : (z == 0) = false := by simpa using hp
    have HSm := Lib.hid same
    clear hz h hp same
    go_enter Try.func25, Try.ntmps25
    go_wp2_with fail
    refine HP.out.mono ?_
    rintro e w2 ⟨rfl, hk2⟩
    go_wp2
    go_ret
    exact ⟨rfl, HSm.out _ hk2⟩
  obtain ⟨hp1, hp2⟩ := placesE_zero (placeE_val _ _ _) (placeE_val _ _ _) hp
  obtain ⟨d, hd, h6, ho⟩ := placeE_dir hp1
  obtain ⟨e, he, he6, heo⟩ := placeE_dir hp2
  rw [moveP_ok hp1 hp2 hd he]
  unfold PlacesP at HP
  rw [if_pos hp, if_pos hp, hp] at HP
  obtain ⟨D, m2, a2, q2, qs2, hBD, hND⟩ := h.at hd
  obtain ⟨E, m3, a3, q3, qs3, hBE, hNE⟩ := h.at he
  obtain ⟨mb2, rfl, hl2, hM⟩ := hND.dir h6
  obtain ⟨mb3, rfl, hl3, hM3⟩ := hNE.dir he6
  rw [hBD, hBE, ptrV_some, ptrV_some] at HP
  have hsl : part.length ≤ maxLen := by unfold maxLen; omega
  have hsl2 : asn.length ≤ maxLen := by unfold maxLen; omega
  obtain ⟨c0, _⟩ := h.cells
  have k11 : w.cell? ⟨D, 11, none⟩ = some (.map (some mb2)) := by rw [hND.cell 11]; rfl
  have j11 : w.cell? ⟨E, 11, none⟩ = some (.map (some mb3)) := by rw [hNE.cell 11]; rfl
  have HM := Lib.hid hM
  have HM3 := Lib.hid hM3
  have HT := Lib.hid h.tab
  cases hg : getK d.names part with
  | none =>
    simp only
    have HG := Lib.hid hg
    have HSm := Lib.hid same
    clear h hp same hND hNE hM hM3 hg hp1 hp2 c0
    go_enter Try.func25, Try.ntmps25
    go_wp2_with fail
    refine HP.out.mono ?_
    rintro e w2 ⟨rfl, hk2⟩
    have l11 := hk2.cell k11
    have HK2 := Lib.hid hk2
    clear hk2
    go_wp2_with (first | (at_lookup; refine wpList_names_ok rfl _ _ rfl (MapF.kept HM.out HK2.out id) rfl rfl hsl ?_; rw [HG.out]) | fail)
    go_ret
    exact ⟨rfl, HSm.out _ HK2.out⟩
  | some ino =>
    simp only
    have HG := Lib.hid hg
    by_cases hga : (getK e.names asn).isSome = true
    · rw [if_pos hga]
      obtain ⟨j, hj⟩ := Option.isSome_iff_exists.1 hga
      have HG3 := Lib.hid hj
      have HSm := Lib.hid same
      clear h hp same hND hNE hM hM3 hg hp1 hp2 hga hj c0
      go_enter Try.func25, Try.ntmps25
      go_wp2_with fail
      refine HP.out.mono ?_
      rintro e2 w2 ⟨rfl, hk2⟩
      have l11 := hk2.cell k11
      have i11 := hk2.cell j11
      have HK2 := Lib.hid hk2
      clear hk2
      go_wp2_with (first | (at_lookup; first | (refine wpList_names_ok rfl (.tmp 36) (.tmp 37) rfl (MapF.kept HM.out HK2.out id) rfl rfl hsl ?_; rw [HG.out]) | (refine wpList_names_ok rfl (.tmp 47) (.tmp 48) rfl (MapF.kept HM3.out HK2.out id) rfl rfl hsl2 ?_; rw [HG3.out])) | fail)
      go_ret
      exact ⟨rfl, HSm.out _ HK2.out⟩
    rw [if_neg hga]
    have hgn : getK e.names asn = none := by simpa using hga
    have HG3 := Lib.hid hgn
    obtain ⟨_, hi1, m, hm, hmp⟩ := (h.ok.node dir d hd).names _ (getK_mem hg)
    rw [hm]
    simp only
    obtain ⟨M, m1, a1, q1, qs1, hBM, hNM⟩ := h.at hm
    have om := h.ok.node ino m hm
    have hino : -9223372036854775808 ≤ ino ∧ ino ≤ 9223372036854775807 := by
      have := om.low; have := om.high; have := h.ok.next; omega
    have HT2 : Hid (B ino = some M) := Lib.hid hBM
    obtain ⟨kd, hkd⟩ : ∃ kd, kd = m.v.kind := ⟨_, rfl⟩
    have k0 : w.cell? ⟨M, 0, none⟩ = some (.int .i64 kd) := by rw [hNM.cell 0, hkd]; rfl
    have HLd : Hid (∀ W, Kept NoB w W → Calls Try.prog 52 #[.pointer (some ⟨f, 0, none⟩), .int .i64 dst, .int .i64 ino] W (LeadP T ino dst W)) := Lib.hid (fun W hW => leads_in (h.keptNo hW) dst ino he he6 hino hclk)
    have HKd := Lib.hid hkd
    by_cases hup : m.v.kind = 6 ∧ Up T ino dst
    · rw [if_pos hup]
      have HSm := Lib.hid same
      have hk6 : kd = 6 := by rw [hkd]; exact hup.1
      subst hk6
      have HUp := Lib.hid hup.2
      clear h hp same hND hNE hM hM3 hg hp1 hp2 hga hgn hup hm hNM om hkd hmp
      go_enter Try.func25, Try.ntmps25
      go_wp2_with fail
      refine HP.out.mono ?_
      rintro e2 w2 ⟨rfl, hk2⟩
      have l11 := hk2.cell k11
      have i11 := hk2.cell j11
      have l0 := hk2.cell c0
      have i0 := hk2.cell k0
      have HK2 := Lib.hid hk2
      clear hk2
      go_wp2_with (first | (at_lookup; first | (refine wpList_names_ok rfl (.tmp 36) (.tmp 37) rfl (MapF.kept HM.out HK2.out id) rfl rfl hsl ?_; rw [HG.out]) | (refine wpList_names_ok rfl (.tmp 47) (.tmp 48) rfl (MapF.kept HM3.out HK2.out id) rfl rfl hsl2 ?_; rw [HG3.out]) | (refine wpList_nodes_at rfl _ _ rfl (MapF.kept HT.out HK2.out id) rfl rfl hino ?_; rw [HT2.out, ptrV_some])) | (go_at_call 52; refine (HLd.out _ HK2.out).mono ?_; rintro e3 w3 ⟨r, rfl, hr, rfl⟩; obtain rfl : r = true := hr.2 HUp.out) | fail)
      go_ret
      exact ⟨rfl, HSm.out _ HK2.out⟩
    rw [if_neg hup]
    have hdi : dir ≠ ino := fun q => by
      rw [q, hm] at hd
      cases hd
      have h1 := hmp h6
      obtain ⟨r, hr⟩ := h.ok.rank
      have := hr ino _ hm h6 hi1
      rw [h1, q] at this
      omega
    have hsi : dst ≠ ino := fun q => by
      rw [q, hm] at he
      cases he
      exact hup ⟨he6, by rw [q]; exact Up.self⟩
    have hup2 : m.v.kind = 6 → ¬ Up T ino dst := fun q1 q2 => hup ⟨q1, q2⟩
    have hok := moveT_ok h.ok hd h6 he he6 heo hg hgn hm hup2 (by omega)
    have HUp := Lib.hid hup2
    have HA := Lib.hid (⟨h, hd, he, hm, hBD, hBE, hND, hNE, hNM, hl2, hl3, hdi, hsi, hok⟩ : _ ∧ _ ∧ _ ∧ _ ∧ _ ∧ _ ∧ _ ∧ _ ∧ _ ∧ _ ∧ _ ∧ _ ∧ _ ∧ _)
    clear h hp same hND hNE hM hM3 hg hp1 hp2 hga hgn hup hm hNM om hkd hmp hd he h6 he6 ho heo hBD hBE hBM hl2 hl3 hdi hsi hok hup2
    go_enter Try.func25, Try.ntmps25
    go_wp2_with fail
    refine HP.out.mono ?_
    rintro e2 w3 ⟨rfl, hk3⟩
    have l11 := hk3.cell k11
    have i11 := hk3.cell j11
    have l0 := hk3.cell c0
    have i0 := hk3.cell k0
    have HK3 := Lib.hid hk3
    clear hk3 k11 j11 c0
    -- the clock
    obtain ⟨h, hd, he, hm, hBD, hBE, hND, hNE, hNM, hl2, hl3, hdi, hsi, hok⟩ := HA.out
    have hsame : dst = dir → e = d ∧ E = D ∧ mb3 = mb2 ∧ a3 = a2 ∧ q3 = q2 := fun q => by
      rw [q, hd] at he
      have q1 := Option.some.inj he
      subst q1
      rw [q, hBD] at hBE
      have q2 := Option.some.inj hBE
      subst q2
      have q3 := ndC_inj hNE.obj hND.obj
      exact ⟨rfl, rfl, Option.some.inj q3.1, q3.2.1, q3.2.2⟩
    have hlf := h.labf
    have hlD := hND.lab
    have hlE := hNE.lab
    have hlM := hNM.lab
    have hdiff : dst ≠ dir → E ≠ D ∧ mb3 ≠ mb2 := fun q => ⟨fun x => (by rw [x, hlD] at hlE; injection hlE with y; exact q y.symm), fun x => (by rw [x, hl2] at hl3; injection hl3 with y; exact q y.symm)⟩
    have hMD : M ≠ D := fun x => by rw [x, hlD] at hlM; injection hlM with y; exact hdi y
    have hME : M ≠ E := fun x => by rw [x, hlE] at hlM; injection hlM with y; exact hsi y
    have hMf : M ≠ f := fun x => by rw [x, hlf] at hlM; cases hlM
    have hfD : f ≠ D := fun x => by rw [x, hlD] at hlf; cases hlf
    have hfE : f ≠ E := fun x => by rw [x, hlE] at hlf; cases hlf
    have hf2 : f ≠ mb2 := fun x => by rw [x, hl2] at hlf; cases hlf
    have hf3 : f ≠ mb3 := fun x => by rw [x, hl3] at hlf; cases hlf
    have hD2 : D ≠ mb2 := fun x => by rw [x, hl2] at hlD; cases hlD
    have hD3 : D ≠ mb3 := fun x => by rw [x, hl3] at hlD; cases hlD
    have hE2 : E ≠ mb2 := fun x => by rw [x, hl2] at hlE; cases hlE
    have hE3 : E ≠ mb3 := fun x => by rw [x, hl3] at hlE; cases hlE
    have hM2 : M ≠ mb2 := fun x => by rw [x, hl2] at hlM; cases hlM
    have hM3' : M ≠ mb3 := fun x => by rw [x, hl3] at hlM; cases hlM
    have hw3 : Kept NoB w w3 := HK3.out
    have h3 : FsIn L B mb S w3 f T := h.keptNo hw3
    obtain ⟨w4, hw4⟩ : ∃ w4, w4 = w3.alloc (.cells #[.pointer (some ⟨D, 0, none⟩), .pointer (some ⟨E, 0, none⟩)] 69) := ⟨_, rfl⟩
    have hk4 : Kept NoB w3 w4 := by rw [hw4]; exact (Kept.refl NoB w3).alloc _
    have h4 := h3.keptNo hk4
    have k34 : Kept NoB w w4 := hw3.trans hk4
    have n4 := k34.obj hND.obj id
    have n4E := k34.obj hNE.obj id
    have r4 : w4.cell? ⟨w3.heap.size, 0, none⟩ = some (.pointer (some ⟨D, 0, none⟩)) := by rw [hw4]; exact cell_new 0 rfl
    have r4' : w4.cell? ⟨w3.heap.size, 1, none⟩ = some (.pointer (some ⟨E, 0, none⟩)) := by rw [hw4]; exact cell_new 1 rfl
    have hb3 : D < w3.heap.size := Nat.lt_of_lt_of_le hND.lt hw3.size
    have hb3E : E < w3.heap.size := Nat.lt_of_lt_of_le hNE.lt hw3.size
    have hf3s : f < w3.heap.size := obj_lt h3.obj
    have hokc := h.ok.clock
    have HTk := Lib.hid (tick_any (w := w4) (f := f) (fc := (fsC mb T).toArray) (c := T.clock) [D, E] (fun b => if b = D then (ndC d (some mb2) a2 q2).toArray else (ndC e (some mb3) a3 q3).toArray) (some ⟨w3.heap.size, 0, none⟩) 2 h4.obj rfl ⟨hokc, by omega⟩
      (fun i hi => ⟨w3.heap.size, 0, rfl, by omega, fun x hx => by simp at hx; omega, by
        have : i = 0 ∨ i = 1 := by simp at hi; omega
        rcases this with rfl | rfl
        · exact r4
        · exact r4'⟩)
      (fun x hx => by
        simp at hx
        by_cases q : x = D
        · simp only [if_pos q]; rw [q]; exact ⟨n4, by simp [ndC, nvC]⟩
        · simp only [if_neg q]
          rcases hx with hx | hx
          · exact absurd hx q
          · rw [hx]; exact ⟨n4E, by simp [ndC, nvC]⟩) (by simp))
    have HSd := Lib.hid (⟨hsame, hdiff⟩ : _ ∧ _)
    have HNe := Lib.hid (⟨hMD, hME, hMf, hfD, hfE, hf2, hf3, hD2, hD3, hE2, hE3, hM2, hM3'⟩ : _ ∧ _ ∧ _ ∧ _ ∧ _ ∧ _ ∧ _ ∧ _ ∧ _ ∧ _ ∧ _ ∧ _ ∧ _)
    have HW4 := Lib.hid hw4; have HK4 := Lib.hid k34
    clear hw4 hk4 h4 n4 n4E r4 r4' hokc h3 hw3 k34 h hd he hm hBD hBE hND hNE hNM hl2 hl3 hdi hsi hok hsame hlf hlD hlE hlM hdiff hMD hME hMf hfD hfE hf2 hf3 hD2 hD3 hE2 hE3 hM2 hM3'
    by_cases hk6 : kd = 6
    · subst hk6
      go_upto_region 13 with (first | (at_lookup; first | (refine wpList_names_ok rfl (.tmp 36) (.tmp 37) rfl (MapF.kept HM.out HK3.out id) rfl rfl hsl ?_; rw [HG.out]) | (refine wpList_names_ok rfl (.tmp 47) (.tmp 48) rfl (MapF.kept HM3.out HK3.out id) rfl rfl hsl2 ?_; rw [HG3.out]) | (refine wpList_nodes_at rfl _ _ rfl (MapF.kept HT.out HK3.out id) rfl rfl hino ?_; rw [HT2.out, ptrV_some])) | (go_at_call 52; refine (HLd.out _ HK3.out).mono ?_; rintro e3 w3x ⟨r, rfl, hr, rfl⟩; obtain rfl : r = false := by (cases r with | false => rfl | true => exact absurd (hr.1 rfl) (HUp.out HKd.out.symm))) | fail)
      clear hr
      go_wp2_with fail
      rw [← HW4.out]
      refine HTk.out.mono ?_
      rintro e5 w5 ⟨rfl, o5, n5, k5, s5⟩
      have o5' : w5.heap[f]? = some (.cells (fsC mb { T with clock := T.clock + 1 }).toArray 76 (0, 0)) := o5
      have nD5 := n5 D (by simp)
      simp only [if_pos trivial, if_true] at nD5
      rw [tchA_nd] at nD5
      have nE5 : w5.heap[E]? = some (.cells (ndC (touch (T.clock + 1) e) (some mb3) a3 q3).toArray 73 (0, 0)) := by
        by_cases q : dst = dir
        · obtain ⟨q1, q2', q3', q4, q5⟩ := HSd.out.1 q
          rw [q2', q1, q3', q4, q5]; exact nD5
        · have n6 := n5 E (by simp)
          simp only [if_neg (HSd.out.2 q).1] at n6
          rw [tchA_nd] at n6
          exact n6
      have k05 : Kept (fun k => k = f ∨ k = D ∨ k = E) w w5 := HK4.out.dom.trans (k5.mono (fun k _ x => by
        rcases x with x | x
        · exact .inl x
        · simp at x; exact .inr x))
      obtain ⟨h, hd, he, hm, hBD, hBE, hND, hNE, hNM, hl2, hl3, hdi, hsi, hok⟩ := HA.out
      obtain ⟨hMD, hME, hMf, hfD, hfE, hf2, hf3, hD2, hD3, hE2, hE3, hM2, hM3'⟩ := HNe.out
      have od := h.ok.node dir d hd
      have oe := h.ok.node dst e he
      have nm5 : NamesAt w5 mb2 d.names := MapF.kept HM.out k05 (fun x => by rcases x with x | x | x; exact hf2 x.symm; exact hD2 x.symm; exact hE2 x.symm)
      have nm5E : NamesAt w5 mb3 e.names := MapF.kept HM3.out k05 (fun x => by rcases x with x | x | x; exact hf3 x.symm; exact hD3 x.symm; exact hE3 x.symm)
      have m5 := k05.obj (R := M) hNM.obj (fun x => by rcases x with x | x | x; exact hMf x; exact hMD x; exact hME x)
      have f11 : w5.cell? ⟨D, 11, none⟩ = some (.map (some mb2)) := by rw [obj_cell nD5]; rfl
      have HNm5 := Lib.hid nm5; have HOd := Lib.hid od; have HOe := Lib.hid oe
      have H5 := Lib.hid (⟨o5', nD5, nE5, m5, k05, nm5E⟩ : _ ∧ _ ∧ _ ∧ _ ∧ _ ∧ _)
      clear o5 n5 k5 s5 o5' nD5 nE5 k05 od oe nm5 nm5E m5 h hd he hm hBD hBE hND hNE hNM hl2 hl3 hdi hsi hok hMD hME hMf hfD hfE hf2 hf3 hD2 hD3 hE2 hE3 hM2 hM3' HTk
      go_upto_region 15 with (first | (at_delete; refine wpList_names_delete rfl (.tmp 79) (.tmp 80) rfl HNm5.out HOd.out.sorted rfl rfl hsl HG.out ?_; intro w6 t6 k6 s6) | fail)
      obtain ⟨o5, nD5, nE5, m5, k05, nm5E⟩ := H5.out
      obtain ⟨hMD, hME, hMf, hfD, hfE, hf2, hf3, hD2, hD3, hE2, hE3, hM2, hM3'⟩ := HNe.out
      have o6 := k6.obj (R := f) o5 (fun x => hf2 x)
      have nD6 := k6.obj (R := D) nD5 (fun x => hD2 x)
      have nE6 := k6.obj (R := E) nE5 (fun x => hE2 x)
      have m6 := k6.obj (R := M) m5 (fun x => hM2 x)
      obtain ⟨l2, hl2e⟩ : ∃ l2, l2 = if dst = dir then delK d.names part else e.names := ⟨_, rfl⟩
      have hl2p : NamesAt w6 mb3 l2 ∧ OkK l2 ∧ getK l2 asn = none ∧ l2.length < maxLen := by
        have hdf := HOd.out.few
        have hef := HOe.out.few
        have hcl := hclk
        rw [hl2e]
        by_cases q : dst = dir
        · rw [if_pos q]
          obtain ⟨q1, q2', q3', q4, q5⟩ := HSd.out.1 q
          have g3 := HG3.out
          rw [q1] at g3
          refine ⟨by rw [q3']; exact t6, delK_ok HOd.out.sorted _, ?_, ?_⟩
          · rw [getK_del HOd.out.sorted]
            split
            · rfl
            · exact g3
          · have := delK_len HOd.out.sorted HG.out
            unfold maxLen; omega
        · rw [if_neg q]
          refine ⟨MapF.kept nm5E k6 (fun x => (HSd.out.2 q).2 x), HOe.out.sorted, HG3.out, ?_⟩
          unfold maxLen; omega
      obtain ⟨w7, hr7, t7, k7, s7⟩ := names_put hl2p.1 hl2p.2.1 asn hsl2 ino hino hl2p.2.2.1 hl2p.2.2.2
      have o7 := k7.obj (R := f) o6 (fun x => hf3 x)
      have nD7 := k7.obj (R := D) nD6 (fun x => hD3 x)
      have nE7 := k7.obj (R := E) nE6 (fun x => hE3 x)
      have m7 := k7.obj (R := M) m6 (fun x => hM3' x)
      have g11 : w6.cell? ⟨E, 11, none⟩ = some (.map (some mb3)) := by rw [obj_cell nE6]; rfl
      obtain ⟨cl, hcl⟩ : ∃ cl, cl = T.clock + 1 := ⟨_, rfl⟩
      have f4 : w7.cell? ⟨f, 4, none⟩ = some (.int .i64 cl) := by rw [obj_cell o7, hcl]; rfl
      have f10 : w7.cell? ⟨M, 10, none⟩ = some (.int .i64 m.v.change) := by rw [obj_cell m7]; rfl
      have g10 := obj_free m7 10
      obtain ⟨w8, hw8⟩ : ∃ w8, w8 = w7.setCell ⟨M, 10, none⟩ (.int .i64 cl) := ⟨_, rfl⟩
      have o8 : w8.heap[f]? = some (.cells (fsC mb { T with clock := T.clock + 1 }).toArray 76 (0, 0)) := by rw [hw8, Below.heap_setCell _ _ _ _ hMf.symm]; exact o7
      have nD8 : w8.heap[D]? = some (.cells (ndC (touch (T.clock + 1) d) (some mb2) a2 q2).toArray 73 (0, 0)) := by rw [hw8, Below.heap_setCell _ _ _ _ hMD.symm]; exact nD7
      have nE8 : w8.heap[E]? = some (.cells (ndC (touch (T.clock + 1) e) (some mb3) a3 q3).toArray 73 (0, 0)) := by rw [hw8, Below.heap_setCell _ _ _ _ hME.symm]; exact nE7
      have m8 : w8.heap[M]? = some (.cells (ndC (setChange cl m) m1 a1 q1).toArray 73 (0, 0)) := by rw [hw8]; exact obj_set m7 10 _
      have k8 : Kept (OneB M) w7 w8 := by rw [hw8]; exact kept_one _ _ _ _
      have e0 : w8.cell? ⟨M, 0, none⟩ = some (.int .i64 6) := by
        rw [obj_cell m8]
        show some (Value.int .i64 m.v.kind) = _
        rw [← HKd.out]
      obtain ⟨par, hpar⟩ : ∃ par, par = m.par := ⟨_, rfl⟩
      have f12 : w8.cell? ⟨M, 12, none⟩ = some (.int .i64 par) := by rw [obj_cell m8, hpar]; rfl
      have g12 := obj_free m8 12
      obtain ⟨w9, hw9⟩ : ∃ w9, w9 = w8.setCell ⟨M, 12, none⟩ (.int .i64 dst) := ⟨_, rfl⟩
      have o9 : w9.heap[f]? = some (.cells (fsC mb { T with clock := T.clock + 1 }).toArray 76 (0, 0)) := by rw [hw9, Below.heap_setCell _ _ _ _ hMf.symm]; exact o8
      have nD9 : w9.heap[D]? = some (.cells (ndC (touch (T.clock + 1) d) (some mb2) a2 q2).toArray 73 (0, 0)) := by rw [hw9, Below.heap_setCell _ _ _ _ hMD.symm]; exact nD8
      have nE9 : w9.heap[E]? = some (.cells (ndC (touch (T.clock + 1) e) (some mb3) a3 q3).toArray 73 (0, 0)) := by rw [hw9, Below.heap_setCell _ _ _ _ hME.symm]; exact nE8
      have m9 : w9.heap[M]? = some (.cells (ndC (moved (T.clock + 1) dst m) m1 a1 q1).toArray 73 (0, 0)) := by
        have h1 : moved (T.clock + 1) dst m = { setChange cl m with par := dst } := by unfold moved; rw [if_pos HKd.out.symm, hcl]
        rw [hw9, h1]; exact obj_set m8 12 _
      have k89 : Kept (OneB M) w7 w9 := k8.trans (by rw [hw9]; exact kept_one _ _ _ _)
      have HW9 := Lib.hid hw9
      have hfin : Hid (FsSt (Grow S w w9) w9 f (moveT T dir d part dst e asn ino m) ∧ Kept S w w9) := Lib.hid (by
        obtain ⟨h, hd, he, hm, hBD, hBE, hND, hNE, hNM, hl2, hl3, hdi, hsi, hok⟩ := HA.out
        have k0x : Kept (fun k => k = f ∨ k = D ∨ k = E ∨ k = mb2 ∨ k = mb3 ∨ k = M) w w9 := (((k05.mono (fun k _ x => by rcases x with x | x | x; exact .inl x; exact .inr (.inl x); exact .inr (.inr (.inl x)))).trans (k6.mono (fun k _ x => .inr (.inr (.inr (.inl x)))))).trans (k7.mono (fun k _ x => .inr (.inr (.inr (.inr (.inl x))))))).trans (k89.mono (fun k _ x => .inr (.inr (.inr (.inr (.inr x))))))
        refine move_done h hd he hm hBD hBE HT2.out hND hNE hNM hl2 hl3 hdi hsi hok k0x o9 nD9 nE9 m9 (fun q => ?_) ?_
        · exact MapF.kept (MapF.kept t6 k7 (fun x => (HSd.out.2 q).2 x.symm)) k89 (fun x => hM2 x.symm)
        · rw [hl2e] at t7; exact MapF.kept t7 k89 (fun x => hM3' x.symm))
      have HW8 := Lib.hid hw8
      clear o5 nD5 nE5 m5 k05 nm5E hMD hME hMf hfD hfE hf2 hf3 hD2 hD3 hE2 hE3 hM2 hM3' o6 nD6 nE6 m6 hl2e hl2p t7 k7 s7 o7 nD7 nE7 m7 hcl hw8 o8 nD8 nE8 m8 k8 t6 k6 s6 f11 hpar hw9 o9 nD9 nE9 m9 k89
      go_upto_region 16 with fail
      clear hr7 g11
      go_upto_region 17 with fail
      rw [← HW8.out]
      clear f4 g10 f10
      go_wp2_with fail
      go_ret
      rw [← HW9.out]
      exact ⟨rfl, hfin.out⟩
    · have hk6' : (kd == 6) = false := by simpa using hk6
      go_upto_region 13 with (first | (at_lookup; first | (refine wpList_names_ok rfl (.tmp 36) (.tmp 37) rfl (MapF.kept HM.out HK3.out id) rfl rfl hsl ?_; rw [HG.out]) | (refine wpList_names_ok rfl (.tmp 47) (.tmp 48) rfl (MapF.kept HM3.out HK3.out id) rfl rfl hsl2 ?_; rw [HG3.out]) | (refine wpList_nodes_at rfl _ _ rfl (MapF.kept HT.out HK3.out id) rfl rfl hino ?_; rw [HT2.out, ptrV_some])) | fail)
      go_wp2_with fail
      rw [← HW4.out]
      refine HTk.out.mono ?_
      rintro e5 w5 ⟨rfl, o5, n5, k5, s5⟩
      have o5' : w5.heap[f]? = some (.cells (fsC mb { T with clock := T.clock + 1 }).toArray 76 (0, 0)) := o5
      have nD5 := n5 D (by simp)
      simp only [if_pos trivial, if_true] at nD5
      rw [tchA_nd] at nD5
      have nE5 : w5.heap[E]? = some (.cells (ndC (touch (T.clock + 1) e) (some mb3) a3 q3).toArray 73 (0, 0)) := by
        by_cases q : dst = dir
        · obtain ⟨q1, q2', q3', q4, q5⟩ := HSd.out.1 q
          rw [q2', q1, q3', q4, q5]; exact nD5
        · have n6 := n5 E (by simp)
          simp only [if_neg (HSd.out.2 q).1] at n6
          rw [tchA_nd] at n6
          exact n6
      have k05 : Kept (fun k => k = f ∨ k = D ∨ k = E) w w5 := HK4.out.dom.trans (k5.mono (fun k _ x => by
        rcases x with x | x
        · exact .inl x
        · simp at x; exact .inr x))
      obtain ⟨h, hd, he, hm, hBD, hBE, hND, hNE, hNM, hl2, hl3, hdi, hsi, hok⟩ := HA.out
      obtain ⟨hMD, hME, hMf, hfD, hfE, hf2, hf3, hD2, hD3, hE2, hE3, hM2, hM3'⟩ := HNe.out
      have od := h.ok.node dir d hd
      have oe := h.ok.node dst e he
      have nm5 : NamesAt w5 mb2 d.names := MapF.kept HM.out k05 (fun x => by rcases x with x | x | x; exact hf2 x.symm; exact hD2 x.symm; exact hE2 x.symm)
      have nm5E : NamesAt w5 mb3 e.names := MapF.kept HM3.out k05 (fun x => by rcases x with x | x | x; exact hf3 x.symm; exact hD3 x.symm; exact hE3 x.symm)
      have m5 := k05.obj (R := M) hNM.obj (fun x => by rcases x with x | x | x; exact hMf x; exact hMD x; exact hME x)
      have f11 : w5.cell? ⟨D, 11, none⟩ = some (.map (some mb2)) := by rw [obj_cell nD5]; rfl
      have HNm5 := Lib.hid nm5; have HOd := Lib.hid od; have HOe := Lib.hid oe
      have H5 := Lib.hid (⟨o5', nD5, nE5, m5, k05, nm5E⟩ : _ ∧ _ ∧ _ ∧ _ ∧ _ ∧ _)
      clear o5 n5 k5 s5 o5' nD5 nE5 k05 od oe nm5 nm5E m5 h hd he hm hBD hBE hND hNE hNM hl2 hl3 hdi hsi hok hMD hME hMf hfD hfE hf2 hf3 hD2 hD3 hE2 hE3 hM2 hM3' HTk
      go_upto_region 15 with (first | (at_delete; refine wpList_names_delete rfl (.tmp 79) (.tmp 80) rfl HNm5.out HOd.out.sorted rfl rfl hsl HG.out ?_; intro w6 t6 k6 s6) | fail)
      obtain ⟨o5, nD5, nE5, m5, k05, nm5E⟩ := H5.out
      obtain ⟨hMD, hME, hMf, hfD, hfE, hf2, hf3, hD2, hD3, hE2, hE3, hM2, hM3'⟩ := HNe.out
      have o6 := k6.obj (R := f) o5 (fun x => hf2 x)
      have nD6 := k6.obj (R := D) nD5 (fun x => hD2 x)
      have nE6 := k6.obj (R := E) nE5 (fun x => hE2 x)
      have m6 := k6.obj (R := M) m5 (fun x => hM2 x)
      obtain ⟨l2, hl2e⟩ : ∃ l2, l2 = if dst = dir then delK d.names part else e.names := ⟨_, rfl⟩
      have hl2p : NamesAt w6 mb3 l2 ∧ OkK l2 ∧ getK l2 asn = none ∧ l2.length < maxLen := by
        have hdf := HOd.out.few
        have hef := HOe.out.few
        have hcl := hclk
        rw [hl2e]
        by_cases q : dst = dir
        · rw [if_pos q]
          obtain ⟨q1, q2', q3', q4, q5⟩ := HSd.out.1 q
          have g3 := HG3.out
          rw [q1] at g3
          refine ⟨by rw [q3']; exact t6, delK_ok HOd.out.sorted _, ?_, ?_⟩
          · rw [getK_del HOd.out.sorted]
            split
            · rfl
            · exact g3
          · have := delK_len HOd.out.sorted HG.out
            unfold maxLen; omega
        · rw [if_neg q]
          refine ⟨MapF.kept nm5E k6 (fun x => (HSd.out.2 q).2 x), HOe.out.sorted, HG3.out, ?_⟩
          unfold maxLen; omega
      obtain ⟨w7, hr7, t7, k7, s7⟩ := names_put hl2p.1 hl2p.2.1 asn hsl2 ino hino hl2p.2.2.1 hl2p.2.2.2
      have o7 := k7.obj (R := f) o6 (fun x => hf3 x)
      have nD7 := k7.obj (R := D) nD6 (fun x => hD3 x)
      have nE7 := k7.obj (R := E) nE6 (fun x => hE3 x)
      have m7 := k7.obj (R := M) m6 (fun x => hM3' x)
      have g11 : w6.cell? ⟨E, 11, none⟩ = some (.map (some mb3)) := by rw [obj_cell nE6]; rfl
      obtain ⟨cl, hcl⟩ : ∃ cl, cl = T.clock + 1 := ⟨_, rfl⟩
      have f4 : w7.cell? ⟨f, 4, none⟩ = some (.int .i64 cl) := by rw [obj_cell o7, hcl]; rfl
      have f10 : w7.cell? ⟨M, 10, none⟩ = some (.int .i64 m.v.change) := by rw [obj_cell m7]; rfl
      have g10 := obj_free m7 10
      obtain ⟨w8, hw8⟩ : ∃ w8, w8 = w7.setCell ⟨M, 10, none⟩ (.int .i64 cl) := ⟨_, rfl⟩
      have o8 : w8.heap[f]? = some (.cells (fsC mb { T with clock := T.clock + 1 }).toArray 76 (0, 0)) := by rw [hw8, Below.heap_setCell _ _ _ _ hMf.symm]; exact o7
      have nD8 : w8.heap[D]? = some (.cells (ndC (touch (T.clock + 1) d) (some mb2) a2 q2).toArray 73 (0, 0)) := by rw [hw8, Below.heap_setCell _ _ _ _ hMD.symm]; exact nD7
      have nE8 : w8.heap[E]? = some (.cells (ndC (touch (T.clock + 1) e) (some mb3) a3 q3).toArray 73 (0, 0)) := by rw [hw8, Below.heap_setCell _ _ _ _ hME.symm]; exact nE7
      have m8 : w8.heap[M]? = some (.cells (ndC (setChange cl m) m1 a1 q1).toArray 73 (0, 0)) := by rw [hw8]; exact obj_set m7 10 _
      have k8 : Kept (OneB M) w7 w8 := by rw [hw8]; exact kept_one _ _ _ _
      have e0 : w8.cell? ⟨M, 0, none⟩ = some (.int .i64 kd) := by rw [obj_cell m8, HKd.out]; rfl
      have m9 : w8.heap[M]? = some (.cells (ndC (moved (T.clock + 1) dst m) m1 a1 q1).toArray 73 (0, 0)) := by
        have h1 : moved (T.clock + 1) dst m = setChange cl m := by unfold moved; rw [if_neg (by rw [← HKd.out]; exact hk6), hcl]; rfl
        rw [h1]; exact m8
      have hfin : Hid (FsSt (Grow S w w8) w8 f (moveT T dir d part dst e asn ino m) ∧ Kept S w w8) := Lib.hid (by
        obtain ⟨h, hd, he, hm, hBD, hBE, hND, hNE, hNM, hl2, hl3, hdi, hsi, hok⟩ := HA.out
        have k0x : Kept (fun k => k = f ∨ k = D ∨ k = E ∨ k = mb2 ∨ k = mb3 ∨ k = M) w w8 := (((k05.mono (fun k _ x => by rcases x with x | x | x; exact .inl x; exact .inr (.inl x); exact .inr (.inr (.inl x)))).trans (k6.mono (fun k _ x => .inr (.inr (.inr (.inl x)))))).trans (k7.mono (fun k _ x => .inr (.inr (.inr (.inr (.inl x))))))).trans (k8.mono (fun k _ x => .inr (.inr (.inr (.inr (.inr x))))))
        refine move_done h hd he hm hBD hBE HT2.out hND hNE hNM hl2 hl3 hdi hsi hok k0x o8 nD8 nE8 m9 (fun q => ?_) ?_
        · exact MapF.kept (MapF.kept t6 k7 (fun x => (HSd.out.2 q).2 x.symm)) k8 (fun x => hM2 x.symm)
        · rw [hl2e] at t7; exact MapF.kept t7 k8 (fun x => hM3' x.symm))
      have HW8 := Lib.hid hw8
      clear o5 nD5 nE5 m5 k05 nm5E hMD hME hMf hfD hfE hf2 hf3 hD2 hD3 hE2 hE3 hM2 hM3' o6 nD6 nE6 m6 hl2e hl2p t7 k7 s7 o7 nD7 nE7 m7 hcl hw8 o8 nD8 nE8 m8 k8 t6 k6 s6 f11 m9
      go_upto_region 16 with fail
      clear hr7 g11
      go_upto_region 17 with fail
      rw [← HW8.out]
      clear f4 g10 f10
      go_wp2_with fail
      go_ret
      exact ⟨rfl, hfin.out⟩
end Go.Proofs.Ytpkdfkndmgijjaa
