/-
  lens.Read: a head is read.
-/
import Derived.Test.YtpdlkmacdmnamaaMb24
namespace Go.Proofs.Ytpdlkmacdmnamaa
open Go.RowKit
set_option linter.unusedVariables false
set_option linter.unusedSimpArgs false

theorem DecG.inH {S : Nat → Prop} {ls : List Int} {D : Nat} {w : World} (h : DecG ls D S w) : DecG ls D (fun k => S k ∧ k < w.heap.size) w := by
  obtain ⟨pa, P, pc, h1, h2, h3, h4⟩ := h.all
  exact ⟨⟨h.lt, obj_lt h1.obj⟩, pa, P, pc, h1, fun i hi => by obtain ⟨g, o, k1, k2, k3⟩ := h2 i hi; exact ⟨g, o, k1, ⟨k2, World.block_lt_of_cell? w _ k3⟩, k3⟩, h3, h4⟩
/-- What Read of a head tells, where the reader is then. -/
def HeadRP (bs : List Int) (p R : Nat) (ao : Option Addr) (cap : Nat) (w : World) (e : Ending) (w' : World) : Prop :=
  ∃ (la : Option Addr) (lc : Nat) (lit : List Int) (da : Option Addr) (dc : Nat) (dist : List Int) (f : Int) (q q' : Nat), e = .returned (.tuple #[.slice la lit.length lc, .slice da dist.length dc, .int .i64 f]) ∧
    HeadR bs p lit dist f q ∧ Rdr w' R ao cap bs q' ∧ (f = 0 → q' = q) ∧ OwnI w' la lc lit ∧ OwnI w' da dc dist ∧ Kept (OneB R) w w'
theorem HeadRP.non {bs : List Int} {p R : Nat} {ao : Option Addr} {cap : Nat} {w w' : World} {f : Int} {q q' : Nat} (h : HeadR bs p [] [] f q) (h0 : f ≠ 0) (hr : Rdr w' R ao cap bs q') (hk : Kept (OneB R) w w') :
    HeadRP bs p R ao cap w (.returned (.tuple #[.slice none 0 0, .slice none 0 0, .int .i64 f])) w' :=
  ⟨none, 0, [], none, 0, [], f, q, q', rfl, h, hr, fun h => absurd h h0, World.ownsRow_nil _ _ _ _, World.ownsRow_nil _ _ _ _, hk⟩
theorem and31_u32 (r : Nat) (h : r < 4294967296) : bits .and .u32 (r : Int) 31 = ((r % 32 : Nat) : Int) := by
  have h1 := u32_and_nat r 31 h (by decide)
  rw [show r &&& 31 = r % 32 from Nat.and_two_pow_sub_one_eq_mod r 5] at h1
  exact h1
set_option maxRecDepth 20000 in
set_option maxHeartbeats 8000000 in
theorem lensRead_any (bs : List Int) (p R : Nat) (ao : Option Addr) (cap : Nat) (w : World) (hr : Rdr w R ao cap bs p) :
    Calls Try.prog 11 #[.pointer (some ⟨R, 0, none⟩)] w (HeadRP bs p R ao cap w) := by
  have HR := Lib.hid hr
  clear hr
  by_cases hsh : 8 * bs.length < p + 14
  · have htk := take_no w R ao cap bs p 14 HR.out (.inr (.inr (by omega)))
    have HTk := Lib.hid htk
    have HH := Lib.hid (show HeadR bs p [] [] 2 0 by unfold HeadR; rw [if_pos hsh]; exact ⟨rfl, rfl, rfl⟩)
    clear htk hsh
    go_enter Try.func11, Try.ntmps11
    go_wp2_with fail
    with_reducible refine HTk.out.mono ?_
    rintro e w1 ⟨rfl, hk1⟩
    have HR1 := Lib.hid (HR.out.keptNo hk1); have HK1 := Lib.hid hk1
    clear hk1 HTk
    go_wp2
    go_ret3
    exact HeadRP.non HH.out (by decide) HR1.out (HK1.out.mono (fun _ _ h => h.elim))
  · have htk := take_yes w R ao cap bs p 14 HR.out (by decide) (by omega)
    rw [show ((14 : Nat) : Int) = 14 from rfl] at htk
    obtain ⟨c1, c2, c3⟩ := counts14 bs p
    have hx := bitsAt_lt bs p 14
    obtain ⟨x, hxe⟩ : ∃ x, x = bitsAt bs p 14 := ⟨_, rfl⟩
    rw [← hxe] at htk c1 c2 c3 hx
    have hx2 : x < 16384 := hx
    have e1 := and31_u32 x (by omega)
    have e2 := and31_u32 (x / 32) (by omega)
    rw [c1] at e1
    rw [c2] at e2
    obtain ⟨A, hA⟩ : ∃ A, A = bitsAt bs p 5 := ⟨_, rfl⟩
    obtain ⟨Bv, hB⟩ : ∃ B, B = bitsAt bs (p + 5) 5 := ⟨_, rfl⟩
    obtain ⟨C, hC⟩ : ∃ C, C = bitsAt bs (p + 10) 4 := ⟨_, rfl⟩
    rw [← hA] at e1 c1
    rw [← hB] at e2 c2
    rw [← hC] at c3
    obtain ⟨Y, hY⟩ : ∃ Y, Y = x / 32 := ⟨_, rfl⟩
    rw [← hY] at e2
    have y1 : (x : Int) / 32 = (Y : Int) := by omega
    have y2 : (x : Int) / 1024 = (C : Int) := by omega
    have hA32 : A < 32 := by omega
    have hB32 : Bv < 32 := by omega
    have hC16 : C < 16 := by omega
    have HTk := Lib.hid htk; have HA := Lib.hid hA; have HB := Lib.hid hB; have HC := Lib.hid hC; have HSh := Lib.hid hsh
    clear htk hA hB hC hxe hx c1 c2 hsh hY c3
    go_enter Try.func11, Try.ntmps11
    go_wp2_with fail
    with_reducible refine HTk.out.mono ?_
    rintro e w1 ⟨rfl, hr1, hk1⟩
    have HR1 := Lib.hid hr1; have HK1 := Lib.hid hk1
    clear hr1 hk1 HTk
    go_upto_region 6 with fail
    by_cases hbig : 29 < A ∨ 29 < Bv
    · have HH := Lib.hid (show HeadR bs p [] [] 6 0 by unfold HeadR; rw [if_neg HSh.out, if_pos (by rw [← HA.out, ← HB.out]; exact hbig)]; exact ⟨rfl, rfl, rfl⟩)
      have hg : (286 : Int) < (A : Int) + 257 ∨ ¬ (286 : Int) < (A : Int) + 257 ∧ (30 : Int) < (Bv : Int) + 1 := by omega
      clear hbig
      rcases hg with g1 | ⟨g1, g2⟩
      all_goals
        go_wp2
        go_ret3
        exact HeadRP.non HH.out (by decide) HR1.out HK1.out
    · have g1 : ¬ (286 : Int) < (A : Int) + 257 := by omega
      have g2 : ¬ (30 : Int) < (Bv : Int) + 1 := by omega
      have HSm := Lib.hid hbig
      have hA29 : A ≤ 29 := by omega
      have hB29 : Bv ≤ 29 := by omega
      obtain ⟨n, hn⟩ : ∃ n, n = C + 4 := ⟨_, rfl⟩
      have n1 : (C : Int) + 4 = (n : Int) := by omega
      have hcd := readCode_any bs (p + 14) n R ao cap w1 HR1.out (by omega)
      have HCd := Lib.hid hcd; have HN := Lib.hid hn
      clear hbig hcd hn
      go_wp2_with fail
      with_reducible refine HCd.out.mono ?_
      rintro e w2 ⟨hk2, ⟨q2, hr2, hq2⟩, he⟩
      have HK2 := Lib.hid (HK1.out.trans hk2); have HR2 := Lib.hid hr2
      clear hk2 hr2 HCd
      by_cases hs2 : 8 * bs.length < p + 14 + 3 * n
      · rw [if_pos hs2] at he
        subst he
        have HH := Lib.hid (show HeadR bs p [] [] 2 0 by
          unfold HeadR
          rw [if_neg HSh.out, if_neg (by rw [← HA.out, ← HB.out]; exact HSm.out), if_pos (by rw [← HC.out, ← HN.out]; exact hs2)]; exact ⟨rfl, rfl, rfl⟩)
        clear hs2 hq2
        go_wp2
        go_ret3
        exact HeadRP.non HH.out (by decide) HR2.out HK2.out
      · rw [if_neg hs2] at he
        by_cases hfb : fullB (codeT bs (p + 14) n) = false
        · rw [if_pos hfb] at he
          subst he
          have HH := Lib.hid (show HeadR bs p [] [] 6 0 by
            unfold HeadR
            rw [if_neg HSh.out, if_neg (by rw [← HA.out, ← HB.out]; exact HSm.out), if_neg (by rw [← HC.out, ← HN.out]; exact hs2), if_pos (by rw [← HC.out, ← HN.out]; exact hfb)]; exact ⟨rfl, rfl, rfl⟩)
          clear hs2 hq2 hfb
          go_wp2
          go_ret3
          exact HeadRP.non HH.out (by decide) HR2.out HK2.out
        · rw [if_neg hfb] at he
          obtain ⟨D, rfl, hdg⟩ := he
          have hq := hq2 (by omega)
          subst hq
          obtain ⟨N, hN⟩ : ∃ N, N = (A + 257) + (Bv + 1) := ⟨_, rfl⟩
          have n2 : ((A : Int) + 257) + ((Bv : Int) + 1) = (N : Int) := by omega
          have HR1w := Lib.hid (obj_lt HR1.out.1)
          have hrw := readRow_any (codeT bs (p + 14) n) D R N (fun k => w1.heap.size ≤ k ∧ k < w2.heap.size) ao cap bs (p + 14 + 3 * n) w2 hdg.inH HR2.out (fun h => by have := HR1w.out; omega) (fun k h => h.2) (small7_15 (codeT_small _ _ _)) (by rw [codeT_len]; decide) (by omega)
          have HRw := Lib.hid hrw
          have HHs : Hid (∀ (row : List Int) (q' : Nat) (f : Int) (lit dist : List Int) (e : Int) (q : Nat), RowR (codeT bs (p + 14) n) bs N (p + 14 + 3 * n) [] q' row f → (if f = 0 then if mayB (row.take (A + 257)) (row.drop (A + 257)) = true then lit = row.take (A + 257) ∧ dist = row.drop (A + 257) ∧ e = 0 ∧ q = q' else lit = [] ∧ dist = [] ∧ e = 6 else lit = [] ∧ dist = [] ∧ e = f) → HeadR bs p lit dist e q) := Lib.hid (fun row q' f lit dist e q h1 h2 => by
            unfold HeadR
            rw [if_neg HSh.out, if_neg (by rw [← HA.out, ← HB.out]; exact HSm.out), if_neg (by rw [← HC.out, ← HN.out]; exact hs2), if_neg (by rw [← HC.out, ← HN.out]; exact hfb)]
            rw [← HC.out, ← HN.out, ← HA.out, ← HB.out, ← hN]
            exact ⟨row, q', f, h1, h2⟩)
          clear hrw hdg hs2 hq2 hfb hN
          go_wp2_with fail
          with_reducible refine HRw.out.mono ?_
          rintro e w3 ⟨a3, c3, row, f, q3, q3', rfl, hrr, hr3, hqq, hown, hk3, hnew⟩
          by_cases hf : f = 0
          · subst hf
            obtain ⟨hlen, hsm, _⟩ := hrr.ok rfl (by simp) (fun z hz => by simp at hz) (by have := HR2.out.2.2.2.1; omega)
            have hHs := HHs.out row q3 0
            have HF : Hid (∀ (lit dist : List Int), lit = row.take (A + 257) → dist = row.drop (A + 257) → (mayB lit dist = true → HeadR bs p lit dist 0 q3) ∧ (mayB lit dist = false → HeadR bs p [] [] 6 0)) := Lib.hid (fun lit dist h1 h2 => by
              subst h1 h2
              refine ⟨fun h => hHs _ _ _ _ hrr ?_, fun h => hHs _ _ _ _ hrr ?_⟩
              · rw [if_pos rfl, if_pos h]; exact ⟨rfl, rfl, rfl, rfl⟩
              · rw [if_pos rfl, if_neg (by rw [h]; decide)]; exact ⟨rfl, rfl, rfl⟩)
            obtain ⟨g3, rfl⟩ := own_some hown (by omega)
            obtain ⟨cb1, cb2⟩ := own_cap2 hown
            have hq3 : q3' = q3 := hqq rfl
            subst hq3
            have hrd := own_readsI hown rfl
            have HK3 := Lib.hid (HK2.out.trans hk3); have HR3 := Lib.hid hr3
            obtain ⟨lit, hlit⟩ : ∃ lit, lit = row.take (A + 257) := ⟨_, rfl⟩
            obtain ⟨dist, hdist⟩ : ∃ dist, dist = row.drop (A + 257) := ⟨_, rfl⟩
            have l1 : lit.length = A + 257 := by rw [hlit, List.length_take]; omega
            have l2 : dist.length = Bv + 1 := by rw [hdist, List.length_drop]; omega
            have HF2 := Lib.hid (HF.out lit dist hlit hdist)
            have r1 : RdI w3 w3.heap.size (some ⟨g3, 0, none⟩) lit := fun i hi => by
              obtain ⟨g, o, h1, h2, h3⟩ := hrd i (by omega)
              cases h1
              exact ⟨g3, 0, rfl, h2, by rw [h3, hlit]; simp [List.getD, List.getElem?_take, show i < A + 257 by omega]⟩
            have r2 : RdI w3 w3.heap.size (some ⟨g3, A + 257, none⟩) dist := fun i hi => by
              obtain ⟨g, o, h1, h2, h3⟩ := hrd (A + 257 + i) (by omega)
              cases h1
              refine ⟨g3, _, rfl, h2, ?_⟩
              rw [show A + 257 + i = 0 + (A + 257 + i) by omega, h3, hdist]
              simp [List.getD, List.getElem?_drop]
            have s1 : Small 15 lit := fun z hz => hsm z (by rw [hlit] at hz; exact List.mem_of_mem_take hz)
            have s2 : Small 15 dist := fun z hz => hsm z (by rw [hdist] at hz; exact List.mem_of_mem_drop hz)
            have HS1 := Lib.hid s1; have HS2 := Lib.hid s2
            obtain ⟨u, hu⟩ : ∃ u, u = A + 257 := ⟨_, rfl⟩
            obtain ⟨v, hv⟩ : ∃ v, v = Bv + 1 := ⟨_, rfl⟩
            rw [← hu] at l1 r2
            rw [← hv] at l2
            have HL1 := Lib.hid l1; have HL2 := Lib.hid l2
            have HC1 : Hid (∀ W, Kept NoB w3 W → Calls Try.prog 32 #[.slice (some ⟨g3, 0, none⟩) u c3] W fun e w' => ∃ a c, e = .returned (.slice a lit.length c) ∧ OwnI w' a c lit ∧ Kept NoB W w' ∧ (∀ k, (Value.slice a lit.length c).ownBlock = some k → W.heap.size ≤ k)) := Lib.hid (fun W hW => icln_any _ c3 _ u lit W (r1.keptNo hW) l1.symm (by omega))
            have HC2 : Hid (∀ W, Kept NoB w3 W → Calls Try.prog 32 #[.slice (some ⟨g3, u, none⟩) v (c3 - u)] W fun e w' => ∃ a c, e = .returned (.slice a dist.length c) ∧ OwnI w' a c dist ∧ Kept NoB W w' ∧ (∀ k, (Value.slice a dist.length c).ownBlock = some k → W.heap.size ≤ k)) := Lib.hid (fun W hW => icln_any _ (c3 - u) _ v dist W (r2.keptNo hW) l2.symm (by omega))
            have u1 : (A : Int) + 257 = (u : Int) := by omega
            have u2 : row.length = N := hlen
            have u3 : N = u + v := by omega
            have u4 : ¬ c3 = u := by omega
            have u5 : u ≤ c3 := by omega
            have u6 : u ≤ N := by omega
            have u7 : N - u = v := by omega
            have u8 : (u : Int) ≤ (N : Int) := by omega
            have u9 : (0 : Int) ≤ (u : Int) := by omega
            have HU := Lib.hid (show 257 ≤ u by omega)
            rw [u2] at cb1 ⊢
            rw [u1]
            clear u3 r1 r2 s1 s2 hlit hdist hrd hHs hrr hsm hqq hown hk3 hnew l1 l2 HF HHs hr3 hu hv u1 u2 hlen HRw n2 hA29 hB29 g1 g2 e1 e2
            have hk0 := Kept.refl NoB w3
            go_upto_region 14 with fail
            go_cut [2, 3] from 57 to 65 (fun s t wx => ∃ la lc da dc, s = .slice la lit.length lc ∧ t = .slice da dist.length dc ∧ Hid (OwnI wx la lc lit) ∧ Hid (OwnI wx da dc dist) ∧ Hid (Kept NoB w3 wx))
            case first =>
              go_wp2_with fail
              go_region_held3 (fun W => Kept NoB w3 W) (first | assumption | exact Kept.drew (by assumption) | exact Kept.trans (by assumption) hkn | exact Kept.trans (by assumption) hkm)
                (first
                  | (go_at_call 32; ((with_reducible refine (HC1.out _ (by assumption)).mono ?_); rintro e wn ⟨la, lc, rfl, hla, hkn, hfa⟩; have HLa := Lib.hid hla; clear hla hfa))
                  | (go_at_call 32; ((with_reducible refine (HC2.out _ (by assumption)).mono ?_); rintro e wm ⟨da, dc, rfl, hda, hkm, hfd⟩; have HDa := Lib.hid hda; clear hda hfd)))
              go_wp2
              go_meet
              have hk1 : Kept NoB w3 wn := by first | assumption | exact Kept.trans (by assumption) hkn | exact Kept.trans (Kept.drew (by assumption)) hkn
              exact ⟨la, lc, da, dc, rfl, rfl, Lib.hid (hkm.row HLa.out (fun _ _ h => h)), HDa, Lib.hid (hk1.trans hkm)⟩
            case rest =>
            obtain ⟨la, lc, da, dc, rfl, rfl, HLa, HDa, HKc⟩ := hcut
            have HRc := Lib.hid (HR3.out.keptNo HKc.out); have HK4 := Lib.hid (HK3.out.trans (HKc.out.mono (fun _ _ h => h.elim)))
            have hmb := may_any la lc _ lit da dc _ dist wc HLa.out.reads (fun z hz => by have := HS1.out z hz; omega) HDa.out.reads (fun z hz => by have := HS2.out z hz; omega) (by have := HL1.out; have := HU.out; omega)
            have HMb := Lib.hid hmb
            clear hmb HC1 HC2
            cases hmy : mayB lit dist with
            | true =>
              have HH := Lib.hid (HF2.out.1 hmy)
              rw [hmy] at HMb
              clear hmy
              go_wp2_with fail
              with_reducible refine HMb.out.mono ?_
              rintro e w5 ⟨rfl, hk5⟩
              have HR5 := Lib.hid (HRc.out.keptNo hk5); have HK5 := Lib.hid (HK4.out.trans (hk5.mono (fun _ _ h => h.elim))); have HLa5 := Lib.hid (hk5.row HLa.out (fun _ _ h => h)); have HDa5 := Lib.hid (hk5.row HDa.out (fun _ _ h => h))
              clear hk5 HMb
              go_wp2
              go_ret3
              exact ⟨la, lc, lit, da, dc, dist, 0, _, _, rfl, HH.out, HR5.out, fun _ => rfl, HLa5.out, HDa5.out, HK5.out⟩
            | false =>
              have HH := Lib.hid (HF2.out.2 hmy)
              rw [hmy] at HMb
              clear hmy
              go_wp2_with fail
              with_reducible refine HMb.out.mono ?_
              rintro e w5 ⟨rfl, hk5⟩
              have HR5 := Lib.hid (HRc.out.keptNo hk5); have HK5 := Lib.hid (HK4.out.trans (hk5.mono (fun _ _ h => h.elim)))
              clear hk5 HMb
              go_wp2
              go_ret3
              exact HeadRP.non HH.out (by decide) HR5.out HK5.out
          · have hl0 := hrr.err hf
            subst hl0
            have HH := Lib.hid (HHs.out [] q3 f [] [] f 0 hrr (by rw [if_neg hf]; exact ⟨rfl, rfl, rfl⟩))
            have hf2 : (f == 0) = false := by simp [hf]
            have HFn := Lib.hid hf; have HR3 := Lib.hid hr3; have HK3 := Lib.hid (HK2.out.trans hk3)
            clear hrr hr3 hqq hown hk3 hnew HHs hf HRw
            go_wp2
            go_ret3
            exact HeadRP.non HH.out HFn.out HR3.out HK3.out
end Go.Proofs.Ytpdlkmacdmnamaa
