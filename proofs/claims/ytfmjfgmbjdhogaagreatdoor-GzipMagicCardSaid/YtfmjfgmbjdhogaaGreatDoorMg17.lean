/-
  lens.Read: a head is read.
  An Inflater beside its reader: what is kept from item to item.
  startFixed.
-/
import Derived.Test.YtfmjfgmbjdhogaaGreatDoorMg16
namespace Go.Proofs.YtfmjfgmbjdhogaaGreatDoor
open Go.RowKit
set_option linter.unusedVariables false
set_option linter.unusedSimpArgs false

theorem DecG.inH {S : Nat → Prop} {ls : List Int} {D : Nat} {w : World} (h : DecG ls D S w) : DecG ls D (fun k => S k ∧ k < w.heap.size) w := by
  obtain ⟨pa, P, pc, h1, h2, h3, h4⟩ := h.all
  exact ⟨⟨h.lt, obj_lt h1.obj⟩, pa, P, pc, h1, fun i hi => by obtain ⟨g, o, k1, k2, k3⟩ := h2 i hi; exact ⟨g, o, k1, ⟨k2, World.block_lt_of_cell? w _ k3⟩, k3⟩, h3, h4⟩
def HeadRP (bs : List Int) (p R : Nat) (ao : Option Addr) (cap : Nat) (w : World) (e : Ending) (w' : World) : Prop :=
  ∃ (la : Option Addr) (lc : Nat) (lit : List Int) (da : Option Addr) (dc : Nat) (dist : List Int) (f : Int) (q q' : Nat), e = .returned (.tuple #[.slice la lit.length lc, .slice da dist.length dc, .int .i64 f]) ∧
    HeadR bs p lit dist f q ∧ Rdr w' R ao cap bs q' ∧ (f = 0 → q' = q) ∧ OwnI w' la lc lit ∧ OwnI w' da dc dist ∧ Kept (OneB R) w w'
theorem HeadRP.non {bs : List Int} {p R : Nat} {ao : Option Addr} {cap : Nat} {w w' : World} {f : Int} {q q' : Nat} (h : HeadR bs p [] [] f q) (h0 : f ≠ 0) (hr : Rdr w' R ao cap bs q') (hk : Kept (OneB R) w w') :
    HeadRP bs p R ao cap w (.returned (.tuple #[.slice none 0 0, .slice none 0 0, .int .i64 f])) w' :=
  ⟨none, 0, [], none, 0, [], f, q, q', rfl, h, hr, fun h => absurd h h0, World.ownsRow_nil _ _ _ _, World.ownsRow_nil _ _ _ _, hk⟩
theorem and31_u32 (r : Nat) (h : r < 4294967296) : bits .and .u32 (r : Int) 31 = ((r % 32 : Nat) : Int) := by
  have h1 := u32_and_nat r 31 h (by decide)
  rw [show r &&& 31 = r % 32 from Nat.and_two_pow_sub_one_eq_mod r 5] at h1
  exact h1
set_option maxRecDepth 20000 in
set_option maxHeartbeats 8000000 in
theorem lensRead_any (bs : List Int) (p R : Nat) (ao : Option Addr) (cap : Nat) (w : World) (hr : Rdr w R ao cap bs p) :
    Calls Tryz.prog 157 #[.pointer (some ⟨R, 0, none⟩)] w (HeadRP bs p R ao cap w) := by
  have HR := Lib.hid hr
  clear hr
  by_cases hsh : 8 * bs.length < p + 14
  · have htk := take_no w R ao cap bs p 14 HR.out (.inr (.inr (by omega)))
    have HTk := Lib.hid htk
    have HH := Lib.hid (show HeadR bs p [] [] 2 0 by unfold HeadR; rw [if_pos hsh]; exact ⟨rfl, rfl, rfl⟩)
    clear htk hsh
    go_enter Tryz.func157, Tryz.ntmps157
    go_wp2_with fail
    with_reducible refine HTk.out.mono ?_
    rintro e w1 ⟨rfl, hk1⟩
    have HR1 := Lib.hid (HR.out.keptNo hk1); have HK1 := Lib.hid hk1
    clear hk1 HTk
    go_wp2
    go_ret3
    exact HeadRP.non HH.out (by decide) HR1.out (HK1.out.mono (fun _ _ h => h.elim))
  · have htk := take_yes w R ao cap bs p 14 HR.out (by decide) (by omega)
    rw [show ((14 : Nat) : Int) = 14 from rfl] at htk
    obtain ⟨c1, c2, c3⟩ := counts14 bs p
    have hx := bitsAt_lt bs p 14
    obtain ⟨x, hxe⟩ : ∃ x, x = bitsAt bs p 14 := ⟨_, rfl⟩
    rw [← hxe] at htk c1 c2 c3 hx
    have hx2 : x < 16384 := hx
    have e1 := and31_u32 x (by omega)
    have e2 := and31_u32 (x / 32) (by omega)
    rw [c1] at e1
    rw [c2] at e2
    obtain ⟨A, hA⟩ : ∃ A, A = bitsAt bs p 5 := ⟨_, rfl⟩
    obtain ⟨Bv, hB⟩ : ∃ B, B = bitsAt bs (p + 5) 5 := ⟨_, rfl⟩
    obtain ⟨C, hC⟩ : ∃ C, C = bitsAt bs (p + 10) 4 := ⟨_, rfl⟩
    rw [← hA] at e1 c1
    rw [← hB] at e2 c2
    rw [← hC] at c3
    obtain ⟨Y, hY⟩ : ∃ Y, Y = x / 32 := ⟨_, rfl⟩
    rw [← hY] at e2
    have y1 : (x : Int) / 32 = (Y : Int) := by omega
    have y2 : (x : Int) / 1024 = (C : Int) := by omega
    have hA32 : A < 32 := by omega
    have hB32 : Bv < 32 := by omega
    have hC16 : C < 16 := by omega
    have HTk := Lib.hid htk; have HA := Lib.hid hA; have HB := Lib.hid hB; have HC := Lib.hid hC; have HSh := Lib.hid hsh
    clear htk hA hB hC hxe hx c1 c2 hsh hY c3
    go_enter Tryz.func157, Tryz.ntmps157
    go_wp2_with fail
    with_reducible refine HTk.out.mono ?_
    rintro e w1 ⟨rfl, hr1, hk1⟩
    have HR1 := Lib.hid hr1; have HK1 := Lib.hid hk1
    clear hr1 hk1 HTk
    go_upto_region 6 with fail
    by_cases hbig : 29 < A ∨ 29 < Bv
    · have HH := Lib.hid (show HeadR bs p [] [] 6 0 by unfold HeadR; rw [if_neg HSh.out, if_pos (by rw [← HA.out, ← HB.out]; exact hbig)]; exact ⟨rfl, rfl, rfl⟩)
      have hg : (286 : Int) < (A : Int) + 257 ∨ ¬ (286 : Int) < (A : Int) + 257 ∧ (30 : Int) < (Bv : Int) + 1 := by omega
      clear hbig
      rcases hg with g1 | ⟨g1, g2⟩
      all_goals
        go_wp2
        go_ret3
        exact HeadRP.non HH.out (by decide) HR1.out HK1.out
    · have g1 : ¬ (286 : Int) < (A : Int) + 257 := by omega
      have g2 : ¬ (30 : Int) < (Bv : Int) + 1 := by omega
      have HSm := Lib.hid hbig
      have hA29 : A ≤ 29 := by omega
      have hB29 : Bv ≤ 29 := by omega
      obtain ⟨n, hn⟩ : ∃ n, n = C + 4 := ⟨_, rfl⟩
      have n1 : (C : Int) + 4 = (n : Int) := by omega
      have hcd := readCode_any bs (p + 14) n R ao cap w1 HR1.out (by omega)
      have HCd := Lib.hid hcd; have HN := Lib.hid hn
      clear hbig hcd hn
      go_wp2_with fail
      with_reducible refine HCd.out.mono ?_
      rintro e w2 ⟨hk2, ⟨q2, hr2, hq2⟩, he⟩
      have HK2 := Lib.hid (HK1.out.trans hk2); have HR2 := Lib.hid hr2
      clear hk2 hr2 HCd
      by_cases hs2 : 8 * bs.length < p + 14 + 3 * n
      · rw [if_pos hs2] at he
        subst he
        have HH := Lib.hid (show HeadR bs p [] [] 2 0 by
          unfold HeadR
          rw [if_neg HSh.out, if_neg (by rw [← HA.out, ← HB.out]; exact HSm.out), if_pos (by rw [← HC.out, ← HN.out]; exact hs2)]; exact ⟨rfl, rfl, rfl⟩)
        clear hs2 hq2
        go_wp2
        go_ret3
        exact HeadRP.non HH.out (by decide) HR2.out HK2.out
      · rw [if_neg hs2] at he
        by_cases hfb : fullB (codeT bs (p + 14) n) = false
        · rw [if_pos hfb] at he
          subst he
          have HH := Lib.hid (show HeadR bs p [] [] 6 0 by
            unfold HeadR
            rw [if_neg HSh.out, if_neg (by rw [← HA.out, ← HB.out]; exact HSm.out), if_neg (by rw [← HC.out, ← HN.out]; exact hs2), if_pos (by rw [← HC.out, ← HN.out]; exact hfb)]; exact ⟨rfl, rfl, rfl⟩)
          clear hs2 hq2 hfb
          go_wp2
          go_ret3
          exact HeadRP.non HH.out (by decide) HR2.out HK2.out
        · rw [if_neg hfb] at he
          obtain ⟨D, rfl, hdg⟩ := he
          have hq := hq2 (by omega)
          subst hq
          obtain ⟨N, hN⟩ : ∃ N, N = (A + 257) + (Bv + 1) := ⟨_, rfl⟩
          have n2 : ((A : Int) + 257) + ((Bv : Int) + 1) = (N : Int) := by omega
          have HR1w := Lib.hid (obj_lt HR1.out.1)
          have hrw := readRow_any (codeT bs (p + 14) n) D R N (fun k => w1.heap.size ≤ k ∧ k < w2.heap.size) ao cap bs (p + 14 + 3 * n) w2 hdg.inH HR2.out (fun h => by have := HR1w.out; omega) (fun k h => h.2) (small7_15 (codeT_small _ _ _)) (by rw [codeT_len]; decide) (by omega)
          have HRw := Lib.hid hrw
          have HHs : Hid (∀ (row : List Int) (q' : Nat) (f : Int) (lit dist : List Int) (e : Int) (q : Nat), RowR (codeT bs (p + 14) n) bs N (p + 14 + 3 * n) [] q' row f → (if f = 0 then if mayB (row.take (A + 257)) (row.drop (A + 257)) = true then lit = row.take (A + 257) ∧ dist = row.drop (A + 257) ∧ e = 0 ∧ q = q' else lit = [] ∧ dist = [] ∧ e = 6 else lit = [] ∧ dist = [] ∧ e = f) → HeadR bs p lit dist e q) := Lib.hid (fun row q' f lit dist e q h1 h2 => by
            unfold HeadR
            rw [if_neg HSh.out, if_neg (by rw [← HA.out, ← HB.out]; exact HSm.out), if_neg (by rw [← HC.out, ← HN.out]; exact hs2), if_neg (by rw [← HC.out, ← HN.out]; exact hfb)]
            rw [← HC.out, ← HN.out, ← HA.out, ← HB.out, ← hN]
            exact ⟨row, q', f, h1, h2⟩)
          clear hrw hdg hs2 hq2 hfb hN
          go_wp2_with fail
          with_reducible refine HRw.out.mono ?_
          rintro e w3 ⟨a3, c3, row, f, q3, q3', rfl, hrr, hr3, hqq, hown, hk3, hnew⟩
          by_cases hf : f = 0
          · subst hf
            obtain ⟨hlen, hsm, _⟩ := hrr.ok rfl (by simp) (fun z hz => by simp at hz) (by have := HR2.out.2.2.2.1; omega)
            have hHs := HHs.out row q3 0
            have HF : Hid (∀ (lit dist : List Int), lit = row.take (A + 257) → dist = row.drop (A + 257) → (mayB lit dist = true → HeadR bs p lit dist 0 q3) ∧ (mayB lit dist = false → HeadR bs p [] [] 6 0)) := Lib.hid (fun lit dist h1 h2 => by
              subst h1 h2
              refine ⟨fun h => hHs _ _ _ _ hrr ?_, fun h => hHs _ _ _ _ hrr ?_⟩
              · rw [if_pos rfl, if_pos h]; exact ⟨rfl, rfl, rfl, rfl⟩
              · rw [if_pos rfl, if_neg (by rw [h]; decide)]; exact ⟨rfl, rfl, rfl⟩)
            obtain ⟨g3, rfl⟩ := own_some hown (by omega)
            obtain ⟨cb1, cb2⟩ := own_cap2 hown
            have hq3 : q3' = q3 := hqq rfl
            subst hq3
            have hrd := own_readsI hown rfl
            have HK3 := Lib.hid (HK2.out.trans hk3); have HR3 := Lib.hid hr3
            obtain ⟨lit, hlit⟩ : ∃ lit, lit = row.take (A + 257) := ⟨_, rfl⟩
            obtain ⟨dist, hdist⟩ : ∃ dist, dist = row.drop (A + 257) := ⟨_, rfl⟩
            have l1 : lit.length = A + 257 := by rw [hlit, List.length_take]; omega
            have l2 : dist.length = Bv + 1 := by rw [hdist, List.length_drop]; omega
            have HF2 := Lib.hid (HF.out lit dist hlit hdist)
            have r1 : RdI w3 w3.heap.size (some ⟨g3, 0, none⟩) lit := fun i hi => by
              obtain ⟨g, o, h1, h2, h3⟩ := hrd i (by omega)
              cases h1
              exact ⟨g3, 0, rfl, h2, by rw [h3, hlit]; simp [List.getD, List.getElem?_take, show i < A + 257 by omega]⟩
            have r2 : RdI w3 w3.heap.size (some ⟨g3, A + 257, none⟩) dist := fun i hi => by
              obtain ⟨g, o, h1, h2, h3⟩ := hrd (A + 257 + i) (by omega)
              cases h1
              refine ⟨g3, _, rfl, h2, ?_⟩
              rw [show A + 257 + i = 0 + (A + 257 + i) by omega, h3, hdist]
              simp [List.getD, List.getElem?_drop]
            have s1 : Small 15 lit := fun z hz => hsm z (by rw [hlit] at hz; exact List.mem_of_mem_take hz)
            have s2 : Small 15 dist := fun z hz => hsm z (by rw [hdist] at hz; exact List.mem_of_mem_drop hz)
            have HS1 := Lib.hid s1; have HS2 := Lib.hid s2
            obtain ⟨u, hu⟩ : ∃ u, u = A + 257 := ⟨_, rfl⟩
            obtain ⟨v, hv⟩ : ∃ v, v = Bv + 1 := ⟨_, rfl⟩
            rw [← hu] at l1 r2
            rw [← hv] at l2
            have HL1 := Lib.hid l1; have HL2 := Lib.hid l2
            have HC1 : Hid (∀ W, Kept NoB w3 W → Calls Tryz.prog 177 #[.slice (some ⟨g3, 0, none⟩) u c3] W fun e w' => ∃ a c, e = .returned (.slice a lit.length c) ∧ OwnI w' a c lit ∧ Kept NoB W w' ∧ (∀ k, (Value.slice a lit.length c).ownBlock = some k → W.heap.size ≤ k)) := Lib.hid (fun W hW => icln_any _ c3 _ u lit W (r1.keptNo hW) l1.symm (by omega))
            have HC2 : Hid (∀ W, Kept NoB w3 W → Calls Tryz.prog 177 #[.slice (some ⟨g3, u, none⟩) v (c3 - u)] W fun e w' => ∃ a c, e = .returned (.slice a dist.length c) ∧ OwnI w' a c dist ∧ Kept NoB W w' ∧ (∀ k, (Value.slice a dist.length c).ownBlock = some k → W.heap.size ≤ k)) := Lib.hid (fun W hW => icln_any _ (c3 - u) _ v dist W (r2.keptNo hW) l2.symm (by omega))
            have u1 : (A : Int) + 257 = (u : Int) := by omega
            have u2 : row.length = N := hlen
            have u3 : N = u + v := by omega
            have u4 : ¬ c3 = u := by omega
            have u5 : u ≤ c3 := by omega
            have u6 : u ≤ N := by omega
            have u7 : N - u = v := by omega
            have u8 : (u : Int) ≤ (N : Int) := by omega
            have u9 : (0 : Int) ≤ (u : Int) := by omega
            have HU := Lib.hid (show 257 ≤ u by omega)
            rw [u2] at cb1 ⊢
            rw [u1]
            clear u3 r1 r2 s1 s2 hlit hdist hrd hHs hrr hsm hqq hown hk3 hnew l1 l2 HF HHs hr3 hu hv u1 u2 hlen HRw n2 hA29 hB29 g1 g2 e1 e2
            have hk0 := Kept.refl NoB w3
            go_upto_region 14 with fail
            go_cut [2, 3] from 57 to 65 (fun s t wx => ∃ la lc da dc, s = .slice la lit.length lc ∧ t = .slice da dist.length dc ∧ Hid (OwnI wx la lc lit) ∧ Hid (OwnI wx da dc dist) ∧ Hid (Kept NoB w3 wx))
            case first =>
              go_wp2_with fail
              go_region_held3 (fun W => Kept NoB w3 W) (first | assumption | exact Kept.drew (by assumption) | exact Kept.trans (by assumption) hkn | exact Kept.trans (by assumption) hkm)
                (first
                  | (go_at_call 177; ((with_reducible refine (HC1.out _ (by assumption)).mono ?_); rintro e wn ⟨la, lc, rfl, hla, hkn, hfa⟩; have HLa := Lib.hid hla; clear hla hfa))
                  | (go_at_call 177; ((with_reducible refine (HC2.out _ (by assumption)).mono ?_); rintro e wm ⟨da, dc, rfl, hda, hkm, hfd⟩; have HDa := Lib.hid hda; clear hda hfd)))
              go_wp2
              go_meet
              have hk1 : Kept NoB w3 wn := by first | assumption | exact Kept.trans (by assumption) hkn | exact Kept.trans (Kept.drew (by assumption)) hkn
              exact ⟨la, lc, da, dc, rfl, rfl, Lib.hid (hkm.row HLa.out (fun _ _ h => h)), HDa, Lib.hid (hk1.trans hkm)⟩
            case rest =>
            obtain ⟨la, lc, da, dc, rfl, rfl, HLa, HDa, HKc⟩ := hcut
            have HRc := Lib.hid (HR3.out.keptNo HKc.out); have HK4 := Lib.hid (HK3.out.trans (HKc.out.mono (fun _ _ h => h.elim)))
            have hmb := may_any la lc _ lit da dc _ dist wc HLa.out.reads (fun z hz => by have := HS1.out z hz; omega) HDa.out.reads (fun z hz => by have := HS2.out z hz; omega) (by have := HL1.out; have := HU.out; omega)
            have HMb := Lib.hid hmb
            clear hmb HC1 HC2
            cases hmy : mayB lit dist with
            | true =>
              have HH := Lib.hid (HF2.out.1 hmy)
              rw [hmy] at HMb
              clear hmy
              go_wp2_with fail
              with_reducible refine HMb.out.mono ?_
              rintro e w5 ⟨rfl, hk5⟩
              have HR5 := Lib.hid (HRc.out.keptNo hk5); have HK5 := Lib.hid (HK4.out.trans (hk5.mono (fun _ _ h => h.elim))); have HLa5 := Lib.hid (hk5.row HLa.out (fun _ _ h => h)); have HDa5 := Lib.hid (hk5.row HDa.out (fun _ _ h => h))
              clear hk5 HMb
              go_wp2
              go_ret3
              exact ⟨la, lc, lit, da, dc, dist, 0, _, _, rfl, HH.out, HR5.out, fun _ => rfl, HLa5.out, HDa5.out, HK5.out⟩
            | false =>
              have HH := Lib.hid (HF2.out.2 hmy)
              rw [hmy] at HMb
              clear hmy
              go_wp2_with fail
              with_reducible refine HMb.out.mono ?_
              rintro e w5 ⟨rfl, hk5⟩
              have HR5 := Lib.hid (HRc.out.keptNo hk5); have HK5 := Lib.hid (HK4.out.trans (hk5.mono (fun _ _ h => h.elim)))
              clear hk5 HMb
              go_wp2
              go_ret3
              exact HeadRP.non HH.out (by decide) HR5.out HK5.out
          · have hl0 := hrr.err hf
            subst hl0
            have HH := Lib.hid (HHs.out [] q3 f [] [] f 0 hrr (by rw [if_neg hf]; exact ⟨rfl, rfl, rfl⟩))
            have hf2 : (f == 0) = false := by simp [hf]
            have HFn := Lib.hid hf; have HR3 := Lib.hid hr3; have HK3 := Lib.hid (HK2.out.trans hk3)
            clear hrr hr3 hqq hown hk3 hnew HHs hf HRw
            go_wp2
            go_ret3
            exact HeadRP.non HH.out HFn.out HR3.out HK3.out
end Go.Proofs.YtfmjfgmbjdhogaaGreatDoor

namespace Go.Proofs.YtfmjfgmbjdhogaaGreatDoor
open Go.RowKit
set_option linter.unusedVariables false
set_option linter.unusedSimpArgs false

def LoB (lo : Nat) : Nat → Prop := fun k => lo ≤ k
structure InfS (lo : Nat) (w : World) (D : Nat) (v : IV) (m : Md) (out bs : List Int) (S : Nat → Prop) (R : Nat) (ao : Option Addr) (cap p : Nat) : Prop where
  obj : InfO w D v
  low : lo ≤ D
  lowR : lo ≤ R
  sink : RowU w lo v.sk out
  rest : RowU w lo v.rs bs
  win : ∃ wnd, RowU w lo v.wn wnd ∧ Sfx wnd out ∧ wnd.length < 98304
  sep : ∀ k, v.sk.ownBlock = some k → v.wn.ownBlock ≠ some k
  rd : Rdr w R ao cap bs p
  s : ∀ k, S k → lo ≤ k ∧ k < w.heap.size ∧ k ≠ D ∧ k ≠ R ∧ v.sk.ownBlock ≠ some k ∧ v.wn.ownBlock ≠ some k
  sR : ∀ k, v.rs.ownBlock = some k → S k
  sA : ∀ a, ao = some a → S a.block
  nx : v.nx = nxOf m
  er : v.er = 0
  fit : out.length ≤ v.most
  big : v.most ≤ 9223372036854775807
  all : AllB out
  mode : ModeOk w S v m
  fix : FixOk w S v
theorem InfS.DR {lo : Nat} {w : World} {D : Nat} {v : IV} {m : Md} {out bs : List Int} {S : Nat → Prop} {R : Nat} {ao : Option Addr} {cap p : Nat} (h : InfS lo w D v m out bs S R ao cap p) : D ≠ R := by
  intro e
  have h1 := h.obj
  have h2 := h.rd.1
  unfold InfO at h1
  rw [e, h2] at h1
  simp at h1
theorem InfS.skD {lo : Nat} {w : World} {D : Nat} {v : IV} {m : Md} {out bs : List Int} {S : Nat → Prop} {R : Nat} {ao : Option Addr} {cap p : Nat} (h : InfS lo w D v m out bs S R ao cap p) : ∀ k, v.sk.ownBlock = some k → k ≠ D ∧ k ≠ R :=
  fun k hk => ⟨row_ne h.sink.own h.obj (by decide) k hk, row_ne h.sink.own h.rd.1 (by decide) k hk⟩
theorem InfS.wnD {lo : Nat} {w : World} {D : Nat} {v : IV} {m : Md} {out bs : List Int} {S : Nat → Prop} {R : Nat} {ao : Option Addr} {cap p : Nat} (h : InfS lo w D v m out bs S R ao cap p) : ∀ k, v.wn.ownBlock = some k → k ≠ D ∧ k ≠ R := by
  intro k hk
  obtain ⟨wnd, hw, _⟩ := h.win
  exact ⟨row_ne hw.own h.obj (by decide) k hk, row_ne hw.own h.rd.1 (by decide) k hk⟩
theorem InfS.aoD {lo : Nat} {w : World} {D : Nat} {v : IV} {m : Md} {out bs : List Int} {S : Nat → Prop} {R : Nat} {ao : Option Addr} {cap p : Nat} (h : InfS lo w D v m out bs S R ao cap p) : ∀ k, (Value.slice ao bs.length cap).ownBlock = some k → S k := by
  intro k hk
  cases ao with
  | none => simp [Value.ownBlock] at hk
  | some a =>
    have := h.sA a rfl
    obtain ⟨b, o, sp⟩ := a
    simp [Value.ownBlock] at hk
    rw [← hk]; exact this
theorem ModeOk.kept {S T : Nat → Prop} {w w' : World} {v v' : IV} {m : Md} (h : ModeOk w S v m) (hk : Kept T w w') (hs : ∀ k, S k → ¬ T k) (h1 : v'.lf = v.lf) (h2 : v'.li = v.li) (h3 : v'.di = v.di) : ModeOk w' S v' m := by
  cases m with
  | bytes n => obtain ⟨a, b⟩ := h; exact ⟨h1.trans a, b⟩
  | sym lit dist =>
    obtain ⟨a, b, Dl, Dd, c1, c2, d1, d2⟩ := h
    exact ⟨a, b, Dl, Dd, h2.trans c1, h3.trans c2, d1.kept hk hs, d2.kept hk hs⟩
  | _ => trivial
theorem FixOk.kept {S T : Nat → Prop} {w w' : World} {v v' : IV} (h : FixOk w S v) (hk : Kept T w w') (hs : ∀ k, S k → ¬ T k) (h1 : v'.fl = v.fl) (h2 : v'.fd = v.fd) : FixOk w' S v' := by
  rcases h with h | ⟨a, b, c1, c2, d1, d2⟩
  · exact .inl (h1.trans h)
  · exact .inr ⟨a, b, h1.trans c1, h2.trans c2, d1.kept hk hs, d2.kept hk hs⟩
theorem ModeOk.more {S S' : Nat → Prop} {w : World} {v : IV} {m : Md} (h : ModeOk w S v m) (hs : ∀ k, S k → S' k) : ModeOk w S' v m := by
  cases m with
  | bytes n => exact h
  | sym lit dist =>
    obtain ⟨a, b, Dl, Dd, c1, c2, d1, d2⟩ := h
    exact ⟨a, b, Dl, Dd, c1, c2, d1.mono hs, d2.mono hs⟩
  | _ => trivial
theorem FixOk.more {S S' : Nat → Prop} {w : World} {v : IV} (h : FixOk w S v) (hs : ∀ k, S k → S' k) : FixOk w S' v := by
  rcases h with h | ⟨a, b, c1, c2, d1, d2⟩
  · exact .inl h
  · exact .inr ⟨a, b, c1, c2, d1.mono hs, d2.mono hs⟩
theorem InfS.step {lo : Nat} {w w' : World} {D : Nat} {v v' : IV} {m m' : Md} {out bs : List Int} {S S' T : Nat → Prop} {R : Nat} {ao : Option Addr} {cap p q : Nat} (h : InfS lo w D v m out bs S R ao cap p)
    (hk : Kept T w w') (hT : ∀ k, T k → k = D ∨ k = R) (hlo : lo ≤ w.heap.size) (ho : InfO w' D v') (hr : Rdr w' R ao cap bs q) (e1 : v'.sk = v.sk) (e2 : v'.wn = v.wn) (e3 : v'.rs = v.rs) (e4 : v'.most = v.most) (hnx : v'.nx = nxOf m') (her : v'.er = 0)
    (hS : ∀ k, S k → S' k) (hS' : ∀ k, S' k → S k ∨ (w.heap.size ≤ k ∧ k < w'.heap.size)) (hm : ModeOk w' S' v' m') (hf : FixOk w' S' v') : InfS lo w' D v' m' out bs S' R ao cap q := by
  have hsk := h.skD
  have hwn := h.wnD
  have hrs : ∀ k, v.rs.ownBlock = some k → k ≠ D ∧ k ≠ R := fun k hk => ⟨(h.s k (h.sR k hk)).2.2.1, (h.s k (h.sR k hk)).2.2.2.1⟩
  obtain ⟨wnd, hw, hx, hz⟩ := h.win
  refine ⟨ho, h.low, h.lowR, ?_, ?_, ⟨wnd, ?_, hx, hz⟩, ?_, hr, ?_, ?_, ?_, hnx, her, by rw [e4]; exact h.fit, by rw [e4]; exact h.big, h.all, hm, hf⟩
  · rw [e1]; exact h.sink.kept hk (fun k hk1 ht => by have := hsk k hk1; have := hT k ht; omega)
  · rw [e3]; exact h.rest.kept hk (fun k hk1 ht => by have := hrs k hk1; have := hT k ht; omega)
  · rw [e2]; exact hw.kept hk (fun k hk1 ht => by have := hwn k hk1; have := hT k ht; omega)
  · rw [e1, e2]; exact h.sep
  · intro k hk1
    rcases hS' k hk1 with hs | ⟨h1, h2⟩
    · obtain ⟨a, b, c⟩ := h.s k hs
      exact ⟨a, Nat.lt_of_lt_of_le b hk.size, by rw [e1, e2]; exact c⟩
    · have hD := obj_lt h.obj
      have hR := obj_lt h.rd.1
      refine ⟨by omega, h2, by omega, by omega, ?_, ?_⟩
      · rw [e1]; intro e; have := own_lt h.sink.own k e; omega
      · rw [e2]; intro e; have := own_lt hw.own k e; omega
  · rw [e3]; exact fun k hk => hS k (h.sR k hk)
  · exact fun a ha => hS _ (h.sA a ha)
def ItemW (lo : Nat) (w : World) (D : Nat) (v : IV) (m : Md) (out bs : List Int) (R : Nat) (ao : Option Addr) (cap p : Nat) (er : Int) (w' : World) : Prop :=
  Kept (LoB lo) w w' ∧ ∃ v' m' o' S' p', InfS lo w' D v' m' o' bs S' R ao cap p' ∧ v'.rs = v.rs ∧ v'.fr = v.fr ∧ v'.sp = v.sp ∧ (v'.most = v.most ∧ v'.us = v.us ∧ v'.at_ = v.at_) ∧
    (if er = 0 then Steps bs v.most p m v.la out p' m' v'.la o' ∧ p < p' else (∃ p1 m1 l1 o1, ItemR bs v.most p m v.la out er p1 m1 l1 o1) ∧ o' = out ∧ m' = m ∧ (er = 2 → v'.la = v.la))
theorem InfS.moved {lo : Nat} {w w' : World} {D : Nat} {v : IV} {m : Md} {out bs : List Int} {S T : Nat → Prop} {R : Nat} {ao : Option Addr} {cap p q : Nat} (h : InfS lo w D v m out bs S R ao cap p) (hlo : lo ≤ w.heap.size) (hk : Kept T w w') (hT : ∀ k, T k → k = R) (hr : Rdr w' R ao cap bs q) : InfS lo w' D v m out bs S R ao cap q := by
  have hs : ∀ k, S k → ¬ T k := fun k hs ht => (h.s k hs).2.2.2.1 (hT k ht)
  exact h.step hk (fun k hk => .inr (hT k hk)) hlo (h.obj.kept hk (fun e => h.DR (hT _ e))) hr rfl rfl rfl rfl h.nx h.er (fun _ h => h) (fun _ h => .inl h) (h.mode.kept hk hs rfl rfl rfl) (h.fix.kept hk hs rfl rfl)
theorem InfS.fails {lo : Nat} {w w' : World} {D : Nat} {v : IV} {m : Md} {out bs : List Int} {S T : Nat → Prop} {R : Nat} {ao : Option Addr} {cap p q : Nat} (h : InfS lo w D v m out bs S R ao cap p) (hlo : lo ≤ w.heap.size) (hk : Kept T w w') (hT : ∀ k, T k → k = R) (hr : Rdr w' R ao cap bs q) (er : Int) (he : er ≠ 0)
    (hi : ∃ p1 m1 l1 o1, ItemR bs v.most p m v.la out er p1 m1 l1 o1) : ItemW lo w D v m out bs R ao cap p er w' :=
  ⟨hk.mono (fun k _ ht => by have := hT k ht; subst this; exact h.lowR), v, m, out, S, q, h.moved hlo hk hT hr, rfl, rfl, rfl, ⟨rfl, rfl, rfl⟩, by rw [if_neg he]; exact ⟨hi, rfl, rfl, fun _ => rfl⟩⟩
theorem InfS.put {lo : Nat} {w w1 w2 : World} {D : Nat} {v : IV} {m : Md} {out bs x wnd' : List Int} {S : Nat → Prop} {R : Nat} {ao : Option Addr} {cap p g : Nat} {sk' wn' : Value} (h : InfS lo w D v m out bs S R ao cap p) (hlo : lo ≤ w.heap.size)
    (hk1 : Kept (OwnB v.wn) w w1) (hg : v.wn.ownBlock = some g ∨ w.heap.size ≤ g) (ho : InfO w2 D { v with sk := sk', wn := wn' }) (hs : RowU w2 lo sk' (out ++ x)) (hw : RowU w2 lo wn' wnd') (hwg : wn'.ownBlock = some g) (hx : Sfx wnd' (out ++ x)) (hl : wnd'.length < 98304)
    (hsep : sk'.ownBlock ≠ some g) (hk2 : Kept (fun j => j = D ∨ j = g ∨ v.sk.ownBlock = some j) w1 w2) (hf : ∀ j, sk'.ownBlock = some j → v.sk.ownBlock = some j ∨ w1.heap.size ≤ j) (hfit : (out ++ x).length ≤ v.most) (hall : AllB x) :
    InfS lo w2 D { v with sk := sk', wn := wn' } m (out ++ x) bs S R ao cap p ∧ Kept (LoB lo) w w2 := by
  have hD := obj_lt h.obj
  have hR := obj_lt h.rd.1
  obtain ⟨wnd, hw0, _, _⟩ := h.win
  have hskl := own_lt h.sink.own
  have hwnl := own_lt hw0.own
  have hsz := hk1.size
  have hS1 : ∀ k, S k → ¬ OwnB v.wn k := fun k hk e => (h.s k hk).2.2.2.2.2 e
  have hS2 : ∀ k, S k → ¬ (k = D ∨ k = g ∨ v.sk.ownBlock = some k) := fun k hk e => by
    obtain ⟨a1, a2, a3, a4, a5, a6⟩ := h.s k hk
    rcases e with e | e | e
    · exact a3 e
    · rcases hg with hg | hg
      · exact a6 (by rw [e]; exact hg)
      · omega
    · exact a5 e
  have hk : Kept (fun j => OwnB v.wn j ∨ j = D ∨ j = g ∨ v.sk.ownBlock = some j) w w2 := (hk1.mono (fun _ _ e => .inl e)).trans (hk2.mono (fun _ _ e => .inr e))
  have hSn : ∀ k, S k → ¬ (OwnB v.wn k ∨ k = D ∨ k = g ∨ v.sk.ownBlock = some k) := fun k hk e => e.elim (hS1 k hk) (hS2 k hk)
  have hRn : ¬ (OwnB v.wn R ∨ R = D ∨ R = g ∨ v.sk.ownBlock = some R) := fun e => by
    rcases e with e | e | e | e
    · exact (h.wnD R e).2 rfl
    · exact h.DR e.symm
    · rcases hg with hg | hg
      · exact (h.wnD g hg).2 e.symm
      · omega
    · exact (h.skD R e).2 rfl
  refine ⟨⟨ho, h.low, h.lowR, hs, ?_, ⟨wnd', hw, hx, hl⟩, ?_, ?_, ?_, h.sR, h.sA, h.nx, h.er, hfit, h.big, ?_, h.mode.kept hk hSn rfl rfl rfl, h.fix.kept hk hSn rfl rfl⟩, hk.mono ?_⟩
  · exact h.rest.kept hk (fun k hk1 => hSn k (h.sR k hk1))
  · intro k hk1 hk2
    rw [hwg] at hk2
    exact hsep (by rw [hk2]; exact hk1)
  · exact h.rd.kept hk hRn (fun k hk1 => hSn k (h.aoD k hk1))
  · intro k hk1
    obtain ⟨a1, a2, a3, a4, a5, a6⟩ := h.s k hk1
    have hz := hk.size
    refine ⟨a1, by omega, a3, a4, ?_, ?_⟩
    · intro e
      rcases hf k e with e | e
      · exact a5 e
      · omega
    · intro e
      rw [hwg] at e
      rcases hg with hg | hg
      · exact a6 (by rw [hg]; exact e)
      · have : g = k := Option.some.inj e
        omega
  · intro b hb
    rcases List.mem_append.1 hb with hb | hb
    · exact h.all b hb
    · exact hall b hb
  · intro k hkl e
    rcases e with e | e | e | e
    · exact hw0.fresh k e
    · exact e ▸ h.low
    · rcases hg with hg | hg
      · exact e ▸ hw0.fresh g hg
      · omega
    · exact h.sink.fresh k e
theorem Sfx.app {wnd out x : List Int} (h : Sfx wnd out) : Sfx (wnd ++ x) (out ++ x) := by
  obtain ⟨⟨pre, h1⟩, h2⟩ := h
  refine ⟨⟨pre, by rw [h1, List.append_assoc]⟩, ?_⟩
  rcases h2 with h2 | h2
  · exact .inl (by rw [h2])
  · exact .inr (by rw [List.length_append]; omega)
theorem Sfx.cut {wnd out : List Int} (h : Sfx wnd out) (k : Nat) (hk : k + 32768 ≤ wnd.length) : Sfx (wnd.drop k) out := by
  obtain ⟨⟨pre, h1⟩, h2⟩ := h
  exact ⟨⟨pre ++ wnd.take k, by rw [h1, List.append_assoc, List.take_append_drop]⟩, .inr (by rw [List.length_drop]; omega)⟩
end Go.Proofs.YtfmjfgmbjdhogaaGreatDoor

namespace Go.Proofs.YtfmjfgmbjdhogaaGreatDoor
open Go.RowKit
set_option linter.unusedVariables false
set_option linter.unusedSimpArgs false

theorem TwoZ.A {w0 w : World} {G n H m : Nat} {L M : List Int} (h : TwoZ w0 w G n H m L M) (hl : L.length = n) : RdI w w.heap.size (some ⟨G, 0, none⟩) L := h.a.reads hl
theorem TwoZ.B {w0 w : World} {G n H m : Nat} {L M : List Int} (h : TwoZ w0 w G n H m L M) (hl : M.length = m) : RdI w w.heap.size (some ⟨H, 0, none⟩) M := h.b.reads hl
theorem TwoZ.BG {w0 w : World} {G n H m : Nat} {L M : List Int} (h : TwoZ w0 w G n H m L M) (hl : M.length = m) : RdG w (fun k => k = H) (some ⟨H, 0, none⟩) M := fun i hi => by
  obtain ⟨g, o, e, _, hc⟩ := h.B hl i hi
  cases e
  exact ⟨H, 0, rfl, rfl, hc⟩
set_option maxRecDepth 20000 in
set_option maxHeartbeats 4000000 in
theorem startFixed_any2 {w : World} {D : Nat} {v : IV} (h : InfO w D v) (a b : Addr) (hfl : v.fl = some a) (hfd : v.fd = some b) :
    Calls Tryz.prog 151 #[.pointer (some ⟨D, 0, none⟩)] w fun e w' => e = .returned (.tuple #[]) ∧ InfO w' D { v with li := some a, di := some b, nx := 4 } ∧ Kept (OneB D) w w' := by
  have ho := h
  have c9 := ho.c9
  have c10 := ho.c10
  have c6 := ho.c6
  have c11 := ho.c11
  have c12 := ho.c12
  rw [hfl] at c11
  rw [hfd] at c12
  have f6 := ho.free 6
  have f9 := ho.free 9
  have f10 := ho.free 10
  have HO := Lib.hid ho
  clear ho h hfl hfd
  go_enter Tryz.func151, Tryz.ntmps151
  go_upto_region 4 with fail
  go_region
  all_goals go_wp2
  refine bodyPost_end (results_none rfl _ _ _) rfl ?_
  exact ⟨rfl, ((HO.out.setLi (some a)).setDi (some b)).setNx 4, Kept.drew (Kept.setCell (p := ⟨D, 6, none⟩) (Kept.setCell (p := ⟨D, 10, none⟩) (Kept.setCell (p := ⟨D, 9, none⟩) (Kept.refl (OneB D) w) (.inl rfl) _) (.inl rfl) _) (.inl rfl) _)⟩
set_option maxRecDepth 20000 in
set_option maxHeartbeats 4000000 in
theorem startFixed_none {w : World} {D : Nat} {v : IV} (h : InfO w D v) (hfl : v.fl = none) :
    Calls Tryz.prog 151 #[.pointer (some ⟨D, 0, none⟩)] w fun e w' => e = .returned (.tuple #[]) ∧ ∃ Fl Fd, InfO w' D { v with li := some ⟨Fl, 0, none⟩, di := some ⟨Fd, 0, none⟩, fl := some ⟨Fl, 0, none⟩, fd := some ⟨Fd, 0, none⟩, nx := 4 } ∧ Kept (OneB D) w w' ∧
      DecG fixL Fl (fun k => w.heap.size ≤ k ∧ k < w'.heap.size) w' ∧ DecG fixD Fd (fun k => w.heap.size ≤ k ∧ k < w'.heap.size) w' := by
  have c11 := h.c11
  rw [hfl] at c11
  have hDl := obj_lt h
  have HO := Lib.hid h
  have HF := Lib.hid (fixed_any w)
  have HNL := Lib.hid (fun (W : World) (G B : Nat) (hr : RdI W B (some ⟨G, 0, none⟩) fixL) => new_calls2 (some ⟨G, 0, none⟩) 288 B fixL W hr fixL_ok.2.1 fixL_ok.1 fixL_ok.2.2)
  have HND := Lib.hid (fun (W : World) (G B : Nat) (hr : RdI W B (some ⟨G, 0, none⟩) fixD) => new_calls2 (some ⟨G, 0, none⟩) 32 B fixD W hr fixD_ok.2.1 fixD_ok.1 fixD_ok.2.2)
  rw [fixL_len] at HNL
  rw [fixD_len] at HND
  clear h hfl
  go_enter Tryz.func151, Tryz.ntmps151
  go_wp2_with fail
  refine HF.out.mono ?_
  rintro e w1 ⟨G, H, rfl, hT⟩
  have HT := Lib.hid hT
  clear hT HF
  go_wp2_with fail
  refine (HNL.out w1 G w1.heap.size (HT.out.A fixL_len)).mono ?_
  rintro e w2 ⟨Fl, rfl, hd2, hk2⟩
  have ho2 := (HO.out.kept HT.out.k (fun e => e)).kept hk2 (fun e => e)
  have c11' := ho2.c11
  have f11 := ho2.free 11
  have HO2 := Lib.hid (ho2.setFl (some ⟨Fl, 0, none⟩))
  have HD2 := Lib.hid hd2; have HK2 := Lib.hid (HT.out.k.trans hk2)
  have HRD := Lib.hid ((HT.out.BG fixD_len).kept hk2 (fun _ _ e => e))
  clear ho2 hd2 hk2 c11
  go_upto_region 3 with fail
  obtain ⟨w3, hw3⟩ : ∃ w3, w3 = w2.setCell ⟨D, 11, none⟩ (.pointer (some ⟨Fl, 0, none⟩)) := ⟨_, rfl⟩
  rw [← hw3] at HO2 ⊢
  have hk3 : Kept (OneB D) w2 w3 := by rw [hw3]; exact Kept.setCell (S := OneB D) (p := ⟨D, 11, none⟩) (Kept.refl _ w2) (.inl rfl) _
  have HK3 := Lib.hid hk3
  have hHD : H ≠ D := by have := HT.out.h; omega
  have HRD3 := Lib.hid ((HRD.out.kept hk3 (fun k hk e => hHD (hk.symm.trans e))).room)
  clear hw3 hk3 c11' f11
  go_wp2_with fail
  refine (HND.out w3 H _ HRD3.out).mono ?_
  rintro e w4 ⟨Fd, rfl, hd4, hk4⟩
  have ho4 := HO2.out.kept hk4 (fun e => e)
  have c12' := ho4.c12
  have f12 := ho4.free 12
  have ho5 := ho4.setFd (some ⟨Fd, 0, none⟩)
  have HO5 := Lib.hid ho5
  have HD4 := Lib.hid hd4; have HK4 := Lib.hid hk4
  clear ho4 hd4 hk4
  go_upto_region 4 with fail
  obtain ⟨w5, hw5⟩ : ∃ w5, w5 = w4.setCell ⟨D, 12, none⟩ (.pointer (some ⟨Fd, 0, none⟩)) := ⟨_, rfl⟩
  rw [← hw5] at HO5 ho5 ⊢
  have HK5 : Hid (Kept (OneB D) w4 w5) := by rw [hw5]; exact Kept.setCell (S := OneB D) (p := ⟨D, 12, none⟩) (Kept.refl _ w4) (.inl rfl) _
  have e11 := ho5.c11
  have e12 := ho5.c12
  have e9 := ho5.c9
  have e10 := ho5.c10
  have e6 := ho5.c6
  have g6 := ho5.free 6
  have g9 := ho5.free 9
  have g10 := ho5.free 10
  simp only at e11 e12 e9 e10 e6
  clear hw5 ho5 c12' f12
  go_region
  all_goals go_wp2
  refine bodyPost_end (results_none rfl _ _ _) rfl ?_
  have hk6 : Kept (OneB D) w5 ((((w5.setCell ⟨D, 9, none⟩ (.pointer (some ⟨Fl, 0, none⟩))).setCell ⟨D, 10, none⟩ (.pointer (some ⟨Fd, 0, none⟩))).setCell ⟨D, 6, none⟩ (.int .i64 4)).drew) := Kept.drew (Kept.setCell (p := ⟨D, 6, none⟩) (Kept.setCell (p := ⟨D, 10, none⟩) (Kept.setCell (p := ⟨D, 9, none⟩) (Kept.refl (OneB D) w5) (.inl rfl) _) (.inl rfl) _) (.inl rfl) _)
  have hF : ∀ {S : Nat → Prop} {a b : World}, Kept NoB a b → Kept S a b := fun h => h.mono (fun _ _ e => e.elim)
  have k45 := (HK5.out.trans hk6)
  have k25 := (HK3.out.trans (hF HK4.out)).trans k45
  have k05 := (hF HK2.out).trans k25
  have z1 := HT.out.k.size
  have z2 := HK2.out.size
  have z3 := HK3.out.size
  have z4 := HK4.out.size
  have z5 := k45.size
  refine ⟨rfl, Fl, Fd, ((HO5.out.setLi _).setDi _).setNx 4, k05, ?_, ?_⟩
  · refine ((HD2.out.toG.inH).kept k25 (fun k hk e => ?_)).mono (fun k hk => ⟨by omega, ?_⟩)
    · unfold OneB at e; omega
    · have := k25.size; omega
  · refine ((HD4.out.toG.inH).kept k45 (fun k hk e => ?_)).mono (fun k hk => ⟨by omega, by omega⟩)
    unfold OneB at e; omega
end Go.Proofs.YtfmjfgmbjdhogaaGreatDoor
