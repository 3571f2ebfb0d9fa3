/-
  The document's own way to read a head.
  The writer and the document's own writer, side by side: what one call does to both.
  The writer and the document's, side by side, block by block.
-/
import Derived.Test.YtdpegahcgaicnaaGreatDoorMg39
import Derived.Deep.CutBlock
namespace Go.Proofs.YtdpegahcgaicnaaGreatDoor
open Go.RowKit
set_option linter.unusedVariables false
set_option linter.unusedSimpArgs false

def lenOf (v : Value) : Nat := match v with | .slice _ m _ => m | _ => 0
theorem rorder19 (w : World) : Calls Tryz.prog 60 #[] w fun e w' => e = .returned (.slice (some ⟨w.heap.size, 0, none⟩) 19 19) ∧ RdI w' w'.heap.size (some ⟨w.heap.size, 0, none⟩) ordL ∧ Kept NoB w w' ∧ w.heap.size < w'.heap.size := by
  go_enter Tryz.func60, Tryz.ntmps60
  go_wp2
  go_ret
  exact ⟨rfl, lit_readsI _ rfl, (Kept.refl _ _).alloc _, by simp⟩
/-- What the document tells of a head, where its reader is then. -/
def RLensP (bs : List Int) (p R : Nat) (w : World) (e : Ending) (w' : World) : Prop :=
  ∃ (la : Option Addr) (lc : Nat) (lit : List Int) (da : Option Addr) (dc : Nat) (dist : List Int) (f : Int) (q q' : Nat), e = .returned (.tuple #[.slice la lit.length lc, .slice da dist.length dc, .int .i64 f]) ∧
    HeadR bs p lit dist f q ∧ Rfb w' R bs q' ∧ (f = 0 → q' = q) ∧ RdI w' w'.heap.size la lit ∧ RdI w' w'.heap.size da dist ∧ Kept (OneB R) w w'
theorem rdI_nil (w : World) (B : Nat) (a : Option Addr) : RdI w B a [] := fun i hi => absurd hi (Nat.not_lt_zero i)
theorem RLensP.non {bs : List Int} {p R : Nat} {w w' : World} {f : Int} {q q' : Nat} (h : HeadR bs p [] [] f q) (h0 : f ≠ 0) (hr : Rfb w' R bs q') (hk : Kept (OneB R) w w') :
    RLensP bs p R w (.returned (.tuple #[.slice none 0 0, .slice none 0 0, .int .i64 f])) w' :=
  ⟨none, 0, [], none, 0, [], f, q, q', rfl, h, hr, fun h => absurd h h0, rdI_nil _ _ _, rdI_nil _ _ _, hk⟩
set_option maxRecDepth 20000 in
set_option maxHeartbeats 16000000 in
theorem rlens_any (bs : List Int) (p R : Nat) (w : World) (hr : Rfb w R bs p) :
    Calls Tryz.prog 31 #[.pointer (some ⟨R, 0, none⟩)] w (RLensP bs p R w) := by
  obtain ⟨i0, hi, hz0, hz1, hz2⟩ := info_parts infoI
  have HLe := Lib.hid (fun W q (h : Rfb W R bs q) => refLeft_any W R bs q h)
  have HR := Lib.hid hr
  have hp8 := hr.2.2.2
  have hbl := hr.2.2.1
  clear hr
  obtain ⟨L8, hL8⟩ : ∃ L8, L8 = 8 * bs.length := ⟨_, rfl⟩
  have e0 : (8 : Int) * (bs.length : Int) = (L8 : Int) := by omega
  have HL8 := Lib.hid hL8; have HE0 := Lib.hid e0
  rw [← hL8] at hp8
  clear hL8 e0 hbl
  go_enter Tryz.func31, Tryz.ntmps31
  go_wp2_with fail
  with_reducible refine (HLe.out w p HR.out).mono ?_
  rintro e w1 ⟨rfl, hk1⟩
  have HR1 := Lib.hid (HR.out.kept hk1 (fun h => h)); have HK1 := Lib.hid hk1
  rw [HE0.out]
  clear hk1
  by_cases hsh : L8 < p + 14
  · have g1 : (L8 : Int) - p < 14 := by omega
    have HH := Lib.hid (show HeadR bs p [] [] 2 0 by unfold HeadR; rw [if_pos (by have := HL8.out; omega)]; exact ⟨rfl, rfl, rfl⟩)
    clear hsh
    go_wp2
    go_ret3
    exact RLensP.non HH.out (by decide) HR1.out (HK1.out.mono (fun _ _ h => h.elim))
  · have g1 : ¬ (L8 : Int) - p < 14 := by omega
    have HSh := Lib.hid (show ¬ 8 * bs.length < p + 14 by have := HL8.out; omega)
    have ht1 := refTake_yes w1 R bs p 5 HR1.out (by decide) (by have := HL8.out; omega)
    rw [show ((5 : Nat) : Int) = 5 from rfl] at ht1
    obtain ⟨A, hA⟩ : ∃ A, A = bitsAt bs p 5 := ⟨_, rfl⟩
    obtain ⟨Bv, hB⟩ : ∃ B, B = bitsAt bs (p + 5) 5 := ⟨_, rfl⟩
    obtain ⟨C, hC⟩ : ∃ C, C = bitsAt bs (p + 10) 4 := ⟨_, rfl⟩
    have hA32 : A < 32 := by rw [hA]; exact bitsAt_lt bs p 5
    have hB32 : Bv < 32 := by rw [hB]; exact bitsAt_lt bs (p + 5) 5
    have hC16 : C < 16 := by rw [hC]; exact bitsAt_lt bs (p + 10) 4
    rw [← hA] at ht1
    have HT1 := Lib.hid ht1; have HA := Lib.hid hA; have HB := Lib.hid hB; have HC := Lib.hid hC
    clear ht1 hA hB hC hsh
    go_wp2_with fail
    with_reducible refine HT1.out.mono ?_
    rintro e w2 ⟨rfl, hr2, hk2⟩
    have ht2 := refTake_yes w2 R bs (p + 5) 5 hr2 (by decide) (by have := HL8.out; have := HSh.out; omega)
    rw [show ((5 : Nat) : Int) = 5 from rfl, ← HB.out] at ht2
    have HT2 := Lib.hid ht2; have HK2 := Lib.hid ((HK1.out.mono (fun _ _ h => h.elim)).trans hk2)
    clear ht2 hr2 hk2 HT1 HK1 HR1
    go_wp2_with fail
    with_reducible refine HT2.out.mono ?_
    rintro e w3 ⟨rfl, hr3, hk3⟩
    rw [show p + 5 + 5 = p + 10 from rfl] at hr3
    have ht3 := refTake_yes w3 R bs (p + 10) 4 hr3 (by decide) (by have := HL8.out; have := HSh.out; omega)
    rw [show ((4 : Nat) : Int) = 4 from rfl, ← HC.out] at ht3
    have HT3 := Lib.hid ht3; have HK3 := Lib.hid (HK2.out.trans hk3)
    clear ht3 hr3 hk3 HT2 HK2
    go_wp2_with fail
    with_reducible refine HT3.out.mono ?_
    rintro e w4 ⟨rfl, hr4, hk4⟩
    rw [show p + 10 + 4 = p + 14 from rfl] at hr4
    have HR4 := Lib.hid hr4; have HK4 := Lib.hid (HK3.out.trans hk4)
    clear hr4 hk4 HT3 HK3
    go_upto_region 7 with fail
    by_cases hbig : 29 < A ∨ 29 < Bv
    · have HH := Lib.hid (show HeadR bs p [] [] 6 0 by unfold HeadR; rw [if_neg HSh.out, if_pos (by rw [← HA.out, ← HB.out]; exact hbig)]; exact ⟨rfl, rfl, rfl⟩)
      have hg : (286 : Int) < (A : Int) + 257 ∨ ¬ (286 : Int) < (A : Int) + 257 ∧ (30 : Int) < (Bv : Int) + 1 := by omega
      clear hbig
      rcases hg with g1 | ⟨g1, g2⟩
      all_goals
        go_wp2
        go_ret3
        exact RLensP.non HH.out (by decide) HR4.out HK4.out
    · have g1 : ¬ (286 : Int) < (A : Int) + 257 := by omega
      have g2 : ¬ (30 : Int) < (Bv : Int) + 1 := by omega
      have HSm := Lib.hid hbig
      have hA29 : A ≤ 29 := by omega
      have hB29 : Bv ≤ 29 := by omega
      obtain ⟨n, hn⟩ : ∃ n, n = C + 4 := ⟨_, rfl⟩
      have n1 : (C : Int) + 4 = (n : Int) := by omega
      have hn19 : n ≤ 19 := by omega
      have HN := Lib.hid hn
      clear hbig hn
      go_wp2_with fail
      with_reducible refine (HLe.out w4 _ HR4.out).mono ?_
      rintro e w5 ⟨rfl, hk5⟩
      have HR5 := Lib.hid (HR4.out.kept hk5 (fun h => h)); have HK5 := Lib.hid (HK4.out.trans (hk5.mono (fun _ _ h => h.elim)))
      rw [HE0.out]
      obtain ⟨p4, hp4⟩ : ∃ p4, p4 = p + 14 := ⟨_, rfl⟩
      have HP4 := Lib.hid hp4
      rw [← hp4] at HR5 ⊢
      clear hk5 HR4 HK4 hp4
      by_cases hs2 : L8 < p4 + 3 * n
      · have g3 : (L8 : Int) - (p4 : Int) < 3 * n := by omega
        have HH := Lib.hid (show HeadR bs p [] [] 2 0 by
          unfold HeadR
          rw [if_neg HSh.out, if_neg (by rw [← HA.out, ← HB.out]; exact HSm.out), if_pos (by rw [← HC.out, ← HN.out, ← HL8.out, ← HP4.out]; exact hs2)]; exact ⟨rfl, rfl, rfl⟩)
        clear hs2
        go_wp2
        go_ret3
        exact RLensP.non HH.out (by decide) HR5.out HK5.out
      · have g3 : ¬ (L8 : Int) - (p4 : Int) < 3 * n := by omega
        have HS2 := Lib.hid hs2
        clear hs2
        have hRb := obj_lt HR5.out.1
        go_wp2_with (at_make; refine wpList_make_full _ rfl _ _ _ rfl 0 3 i0 (.int .i64 0) 1 Tryz.underlying23 hi hz0 hz1 .i64 .i64 _ _ 19 rfl rfl rfl rfl (by rw [hz2]; omega) (by unfold maxLen; omega) (Nat.zero_le _) ?_)
        intro w6 hown hgrow
        obtain ⟨G, hG⟩ : ∃ G, G = w5.heap.size := ⟨_, rfl⟩
        have hGR : G ≠ R := by omega
        have hGw : w.heap.size ≤ G := by rw [hG]; exact HK5.out.size
        rw [← hG] at hown ⊢
        have hk6 : Kept NoB w5 w6 := (Kept.refl NoB w5).grown hgrow (fun _ _ e => by cases e)
        have hO6 : w6.ownsRow 0 3 1 (.slice (some ⟨G, 0, none⟩) 19 19) 19 ((codeT bs p4 0).map (.int .i64)) := by
          unfold codeT; rw [List.map_replicate, ← toList_madeCells_one]; exact hown
        have HK6 := Lib.hid (HK5.out.trans (hk6.mono (fun _ _ h => h.elim))); have HO6 := Lib.hid hO6; have HR6 : Hid (Rfb w6 R bs (p4 + 3 * 0)) := Lib.hid (HR5.out.kept hk6 (fun h => h))
        have HRw := Lib.hid (obj_lt HR.out.1)
        clear hown hgrow hG hk6 hO6 hRb HR5 HK5
        go_upto_block 0 with fail
        go_cut [15, 16, 17] from 66 to 84 (fun _ _ _ wx => Hid (wx.ownsRow 0 3 1 (.slice (some ⟨G, 0, none⟩) 19 19) 19 ((codeT bs p4 n).map (.int .i64))) ∧ Hid (Rfb wx R bs (p4 + 3 * n)) ∧ Hid (Kept (OneB R) w wx))
        case first =>
          go_wp2_with fail
          go_loopw [15, 16, 17] (fun v15 _ _ wr => ∃ (i : Nat), v15 = .int .i64 (i : Int) ∧ i ≤ n ∧ Hid (wr.ownsRow 0 3 1 (.slice (some ⟨G, 0, none⟩) 19 19) 19 ((codeT bs p4 i).map (.int .i64))) ∧ Hid (Rfb wr R bs (p4 + 3 * i)) ∧ Hid (Kept (OneB R) w wr)) (fun v15 _ _ _ => n - (intOf v15).toNat)
          case atStart => exact ⟨0, rfl, by omega, HO6, HR6, HK6⟩
          case round =>
            clear HO6 HR6 HK6
            obtain ⟨i, rfl, hin, HO, HRr, HK⟩ := hrel
            by_cases hlt : i < n
            · have hlt2 : (i : Int) < n := by omega
              obtain ⟨o1, o2⟩ := ord_at i (by omega)
              obtain ⟨k, hk⟩ : ∃ k : Nat, ordL.getD i 0 = (k : Int) := ⟨(ordL.getD i 0).toNat, by omega⟩
              have hk19 : k < 19 := by omega
              have hk19' : (k : Int) < 19 := by omega
              have hi19 : (i : Int) < 19 := by omega
              have htk := refTake_yes wr R bs (p4 + 3 * i) 3 HRr.out (by decide) (by have := HS2.out; have := HL8.out; omega)
              have hct : codeT bs p4 (i + 1) = (codeT bs p4 i).set k ((bitsAt bs (p4 + 3 * i) 3 : Nat) : Int) := by rw [codeT, hk, Int.toNat_natCast]
              have hx8 := bitsAt_lt bs (p4 + 3 * i) 3
              obtain ⟨x, hx⟩ : ∃ x, x = bitsAt bs (p4 + 3 * i) 3 := ⟨_, rfl⟩
              rw [← hx] at htk hct hx8
              rw [show ((3 : Nat) : Int) = 3 from rfl] at htk
              have hx8' : x < 8 := hx8
              have wx : IntKind.i64.wrap (x : Int) = (x : Int) := IntWalk.i64_in _ (by omega)
              have HTk := Lib.hid htk; have HCt := Lib.hid hct; have HKo := Lib.hid hk
              clear htk hct hx8 hx hk o1 o2 HRr
              go_wp2_with fail
              with_reducible refine HTk.out.mono ?_
              rintro e w7 ⟨rfl, hr7, hk7⟩
              have hO7 := hk7.row HO.out (fun k e h => by simp [Value.ownBlock] at e; unfold OneB at h; omega)
              have HR7 := Lib.hid hr7; have HO7 := Lib.hid hO7; have HK7 := Lib.hid (HK.out.trans hk7)
              clear hr7 hk7 hO7 HTk HO HK
              go_wp2_with fail
              with_reducible refine (rorder19 w7).mono ?_
              rintro e w8 ⟨rfl, hor, hk8, hlt8⟩
              obtain ⟨H, hH⟩ : ∃ H, H = w7.heap.size := ⟨_, rfl⟩
              rw [← hH] at hor ⊢
              have hc : w8.cell? ⟨H, i, none⟩ = some (.int .i64 (k : Int)) := by
                obtain ⟨g, o, h1, h2, h3⟩ := hor i (by show i < 19; omega)
                cases h1
                rw [HKo.out] at h3
                simpa using h3
              have hO8 := hk8.row HO7.out (fun _ _ h => h)
              have hr8 : Rfb w8 R bs (p4 + 3 * i + 3) := HR7.out.kept hk8 (fun h => h)
              have hGu : ∃ u, w8.cell? ⟨G, k, none⟩ = some u := by
                rw [hO8.cellAt k (by omega)]
                exact ⟨_, List.getElem?_eq_getElem (by rw [List.length_map, codeT_len]; omega)⟩
              obtain ⟨u, hu⟩ := hGu
              have hfz := hO8.frozenAt k
              have hst := (hO8.stored k (.int .i64 (x : Int))).1
              rw [← List.map_set, ← HCt.out] at hst
              have hks : Kept (fun j => j = G) w8 (w8.setCell ⟨G, k, none⟩ (.int .i64 (x : Int))) := Kept.setCell (S := fun j => j = G) (p := ⟨G, k, none⟩) (Kept.refl _ w8) (.inl rfl) _
              have hrr : Rfb (w8.setCell ⟨G, k, none⟩ (.int .i64 (x : Int))) R bs (p4 + 3 * (i + 1)) := by
                have h := hr8.kept hks (by omega)
                have e : p4 + 3 * i + 3 = p4 + 3 * (i + 1) := by omega
                rw [e] at h; exact h
              have HR8 := Lib.hid hrr; have HO8 := Lib.hid hst
              have HK8 := Lib.hid (show Kept (OneB R) w (w8.setCell ⟨G, k, none⟩ (.int .i64 (x : Int))) from Kept.setCell (p := ⟨G, k, none⟩) (HK7.out.trans (hk8.mono (fun _ _ h => h.elim))) (.inr hGw) _)
              clear hrr hst hks hr8 hk8 hO8 HR7 HO7 HK7 hor hlt8 hH
              go_wp2
              go_roundw
              case rel => exact ⟨i + 1, by go_num, by omega, HO8, HR8, HK8⟩
              case measure => simp [intOf]; omega
            · have hin2 : i = n := by omega
              subst hin2
              have hlt2 : ¬ (i : Int) < i := by omega
              go_wp2
              go_meet
              exact ⟨HO, HRr, HK⟩
        case rest =>
        obtain ⟨HO, HRr, HK⟩ := hcut
        clear HO6 HR6 HK6
        have hrd : RdG wc (fun k => k = G) (some ⟨G, 0, none⟩) (codeT bs p4 n) := fun i hi => by
          rw [codeT_len] at hi
          refine ⟨G, 0, rfl, rfl, ?_⟩
          rw [Nat.zero_add, HO.out.cellAt i (by omega)]
          simp [List.getD, codeT_len, hi]
        have hsm := small7_15 (codeT_small bs p4 n)
        obtain ⟨code, hcode⟩ : ∃ code, code = codeT bs p4 n := ⟨_, rfl⟩
        have hcl : code.length = 19 := by rw [hcode, codeT_len]
        rw [← hcode] at hrd hsm
        have hkd := rkind_any (some ⟨G, 0, none⟩) 19 _ code wc hrd.room (fun z hz => by have := hsm z hz; omega) (by omega)
        rw [hcl] at hkd
        have hkc := kindA_of code
        have hff : fullB code = decide (kindA code = 3 ∨ kindA code = 2) := rfl
        generalize kindA code = k at hkd hkc hff
        have HKd := Lib.hid hkd; have HFf := Lib.hid hff; have HRd := Lib.hid hrd; have HSmc := Lib.hid hsm; have HCode := Lib.hid hcode; have HCl := Lib.hid hcl
        clear hkd hff hrd hsm hcode hcl HO
        go_wp2_with fail
        with_reducible refine HKd.out.mono ?_
        rintro e w7 ⟨rfl, hk7⟩
        have HR7 := Lib.hid (HRr.out.kept hk7 (fun h => h)); have HK7 := Lib.hid (HK.out.trans (hk7.mono (fun _ _ h => h.elim))); have HRd7 := Lib.hid (HRd.out.kept hk7 (fun k e h => h))
        clear hk7 HRr HK HRd HKd
        go_upto_region 18 with fail
        go_cut [91] from 86 to 92 (fun v wx => v = .bool (!decide (k = 3 ∨ k = 2)) ∧ w7 = wx)
        case first =>
          rcases hkc with rfl | rfl | rfl | rfl | rfl | rfl
          all_goals
            go_wp2
            go_meet
            exact ⟨rfl, rfl⟩
        case rest =>
        obtain ⟨rfl, rfl⟩ := hcut
        rw [← HFf.out]
        clear hkc HFf
        cases hfb : fullB code with
        | false =>
          have HH := Lib.hid (show HeadR bs p [] [] 6 0 by
            unfold HeadR
            rw [if_neg HSh.out, if_neg (by rw [← HA.out, ← HB.out]; exact HSm.out), if_neg (by rw [← HC.out, ← HN.out, ← HL8.out, ← HP4.out]; exact HS2.out), if_pos (by rw [← HC.out, ← HN.out, ← HP4.out, ← HCode.out]; exact hfb)]; exact ⟨rfl, rfl, rfl⟩)
          clear hfb
          go_wp2
          go_ret3
          exact RLensP.non HH.out (by decide) HR7.out HK7.out
        | true =>
          obtain ⟨N, hN⟩ : ∃ N, N = (A + 257) + (Bv + 1) := ⟨_, rfl⟩
          have n2 : ((A : Int) + 257) + ((Bv : Int) + 1) = (N : Int) := by omega
          have hN400 : N ≤ 400 := by omega
          have HNN := Lib.hid hN
          have HHs : Hid (∀ (row : List Int) (q' : Nat) (f : Int) (lit dist : List Int) (e : Int) (q : Nat), RowR code bs N (p4 + 3 * n) [] q' row f → (if f = 0 then if mayB (row.take (A + 257)) (row.drop (A + 257)) = true then lit = row.take (A + 257) ∧ dist = row.drop (A + 257) ∧ e = 0 ∧ q = q' else lit = [] ∧ dist = [] ∧ e = 6 else lit = [] ∧ dist = [] ∧ e = f) → HeadR bs p lit dist e q) := Lib.hid (fun row q' f lit dist e q h1 h2 => by
            unfold HeadR
            rw [if_neg HSh.out, if_neg (by rw [← HA.out, ← HB.out]; exact HSm.out), if_neg (by rw [← HC.out, ← HN.out, ← HL8.out, ← HP4.out]; exact HS2.out), if_neg (by rw [← HC.out, ← HN.out, ← HP4.out, ← HCode.out, hfb]; decide)]
            rw [← HC.out, ← HN.out, ← HA.out, ← HB.out, ← hN, ← HP4.out, ← HCode.out]
            exact ⟨row, q', f, h1, h2⟩)
          have HRf := Lib.hid (full_ref hfb)
          clear hfb hN
          go_wp2_with fail
          go_loopw [19, 20, 21, 22, 23, 24, 25, 26] (fun v19 _ _ _ _ _ _ _ wr => ∃ (a : Option Addr) (c : Nat) (l : List Int) (p' : Nat), v19 = .slice a l.length c ∧ l.length ≤ N ∧ Hid (OwnI wr a c l) ∧ Hid (Rfb wr R bs p') ∧ Hid (Kept (OneB R) w wr) ∧ Hid (RdG wr (fun k => k = G) (some ⟨G, 0, none⟩) code) ∧
            Hid (∀ q l' f, RowR code bs N p' l q l' f → RowR code bs N (p4 + 3 * n) [] q l' f)) (fun v19 _ _ _ _ _ _ _ _ => N - lenOf v19)
          case atStart => exact ⟨none, 0, [], p4 + 3 * n, rfl, by simp, Lib.hid (World.ownsRow_nil _ _ _ _), HR7, HK7, HRd7, Lib.hid (fun _ _ _ h => h)⟩
          case round =>
            clear HR7 HK7 HRd7
            obtain ⟨a, c, l, p', rfl, hlN, HO, HRr, HK, HRd, HP⟩ := hrel
            by_cases hlt : (l.length : Int) < N
            · obtain ⟨T, hT⟩ : ∃ T : Nat, min3 15 (8 * bs.length - p') = T := by
                have := HRr.out.2.2.2
                obtain ⟨T, h, _⟩ := min3_at (8 * bs.length) p' this
                exact ⟨T, by simpa using h⟩
              have hrc := rread_callsG code (some ⟨G, 0, none⟩) 19 (fun k => k = G) R bs p' T wr HRr.out HRd.out (fun h => hGR h.symm) HSmc.out (by rw [HCl.out]; decide) HRf.out hT
              rw [HCl.out] at hrc
              have HRc := Lib.hid hrc; have HT := Lib.hid hT
              obtain ⟨m, hm⟩ : ∃ m, m = l.length := ⟨_, rfl⟩
              have HM := Lib.hid hm
              have HlN := Lib.hid (show l.length < N by omega)
              rw [← hm] at hlt hlN ⊢
              clear hrc hT hm
              go_wp2_with fail
              with_reducible refine HRc.out.mono ?_
              rintro e w8 ⟨s, f, q, rfl, hrs, hr8, hk8⟩
              have HRs := Lib.hid hrs; have HR8 := Lib.hid hr8
              have hRO : ∀ k, (Value.slice a l.length c).ownBlock = some k → ¬ OneB R k := fun k h e => by
                have h1 := HRr.out.1
                exact row_ne HO.out h1 (by decide) k h (by unfold OneB at e; exact e)
              have HO8 := Lib.hid (hk8.row HO.out hRO)
              have HK8 := Lib.hid (HK.out.trans hk8); have HRd8 := Lib.hid (HRd.out.kept hk8 (fun k e h => by unfold OneB at h; omega))
              clear hrs hr8 hk8 hRO HRc HRr HO HK HRd
              by_cases hf : f = 0
              · subst hf
                obtain ⟨b, hb⟩ : ∃ b, b = spanB s := ⟨_, rfl⟩
                have hb7 : b ≤ 7 := by rw [hb]; exact spanB_le s
                obtain ⟨x, hx⟩ : ∃ x, x = bitsAt bs q b := ⟨_, rfl⟩
                have hx7 : x < 128 := by
                  have h1 := bitsAt_lt bs q b
                  have h2 := Nat.pow_le_pow_right (n := 2) (by decide) hb7
                  rw [hx]; exact Nat.lt_of_lt_of_le h1 h2
                have HX := Lib.hid hx; have HBb := Lib.hid hb
                clear hx hb
                go_upto_block 4 with fail
                go_cut [22] from 108 to 114 (fun v wx => v = .int .i64 (b : Int) ∧ w8 = wx)
                case first =>
                  have hbs := HBb.out
                  unfold spanB at hbs
                  by_cases h16 : s = 16
                  · subst h16
                    have HB2 := Lib.hid (show (b : Int) = 2 by rw [hbs]; rfl)
                    clear hbs
                    go_wp2
                    go_meet
                    exact ⟨by rw [HB2.out], rfl⟩
                  · by_cases h17 : s = 17
                    · subst h17
                      have HB2 := Lib.hid (show (b : Int) = 3 by rw [hbs]; rfl)
                      clear hbs
                      go_wp2
                      go_meet
                      exact ⟨by rw [HB2.out], rfl⟩
                    · by_cases h18 : s = 18
                      · subst h18
                        have HB2 := Lib.hid (show (b : Int) = 7 by rw [hbs]; rfl)
                        clear hbs
                        go_wp2
                        go_meet
                        exact ⟨by rw [HB2.out], rfl⟩
                      · rw [if_neg h16, if_neg h17, if_neg h18] at hbs
                        have HB2 := Lib.hid (show (b : Int) = 0 by omega)
                        clear hbs
                        go_wp2
                        go_meet
                        exact ⟨by rw [HB2.out], rfl⟩
                case rest =>
                obtain ⟨rfl, rfl⟩ := hcut
                by_cases hfit : q + b ≤ 8 * bs.length
                · have htk := refTake_yes w8 R bs q b HR8.out (by omega) hfit
                  rw [← HX.out] at htk
                  have HTk := Lib.hid htk; have HFit := Lib.hid hfit
                  clear htk hfit
                  go_wp2_with fail
                  with_reducible refine HTk.out.mono ?_
                  rintro e w9 ⟨rfl, hr9, hk9⟩
                  have hO9 : OwnI w9 a c l := hk9.row HO8.out (fun k h e => row_ne HO8.out HR8.out.1 (by decide) k h (by unfold OneB at e; exact e))
                  have hr9G := HRd8.out.kept hk9 (fun k e h => by unfold OneB at h; omega)
                  have hmo := more_any a c l _ s (x : Int) w9 hO9.reads (by have := HlN.out; omega) hO9.capOk
                  rw [← HM.out] at hmo
                  have HMo := Lib.hid hmo; have HR9 := Lib.hid hr9; have HK9 := Lib.hid (HK8.out.trans hk9); have HRd9 := Lib.hid hr9G
                  have wx : IntKind.i64.wrap (x : Int) = (x : Int) := IntWalk.i64_in _ (by omega)
                  clear hmo hO9 hr9 hk9 hr9G HTk HR8 HK8 HO8 HRd8
                  go_wp2_with fail
                  with_reducible refine HMo.out.mono ?_
                  rintro e w10 (⟨hok, a', c', rfl, hown4, hk4, hnew⟩ | ⟨hno, rfl, hk4⟩)
                  · have hR10 := HR9.out.kept hk4 (fun h => h)
                    have hK10 := HK9.out.trans (hk4.mono (fun _ _ h => h.elim))
                    have hD10 := HRd9.out.kept hk4 (fun k e h => h)
                    have hl4 := moreL_len l s (x : Int)
                    have hsp := spanL_pos s
                    by_cases hN4 : ((moreL l s (x : Int)).length : Int) ≤ N
                    · have hp5 : ∀ q2 l' f, RowR code bs N (q + b) (moreL l s (x : Int)) q2 l' f → RowR code bs N (p4 + 3 * n) [] q2 l' f := fun q2 l' f h => HP.out q2 l' f (by
                        have hb := HBb.out
                        subst hb
                        exact .step HlN.out HT.out HRs.out HFit.out (by rw [← HX.out]; exact hok) (by rw [← HX.out]; exact hN4) (by rw [← HX.out]; exact h))
                      obtain ⟨L, hL⟩ : ∃ L, L = moreL l s (x : Int) := ⟨_, rfl⟩
                      rw [← hL] at hown4 hp5 hl4 hN4 ⊢
                      have hml : m < L.length := by have := HM.out; omega
                      have hml2 : L.length ≤ N := by omega
                      obtain ⟨ml, hmm⟩ : ∃ ml, ml = L.length := ⟨_, rfl⟩
                      have HMM := Lib.hid hmm
                      rw [← hmm] at hml hml2 hN4 ⊢
                      have hN5 : ¬ (N : Int) < (ml : Int) := by omega
                      have HO4 := Lib.hid hown4; have HR4 := Lib.hid hR10; have HK4 := Lib.hid hK10; have HP4' := Lib.hid hp5; have HD4 := Lib.hid hD10
                      clear hown4 hR10 hK10 hp5 hl4 hN4 hL hmm hok hnew hk4 hsp hD10 HMo HR9 HK9 HRd9
                      go_wp2
                      refine ⟨?_, ?measure⟩
                      case measure => simp [lenOf]; omega
                      (repeat apply Exists.intro)
                      refine ⟨⟨a', c', L, _, ?_, ?_, HO4, HR4, HK4, HD4, HP4'⟩, rfl⟩
                      · rw [HMM.out]
                      · rw [← HMM.out]; exact hml2
                    · have HB2 := Lib.hid (HP.out p' [] 6 (by
                        have hb := HBb.out
                        subst hb
                        exact .bad HlN.out HT.out HRs.out HFit.out (by rw [← HX.out]; exact fun h => hN4 h.2)))
                      have HH := Lib.hid (HHs.out [] p' 6 [] [] 6 0 HB2.out (by rw [if_neg (by decide)]; exact ⟨rfl, rfl, rfl⟩))
                      obtain ⟨L, hL⟩ : ∃ L, L = moreL l s (x : Int) := ⟨_, rfl⟩
                      rw [← hL] at hown4 hl4 hN4 ⊢
                      obtain ⟨ml, hmm⟩ : ∃ ml, ml = L.length := ⟨_, rfl⟩
                      rw [← hmm] at hN4 ⊢
                      have hN5 : (N : Int) < (ml : Int) := by omega
                      have HR4 := Lib.hid hR10; have HK4 := Lib.hid hK10
                      clear hown4 hR10 hK10 hl4 hL hmm hok hnew hk4 hsp hD10 HMo HR9 HK9 HRd9 hN4
                      go_wp2
                      go_ret3
                      exact RLensP.non HH.out (by decide) HR4.out HK4.out
                  · have HR10 := Lib.hid (HR9.out.kept hk4 (fun h => h))
                    have HK10 := Lib.hid (HK9.out.trans (hk4.mono (fun _ _ h => h.elim)))
                    have HB2 := Lib.hid (HP.out p' [] 6 (by
                      have hb := HBb.out
                      subst hb
                      exact .bad HlN.out HT.out HRs.out HFit.out (by rw [← HX.out]; exact fun h => hno h.1)))
                    have HH := Lib.hid (HHs.out [] p' 6 [] [] 6 0 HB2.out (by rw [if_neg (by decide)]; exact ⟨rfl, rfl, rfl⟩))
                    clear hk4 hno HMo HR9 HK9 HRd9
                    go_wp2
                    go_ret3
                    exact RLensP.non HH.out (by decide) HR10.out HK10.out
                · have htk := refTake_no w8 R bs q b HR8.out (.inr (.inr (by omega)))
                  have HTk := Lib.hid htk
                  have HB2 := Lib.hid (HP.out p' [] 2 (by
                    have hb := HBb.out
                    subst hb
                    exact .short HlN.out HT.out HRs.out (by omega)))
                  have HH := Lib.hid (HHs.out [] p' 2 [] [] 2 0 HB2.out (by rw [if_neg (by decide)]; exact ⟨rfl, rfl, rfl⟩))
                  clear htk hfit
                  go_wp2_with fail
                  with_reducible refine HTk.out.mono ?_
                  rintro e w9 ⟨rfl, hk9⟩
                  have HR9 := Lib.hid (HR8.out.kept hk9 (fun h => h))
                  have HK9 := Lib.hid (HK8.out.trans (hk9.mono (fun _ _ h => h.elim)))
                  clear hk9 HTk
                  go_wp2
                  go_ret3
                  exact RLensP.non HH.out (by decide) HR9.out HK9.out
              · have hf2 : (f == 0) = false := by simp [hf]
                have HB2 := Lib.hid (HP.out p' [] f (.fail HlN.out HT.out HRs.out hf))
                have HFn := Lib.hid hf
                have HH := Lib.hid (HHs.out [] p' f [] [] f 0 HB2.out (by rw [if_neg hf]; exact ⟨rfl, rfl, rfl⟩))
                go_wp2
                go_ret3
                exact RLensP.non HH.out HFn.out HR8.out HK8.out
            · have hB2 := HP.out p' l 0 (.done (by omega))
              obtain ⟨hlen, hsm, _⟩ := hB2.ok rfl (by simp) (fun z hz => by simp at hz) (by have := HS2.out; have := HL8.out; omega)
              have hlt2 : ¬ (l.length : Int) < N := hlt
              have hHs := HHs.out l p' 0
              have HF : Hid (∀ (lit dist : List Int), lit = l.take (A + 257) → dist = l.drop (A + 257) → (mayB lit dist = true → HeadR bs p lit dist 0 p') ∧ (mayB lit dist = false → HeadR bs p [] [] 6 0)) := Lib.hid (fun lit dist h1 h2 => by
                subst h1 h2
                refine ⟨fun h => hHs _ _ _ _ hB2 ?_, fun h => hHs _ _ _ _ hB2 ?_⟩
                · rw [if_pos rfl, if_pos h]; exact ⟨rfl, rfl, rfl, rfl⟩
                · rw [if_pos rfl, if_neg (by rw [h]; decide)]; exact ⟨rfl, rfl, rfl⟩)
              have hown := HO.out
              obtain ⟨g3, rfl⟩ := own_some hown (by omega)
              obtain ⟨cb1, cb2⟩ := own_cap2 hown
              have hrd := own_readsI hown rfl
              obtain ⟨lit, hlit⟩ : ∃ lit, lit = l.take (A + 257) := ⟨_, rfl⟩
              obtain ⟨dist, hdist⟩ : ∃ dist, dist = l.drop (A + 257) := ⟨_, rfl⟩
              have hNv := HNN.out
              have l1 : lit.length = A + 257 := by rw [hlit, List.length_take]; omega
              have l2 : dist.length = Bv + 1 := by rw [hdist, List.length_drop]; omega
              have HF2 := Lib.hid (HF.out lit dist hlit hdist)
              have r1 : RdI wr wr.heap.size (some ⟨g3, 0, none⟩) lit := fun i hi => by
                obtain ⟨g, o, h1, h2, h3⟩ := hrd i (by omega)
                cases h1
                exact ⟨g3, 0, rfl, h2, by rw [h3, hlit]; simp [List.getD, List.getElem?_take, show i < A + 257 by omega]⟩
              have r2 : RdI wr wr.heap.size (some ⟨g3, A + 257, none⟩) dist := fun i hi => by
                obtain ⟨g, o, h1, h2, h3⟩ := hrd (A + 257 + i) (by omega)
                cases h1
                refine ⟨g3, _, rfl, h2, ?_⟩
                rw [show A + 257 + i = 0 + (A + 257 + i) by omega, h3, hdist]
                simp [List.getD, List.getElem?_drop]
              have s1 : Small 15 lit := fun z hz => hsm z (by rw [hlit] at hz; exact List.mem_of_mem_take hz)
              have s2 : Small 15 dist := fun z hz => hsm z (by rw [hdist] at hz; exact List.mem_of_mem_drop hz)
              obtain ⟨u, hu⟩ : ∃ u, u = A + 257 := ⟨_, rfl⟩
              obtain ⟨v, hv⟩ : ∃ v, v = Bv + 1 := ⟨_, rfl⟩
              rw [← hu] at l1 r2
              rw [← hv] at l2
              have hhb : headB lit dist = mayB lit dist := by
                unfold headB
                rw [decide_eq_true (show 257 ≤ lit.length ∧ lit.length ≤ 286 ∧ 1 ≤ dist.length ∧ dist.length ≤ 30 by omega), Bool.true_and]
              have HL1 := Lib.hid l1; have HL2 := Lib.hid l2
              have HR1 := Lib.hid r1; have HR2 := Lib.hid r2
              have HHo : Hid (∀ W, Kept NoB wr W → Calls Tryz.prog 64 #[.slice (some ⟨g3, 0, none⟩) u c, .slice (some ⟨g3, u, none⟩) v (c - u)] W fun e w' => e = .returned (.bool (mayB lit dist)) ∧ Kept NoB W w') := Lib.hid (fun W hW => by
                have h := headok_any (some ⟨g3, 0, none⟩) c _ lit (some ⟨g3, u, none⟩) (c - u) _ dist W (r1.keptNo hW) (fun z hz => by have := s1 z hz; omega) (r2.keptNo hW) (fun z hz => by have := s2 z hz; omega) (by omega) (by omega)
                rw [hhb, l1, l2] at h
                exact h)
              have u1 : (A : Int) + 257 = (u : Int) := by omega
              have u3 : l.length = N := hlen
              have u4 : ¬ c = u := by omega
              have u5 : u ≤ c := by omega
              have u6 : u ≤ N := by omega
              have u7 : N - u = v := by omega
              have u8 : (u : Int) ≤ (N : Int) := by omega
              have u9 : (0 : Int) ≤ (u : Int) := by omega
              have hlt3 : ¬ (N : Int) < N := by omega
              rw [u3] at cb1 ⊢
              rw [u1] at n2 ⊢
              have HRr2 := HRr; have HK2 := HK
              clear hlt hlt2 r1 r2 s1 s2 hlit hdist hrd hHs hB2 hsm hown l1 l2 HF HHs hu hv u1 u3 hlen g1 g2 hNv hhb hlN HP HO HRd hA29 hB29
              have hk0 := Kept.refl NoB wr
              go_upto_region 40 with fail
              go_region_held3 (fun W => Kept NoB wr W) (first | assumption | exact Kept.drew (by assumption) | exact Kept.trans (by assumption) hkn)
                (first
                  | (go_at_call 64; ((with_reducible refine (HHo.out _ (by assumption)).mono ?_); rintro e wn ⟨rfl, hkn⟩)))
              have hk1 : Kept NoB wr wn := by first | assumption | exact Kept.trans (by assumption) hkn | exact Kept.trans (Kept.drew (by assumption)) hkn
              have HRn := Lib.hid (HRr.out.kept hk1 (fun h => h)); have HKn := Lib.hid (HK.out.trans (hk1.mono (fun _ _ h => h.elim))); have HQ1 := Lib.hid (HR1.out.keptNo hk1); have HQ2 := Lib.hid (HR2.out.keptNo hk1)
              clear hkn hk0 HHo HR1 HR2 HRr2 HK2 hk1
              cases hmy : mayB lit dist with
              | true =>
                have HH := Lib.hid (HF2.out.1 hmy)
                clear hmy
                go_upto_region 42 with fail
                go_quiet (fail)
                have hkd : Kept NoB wn (wn.drewN nq) := (Kept.refl NoB wn).drewN nq
                have HR5 := Lib.hid (HRn.out.kept hkd (fun h => h)); have HK5 := Lib.hid (HKn.out.trans (hkd.mono (fun _ _ h => h.elim))); have HW1 := Lib.hid (HQ1.out.keptNo hkd); have HW2 := Lib.hid (HQ2.out.keptNo hkd)
                clear hkd
                go_wp2
                go_ret3
                exact ⟨some ⟨g3, 0, none⟩, c, lit, some ⟨g3, u, none⟩, c - u, dist, 0, p', p', by rw [HL1.out, HL2.out]; rfl, HH.out, HR5.out, fun _ => rfl, HW1.out.room, HW2.out.room, HK5.out⟩
              | false =>
                have HH := Lib.hid (HF2.out.2 hmy)
                clear hmy
                go_wp2
                go_ret3
                exact RLensP.non HH.out (by decide) HRn.out HKn.out
end Go.Proofs.YtdpegahcgaicnaaGreatDoor

namespace Go.Proofs.YtdpegahcgaicnaaGreatDoor
open Go.RowKit
set_option linter.unusedVariables false

variable {T1 T2 : TypeId} {w0 w w' : World} {A : Nat} {aoa : Option Addr} {capa : Nat} {ba : List Int} {sa : Nat} {B : Nat} {aob : Option Addr} {capb : Nat} {bb : List Int} {sb : Nat}
end Go.Proofs.YtdpegahcgaicnaaGreatDoor

namespace Go.Proofs.YtdpegahcgaicnaaGreatDoor
open Go.RowKit
set_option linter.unusedVariables false
set_option linter.unusedSimpArgs false

variable {T1 T2 : TypeId} {w0 w w' : World} {A : Nat} {aoa : Option Addr} {capa : Nat} {ba : List Int} {sa : Nat} {B : Nat} {aob : Option Addr} {capb : Nat} {bb : List Int} {sb : Nat}
/-- Both hold the same bytes. -/
def DuoF (w0 w : World) (A B : Nat) (bs : List Int) (s : Nat) : Prop := ∃ aoa capa aob capb, Two 73 45 w0 w A aoa capa bs s B aob capb bs s
/-- The first is ahead by what it was given. -/
def HalfF (w0 w : World) (A B : Nat) (bs : List Int) (s : Nat) (ps : List (Nat × Nat)) : Prop := ∃ aoa capa b2 aob capb, Two 73 45 w0 w A aoa capa b2 (s + wdN ps) B aob capb bs s ∧ num b2 = num bs + putsN ps * 2 ^ s
theorem HalfF.keptNo {A B s : Nat} {bs : List Int} {ps : List (Nat × Nat)} (h : HalfF w0 w A B bs s ps) (hk : Kept NoB w w') : HalfF w0 w' A B bs s ps := by
  obtain ⟨a, c, b2, x, y, h1, h2⟩ := h
  exact ⟨a, c, b2, x, y, h1.keptNo hk, h2⟩
theorem DuoF.keptNo {A B s : Nat} {bs : List Int} (h : DuoF w0 w A B bs s) (hk : Kept NoB w w') : DuoF w0 w' A B bs s := by
  obtain ⟨a, c, x, y, h1⟩ := h
  exact ⟨a, c, x, y, h1.keptNo hk⟩
theorem TokWs.wd {lit dist : List Int} (h1 : Small 15 lit) (h2 : Small 15 dist) {ts : List Tk} {ws : List (Nat × Nat)} (h : TokWs lit dist ts ws) : wdN ws ≤ 48 * ts.length := by
  induction h with
  | nil => simp [wdN]
  | cons a _ ih => have := a.wd h1 h2; rw [wdN_append]; simp only [List.length_cons]; omega
end Go.Proofs.YtdpegahcgaicnaaGreatDoor
