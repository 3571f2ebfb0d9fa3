/-
  match: the seeker's longest.
  A row of tokens of the call's own; one token more.
  Tokens of bytes, on paper; own rows of tokens.
-/
import Derived.Test.YtfmjfgmbjdhogaaGreatDoorMs41
namespace Go.Proofs.YtfmjfgmbjdhogaaGreatDoor
open Go.RowKit
set_option linter.unusedVariables false
set_option linter.unusedSimpArgs false
set_option maxRecDepth 20000

theorem long_short (L : List UInt8) (a : Nat) (h : L.length < a + 3) : longN L a = (0, 0) := by
  rcases long_ok L a with ⟨h1, h2, _⟩ | ⟨h1, h2, _⟩
  · exact Prod.ext h1 h2
  · rw [mostN] at h2
    omega
set_option maxRecDepth 100000 in
set_option maxHeartbeats 8000000 in
theorem seek_any (lo hi Sk g o c next a W1 gh1 gb1 W2 gh2 gb2 : Nat) (L : List UInt8) (hs1 bs1 hs2 bs2 : List Int) (w : World) (hb : SkB lo hi Sk W1 gh1 gb1 W2 gh2 gb2) (hn : L.length ≤ 32768) (hc : L.length ≤ c) (hcm : c ≤ 9223372036854775807)
    (hS : SeekSt w Sk (some ⟨g, o, none⟩) c next (min next (L.length - 2)) (min next (L.length - 7)) W1 gh1 gb1 W2 gh2 gb2 L hs1 bs1 hs2 bs2) (hr : RdB w g o L 0 L.length) (hg : g < lo) (hlo : 1 < lo) (hhi : hi ≤ w.heap.size) (hT : DeB w) (hna : next ≤ a) (ha : a ≤ L.length) :
    Calls Tryz.prog 87 #[.pointer (some ⟨Sk, 0, none⟩), .int .i64 (a : Int)] w fun e w' => e = .returned (.tuple #[.int .i64 ((longN L a).1 : Int), .int .i64 ((longN L a).2 : Int)]) ∧ ∃ nx, nx ≤ a ∧ SeekR w lo hi Sk (some ⟨g, o, none⟩) c W1 gh1 gb1 W2 gh2 gb2 L w' nx := by
  have HUp := Lib.hid (addup_any lo hi Sk g o c next a W1 gh1 gb1 W2 gh2 gb2 L hs1 bs1 hs2 bs2 w hb hn hc hcm hS hr hg hna ha)
  obtain ⟨n, hn'⟩ : ∃ n, n = L.length := ⟨_, rfl⟩
  have HNn := Lib.hid hn'
  have HS0 := Lib.hid hS; have HR0 := Lib.hid hr; have HB := Lib.hid hb; have HT := Lib.hid hT
  rw [← hn'] at hn hc ha
  obtain ⟨c0, _, _, _⟩ := hS.cells
  rw [← hn'] at c0
  have HShort := Lib.hid (long_short L a)
  have HLong := Lib.hid (fun k d (h : BestP (candN L a) (min a 32768) 2 k d) => long_of h)
  obtain ⟨R, hR⟩ : ∃ R, R = longN L a := ⟨_, rfl⟩
  rw [← hR] at HShort HLong ⊢
  obtain ⟨lf, hlf⟩ : ∃ lf : Nat, lf = n - a := ⟨_, rfl⟩
  have hlfi : (n : Int) - (a : Int) = (lf : Int) := by omega
  have HLf := Lib.hid hlf
  have hlfb : lf ≤ 32768 := by omega
  clear hS hr hb hT hn' hR hlf
  by_cases h3 : lf < 3
  · have h3i : (lf : Int) < 3 := by omega
    have HF : Hid (R = (0, 0)) := Lib.hid (HShort.out (by have := HLf.out; have := HNn.out; omega))
    clear h3
    go_enter Tryz.func87, Tryz.ntmps87
    go_wp2
    go_ret2
    exact ⟨by rw [HF.out]; rfl, next, hna, Kept.refl _ _, hs1, bs1, hs2, bs2, HS0.out⟩
  · have h3i : ¬ (lf : Int) < 3 := by omega
    have hl3 : 3 ≤ lf := by omega
    clear h3
    go_enter Tryz.func87, Tryz.ntmps87
    go_wp2_with fail
    with_reducible refine HUp.out.mono ?_
    rintro e w1 ⟨rfl, hkU, xs1, ys1, xs2, ys2, hSU⟩
    have HKU := Lib.hid hkU
    have hmina : min a (L.length - 2) = a := by have := HNn.out; have := HLf.out; omega
    rw [hmina] at hSU
    have HSU := Lib.hid hSU
    obtain ⟨d0, _, _, _⟩ := hSU.cells
    rw [← HNn.out] at d0
    have HNew := Lib.hid (newbest_any (some ⟨g, o, none⟩) n c a w1 ha (by omega))
    obtain ⟨m, hm⟩ : ∃ m, m = min 258 (n - a) := ⟨_, rfl⟩
    rw [← hm] at HNew
    have HM := Lib.hid hm
    have hmlf : m = min 258 lf := by have := HLf.out; omega
    have HMl := Lib.hid hmlf
    clear hkU hSU c0 hm hmlf hmina
    go_wp2_with fail
    with_reducible refine HNew.out.mono ?_
    rintro e w2 ⟨rfl, hk2⟩
    have HK2 := Lib.hid (HKU.out.trans hk2.dom)
    have HS2 := Lib.hid (HSU.out.keptS HB.out hk2 (fun _ _ h => h))
    clear hk2 d0
    obtain ⟨r, hr⟩ : ∃ r, r = w2.heap.size := ⟨_, rfl⟩
    obtain ⟨w3, hw3⟩ : ∃ w3, w3 = w2.alloc (.cells #[.slice (some ⟨g, o, none⟩) n c, .int .i64 (a : Int), .int .i64 (m : Int), .int .i64 2, .int .i64 0] 180) := ⟨_, rfl⟩
    have hk3 : Kept NoB w2 w3 := by rw [hw3]; exact (Kept.refl _ _).alloc _
    have HB3 : Hid (BestAt w3 r g o n c a m 2 0) := Lib.hid (by rw [hw3, hr]; exact heap_alloc_new _ _)
    have hrw : w.heap.size ≤ r := by have := HK2.out.size; omega
    have hrhi : hi ≤ r := by omega
    have hlh : lo < hi := by have := HB.out.b0; omega
    have hgr : g ≠ r := by omega
    have HK3 := Lib.hid (HK2.out.trans hk3.dom)
    have HS3 := Lib.hid (HS2.out.keptS HB.out hk3 (fun _ _ h => h))
    have HInr : Hid (∀ k, InB lo hi k → ¬ OneB r k) := Lib.hid (fun k h e => by have e2 : k = r := e; have := h.2; omega)
    -- what a chain's try gives
    have HTry1 := Lib.hid (fun (W : World) (hk : Kept (InB lo hi) w W) (hS : SeekSt W Sk (some ⟨g, o, none⟩) c a a (min a (L.length - 7)) W1 gh1 gb1 W2 gh2 gb2 L xs1 ys1 xs2 ys2) (hB : BestAt W r g o n c a m 2 0) =>
      chtry_any Sk 2 W1 gh1 gb1 n 3 r g o n c a m 2 xs1 ys1 L W HB.out.w1 (by rw [HNn.out]; exact hS.cells.2.2.1) hS.h1 hS.r1 hS.c1 (by rw [hS.l1, HNn.out]) hn (by have := HLf.out; omega) (by have := HB.out.b0; omega) (by have := HB.out.b1; omega) (by have := HB.out.b2; omega) (by omega) (by omega) hB (by rw [HNn.out]; exact HR0.out.keptS hk (fun e => by have := e.1; omega)) HNn.out hc hcm HM.out rfl (by have := HMl.out; omega) (by omega) (by have := HLf.out; omega) (HT.out.keptS hk (fun e => by have := e.1; omega)))
    have HTry2 := Lib.hid (fun (h8 : 8 ≤ lf) (W : World) (hk : Kept (InB lo hi) w W) (hS : SeekSt W Sk (some ⟨g, o, none⟩) c a a (min a (L.length - 7)) W1 gh1 gb1 W2 gh2 gb2 L xs1 ys1 xs2 ys2) (hB : BestAt W r g o n c a m 7 0) =>
      chtry_any Sk 5 W2 gh2 gb2 n 8 r g o n c a m 7 xs2 ys2 L W HB.out.w2 (by rw [HNn.out]; exact hS.cells.2.2.2) hS.h2 hS.r2 (by have := hS.c2; rw [show min a (L.length - 7) = a by have := HLf.out; have := HNn.out; omega] at this; exact this) (by rw [hS.l2, HNn.out]) hn (by have := HLf.out; omega) (by have := HB.out.b0; omega) (by have := HB.out.b3; omega) (by have := HB.out.b4; omega) (by omega) (by omega) hB (by rw [HNn.out]; exact HR0.out.keptS hk (fun e => by have := e.1; omega)) HNn.out hc hcm HM.out rfl (by have := HMl.out; omega) (by omega) (by have := HLf.out; omega) (HT.out.keptS hk (fun e => by have := e.1; omega)))
    go_upto_region 6 with fail
    rw [← hr, ← hw3]
    clear hr hw3 hk3 HUp HSU HNew HS2 HS0
    have hfin : ∀ W, Kept (InB lo hi) w W → SeekSt W Sk (some ⟨g, o, none⟩) c a a (min a (L.length - 7)) W1 gh1 gb1 W2 gh2 gb2 L xs1 ys1 xs2 ys2 → ∃ nx, nx ≤ a ∧ SeekR w lo hi Sk (some ⟨g, o, none⟩) c W1 gh1 gb1 W2 gh2 gb2 L W nx := fun W hk hS => ⟨a, Nat.le_refl _, hk, xs1, ys1, xs2, ys2, by
      have hmina : min a (L.length - 2) = a := by have := HNn.out; have := HLf.out; omega
      rw [hmina]; exact hS⟩
    have HFin := Lib.hid hfin
    have hma : min a 32768 = a := by omega
    rw [hma] at HLong
    clear hfin hma
    go_upto_if 27 with fail
    go_cut [27] from 26 to 46 (fun v27 wx => Hid (BestAt wx r g o n c a m 2 0) ∧ Hid (Kept (InB lo hi) w wx) ∧ Hid (SeekSt wx Sk (some ⟨g, o, none⟩) c a a (min a (L.length - 7)) W1 gh1 gb1 W2 gh2 gb2 L xs1 ys1 xs2 ys2))
    case first =>
      by_cases h8 : 8 ≤ lf
      · have h8i : (8 : Int) ≤ (lf : Int) := by omega
        have hc3 := obj_cell HB3.out 3
        have hz3 : w3.frozen? ⟨r, 3, none⟩ = false := obj_free HB3.out 3
        have ho := obj_set HB3.out 3 (.int .i64 7)
        have hk4 : Kept (OneB r) w3 (w3.setCell ⟨r, 3, none⟩ (.int .i64 7)) := Kept.setCell (S := OneB r) (p := ⟨r, 3, none⟩) (Kept.refl _ _) (.inl rfl) _
        have HB4 : Hid (BestAt (w3.setCell ⟨r, 3, none⟩ (.int .i64 7)) r g o n c a m 7 0) := Lib.hid ho
        have HS4 := Lib.hid (HS3.out.keptS HB.out hk4 HInr.out)
        have HK4 : Hid (Kept (InB lo hi) w (w3.setCell ⟨r, 3, none⟩ (.int .i64 7))) := Lib.hid (Kept.setCell (S := InB lo hi) (p := ⟨r, 3, none⟩) HK3.out (.inr hrw) _)
        go_upto_region 8 with fail
        obtain ⟨w4, hw4⟩ : ∃ w4, w4 = w3.setCell ⟨r, 3, none⟩ (.int .i64 7) := ⟨_, rfl⟩
        rw [← hw4] at HB4 HS4 HK4 ⊢
        clear hw4 hk4 ho hc3 hz3
        obtain ⟨d0, _, _, _⟩ := HS4.out.cells
        rw [← HNn.out] at d0
        have g0 : ∀ W, Kept (OneB r) w4 W → W.cell? ⟨Sk, 0, none⟩ = some (.slice (some ⟨g, o, none⟩) n c) := fun W hk => hk.cellS d0 (fun e => by have e2 : Sk = r := e; have := HB.out.b0; omega)
        have HWd := Lib.hid (fun W (hk : Kept NoB w4 W) => word_any g (o + a) (n - a) (c - a) a L W (by have := ((HR0.out.keptS (HK4.out.trans hk.dom) (fun e => by have := e.1; omega)).drop a); rw [Nat.zero_add, ← HNn.out] at this; exact this) (by have := HLf.out; omega) (by omega) (by have := HLf.out; have := HNn.out; omega))
        have HTr := Lib.hid (fun W (hk : Kept NoB w4 W) => HTry2.out h8 W (HK4.out.trans hk.dom) (HS4.out.keptS HB.out hk (fun _ _ h => h)) (HB4.out.kept hk))
        obtain ⟨key, hkey⟩ : ∃ key, key = keyN L 8 a := ⟨_, rfl⟩
        rw [← hkey] at HWd HTr
        have han : (a : Int) ≤ (n : Int) := by omega
        have hca : ¬ c = a := by omega
        clear d0 hkey h8
        go_wp2_with fail
        refine wp_region_noPanic ?_
        refine wp_region_held_drew (S := fun W => Kept (OneB r) w4 W) (by kernel_rfl) (Kept.drew (Kept.refl _ _)) (fun hHeld => ?_)
        obtain ⟨wd, hwd⟩ : ∃ x, x = w4.drew := ⟨_, rfl⟩
        have hkd : Kept NoB w4 wd := by rw [hwd]; exact Kept.drew (Kept.refl _ _)
        rw [← hwd] at hHeld ⊢
        clear hwd
        refine wpAnyH_take (i := 0) (v := ?_) (by rw [List.getElem?_toArray]; rfl) (by kernel_rfl) (by kernel_rfl) (by kernel_rfl) (fun _ _ _ h => h) (Or.inl ⟨by rfl, ?hyq1_⟩) (by assumption) ?restq1_
        case hyq1_ => (intro w hSw; (try dsimp only at hSw); (try have e0 := g0 w hSw); go_simp; (try with_reducible rfl))
        try simp only [Act.put, List.setIfInBounds_toArray, List.set_cons_zero, List.set_cons_succ]
        refine wpAnyH_take (i := 1) (v := ?_) (by rw [List.getElem?_toArray]; rfl) (by kernel_rfl) (by kernel_rfl) (by kernel_rfl) (fun _ _ _ h => h) (Or.inl ⟨by rfl, ?hyq2_⟩) (by assumption) ?restq2_
        case hyq2_ => (intro w hSw; (try dsimp only at hSw); (try have e0 := g0 w hSw); go_simp; (try with_reducible rfl))
        try simp only [Act.put, List.setIfInBounds_toArray, List.set_cons_zero, List.set_cons_succ]
        refine wpAnyH_take (i := 2) (v := ?_) (by rw [List.getElem?_toArray]; rfl) (by kernel_rfl) (by kernel_rfl) (by kernel_rfl) (fun _ _ _ h => h) (Or.inl ⟨by rfl, ?hyq3_⟩) (by assumption) ?restq3_
        case hyq3_ => (intro w hSw; (try dsimp only at hSw); (try have e0 := g0 w hSw); go_simp; (try with_reducible rfl))
        try simp only [Act.put, List.setIfInBounds_toArray, List.set_cons_zero, List.set_cons_succ]
        refine wpAnyH_take (i := 3) (v := ?_) (by rw [List.getElem?_toArray]; rfl) (by kernel_rfl) (by kernel_rfl) (by kernel_rfl) (fun _ _ _ h => h) (Or.inl ⟨by rfl, ?hyq4_⟩) (by assumption) ?restq4_
        case hyq4_ => (intro w hSw; (try dsimp only at hSw); (try have e0 := g0 w hSw); go_simp; (try with_reducible rfl))
        try simp only [Act.put, List.setIfInBounds_toArray, List.set_cons_zero, List.set_cons_succ]
        refine wpAnyH_take (i := 4) (v := ?_) (by rw [List.getElem?_toArray]; rfl) (by kernel_rfl) (by kernel_rfl) (by kernel_rfl) (fun _ _ _ h => h) (Or.inl ⟨by rfl, ?hyq5_⟩) (by assumption) ?restq5_
        case hyq5_ => (intro w hSw; (try dsimp only at hSw); (try have e0 := g0 w hSw); go_simp; (try with_reducible rfl))
        try simp only [Act.put, List.setIfInBounds_toArray, List.set_cons_zero, List.set_cons_succ]
        refine wpAnyH_take (i := 5) (v := ?_) (by rw [List.getElem?_toArray]; rfl) (by kernel_rfl) (by kernel_rfl) (by kernel_rfl) (fun _ _ _ h => h) (Or.inl ⟨by rfl, ?hyq6_⟩) (by assumption) ?restq6_
        case hyq6_ => (intro w hSw; (try dsimp only at hSw); (try have e0 := g0 w hSw); go_simp; (try with_reducible rfl))
        try simp only [Act.put, List.setIfInBounds_toArray, List.set_cons_zero, List.set_cons_succ]
        refine wpAnyH_take (i := 6) (v := ?_) (by rw [List.getElem?_toArray]; rfl) (by kernel_rfl) (by kernel_rfl) (by kernel_rfl) (fun _ _ _ h => h) (Or.inl ⟨by rfl, ?hyq7_⟩) (by assumption) ?restq7_
        case hyq7_ => (intro w hSw; (try dsimp only at hSw); (try have e0 := g0 w hSw); go_simp; (try with_reducible rfl))
        try simp only [Act.put, List.setIfInBounds_toArray, List.set_cons_zero, List.set_cons_succ]
        refine wpAnyH_take (i := 7) (v := ?_) (by rw [List.getElem?_toArray]; rfl) (by kernel_rfl) (by kernel_rfl) (by kernel_rfl) (fun _ _ _ h => h) (Or.inl ⟨by rfl, ?hyq8_⟩) (by assumption) ?restq8_
        case hyq8_ => (intro w hSw; (try dsimp only at hSw); (try have e0 := g0 w hSw); go_simp; (try with_reducible rfl))
        try simp only [Act.put, List.setIfInBounds_toArray, List.set_cons_zero, List.set_cons_succ]
        refine wpAnyH_take (i := 8) (v := ?_) (by rw [List.getElem?_toArray]; rfl) (by kernel_rfl) (by kernel_rfl) (by kernel_rfl) (fun _ _ _ h => h) (Or.inl ⟨by rfl, ?hyq9_⟩) (by assumption) ?restq9_
        case hyq9_ => (intro w hSw; (try dsimp only at hSw); (try have e0 := g0 w hSw); go_simp; (try with_reducible rfl))
        try simp only [Act.put, List.setIfInBounds_toArray, List.set_cons_zero, List.set_cons_succ]
        refine wpAnyH_ready (rs := [9]) (by kernel_rfl) (by simp) ?_
        refine AllReadyH.cons (by rw [List.getElem?_toArray]; rfl) (fun K hK => ?_) AllReadyH.nil
        go_simp
        go_at_call 118
        (with_reducible refine (HWd.out wd hkd).mono ?_)
        rintro e wn ⟨rfl, hkn⟩
        have hSn := hHeld.trans (hkn.dom : Kept (OneB r) wd wn)
        have hkN : Kept NoB w4 wn := hkd.trans hkn
        go_wp2_with fail
        refine hK.out _ _ hSn (fun hHeld => ?_)
        clear hK K hSn
        try simp only [Act.put, List.setIfInBounds_toArray, List.set_cons_zero, List.set_cons_succ]
        refine wpAnyH_ready (rs := [10]) (by kernel_rfl) (by simp) ?_
        refine AllReadyH.cons (by rw [List.getElem?_toArray]; rfl) (fun K hK => ?_) AllReadyH.nil
        go_simp
        go_at_call 117
        (with_reducible refine (HTr.out wn hkN).mono ?_)
        rintro e wm ⟨rfl, hkm, z, d, hbm, hpm⟩
        have hSn := hHeld.trans hkm
        have HKm := Lib.hid ((hkN.dom : Kept (OneB r) w4 wn).trans hkm)
        have HBm := Lib.hid hbm
        have HPm := Lib.hid hpm
        go_wp2_with fail
        refine hK.out _ _ hSn (fun hHeld => ?_)
        clear hK K hSn hbm hpm hkm
        try simp only [Act.put, List.setIfInBounds_toArray, List.set_cons_zero, List.set_cons_succ]
        refine wpAnyH_done (by kernel_rfl) ?_ _
        refine NoPanic.normal ?_
        clear hHeld hkd hkN hkn g0
        obtain ⟨b0, b1, b2, b3, b4⟩ := HBm.out.cells
        have HKm2 : Hid (Kept (InB lo hi) w wm) := Lib.hid (((HK4.out.mono (T := fun k => InB lo hi k ∨ k = r) (fun k _ h => .inl h)).trans (HKm.out.mono (fun k _ h => .inr h))).mono (fun k hk h => by
          rcases h with h | h
          · exact h
          · omega))
        have HSm := Lib.hid (HS4.out.keptS HB.out HKm.out HInr.out)
        by_cases hd0 : d = 0
        · have hdi : ¬ (0 : Int) < (d : Int) := by omega
          have hz7 := (HPm.out.le).2.2.1 hd0
          subst hd0
          have hz3 : wm.frozen? ⟨r, 3, none⟩ = false := obj_free HBm.out 3
          have ho := obj_set HBm.out 3 (.int .i64 2)
          have hk5 : Kept (OneB r) wm (wm.setCell ⟨r, 3, none⟩ (.int .i64 2)) := Kept.setCell (S := OneB r) (p := ⟨r, 3, none⟩) (Kept.refl _ _) (.inl rfl) _
          have HB5 : Hid (BestAt (wm.setCell ⟨r, 3, none⟩ (.int .i64 2)) r g o n c a m 2 0) := Lib.hid ho
          have HS5 := Lib.hid (HSm.out.keptS HB.out hk5 HInr.out)
          have HK5 : Hid (Kept (InB lo hi) w (wm.setCell ⟨r, 3, none⟩ (.int .i64 2))) := Lib.hid (Kept.setCell (S := InB lo hi) (p := ⟨r, 3, none⟩) HKm2.out (.inr hrw) _)
          clear ho hk5 hz7
          go_wp2
          go_meet
          exact ⟨HB5, HK5, HS5⟩
        · have hdi : (0 : Int) < (d : Int) := by omega
          have HF : Hid (R = (z, d)) := Lib.hid (by rw [HLong.out z d (HPm.out.lower hd0 (by omega)), if_neg hd0])
          have HAn := Lib.hid (answer_any r g o n c a m z d wm HBm.out)
          rw [if_neg hd0] at HAn
          clear hd0
          go_wp2_with fail
          with_reducible refine HAn.out.mono ?_
          rintro e w6 ⟨rfl, hk6⟩
          have HX := Lib.hid (HFin.out w6 (HKm2.out.trans hk6.dom) (HSm.out.keptS HB.out hk6 (fun _ _ h => h)))
          clear hk6
          go_wp2
          go_ret2
          exact ⟨by rw [HF.out]; rfl, HX.out⟩
      · have h8i : ¬ (8 : Int) ≤ (lf : Int) := by omega
        go_wp2
        go_meet
        exact ⟨HB3, HK3, HS3⟩
    case rest =>
    obtain ⟨HB4, HK4, HS4⟩ := hcut
    obtain ⟨w4, hw4⟩ : ∃ w4, w4 = wc := ⟨_, rfl⟩
    rw [← hw4] at HB4 HK4 HS4 ⊢
    clear hw4
    obtain ⟨d0, _, _, _⟩ := HS4.out.cells
    rw [← HNn.out] at d0
    have HWd := Lib.hid (fun W (hk : Kept NoB w4 W) => shortkey_any Sk g o n c a L W (hk.cell d0) (by have := HR0.out.keptS (HK4.out.trans hk.dom) (fun e => by have := e.1; omega); rw [← HNn.out] at this; exact this) HNn.out (by have := HLf.out; omega) (by omega))
    have HTr := Lib.hid (fun W (hk : Kept NoB w4 W) => HTry1.out W (HK4.out.trans hk.dom) (HS4.out.keptS HB.out hk (fun _ _ h => h)) (HB4.out.kept hk))
    obtain ⟨key, hkey⟩ : ∃ key, key = keyN L 3 a := ⟨_, rfl⟩
    rw [← hkey] at HWd HTr
    clear d0 hkey
    go_wp2_with fail
    refine wp_region_noPanic ?_
    refine wp_region_held_drew (S := fun W => Kept (OneB r) w4 W) (by kernel_rfl) (Kept.drew (Kept.refl _ _)) (fun hHeld => ?_)
    obtain ⟨wd, hwd⟩ : ∃ x, x = w4.drew := ⟨_, rfl⟩
    have hkd : Kept NoB w4 wd := by rw [hwd]; exact Kept.drew (Kept.refl _ _)
    rw [← hwd] at hHeld ⊢
    clear hwd
    refine wpAnyH_take (i := 0) (v := ?_) (by rw [List.getElem?_toArray]; rfl) (by kernel_rfl) (by kernel_rfl) (by kernel_rfl) (fun _ _ _ h => h) (Or.inl ⟨by rfl, ?hyq10_⟩) (by assumption) ?restq10_
    case hyq10_ => (intro w hSw; (try dsimp only at hSw); (try have e0 := g0 w hSw); go_simp; (try with_reducible rfl))
    try simp only [Act.put, List.setIfInBounds_toArray, List.set_cons_zero, List.set_cons_succ]
    refine wpAnyH_take (i := 1) (v := ?_) (by rw [List.getElem?_toArray]; rfl) (by kernel_rfl) (by kernel_rfl) (by kernel_rfl) (fun _ _ _ h => h) (Or.inl ⟨by rfl, ?hyq11_⟩) (by assumption) ?restq11_
    case hyq11_ => (intro w hSw; (try dsimp only at hSw); (try have e0 := g0 w hSw); go_simp; (try with_reducible rfl))
    try simp only [Act.put, List.setIfInBounds_toArray, List.set_cons_zero, List.set_cons_succ]
    refine wpAnyH_take (i := 2) (v := ?_) (by rw [List.getElem?_toArray]; rfl) (by kernel_rfl) (by kernel_rfl) (by kernel_rfl) (fun _ _ _ h => h) (Or.inl ⟨by rfl, ?hyq12_⟩) (by assumption) ?restq12_
    case hyq12_ => (intro w hSw; (try dsimp only at hSw); (try have e0 := g0 w hSw); go_simp; (try with_reducible rfl))
    try simp only [Act.put, List.setIfInBounds_toArray, List.set_cons_zero, List.set_cons_succ]
    refine wpAnyH_take (i := 3) (v := ?_) (by rw [List.getElem?_toArray]; rfl) (by kernel_rfl) (by kernel_rfl) (by kernel_rfl) (fun _ _ _ h => h) (Or.inl ⟨by rfl, ?hyq13_⟩) (by assumption) ?restq13_
    case hyq13_ => (intro w hSw; (try dsimp only at hSw); (try have e0 := g0 w hSw); go_simp; (try with_reducible rfl))
    try simp only [Act.put, List.setIfInBounds_toArray, List.set_cons_zero, List.set_cons_succ]
    refine wpAnyH_take (i := 4) (v := ?_) (by rw [List.getElem?_toArray]; rfl) (by kernel_rfl) (by kernel_rfl) (by kernel_rfl) (fun _ _ _ h => h) (Or.inl ⟨by rfl, ?hyq14_⟩) (by assumption) ?restq14_
    case hyq14_ => (intro w hSw; (try dsimp only at hSw); (try have e0 := g0 w hSw); go_simp; (try with_reducible rfl))
    try simp only [Act.put, List.setIfInBounds_toArray, List.set_cons_zero, List.set_cons_succ]
    refine wpAnyH_ready (rs := [5]) (by kernel_rfl) (by simp) ?_
    refine AllReadyH.cons (by rw [List.getElem?_toArray]; rfl) (fun K hK => ?_) AllReadyH.nil
    go_simp
    go_at_call 120
    (with_reducible refine (HWd.out wd hkd).mono ?_)
    rintro e wn ⟨rfl, hkn⟩
    have hSn := hHeld.trans (hkn.dom : Kept (OneB r) wd wn)
    have hkN : Kept NoB w4 wn := hkd.trans hkn
    go_wp2_with fail
    refine hK.out _ _ hSn (fun hHeld => ?_)
    clear hK K hSn
    try simp only [Act.put, List.setIfInBounds_toArray, List.set_cons_zero, List.set_cons_succ]
    refine wpAnyH_ready (rs := [6]) (by kernel_rfl) (by simp) ?_
    refine AllReadyH.cons (by rw [List.getElem?_toArray]; rfl) (fun K hK => ?_) AllReadyH.nil
    go_simp
    go_at_call 117
    (with_reducible refine (HTr.out wn hkN).mono ?_)
    rintro e wm ⟨rfl, hkm, z, d, hbm, hpm⟩
    have hSn := hHeld.trans hkm
    have HKm := Lib.hid ((hkN.dom : Kept (OneB r) w4 wn).trans hkm)
    have HBm := Lib.hid hbm
    have HPm := Lib.hid hpm
    go_wp2_with fail
    refine hK.out _ _ hSn (fun hHeld => ?_)
    clear hK K hSn hbm hpm hkm
    try simp only [Act.put, List.setIfInBounds_toArray, List.set_cons_zero, List.set_cons_succ]
    refine wpAnyH_done (by kernel_rfl) ?_ _
    refine NoPanic.normal ?_
    clear hHeld hkd hkN hkn
    have HKm2 : Hid (Kept (InB lo hi) w wm) := Lib.hid (((HK4.out.mono (T := fun k => InB lo hi k ∨ k = r) (fun k _ h => .inl h)).trans (HKm.out.mono (fun k _ h => .inr h))).mono (fun k hk h => by
      rcases h with h | h
      · exact h
      · omega))
    have HSm := Lib.hid (HS4.out.keptS HB.out HKm.out HInr.out)
    have HF : Hid (R = if d = 0 then (0, 0) else (z, d)) := Lib.hid (HLong.out z d HPm.out)
    have HAn := Lib.hid (answer_any r g o n c a m z d wm HBm.out)
    have HE : Hid ((if d = 0 then (0 : Int) else (z : Int)) = ((R.1 : Nat) : Int) ∧ (d : Int) = ((R.2 : Nat) : Int)) := Lib.hid (by
      rw [HF.out]
      split
      · rename_i h; rw [h]; exact ⟨rfl, rfl⟩
      · exact ⟨rfl, rfl⟩)
    rw [HE.out.1, HE.out.2] at HAn
    go_wp2_with fail
    with_reducible refine HAn.out.mono ?_
    rintro e w6 ⟨rfl, hk6⟩
    have HX := Lib.hid (HFin.out w6 (HKm2.out.trans hk6.dom) (HSm.out.keptS HB.out hk6 (fun _ _ h => h)))
    clear hk6
    go_wp2
    go_ret2
    exact ⟨rfl, HX.out⟩
end Go.Proofs.YtfmjfgmbjdhogaaGreatDoor

namespace Go.Proofs.YtfmjfgmbjdhogaaGreatDoor
open Go.RowKit
set_option linter.unusedVariables false
set_option linter.unusedSimpArgs false

theorem infoTk : (Tryz.prog.info? 101).map (fun i => (i.zero, i.size, i.bytes)) = some (some (.agg #[.int .i64 0, .int .i64 0, .int .u8 0]), 3, 24) := by kernel_rfl
def tkC (ts : List Tk) : List Value := ts.flatMap fun t => [.int .i64 t.l, .int .i64 t.d, .int .u8 t.c]
theorem tkC_len (ts : List Tk) : (tkC ts).length = ts.length * 3 := by
  induction ts with
  | nil => rfl
  | cons p r ih => simp [tkC] at ih ⊢; omega
theorem tkC_at : ∀ (ts : List Tk) (i : Nat) (h : i < ts.length), (tkC ts)[i * 3]? = some (.int .i64 ts[i].l) ∧ (tkC ts)[i * 3 + 1]? = some (.int .i64 ts[i].d) ∧ (tkC ts)[i * 3 + 2]? = some (.int .u8 ts[i].c) := by
  intro ts
  induction ts with
  | nil => intro i hi; simp at hi
  | cons p r ih =>
    intro i hi
    have e : tkC (p :: r) = .int .i64 p.l :: .int .i64 p.d :: .int .u8 p.c :: tkC r := by simp [tkC]
    rw [e]
    cases i with
    | zero => exact ⟨rfl, rfl, rfl⟩
    | succ i =>
      have hi' : i < r.length := by simpa using hi
      obtain ⟨h1, h2, h3⟩ := ih i hi'
      rw [show (i + 1) * 3 = i * 3 + 1 + 1 + 1 by omega]
      refine ⟨by simpa using h1, ?_, ?_⟩
      · rw [List.getElem?_cons_succ, List.getElem?_cons_succ, List.getElem?_cons_succ]; simpa using h2
      · rw [List.getElem?_cons_succ, List.getElem?_cons_succ, List.getElem?_cons_succ]; simpa using h3
/-- A row of tokens of the call's own. -/
structure TkSt (lo : Nat) (w : World) (a : Option Addr) (l c : Nat) (ts : List Tk) : Prop where
  len : l = ts.length
  own : w.ownsRow 0 101 3 (.slice a l c) l (tkC ts)
  fresh : ∀ k, (Value.slice a l c).ownBlock = some k → lo ≤ k
theorem TkSt.start (lo : Nat) (w : World) : TkSt lo w none 0 0 [] := ⟨rfl, World.ownsRow_nil _ _ _ _, (fun k hk => by simp [Value.ownBlock] at hk)⟩
theorem TkSt.keptS {S : Nat → Prop} {lo : Nat} {w w' : World} {a : Option Addr} {l c : Nat} {ts : List Tk} (h : TkSt lo w a l c ts) (hk : Kept S w w') (hs : ∀ k, lo ≤ k → ¬ S k) : TkSt lo w' a l c ts :=
  ⟨h.len, hk.row h.own (fun k hk2 => hs k (h.fresh k hk2)), h.fresh⟩
theorem TkSt.reads {lo : Nat} {w : World} {a : Option Addr} {l c : Nat} {ts : List Tk} (h : TkSt lo w a l c ts) : Toks w a ts := by
  intro i hi
  have hl := h.len
  have e : ts.getD i ⟨0, 0, 0⟩ = ts[i] := by simp [List.getD, hi]
  rw [e]
  rcases h.own.2 with ⟨_, hz⟩ | ⟨g, cc, cur, hv, _⟩
  · omega
  · simp at hv
    obtain ⟨rfl, rfl⟩ := hv
    obtain ⟨h1, h2, h3⟩ := tkC_at ts i hi
    refine ⟨g, 0, rfl, ?_, ?_, ?_⟩
    · rw [Nat.zero_add, ← h1]; exact h.own.cellAt (i * 3) (by omega)
    · rw [Nat.zero_add, ← h2]; exact h.own.cellAt (i * 3 + 1) (by omega)
    · rw [Nat.zero_add, ← h3]; exact h.own.cellAt (i * 3 + 2) (by omega)
theorem TkSt.cap {lo : Nat} {w : World} {a : Option Addr} {l c : Nat} {ts : List Tk} (h : TkSt lo w a l c ts) : l ≤ c ∧ c ≤ maxLen ∧ (a = none → c = 0) := by
  rcases h.own.2 with ⟨hv, hz⟩ | ⟨g, cc, cur, hv, _, _, h1, h2, _⟩
  · simp at hv
    obtain ⟨_, rfl, rfl⟩ := hv
    exact ⟨Nat.le_refl _, Nat.zero_le _, fun _ => rfl⟩
  · simp at hv
    obtain ⟨rfl, rfl⟩ := hv
    exact ⟨h1, h2, fun h => by cases h⟩
theorem slice_shape {w : World} {base e s : Nat} {v : Value} {n : Nat} {xs : List Value} (h : w.ownsRow base e s v n xs) : ∃ ao cap, v = .slice ao n cap := by
  rcases h.2 with ⟨rfl, rfl⟩ | ⟨g, cap, cur, rfl, _⟩
  · exact ⟨none, 0, rfl⟩
  · exact ⟨_, cap, rfl⟩
/-- One token more. -/
theorem wpList_tk {ops : Array Oper} {rest : List Oper} {o : Oper} {act : Act} {w : World} {Q : Exit → Act → World → Prop} (hgd : o.guard = none) (s x : Operand)
    (ho : o.op = .call { callee := .builtin .append, args := #[s, x], argTypes := #[98, 98] })
    {lo : Nat} {a1 : Option Addr} {l1 c1 : Nat} {ts : List Tk} (hS : TkSt lo w a1 l1 c1 ts) (hlo : lo ≤ w.heap.size) (hs : act.eval s = .slice a1 l1 c1)
    (g cx : Nat) (t : Tk) (hx : act.eval x = .slice (some ⟨g, 0, none⟩) 1 cx) (h0 : w.cell? ⟨g, 0, none⟩ = some (.int .i64 t.l)) (h1 : w.cell? ⟨g, 1, none⟩ = some (.int .i64 t.d)) (h2' : w.cell? ⟨g, 2, none⟩ = some (.int .u8 t.c)) (hn : l1 ≤ 1000000)
    (h : ∀ a2 c2 w', TkSt lo w' a2 (l1 + 1) c2 (ts ++ [t]) → Kept (fun k => lo ≤ k) w w' → wpList Tryz.prog ops Q rest (act.put o.dst (.slice a2 (l1 + 1) c2)) w') : wpList Tryz.prog ops Q (o :: rest) act w := by
  obtain ⟨i0, hi, hz0, hz1, hz2⟩ := info_parts infoTk
  refine wpList_app w hgd s x 98 ho 101 i0 (.agg #[.int .i64 0, .int .i64 0, .int .u8 0]) 3 24 Tryz.underlying98 hi hz0 hz1 hz2 rfl (by decide) _ l1 (tkC ts) hs hS.own ⟨g, 0, none⟩ 1 cx [.int .i64 t.l, .int .i64 t.d, .int .u8 t.c] hx rfl ?_ ?_ (by unfold maxLen; omega) (by omega) ?_
  · intro j u hu
    rw [addr_add, Nat.zero_add]
    match j with
    | 0 => simp at hu; subst hu; exact h0
    | 1 => simp at hu; subst hu; exact h1
    | 2 => simp at hu; subst hu; exact h2'
    | j + 3 => simp at hu
  · intro u hu
    simp at hu
    rcases hu with rfl | rfl | rfl <;> rfl
  intro v' w' h2 h3 h4
  obtain ⟨a2, c2, rfl⟩ := slice_shape h2
  refine h _ _ _ ⟨by rw [List.length_append, ← hS.len]; rfl, by simpa [tkC] using h2, ?_⟩ ((Kept.refl _ w).grown h3 (fun k _ e => hS.fresh k e))
  intro k hk
  rcases h4 k hk with h | h
  · exact hS.fresh k h
  · omega
end Go.Proofs.YtfmjfgmbjdhogaaGreatDoor

namespace Go.Proofs.YtfmjfgmbjdhogaaGreatDoor
open Go.RowKit
set_option linter.unusedVariables false
set_option linter.unusedSimpArgs false
set_option maxRecDepth 20000

/-- One token, and where the next one begins. -/
def lazyN (lv : Int) (L : List UInt8) (i : Nat) : Nat × Nat :=
  if lv < 1 then (0, 0) else if 7 ≤ lv ∧ 0 < (longN L i).1 ∧ (longN L i).1 < (longN L (i + 1)).1 then (0, 0) else longN L i
def litT (L : List UInt8) (i : Nat) : Tk := ⟨0, 0, ((L.getD i 0).toNat : Int)⟩
def stepT (lv : Int) (L : List UInt8) (i : Nat) : Tk × Nat := if (lazyN lv L i).1 = 0 then (litT L i, i + 1) else (⟨(lazyN lv L i).1, (lazyN lv L i).2, 0⟩, i + (lazyN lv L i).1)
theorem step_lt (lv : Int) (L : List UInt8) (i : Nat) : i < (stepT lv L i).2 := by
  unfold stepT
  split
  · exact Nat.lt_succ_self i
  · rename_i h
    show i < i + _
    omega
def restT (lv : Int) (L : List UInt8) (i : Nat) : List Tk := if h : i < L.length then (stepT lv L i).1 :: restT lv L (stepT lv L i).2 else []
  termination_by L.length - i
  decreasing_by (have := step_lt lv L i; omega)
theorem rest_step (lv : Int) (L : List UInt8) (i : Nat) (h : i < L.length) : restT lv L i = (stepT lv L i).1 :: restT lv L (stepT lv L i).2 := by
  rw [restT, dif_pos h]
theorem rest_end (lv : Int) (L : List UInt8) (i : Nat) (h : L.length ≤ i) : restT lv L i = [] := by
  rw [restT, dif_neg (by omega)]
theorem long_bd (L : List UInt8) (i : Nat) (hi : i ≤ L.length) : (longN L i).1 ≤ 258 ∧ i + (longN L i).1 ≤ L.length ∧ (longN L i).2 ≤ 32768 := by
  rcases long_ok L i with ⟨h1, h2, _⟩ | ⟨h1, h2, h3, h4, _⟩
  · omega
  · rw [mostN] at h2; omega
theorem lazy_bd (lv : Int) (L : List UInt8) (i : Nat) (hi : i ≤ L.length) : (lazyN lv L i).1 ≤ 258 ∧ i + (lazyN lv L i).1 ≤ L.length ∧ (lazyN lv L i).2 ≤ 32768 := by
  have h := long_bd L i hi
  have h0 : ((0, 0) : Nat × Nat).1 ≤ 258 ∧ i + ((0, 0) : Nat × Nat).1 ≤ L.length ∧ ((0, 0) : Nat × Nat).2 ≤ 32768 := ⟨by decide, hi, by decide⟩
  unfold lazyN
  split
  · exact h0
  · split
    · exact h0
    · exact h
theorem step_lit {lv : Int} {L : List UInt8} {i : Nat} (h : (lazyN lv L i).1 = 0) : stepT lv L i = (litT L i, i + 1) := if_pos h
theorem step_tok {lv : Int} {L : List UInt8} {i : Nat} (h : (lazyN lv L i).1 ≠ 0) : stepT lv L i = (⟨(lazyN lv L i).1, (lazyN lv L i).2, 0⟩, i + (lazyN lv L i).1) := if_neg h
theorem step_le (lv : Int) (L : List UInt8) (i : Nat) (hi : i < L.length) : (stepT lv L i).2 ≤ L.length := by
  have := lazy_bd lv L i (by omega)
  by_cases h : (lazyN lv L i).1 = 0
  · rw [step_lit h]; exact hi
  · rw [step_tok h]; exact this.2.1
/-- No more tokens than bytes. -/
theorem rest_len (lv : Int) (L : List UInt8) : ∀ k i, L.length - i ≤ k → i ≤ L.length → (restT lv L i).length ≤ L.length - i := by
  intro k
  induction k with
  | zero => intro i h hi; rw [rest_end lv L i (by omega)]; simp
  | succ k ih =>
    intro i h hi
    by_cases hl : i < L.length
    · have h1 := step_lt lv L i
      have h2 := step_le lv L i hl
      rw [rest_step lv L i hl, List.length_cons]
      have := ih (stepT lv L i).2 (by omega) h2
      omega
    · rw [rest_end lv L i (by omega)]; simp
end Go.Proofs.YtfmjfgmbjdhogaaGreatDoor
