/-
  HuffLimits: a lesser limit never costs less; from as many as there are weights on it costs nothing more.
-/
import Derived.Test.YtngllecfhkgckaaLawHuffTight
import Derived.Deep.DeepCutAuto
import Derived.Deep.CutBlock
namespace Go.Proofs.Ytngllecfhkgckaa
open Go.RowKit
set_option linter.unusedVariables false
set_option linter.unusedSimpArgs false

/-- The least costs of few weights. -/
theorem costs_of (A : List Int) (h0 : ∀ z ∈ A, 1 ≤ z ∧ z ≤ 65536) (hl : A.length ≤ 12) : ∃ C : Nat → Int, (∀ lv, SrtP lv (leavesL 0 A) → ∀ t, leastL (lv.map (·.2)) t = C t) ∧ (∀ a b, 4 ≤ a → a ≤ b → C b ≤ C a) ∧ (∀ b, 11 ≤ b → b ≤ 15 → C b = C 15) := by
  by_cases h : ∃ lv, SrtP lv (leavesL 0 A)
  · obtain ⟨lv, hs⟩ := h
    have hsr := srd_of hs.srt
    have hlen : (lv.map (·.2)).length ≤ 12 := by
      rw [List.length_map, hs.len]
      have := leaves_len A 0; omega
    have hsm : ∀ z ∈ lv.map (·.2), 0 ≤ z ∧ z ≤ 1048576 := by
      intro z hz
      obtain ⟨y, hy, rfl⟩ := List.mem_map.1 hz
      exact (leaf_place (ws := A) (fun z hz => by have := h0 z hz; omega) hs y hy).1
    have hpow : ∀ a, 4 ≤ a → 12 ≤ 2 ^ a := fun a ha => by
      have := Nat.pow_le_pow_right (n := 2) (by decide) ha
      omega
    have hmono : ∀ a b, 4 ≤ a → a ≤ b → leastL (lv.map (·.2)) b ≤ leastL (lv.map (·.2)) a := fun a b ha hab => least_mono _ hsr hsm a b (by omega) hab (by have := hpow a ha; omega)
    refine ⟨fun t => leastL (lv.map (·.2)) t, fun lv' h' t => by rw [srtP_eq h' hs], hmono, fun b hb hb15 => ?_⟩
    have h1 := hmono b 15 (by omega) hb15
    have h2 := least_stop _ hsr hsm b (by omega) hb15 (by omega)
    show leastL (lv.map (·.2)) b = leastL (lv.map (·.2)) 15
    omega
  · exact ⟨fun _ => 0, fun lv hs => absurd ⟨lv, hs⟩ h, fun _ _ _ _ => Int.le_refl _, fun _ _ _ => rfl⟩

set_option maxRecDepth 20000 in
set_option maxHeartbeats 6000000 in
theorem huffLimits_walk (ao : Option Addr) (ca : Nat) (ws : List Int) (a b : Int) (w : World) (hx : RdI w w.heap.size ao ws) :
    Calls Try.prog 4 #[.slice ao ws.length ca, .int .i64 a, .int .i64 b] w fun e w' => e = .returned (.bool true) ∧ Below w.heap.size w w' := by
  have HX := Lib.hid hx; have HAw := Lib.hid awake_any
  have m1 := mask65535
  have m2 := mask255
  obtain ⟨i0, hi, hz0, hz1, hz2⟩ := info_parts infoI
  obtain ⟨n, hn⟩ : ∃ n, n = ws.length := ⟨_, rfl⟩
  have HN := Lib.hid hn
  rw [← hn]
  obtain ⟨a1, ha1⟩ : ∃ a1 : Nat, a % 256 % 12 + 4 = (a1 : Int) := ⟨(a % 256 % 12 + 4).toNat, by omega⟩
  obtain ⟨b1, hb1⟩ : ∃ b1 : Nat, b % 256 % 12 + 4 = (b1 : Int) := ⟨(b % 256 % 12 + 4).toNat, by omega⟩
  have ha2 : 4 ≤ a1 ∧ a1 ≤ 15 := by omega
  have hb2 : 4 ≤ b1 ∧ b1 ≤ 15 := by omega
  obtain ⟨P, hP⟩ : ∃ P, P = min n 12 := ⟨_, rfl⟩
  obtain ⟨A, hA⟩ : ∃ A, A = (List.range P).map (fun i => ws.getD i 0 % 65536 + 1) := ⟨_, rfl⟩
  have hAl : A.length = P := by rw [hA]; simp
  have hAb : ∀ z ∈ A, 1 ≤ z ∧ z ≤ 65536 := by
    intro z hz
    rw [hA] at hz
    obtain ⟨i, hi, e⟩ := List.mem_map.1 hz
    rw [← e]
    omega
  have hP12 : P ≤ 12 := by omega
  obtain ⟨C, hC1, hC2, hC3⟩ := costs_of A hAb (by omega)
  have HA := Lib.hid hA; have HAl := Lib.hid hAl; have HAb := Lib.hid hAb; have HP := Lib.hid hP
  have HC1 := Lib.hid hC1; have HC2 := Lib.hid hC2; have HC3 := Lib.hid hC3
  clear hx hn hA hAl hAb hC1 hC2 hC3 hP
  go_enter Try.func4, Try.ntmps4
  go_wp2
  go_loopw [8, 7] (fun v8 v7 wr => ∃ (i : Nat) (a7 : Option Addr) (c7 : Nat), v8 = .int .i64 (i : Int) ∧ v7 = .slice a7 i c7 ∧ i ≤ P ∧ Hid (IntSt w wr a7 i c7 (A.take i))) (fun v8 _ _ => P - (intOf v8).toNat)
  case atStart => exact ⟨0, none, 0, rfl, rfl, by omega, Lib.hid (IntSt.nil w)⟩
  case round =>
    obtain ⟨i, a7, c7, rfl, rfl, hiP, HS⟩ := hrel
    by_cases hlt : i < P
    · have hin : (i : Int) < n := by have := HP.out; omega
      have hi12 : (i : Int) < 12 := by omega
      have g1 : decide ((i : Int) < 12) = true := decide_eq_true hi12
      have hst := range_take (fun i => ws.getD i 0 % 65536 + 1) P i hlt
      rw [← HA.out] at hst
      obtain ⟨g, off, rfl, _, hc0⟩ := HX.out i (by have := HN.out; omega)
      have hc := HS.out.kept.cell hc0
      obtain ⟨z, hz⟩ : ∃ z, z = ws.getD i 0 := ⟨_, rfl⟩
      rw [← hz] at hc hst
      have HSt := Lib.hid hst
      clear hc0 hz hst
      have hrow := HS.out.own
      obtain ⟨cs, hcs⟩ : ∃ cs, cs = (A.take i).map (Value.int .i64) := ⟨_, rfl⟩
      rw [← hcs] at hrow
      have HRow := Lib.hid (hrow.alloc (.cells #[.int .i64 (z % 65536 + 1)] 3)); have HCs := Lib.hid hcs
      clear hrow hcs
      go_wp2_with (at_builtin; refine wpList_app _ rfl _ _ 22 rfl 3 i0 (.int .i64 0) 1 8 Try.underlying22 hi hz0 hz1 hz2 rfl (by decide) _ i cs rfl HRow.out ⟨wr.heap.size, 0, none⟩ 1 1 [.int .i64 (z % 65536 + 1)] rfl rfl (cell_one_new _ _ _) ?d2 ?d3 ?d4 ?_)
      case d2 => first | rfl | (intro u hu; simp at hu; subst hu; rfl)
      case d3 => unfold maxLen; omega
      case d4 => omega
      intro v' w2 hown' hgrow hnew
      obtain ⟨a2, c2, rfl⟩ := own_shape2 hown'
      rw [HCs.out] at hown'
      have hs2 := HS.out.app hown' hgrow hnew
      rw [← HSt.out] at hs2
      have HS2 := Lib.hid hs2
      clear hown' hgrow hnew hs2
      go_wp2
      go_roundw
      case rel => exact ⟨i + 1, a2, c2, by go_num, rfl, by omega, HS2⟩
      case measure => simp [intOf]; omega
    · have hiP2 : i = P := by omega
      subst hiP2
      have hsa := HS.out
      rw [List.take_of_length_le (by rw [HAl.out]; exact Nat.le_refl _)] at hsa
      have hl1 : ∀ W (t : Nat), 4 ≤ t → t ≤ 15 → Kept NoB wr W → Calls Try.prog 8 #[.slice a7 i c7, .int .i64 (t : Int)] W fun e w' => ∃ a c Z, (Z.length = i ∧ costL A Z = C t ∧ Small 1048576 Z) ∧ e = .returned (.tuple #[.slice a i c, .int .i64 0]) ∧ RdI w' w'.heap.size a Z ∧ Kept NoB W w' := by
        intro W t ht1 ht2 hk
        have hpow := Nat.pow_le_pow_right (n := 2) (by decide) ht1
        have hok : LensOkP A (t : Int) := ⟨by rw [HAl.out]; omega, by omega, fun z hz => by have := HAb.out z hz; omega, by
          have := leaves_len A 0
          rw [HAl.out] at this
          rw [Int.toNat_natCast]; omega⟩
        have hcall := lens_yes a7 c7 _ A (t : Int) W (hsa.reads.keptNo hk) hok
        rw [HAl.out] at hcall
        refine hcall.mono ?_
        rintro e w' ⟨lv, hs, hL⟩
        have hF := lensF A (t : Int) lv hok hs
        rw [HAl.out] at hF
        obtain ⟨aa, c, h1, h2, h3⟩ := hL.reads2 (n := i) (by rw [hF.len, HAl.out])
        rw [Int.toNat_natCast] at hF h2
        refine ⟨aa, c, _, ⟨by rw [hF.len, HAl.out], by rw [hF.cost]; exact HC1.out lv hs t, fun z hz => ?_⟩, h1, h2, h3⟩
        obtain ⟨p, hp, rfl⟩ := mem_get hz
        have := hF.bd p (by rw [← hF.len]; exact hp)
        omega
      have hl2 : ∀ W a8 c8 (Z : List Int) (t : Nat), Z.length = i → costL A Z = C t → Small 1048576 Z → RdI W W.heap.size a8 Z → Kept NoB wr W → Calls Try.prog 10 #[.slice a7 i c7, .slice a8 i c8] W fun e w' => e = .returned (.int .i64 (C t)) ∧ Kept NoB W w' := by
        intro W a8 c8 Z t h1 h2 h3 h4 hk
        have := cost_calls a7 a8 c7 c8 _ _ A Z W (hsa.reads.keptNo hk) h4 (fun z hz => by have := HAb.out z hz; omega) h3 (by rw [HAl.out]; omega) (by omega)
        rw [HAl.out, h1, h2] at this
        exact this
      have HL1 := Lib.hid hl1; have HL2 := Lib.hid hl2; have HSk := Lib.hid hsa.kept
      clear hsa hl1 hl2 HS
      have e1 : IntKind.i64.wrap (a % 256 % 12 + 4) = (a1 : Int) := by rw [IntWalk.i64_in _ (by omega)]; exact ha1
      have e2 : IntKind.i64.wrap (b % 256 % 12 + 4) = (b1 : Int) := by rw [IntWalk.i64_in _ (by omega)]; exact hb1
      have h12 : ¬ (i : Int) < 12 ∨ ¬ (i : Int) < n := by have := HP.out; omega
      have g1 : ((i : Int) < n ∧ ¬ (i : Int) < 12) ∨ ¬ (i : Int) < n := by omega
      rcases g1 with ⟨g1, g2⟩ | g1
      · clear h12
        go_upto_if 47 with fail
        go_cut [1, 2] from 47 to 49 (fun v1 v2 wx => ∃ p q : Nat, v1 = .int .i64 (p : Int) ∧ v2 = .int .i64 (q : Int) ∧ 4 ≤ p ∧ p ≤ q ∧ q ≤ 15 ∧ wr = wx)
        case first =>
          clear e1 e2
          by_cases hab : (b1 : Int) < a1
          · go_wp2
            go_meet
            exact ⟨b1, a1, rfl, rfl, by omega, by omega, by omega, rfl⟩
          · go_wp2
            go_meet
            exact ⟨a1, b1, rfl, rfl, by omega, by omega, by omega, rfl⟩
        case rest =>
          obtain ⟨p, q, rfl, rfl, hp4, hpq, hq15, rfl⟩ := hcut
          clear e1 e2 ha2 hb2
          go_wp2_with fail
          refine (HL1.out _ p hp4 (by omega) (Kept.refl _ _)).mono ?_
          rintro e w2 ⟨a9, c9, X, hX, rfl, hr, hk⟩
          have HX9 := Lib.hid hX; have HR9 := Lib.hid hr; have K2 := Lib.hid hk
          clear hX hr hk
          go_wp2_with fail
          refine (HL1.out _ q (by omega) hq15 K2.out).mono ?_
          rintro e w3 ⟨a11, c11, Y, hY, rfl, hr, hk⟩
          have HY := Lib.hid hY; have HR11 := Lib.hid hr; have K3 := Lib.hid (K2.out.trans hk)
          have KR9 := Lib.hid (HR9.out.keptNo hk)
          clear hY hr hk
          go_wp2_with fail
          refine (HL1.out _ 15 (by omega) (by omega) K3.out).mono ?_
          rintro e w4 ⟨a13, c13, Z, hZ, rfl, hr, hk⟩
          have HZ := Lib.hid hZ; have HR13 := Lib.hid hr; have K4 := Lib.hid (K3.out.trans hk); have Kx := Lib.hid hk
          clear hZ hr hk
          go_wp2_with fail
          refine (HL2.out _ a9 c9 X p HX9.out.1 HX9.out.2.1 HX9.out.2.2 (((KR9.out.keptNo Kx.out)).room) K4.out).mono ?_
          rintro e w5 ⟨rfl, hk⟩
          have K5 := Lib.hid (K4.out.trans hk); have Ky := Lib.hid hk
          clear hk
          go_wp2_with fail
          refine (HL2.out _ a11 c11 Y q HY.out.1 HY.out.2.1 HY.out.2.2 ((HR11.out.keptNo (Kx.out.trans Ky.out)).room) K5.out).mono ?_
          rintro e w6 ⟨rfl, hk⟩
          have K6 := Lib.hid (K5.out.trans hk); have Kz := Lib.hid (Ky.out.trans hk)
          clear hk
          go_wp2_with fail
          refine (HL2.out _ a13 c13 Z 15 HZ.out.1 HZ.out.2.1 HZ.out.2.2 ((HR13.out.keptNo Kz.out).room) K6.out).mono ?_
          rintro e w7 ⟨rfl, hk⟩
          have K7 := Lib.hid (K6.out.trans hk)
          clear hk
          have f1 := HC2.out p q hp4 hpq
          have f2 := HC2.out q 15 (by omega) hq15
          have f3 := HC3.out q
          obtain ⟨x, hx⟩ : ∃ x, x = C p := ⟨_, rfl⟩
          obtain ⟨y, hy⟩ : ∃ y, y = C q := ⟨_, rfl⟩
          obtain ⟨z, hz⟩ : ∃ z, z = C 15 := ⟨_, rfl⟩
          rw [← hx, ← hy] at f1
          rw [← hy, ← hz] at f2 f3
          rw [← hx, ← hy, ← hz]
          clear hx hy hz
          by_cases hq11 : (q : Int) < 11
          · clear f3
            go_wp2_with fail
            refine (HAw.out _).mono ?_
            rintro e w8 ⟨rfl, hk⟩
            have HKz := Lib.hid (HSk.out.trans (K7.out.trans hk))
            clear hk
            go_wp2
            go_ret
            exact ⟨rfl, HKz.out.belowNo (Below.refl _ _)⟩
          · have f4 := f3 (by omega) hq15
            subst f4
            clear f3
            go_wp2_with fail
            refine (HAw.out _).mono ?_
            rintro e w8 ⟨rfl, hk⟩
            have HKz := Lib.hid (HSk.out.trans (K7.out.trans hk))
            clear hk
            go_wp2
            go_ret
            exact ⟨rfl, HKz.out.belowNo (Below.refl _ _)⟩
      · clear h12
        go_upto_if 47 with fail
        go_cut [1, 2] from 47 to 49 (fun v1 v2 wx => ∃ p q : Nat, v1 = .int .i64 (p : Int) ∧ v2 = .int .i64 (q : Int) ∧ 4 ≤ p ∧ p ≤ q ∧ q ≤ 15 ∧ wr = wx)
        case first =>
          clear e1 e2
          by_cases hab : (b1 : Int) < a1
          · go_wp2
            go_meet
            exact ⟨b1, a1, rfl, rfl, by omega, by omega, by omega, rfl⟩
          · go_wp2
            go_meet
            exact ⟨a1, b1, rfl, rfl, by omega, by omega, by omega, rfl⟩
        case rest =>
          obtain ⟨p, q, rfl, rfl, hp4, hpq, hq15, rfl⟩ := hcut
          clear e1 e2 ha2 hb2
          go_wp2_with fail
          refine (HL1.out _ p hp4 (by omega) (Kept.refl _ _)).mono ?_
          rintro e w2 ⟨a9, c9, X, hX, rfl, hr, hk⟩
          have HX9 := Lib.hid hX; have HR9 := Lib.hid hr; have K2 := Lib.hid hk
          clear hX hr hk
          go_wp2_with fail
          refine (HL1.out _ q (by omega) hq15 K2.out).mono ?_
          rintro e w3 ⟨a11, c11, Y, hY, rfl, hr, hk⟩
          have HY := Lib.hid hY; have HR11 := Lib.hid hr; have K3 := Lib.hid (K2.out.trans hk)
          have KR9 := Lib.hid (HR9.out.keptNo hk)
          clear hY hr hk
          go_wp2_with fail
          refine (HL1.out _ 15 (by omega) (by omega) K3.out).mono ?_
          rintro e w4 ⟨a13, c13, Z, hZ, rfl, hr, hk⟩
          have HZ := Lib.hid hZ; have HR13 := Lib.hid hr; have K4 := Lib.hid (K3.out.trans hk); have Kx := Lib.hid hk
          clear hZ hr hk
          go_wp2_with fail
          refine (HL2.out _ a9 c9 X p HX9.out.1 HX9.out.2.1 HX9.out.2.2 (((KR9.out.keptNo Kx.out)).room) K4.out).mono ?_
          rintro e w5 ⟨rfl, hk⟩
          have K5 := Lib.hid (K4.out.trans hk); have Ky := Lib.hid hk
          clear hk
          go_wp2_with fail
          refine (HL2.out _ a11 c11 Y q HY.out.1 HY.out.2.1 HY.out.2.2 ((HR11.out.keptNo (Kx.out.trans Ky.out)).room) K5.out).mono ?_
          rintro e w6 ⟨rfl, hk⟩
          have K6 := Lib.hid (K5.out.trans hk); have Kz := Lib.hid (Ky.out.trans hk)
          clear hk
          go_wp2_with fail
          refine (HL2.out _ a13 c13 Z 15 HZ.out.1 HZ.out.2.1 HZ.out.2.2 ((HR13.out.keptNo Kz.out).room) K6.out).mono ?_
          rintro e w7 ⟨rfl, hk⟩
          have K7 := Lib.hid (K6.out.trans hk)
          clear hk
          have f1 := HC2.out p q hp4 hpq
          have f2 := HC2.out q 15 (by omega) hq15
          have f3 := HC3.out q
          obtain ⟨x, hx⟩ : ∃ x, x = C p := ⟨_, rfl⟩
          obtain ⟨y, hy⟩ : ∃ y, y = C q := ⟨_, rfl⟩
          obtain ⟨z, hz⟩ : ∃ z, z = C 15 := ⟨_, rfl⟩
          rw [← hx, ← hy] at f1
          rw [← hy, ← hz] at f2 f3
          rw [← hx, ← hy, ← hz]
          clear hx hy hz
          by_cases hq11 : (q : Int) < 11
          · clear f3
            go_wp2_with fail
            refine (HAw.out _).mono ?_
            rintro e w8 ⟨rfl, hk⟩
            have HKz := Lib.hid (HSk.out.trans (K7.out.trans hk))
            clear hk
            go_wp2
            go_ret
            exact ⟨rfl, HKz.out.belowNo (Below.refl _ _)⟩
          · have f4 := f3 (by omega) hq15
            subst f4
            clear f3
            go_wp2_with fail
            refine (HAw.out _).mono ?_
            rintro e w8 ⟨rfl, hk⟩
            have HKz := Lib.hid (HSk.out.trans (K7.out.trans hk))
            clear hk
            go_wp2
            go_ret
            exact ⟨rfl, HKz.out.belowNo (Below.refl _ _)⟩

theorem huffLimits_law (v0 v1 v2 : Value) (w : World) (r0 : Arg w 22 v0) (r1 : Arg w 3 v1) (r2 : Arg w 3 v2) : Calls Try.prog 4 #[v0, v1, v2] w fun e w' => e = .returned (.bool true) ∧ Below w.heap.size w w' := by
  obtain ⟨ao, ca, ws, rfl, _, _, hx, _, _⟩ := r0.ints
  obtain ⟨a, rfl, _⟩ := r1.int rfl
  obtain ⟨b, rfl, _⟩ := r2.int rfl
  exact huffLimits_walk ao ca ws a b w hx
end Go.Proofs.Ytngllecfhkgckaa
