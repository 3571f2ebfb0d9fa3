/-
  MatchRuns: a byte over and over is told once, and then by rows from one back, as long as they may be.
-/
import Derived.Test.YtifoldonmmobpaaDoorMatN
namespace Go.Proofs.YtifoldonmmobpaaDoor
open Go.RowKit
set_option linter.unusedVariables false
set_option linter.unusedSimpArgs false

theorem tk_neq_same (W : World) (x y z : Int) : (binOp .neq 26 (.agg #[.int .i64 x, .int .i64 y, .int .u8 z]) (.agg #[.int .i64 x, .int .i64 y, .int .u8 z])).run Tryd.prog W = .ok (.bool false) W := by
  have := tk_neq W ⟨x, y, z⟩ ⟨x, y, z⟩
  simpa using this
theorem toks_at {w : World} {ao : Option Addr} {ts d r : List Tk} {t : Tk} {i : Nat} (h : Toks w ao ts) (he : ts = d ++ t :: r) (hi : i = d.length) : ∃ b off, ao = some ⟨b, off, none⟩ ∧ w.cell? ⟨b, off + i * 3, none⟩ = some (.int .i64 t.l) ∧ w.cell? ⟨b, off + i * 3 + 1, none⟩ = some (.int .i64 t.d) ∧ w.cell? ⟨b, off + i * 3 + 2, none⟩ = some (.int .u8 t.c) := by
  subst hi
  have := h d.length (by rw [he]; simp)
  rw [he] at this
  simpa [List.getD] using this
theorem mask2047 (n : Int) : bits .and .i64 n 2047 = n % 2048 := i64_mask n 11 (by decide)
set_option maxRecDepth 20000 in
set_option maxHeartbeats 4000000 in
theorem matchRuns_walk (c : UInt8) (n0 l0 : Int) (w : World) (hn0 : -9223372036854775808 ≤ n0 ∧ n0 ≤ 9223372036854775807) (hl0 : -9223372036854775808 ≤ l0 ∧ l0 ≤ 9223372036854775807) (hT : DeB w) :
    Calls Tryd.prog 3 #[.int .u8 (c.toNat : Int), .int .i64 n0, .int .i64 l0] w fun e w' => e = .returned (.bool true) ∧ Below w.heap.size w w' := by
  obtain ⟨i0, hi, hz0, hz1, hz2⟩ := info_parts info5
  have hm7 := mask2047 n0
  have hm8 := mask255 l0
  obtain ⟨N, hN⟩ : ∃ N : Nat, (N : Int) = n0 % 2048 + 1 := ⟨(n0 % 2048 + 1).toNat, by omega⟩
  have hN1 : 1 ≤ N ∧ N ≤ 2048 := by omega
  obtain ⟨lv, hlv⟩ : ∃ lv : Int, lv = l0 % 256 % 6 + 1 := ⟨_, rfl⟩
  have hlv1 : 1 ≤ lv ∧ lv ≤ 6 := by omega
  have hlv3 : (l0 % 256).tmod 6 = l0 % 256 % 6 := Int.tmod_eq_emod_of_nonneg (by omega)
  have HT := Lib.hid hT
  obtain ⟨z, hz⟩ : ∃ z : Int, z = (c.toNat : Int) := ⟨_, rfl⟩
  have hzb : 0 ≤ z ∧ z ≤ 255 := by have := c.toNat_lt; omega
  rw [← hz]
  have HZ := Lib.hid hz
  clear hT hz
  go_enter Tryd.func3, Tryd.ntmps3
  go_upto_region 2 with fail
  rw [← hN, ← hlv]
  clear hm7 hm8 hlv3 hN hlv hn0 hl0
  go_wp2_with (at_make; refine wpList_make_full _ rfl _ _ _ rfl 0 5 i0 (.int .u8 0) 1 Tryd.underlying22 hi hz0 hz1 .i64 .i64 _ _ N rfl rfl rfl rfl (by rw [hz2]; omega) (by unfold maxLen; omega) (Nat.zero_le _) ?_)
  intro w2 hown hgrow
  obtain ⟨G, hG⟩ : ∃ G, G = w.heap.size := ⟨_, rfl⟩
  rw [← hG] at hown ⊢
  have hown0 : w2.ownsRow 0 5 1 (.slice (some ⟨G, 0, none⟩) N N) N ((fillR N z 0).map (.int .u8)) := by
    rw [fillR, List.replicate_zero, List.nil_append, List.map_replicate, ← toList_madeCells_one]
    exact hown
  have HO0 := Lib.hid hown0; have HK0 := Lib.hid ((Kept.refl NoB w).grown hgrow (fun _ _ e => by cases e)); have HG := Lib.hid hG
  clear hown hgrow hown0 hG
  go_wp2
  go_loopw [24, 8] (fun v24 v8 wr => ∃ j : Nat, v24 = .int .i64 (j : Int) ∧ j ≤ N ∧ Hid (wr.ownsRow 0 5 1 (.slice (some ⟨G, 0, none⟩) N N) N ((fillR N z j).map (.int .u8))) ∧ Hid (Kept NoB w wr)) (fun v24 _ _ => N - (intOf v24).toNat)
  case atStart => exact ⟨0, rfl, by omega, HO0, HK0⟩
  case round =>
    obtain ⟨j, rfl, hj, HO, HK⟩ := hrel
    by_cases hlt : (j : Int) < N
    · have hst : (wr.setCell ⟨G, j, none⟩ (.int .u8 z)).ownsRow 0 5 1 (.slice (some ⟨G, 0, none⟩) N N) N ((fillR N z (j + 1)).map (.int .u8)) := by
        rw [← fillR_set N z j (by omega), List.map_set]
        exact (HO.out.stored j (.int .u8 z)).1
      have hkn : Kept NoB w (wr.setCell ⟨G, j, none⟩ (.int .u8 z)) := Kept.setCell (p := ⟨G, j, none⟩) HK.out (.inr (show w.heap.size ≤ G by rw [HG.out]; exact Nat.le_refl _)) _
      have hlr : j < ((fillR N z j).map (Value.int .u8)).length := by rw [List.length_map, fillR_len N z j hj]; omega
      have hcz : ∃ u, wr.cell? ⟨G, j, none⟩ = some u := ⟨_, by rw [HO.out.cellAt j (by omega), List.getElem?_eq_getElem hlr]⟩
      obtain ⟨u, hcz⟩ := hcz
      have hfz : wr.frozen? ⟨G, j, none⟩ = false := HO.out.frozenAt _
      have HSt := Lib.hid hst; have HKn := Lib.hid hkn
      clear hst hkn hlr
      go_wp2
      go_roundw
      case rel => exact ⟨j + 1, by go_num, by omega, HSt, HKn⟩
      case measure => simp [intOf]; omega
    · have hjN : j = N := by omega
      have hown3 := HO.out
      rw [hjN, HZ.out, fillR_full] at hown3
      have hc0 := hown3.cellAt 0 (by omega)
      rw [List.getElem?_map, List.getElem?_eq_getElem (by rw [List.length_replicate]; omega)] at hc0
      have hglt : G < wr.heap.size := block_lt_of_cell hc0
      have hrb := rowB_own hglt hown3 (by simp)
      have htk := tokens_any (some ⟨G, 0, none⟩) N N lv (List.replicate N c) wr hrb (by simp) (by omega) (by omega) (by omega) (HT.out.kept HK.out) (by omega)
      obtain ⟨TS, hTS⟩ : ∃ TS, TS = restT lv (List.replicate N c) 0 := ⟨_, rfl⟩
      have hlen := rest_len lv (List.replicate N c) N 0 (by simp) (by omega)
      rw [List.length_replicate, ← hTS] at hlen
      rw [← hTS] at htk
      rw [rest_step lv _ 0 (by simp; omega), step_zero lv N c hlv1.1 hlv1.2 (by omega), ← HZ.out] at hTS
      obtain ⟨m, hm⟩ : ∃ m, m = TS.length := ⟨_, rfl⟩
      rw [← hm] at hlen htk
      have hm1 : 1 ≤ m := by rw [hm, hTS]; simp
      have HTk := Lib.hid htk; have HTS := Lib.hid hTS; have HM := Lib.hid hm
      clear hown3 hglt hrb htk HO hc0 hTS hm
      have kq := fun (W : World) (x y z : Int) => tk_neq_same W x y z
      go_wp2_with fail
      with_reducible refine HTk.out.mono ?_
      rintro e w3 ⟨a2, c2, rfl, ht3, hk3⟩
      obtain ⟨b, off, rfl, e0, e1, e2⟩ := toks_at ht3.reads (d := []) (i := 0) HTS.out rfl
      have e0' : w3.cell? ⟨b, off, none⟩ = some (.int .i64 0) := e0
      have e1' : w3.cell? ⟨b, off + 1, none⟩ = some (.int .i64 0) := e1
      have e2' : w3.cell? ⟨b, off + 2, none⟩ = some (.int .u8 z) := e2
      have HT3 := Lib.hid ht3.reads; have HK3 := Lib.hid (HK.out.trans hk3)
      have hne : ((m : Int) == 0) = false := by simp; omega
      have HD0 : Hid ([⟨0, 0, z⟩] ++ restT lv (List.replicate N c) 1 = TS) := Lib.hid HTS.out.symm
      clear e0 e1 e2 ht3 hk3 HTk HK
      go_wp2
      go_loopw [10, 11] (fun v10 v11 wx => ∃ (p i : Nat) (dn : List Tk), v10 = .int .i64 ((N - p : Nat) : Int) ∧ v11 = .int .i64 (i : Int) ∧ 1 ≤ p ∧ p ≤ N ∧ i ≤ m ∧ Hid (i = dn.length) ∧ Hid (dn ++ restT lv (List.replicate N c) p = TS) ∧ Hid (Kept NoB w3 wx)) (fun _ v11 _ => m - (intOf v11).toNat)
      case atStart => exact ⟨1, 1, [⟨0, 0, z⟩], by go_num, rfl, by omega, by omega, hm1, Lib.hid rfl, HD0, Lib.hid (Kept.refl _ _)⟩
      case round =>
        obtain ⟨p, i, dn, rfl, rfl, hp1, hpN, him, HI, HD, HKx⟩ := hrel
        by_cases hlt2 : (i : Int) < m
        · have hpN2 : p < N := by
            by_cases h : p < N
            · exact h
            · have h1 := congrArg List.length HD.out
              rw [rest_end lv _ p (by simp; omega), List.append_nil, ← HM.out, ← HI.out] at h1
              omega
          have hD2 := HD.out
          rw [rest_step lv _ p (by simp; omega), step_one lv N c p hlv1.1 hlv1.2 hp1 hpN2, ← HZ.out] at hD2
          by_cases h3 : 3 ≤ N - p
          · rw [if_pos h3] at hD2
            obtain ⟨q, hq⟩ : ∃ q, q = min 258 (N - p) := ⟨_, rfl⟩
            have hq2 : min ((N - p : Nat) : Int) 258 = (q : Int) := by omega
            have hq3 : max (q : Int) 1 = (q : Int) := by omega
            have hq4 : 3 ≤ q ∧ q ≤ N - p := by omega
            rw [← hq] at hD2
            have h3' : (3 : Int) ≤ ((N - p : Nat) : Int) := by omega
            clear hq
            obtain ⟨b', off', hab, f0, f1, f2⟩ := toks_at HT3.out hD2.symm HI.out
            cases hab
            have f0' := HKx.out.cell f0
            have f1' := HKx.out.cell f1
            have f2' := HKx.out.cell f2
            simp only at f0' f1' f2'
            have HD2 := Lib.hid hD2
            clear hD2 f0 f1 f2 HD
            obtain ⟨wn, hwn⟩ : ∃ wn, wn = wr.alloc (.cells #[.int .i64 (q : Int), .int .i64 1, .int .u8 0] 26) := ⟨_, rfl⟩
            have hkn : Kept NoB wr wn := by rw [hwn]; exact (Kept.refl _ _).alloc _
            have g0 : wn.cell? ⟨wr.heap.size, 0, none⟩ = some (.int .i64 (q : Int)) := by rw [hwn]; exact cell_new 0 rfl
            have g1 : wn.cell? ⟨wr.heap.size, 1, none⟩ = some (.int .i64 1) := by rw [hwn]; exact cell_new 1 rfl
            have g2 : wn.cell? ⟨wr.heap.size, 2, none⟩ = some (.int .u8 0) := by rw [hwn]; exact cell_new 2 rfl
            have k0 := hkn.cell f0'
            have k1 := hkn.cell f1'
            have k2 := hkn.cell f2'
            have HKn := Lib.hid (HKx.out.trans hkn)
            clear f0' f1' f2' hkn HKx
            go_upto_region 18 with fail
            rw [← hwn]
            clear hwn
            go_region
            go_wp2
            go_roundw
            case rel => exact ⟨p + q, i + 1, dn ++ [⟨(q : Nat), 1, 0⟩], by go_num, by go_num, by omega, by omega, by omega, Lib.hid (by rw [List.length_append, ← HI.out]; rfl), Lib.hid (by rw [List.append_assoc]; exact HD2.out), Lib.hid HKn.out.drew⟩
            case measure => simp [intOf]; omega
          · rw [if_neg h3] at hD2
            have h3' : ¬ (3 : Int) ≤ ((N - p : Nat) : Int) := by omega
            obtain ⟨b', off', hab, f0, f1, f2⟩ := toks_at HT3.out hD2.symm HI.out
            cases hab
            have f0' := HKx.out.cell f0
            have f1' := HKx.out.cell f1
            have f2' := HKx.out.cell f2
            simp only at f0' f1' f2'
            have HD2 := Lib.hid hD2
            clear hD2 f0 f1 f2 HD
            obtain ⟨wn, hwn⟩ : ∃ wn, wn = wr.alloc (.cells #[.int .i64 0, .int .i64 0, .int .u8 z] 26) := ⟨_, rfl⟩
            have hkn : Kept NoB wr wn := by rw [hwn]; exact (Kept.refl _ _).alloc _
            have g0 : wn.cell? ⟨wr.heap.size, 0, none⟩ = some (.int .i64 0) := by rw [hwn]; exact cell_new 0 rfl
            have g1 : wn.cell? ⟨wr.heap.size, 1, none⟩ = some (.int .i64 0) := by rw [hwn]; exact cell_new 1 rfl
            have g2 : wn.cell? ⟨wr.heap.size, 2, none⟩ = some (.int .u8 z) := by rw [hwn]; exact cell_new 2 rfl
            have k0 := hkn.cell f0'
            have k1 := hkn.cell f1'
            have k2 := hkn.cell f2'
            have HKn := Lib.hid (HKx.out.trans hkn)
            clear f0' f1' f2' hkn HKx
            go_upto_region 18 with fail
            rw [← hwn]
            clear hwn
            go_region
            go_wp2
            go_roundw
            case rel => exact ⟨p + 1, i + 1, dn ++ [⟨0, 0, z⟩], by go_num, by go_num, by omega, by omega, by omega, Lib.hid (by rw [List.length_append, ← HI.out]; rfl), Lib.hid (by rw [List.append_assoc]; exact HD2.out), Lib.hid HKn.out.drew⟩
            case measure => simp [intOf]; omega
        · have hpe : p = N := by
            by_cases h : p < N
            · have h1 := congrArg List.length HD.out
              rw [rest_step lv _ p (by simp; omega), List.length_append, List.length_cons, ← HM.out, ← HI.out] at h1
              omega
            · omega
          have hz9 : (((N - p : Nat) : Int) == 0) = true := by rw [hpe]; simp
          have hk9 := HK3.out.trans HKx.out
          have haw := awake7 wr (HT.out.kept hk9)
          have HAw := Lib.hid haw; have HK9 := Lib.hid hk9
          clear haw hk9 HKx HD
          go_wp2_with fail
          with_reducible refine HAw.out.mono ?_
          rintro e w9 ⟨rfl, hk10⟩
          have hb9 : Below w.heap.size w w9 := (HK9.out.trans hk10).belowNo (Below.refl _ _)
          clear hk10
          go_wp2
          go_ret
          exact ⟨rfl, hb9⟩
theorem matchRuns_law (v0 v1 v2 : Value) (w : World) (r0 : Arg w 5 v0) (r1 : Arg w 3 v1) (r2 : Arg w 3 v2) (hT : DeB w) :
    Calls Tryd.prog 3 #[v0, v1, v2] w fun e w' => e = .returned (.bool true) ∧ Below w.heap.size w w' := by
  obtain ⟨x, rfl, hx⟩ := r0.int Tryd.underlying5
  obtain ⟨n, rfl, hn⟩ := r1.int Tryd.underlying3
  obtain ⟨l, rfl, hl⟩ := r2.int Tryd.underlying3
  have hb := u8_bd hx
  have e : ((UInt8.ofNat x.toNat).toNat : Int) = x := by
    rw [UInt8.toNat_ofNat']
    omega
  have := matchRuns_walk (UInt8.ofNat x.toNat) n l w (i64_bd hn) (i64_bd hl) hT
  rw [e] at this
  exact this
end Go.Proofs.YtifoldonmmobpaaDoor
