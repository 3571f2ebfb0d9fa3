/-
  The document's own ReadPax.
-/
import Derived.Test.YtclcgiochjibjaaGreatDoorRPax
import Derived.Test.YtclcgiochjibjaaGreatDoorReadP
import Derived.Test.YtclcgiochjibjaaGreatDoorRNumy
namespace Go.Proofs.YtclcgiochjibjaaGreatDoor
open Go.RowKit
set_option linter.unusedVariables false
set_option linter.unusedSimpArgs false

theorem drop_getD (L : List UInt8) (a j : Nat) : (L.drop a).getD j 0 = L.getD (a + j) 0 := by
  simp [List.getD, List.getElem?_drop]

set_option maxRecDepth 20000 in
set_option maxHeartbeats 16000000 in
theorem readPax_any (L : List UInt8) (w : World) (hL : L.length ≤ 1000000) :
    Calls Tryz.prog 9 #[.string (strB L)] w (DecR w L) := by
  obtain ⟨S, hS⟩ : ∃ S, S = strB L := ⟨_, rfl⟩
  rw [← hS]
  have hSz : S.size = L.length := by rw [hS, strB_size]
  have hSat : ∀ (i : Nat) (h : i < S.size), (S[i]'h) = L.getD i 0 := by subst hS; exact fun i h => strB_get L i h
  have hSx : ∀ a b, S.extract a b = strB ((L.drop a).take (b - a)) := by subst hS; exact fun a b => strB_extract L a b
  have HSat := Lib.hid hSat; have HSx := Lib.hid hSx
  obtain ⟨n, hn⟩ : ∃ n, n = L.length := ⟨_, rfl⟩
  rw [← hn] at hSz hL
  have HN := Lib.hid hn
  clear hS hSat hSx hn
  by_cases hbig : 65536 < n
  · have hgt : (65536 : Int) < (n : Int) := by omega
    have HB : Hid (65536 < L.length) := Lib.hid (by rw [← HN.out]; exact hbig)
    go_enter Tryz.func9, Tryz.ntmps9
    go_wp2
    go_ret2
    exact .inr ⟨.inl HB.out, rfl, Kept.refl _ _⟩
  have hgt : ¬ (65536 : Int) < (n : Int) := by omega
  have hn6 : n ≤ 65536 := by omega
  have HL6 : Hid (L.length ≤ 65536) := Lib.hid (by rw [← HN.out]; exact hn6)
  clear hbig hL
  go_enter Tryz.func9, Tryz.ntmps9
  go_wp2
  go_loopw [4, 5, 6, 7, 8, 9, 10, 11] (fun v4 v5 v6 v7 v8 v9 v10 v11 wr => ∃ (a : Option Addr) (m c p : Nat) (pre : List KVb), v4 = .slice a m c ∧ v5 = .int .i64 (p : Int) ∧ p ≤ n ∧ m ≤ p ∧ Hid (KvSt w wr a m c pre ∧ L = recsB pre ++ L.drop p ∧ ∀ r ∈ pre, okR r = true)) (fun _ v5 _ _ _ _ _ _ _ => n - (intOf v5).toNat)
  case atStart => exact ⟨none, 0, 0, 0, [], rfl, rfl, by omega, by omega, Lib.hid ⟨KvSt.nil w, rfl, fun _ h => by cases h⟩⟩
  case round =>
    obtain ⟨a, m, c, p, pre, rfl, rfl, hp, hm, HI⟩ := hrel
    by_cases hpn : p < n
    · obtain ⟨rest, hrest⟩ : ∃ rest, rest = L.drop p := ⟨_, rfl⟩
      have hrl : rest.length = n - p := by rw [hrest, List.length_drop, ← HN.out]
      have hrg : ∀ j, rest.getD j 0 = L.getD (p + j) 0 := fun j => by rw [hrest]; exact drop_getD L p j
      have hno : (∀ r t, ¬ RecAt rest r t) → ∀ rs, ¬ Good L rs := fun h => good_no (by rw [hrest]; exact HI.out.2.1) HI.out.2.2 HL6.out (by intro e; rw [e] at hrl; simp at hrl; omega) h
      have HRl := Lib.hid hrl; have HRg := Lib.hid hrg; have HNo := Lib.hid hno; have HRest := Lib.hid hrest
      clear hrl hrg hno hrest
      have hpn2 : (p : Int) < (n : Int) := by omega
      go_upto_block 2 with fail
      go_cut [6] from 15 to 140 (fun v6 wx => ∃ K : Nat, v6 = .int .i64 (K : Int) ∧ p ≤ K ∧ K ≤ n ∧ K ≤ p + 6 ∧ Hid ((∀ j, j < K - p → rest.getD j 0 ≠ 32) ∧ (K = n ∨ K = p + 6 ∨ L.getD K 0 = 32)) ∧ wr = wx)
      case first =>
        go_wp2
        go_loopw [6] (fun v6 wq => ∃ K : Nat, v6 = .int .i64 (K : Int) ∧ p ≤ K ∧ K ≤ n ∧ K ≤ p + 6 ∧ Hid (∀ j, j < K - p → rest.getD j 0 ≠ 32) ∧ wr = wq) (fun v6 _ => n - (intOf v6).toNat)
        case atStart => exact ⟨p, rfl, by omega, by omega, by omega, Lib.hid (fun j hj => by omega), rfl⟩
        case round =>
          obtain ⟨K, rfl, hpK, hKn, hK6, HK, rfl⟩ := hrel
          by_cases hKe : K = n
          · have q1 : ¬ (K : Int) < (n : Int) := by omega
            have HX : Hid ((∀ j, j < K - p → rest.getD j 0 ≠ 32) ∧ (K = n ∨ K = p + 6 ∨ L.getD K 0 = 32)) := Lib.hid ⟨HK.out, .inl hKe⟩
            clear hKe
            go_wp2
            go_meet
            exact ⟨K, rfl, hpK, hKn, hK6, HX, rfl⟩
          · have q1 : (K : Int) < (n : Int) := by omega
            obtain ⟨kk, hkk⟩ : ∃ kk, kk = K - p := ⟨_, rfl⟩
            have hsub : (K : Int) - (p : Int) = (kk : Int) := by omega
            by_cases h6 : kk < 6
            · have q2 : (kk : Int) < 6 := by omega
              have hlt : K < S.size := by omega
              have hat := HSat.out K hlt
              by_cases h32 : L.getD K 0 = 32
              · have hv : ((S[K]'hlt).toNat : Int) = 32 := by rw [hat, h32]; rfl
                have hvb : (((S[K]'hlt).toNat : Int) == 32) = true := by simpa using hv
                have HX : Hid ((∀ j, j < K - p → rest.getD j 0 ≠ 32) ∧ (K = n ∨ K = p + 6 ∨ L.getD K 0 = 32)) := Lib.hid ⟨HK.out, .inr (.inr h32)⟩
                clear hat h32 hkk
                go_wp2
                go_meet
                exact ⟨K, rfl, hpK, hKn, hK6, HX, rfl⟩
              · have hv : ¬ ((S[K]'hlt).toNat : Int) = 32 := fun e => h32 (by rw [← hat]; exact UInt8.toNat_inj.1 (by rw [show (32 : UInt8).toNat = 32 from rfl]; omega))
                have hvb : (((S[K]'hlt).toNat : Int) == 32) = false := by simpa using hv
                have HX : Hid (∀ j, j < K + 1 - p → rest.getD j 0 ≠ 32) := Lib.hid (fun j hj => by
                  by_cases hjk : j = K - p
                  · rw [HRg.out, hjk, show p + (K - p) = K by omega]; exact h32
                  · exact HK.out j (by omega))
                have hK7 : K + 1 ≤ p + 6 := by omega
                clear hat h32 hkk
                go_wp2
                go_roundw
                case rel => exact ⟨K + 1, by go_num, by omega, by omega, hK7, HX, trivial⟩
                case measure => simp [intOf]; omega
            · have q2 : ¬ (kk : Int) < 6 := by omega
              have HX : Hid ((∀ j, j < K - p → rest.getD j 0 ≠ 32) ∧ (K = n ∨ K = p + 6 ∨ L.getD K 0 = 32)) := Lib.hid ⟨HK.out, .inr (.inl (by omega))⟩
              clear hkk
              go_wp2
              go_meet
              exact ⟨K, rfl, hpK, hKn, hK6, HX, rfl⟩
      case rest =>
        obtain ⟨K, rfl, hpK, hKn, hK6, HK, rfl⟩ := hcut
        by_cases hKe : K = n
        · have q1 : ((K : Int) == (n : Int)) = true := by simp; omega
          have HF := Lib.hid (HNo.out (no_space (K - p) HK.out.1 (.inl (by rw [HRl.out]; omega))))
          go_wp2
          go_ret2
          exact .inr ⟨.inr HF.out, rfl, HI.out.1.kept⟩
        · have q1 : ((K : Int) == (n : Int)) = false := by simp; omega
          have hlt : K < S.size := by omega
          have hat := HSat.out K hlt
          by_cases h32 : L.getD K 0 = 32
          · have hv : ((S[K]'hlt).toNat : Int) = 32 := by rw [hat, h32]; rfl
            have hvb : (((S[K]'hlt).toNat : Int) == 32) = true := by simpa using hv
            obtain ⟨kk, hkk⟩ : ∃ kk, kk = K - p := ⟨_, rfl⟩
            have hkr : kk < rest.length := by rw [HRl.out]; omega
            have hg32 : rest.getD kk 0 = 32 := by rw [HRg.out, hkk, show p + (K - p) = K by omega]; exact h32
            have hj32 : ∀ j, j < kk → rest.getD j 0 ≠ 32 := by rw [hkk]; exact HK.out.1
            have hx0 : S.extract p K = strB (rest.take kk) := by rw [HSx.out, ← HRest.out, hkk]
            have hNum := fun W => rNumber_any (strB (rest.take kk)) W (by rw [strB_size, List.length_take]; omega)
            rw [strB_data] at hNum
            obtain ⟨nv, hnv⟩ : ∃ nv, nv = numL (rest.take kk) := ⟨_, rfl⟩
            rw [← hnv] at hNum
            obtain ⟨NN, okn⟩ := nv
            obtain ⟨X0, hX0⟩ : ∃ X0, X0 = strB (rest.take kk) := ⟨_, rfl⟩
            rw [← hX0] at hx0 hNum
            have HNum := Lib.hid hNum; have HNv := Lib.hid hnv.symm; have HKr := Lib.hid hkr; have HG32 := Lib.hid hg32; have HJ32 := Lib.hid hj32; have HKk := Lib.hid hkk
            have hpKi : (p : Int) ≤ (K : Int) := by omega
            clear hat h32 hX0 hNum hnv hkr hg32 hj32
            go_wp2_with fail
            refine (HNum.out _).mono ?_
            rintro e w1 ⟨rfl, rfl⟩
            cases okn with
            | false =>
              have HF := Lib.hid (HNo.out (read_no1 kk HJ32.out HKr.out HG32.out (by rw [HNv.out])))
              go_wp2
              go_ret2
              exact .inr ⟨.inr HF.out, rfl, HI.out.1.kept⟩
            | true =>
              have hN2 : (∀ _ : NN < 1 ∨ (rest.length : Int) < NN ∨ rest.getD (NN.toNat - 1) 0 ≠ 10 ∨ NN - 1 < (kk : Int) + 1, ∀ rs, ¬ Good L rs) := fun h => HNo.out (read_no2 kk HJ32.out HKr.out HG32.out NN HNv.out h)
              have HN2 := Lib.hid hN2
              clear hN2
              by_cases hN1 : NN < 1
              · have HF := Lib.hid (HN2.out (.inl hN1))
                go_wp2
                go_ret2
                exact .inr ⟨.inr HF.out, rfl, HI.out.1.kept⟩
              · have hnp : (n : Int) - (p : Int) = ((n - p : Nat) : Int) := by omega
                by_cases hNb : ((n - p : Nat) : Int) < NN
                · have HF := Lib.hid (HN2.out (.inr (.inl (by rw [HRl.out]; exact hNb))))
                  obtain ⟨np, hnp2⟩ : ∃ np, np = n - p := ⟨_, rfl⟩
                  rw [← hnp2] at hnp hNb
                  clear hnp2
                  go_wp2
                  go_ret2
                  exact .inr ⟨.inr HF.out, rfl, HI.out.1.kept⟩
                · obtain ⟨q, rfl⟩ : ∃ q : Nat, NN = (q : Int) := ⟨NN.toNat, by omega⟩
                  have hq1 : 1 ≤ q := by omega
                  have hqn : q ≤ n - p := by omega
                  have hpq : p + q ≤ n := by omega
                  obtain ⟨i1, hi1⟩ : ∃ i1, i1 = p + q - 1 := ⟨_, rfl⟩
                  have hi1i : (p : Int) + (q : Int) - 1 = (i1 : Int) := by omega
                  have hlt2 : i1 < S.size := by omega
                  have hat2 := HSat.out i1 hlt2
                  have hrg1 : rest.getD (q - 1) 0 = L.getD i1 0 := by rw [HRg.out, hi1, show p + (q - 1) = p + q - 1 by omega]
                  obtain ⟨np, hnp2⟩ : ∃ np, np = n - p := ⟨_, rfl⟩
                  rw [← hnp2] at hnp hNb hqn
                  by_cases h10 : L.getD i1 0 = 10
                  · have hv1 : ((S[i1]'hlt2).toNat : Int) = 10 := by rw [hat2, h10]; rfl
                    have hv1b : (((S[i1]'hlt2).toNat : Int) == 10) = true := by simpa using hv1
                    by_cases hKi : (i1 : Int) < (K : Int) + 1
                    · have HF := Lib.hid (HN2.out (.inr (.inr (.inr (by omega)))))
                      clear hat2 h10 hrg1 hi1 hnp2
                      go_wp2
                      go_ret2
                      exact .inr ⟨.inr HF.out, rfl, HI.out.1.kept⟩
                    · obtain ⟨sl, hsl⟩ : ∃ sl, sl = (rest.drop (kk + 1)).take (q - 1 - (kk + 1)) := ⟨_, rfl⟩
                      obtain ⟨SS, hSS⟩ : ∃ SS, SS = strB sl := ⟨_, rfl⟩
                      obtain ⟨K1, hK1⟩ : ∃ K1, K1 = K + 1 := ⟨_, rfl⟩
                      have hsx : S.extract K1 i1 = SS := by
                        rw [HSx.out, hSS, hsl, HRest.out, List.drop_drop, hkk, hK1, hi1, show p + (K - p + 1) = K + 1 by omega, show q - 1 - (K - p + 1) = p + q - 1 - (K + 1) by omega]
                      have hK1i : (K : Int) + 1 = (K1 : Int) := by omega
                      have hK1l : K1 ≤ i1 := by omega
                      have hSSz : SS.size = sl.length := by rw [hSS, strB_size]
                      obtain ⟨zz, hzz⟩ : ∃ zz, zz = sl.length := ⟨_, rfl⟩
                      rw [← hzz] at hSSz
                      have hSSat : ∀ (i : Nat) (h : i < SS.size), (SS[i]'h) = sl.getD i 0 := by subst hSS; exact fun i h => strB_get sl i h
                      have hSSx : ∀ a b, SS.extract a b = strB ((sl.drop a).take (b - a)) := by subst hSS; exact fun a b => strB_extract sl a b
                      have hzb : zz ≤ 65536 := by rw [hzz, hsl, List.length_take, List.length_drop, HRl.out]; omega
                      have HSl := Lib.hid hsl; have HZ := Lib.hid hzz; have HSSat := Lib.hid hSSat; have HSSx := Lib.hid hSSx
                      clear hat2 h10 hrg1 hi1 hnp2 hsl hSS hK1 hzz hSSat hSSx
                      go_wp2
                      go_loopw [10] (fun v10 wq => ∃ j : Nat, v10 = .int .i64 (j : Int) ∧ j ≤ zz ∧ Hid (∀ i, i < j → sl.getD i 0 ≠ 61) ∧ wr = wq) (fun v10 _ => zz - (intOf v10).toNat)
                      case atStart => exact ⟨0, rfl, by omega, Lib.hid (fun i hi => by omega), rfl⟩
                      case round =>
                        obtain ⟨j, rfl, hj, HJ, rfl⟩ := hrel
                        by_cases hjz : j < zz
                        · have hlt3 : j < SS.size := by omega
                          have hat3 := HSSat.out j hlt3
                          by_cases h61 : sl.getD j 0 = 61
                          · have hv3 : ((SS[j]'hlt3).toNat : Int) = 61 := by rw [hat3, h61]; rfl
                            have hv3b : (((SS[j]'hlt3).toNat : Int) == 61) = true := by simpa using hv3
                            have hje : ((j : Int) == (zz : Int)) = false := by simp; omega
                            obtain ⟨x, hx⟩ : ∃ x : KVb, x = (sl.take j, sl.drop (j + 1)) := ⟨_, rfl⟩
                            have hx1 : SS.extract 0 j = strB x.1 := by rw [HSSx.out, hx]; simp
                            have hx2 : SS.extract (j + 1) zz = strB x.2 := by rw [HSSx.out, hx, List.take_of_length_le (by rw [List.length_drop, ← HZ.out]; exact Nat.le_refl _)]
                            have hxl : x.1.length + x.2.length ≤ 65536 := by rw [hx]; simp only [List.length_take, List.length_drop]; have := HZ.out; omega
                            have HBad := Lib.hid (fun h => HNo.out (read_no4 kk HJ32.out HKr.out HG32.out q HNv.out sl HSl.out j HJ.out (by rw [← HZ.out]; exact hjz) h61 x hx h))
                            obtain ⟨j1, hj1⟩ : ∃ j1, j1 = j + 1 := ⟨_, rfl⟩
                            rw [← hj1] at hx2
                            have hj1i : (j : Int) + 1 = (j1 : Int) := by omega
                            have hj1z : j1 ≤ zz := by omega
                            obtain ⟨A, hA⟩ : ∃ A, A = strB x.1 := ⟨_, rfl⟩
                            obtain ⟨B, hB⟩ : ∃ B, B = strB x.2 := ⟨_, rfl⟩
                            rw [← hA] at hx1
                            rw [← hB] at hx2
                            have HAB : Hid (A = strB x.1 ∧ B = strB x.2) := Lib.hid ⟨hA, hB⟩
                            have HXL := Lib.hid hxl
                            clear hat3 h61 hx hxl hj1 hA hB
                            go_upto_region 20 with fail
                            go_region
                            obtain ⟨G, hG⟩ : ∃ G, G = wr.heap.size := ⟨_, rfl⟩
                            obtain ⟨w2, hw2⟩ : ∃ w2, w2 = (wr.alloc (.cells #[.string A, .string B] 28)).drew := ⟨_, rfl⟩
                            have hk2 : Kept NoB wr w2 := by rw [hw2]; exact ((Kept.refl _ _).alloc _).drew
                            have f0 : w2.cell? ⟨G, 0, none⟩ = some (.string A) := by rw [hw2, hG]; exact (Kept.drew (Kept.refl NoB _)).cell (cell_new 0 rfl)
                            have f1 : w2.cell? ⟨G, 1, none⟩ = some (.string B) := by rw [hw2, hG]; exact (Kept.drew (Kept.refl NoB _)).cell (cell_new 1 rfl)
                            rw [← hw2, ← hG]
                            have HK2 := Lib.hid (HI.out.1.on hk2)
                            clear hw2 hk2 hx1 hx2 hv3 hv3b hje hG
                            have hF0 : ∀ W, Kept NoB w2 W → W.cell? ⟨G, 0, none⟩ = some (.string A) := fun W hW => hW.cell f0
                            have hF1 : ∀ W, Kept NoB w2 W → W.cell? ⟨G, 1, none⟩ = some (.string B) := fun W hW => hW.cell f1
                            have HF01 := Lib.hid (⟨hF0, hF1⟩ : _ ∧ _)
                            have hKo := fun W => kvok_any x W (by have := HXL.out; omega)
                            have hRc := fun W => rrecord_any x W (by have := HXL.out; omega)
                            rw [← HAB.out.1, ← HAB.out.2] at hKo hRc
                            have hcmp := strB_eq (recB x) (rest.take q)
                            obtain ⟨pq, hpq2⟩ : ∃ pq, pq = p + q := ⟨_, rfl⟩
                            have hx3 : S.extract p pq = strB (rest.take q) := by rw [HSx.out, ← HRest.out, hpq2, show p + q - p = q by omega]
                            have hpqi : (p : Int) + (q : Int) = (pq : Int) := by omega
                            have hpqn : pq ≤ n := by omega
                            have hppq : p ≤ pq := by omega
                            obtain ⟨RX, hRX⟩ : ∃ RX, RX = strB (recB x) := ⟨_, rfl⟩
                            obtain ⟨TX, hTX⟩ : ∃ TX, TX = strB (rest.take q) := ⟨_, rfl⟩
                            rw [← hRX] at hRc hcmp
                            rw [← hTX] at hx3 hcmp
                            obtain ⟨ok, hok⟩ : ∃ ok, ok = okR x := ⟨_, rfl⟩
                            rw [← hok] at hKo
                            have HKo := Lib.hid hKo; have HRc := Lib.hid hRc; have Hok := Lib.hid hok; have HPq := Lib.hid hpq2
                            have hk0 := Kept.refl NoB w2
                            clear hKo hRc hRX hTX hok f0 f1 hpq2
                            cases ok with
                            | false =>
                              have HF := Lib.hid (HBad.out (.inl Hok.out.symm))
                              go_wp2_with fail
                              refine wp_region_noPanic ?_
                              refine wp_region_held_drew (S := fun W => Kept NoB w2 W) (by kernel_rfl) (Kept.drew (Kept.refl _ _)) (fun hHeld => ?_)
                              refine wpAnyH_take (i := 0) (v := ?_) (by rw [List.getElem?_toArray]; rfl) (by kernel_rfl) (by kernel_rfl) (by kernel_rfl) (fun _ _ _ h => h) (Or.inl ⟨by rfl, ?hyf0⟩) (by assumption) ?restf0
                              case hyf0 => (intro w hSw; (try dsimp only at hSw); go_simp; (try with_reducible rfl))
                              try simp only [Act.put, List.setIfInBounds_toArray, List.set_cons_zero, List.set_cons_succ]
                              refine wpAnyH_ready (rs := [1]) (by kernel_rfl) (by simp) ?_
                              refine AllReadyH.cons (by rw [List.getElem?_toArray]; rfl) (fun K hK => ?_) AllReadyH.nil
                              go_simp
                              go_at_call 15
                              (with_reducible refine (HKo.out _).mono ?_)
                              rintro e wn ⟨rfl, hkn⟩
                              go_wp2_with fail
                              refine hK.out _ _ (hHeld.trans hkn) (fun hHeld => ?_)
                              clear hK K
                              try simp only [Act.put, List.setIfInBounds_toArray, List.set_cons_zero, List.set_cons_succ]
                              refine wpAnyH_take (i := 2) (v := ?_) (by rw [List.getElem?_toArray]; rfl) (by kernel_rfl) (by kernel_rfl) (by kernel_rfl) (fun _ _ _ h => h) (Or.inl ⟨by rfl, ?hyf2⟩) (by assumption) ?restf2
                              case hyf2 => (intro w hSw; (try dsimp only at hSw); go_simp; (try with_reducible rfl))
                              try simp only [Act.put, List.setIfInBounds_toArray, List.set_cons_zero, List.set_cons_succ]
                              refine wpAnyH_take (i := 3) (v := ?_) (by rw [List.getElem?_toArray]; rfl) (by kernel_rfl) (by kernel_rfl) (by kernel_rfl) (fun _ _ _ h => h) (Or.inl ⟨by rfl, ?hyf3⟩) (by assumption) ?restf3
                              case hyf3 => (intro w hSw; (try dsimp only at hSw); go_simp; (try with_reducible rfl))
                              try simp only [Act.put, List.setIfInBounds_toArray, List.set_cons_zero, List.set_cons_succ]
                              refine wpAnyH_take (i := 4) (v := undef) (by rw [List.getElem?_toArray]; rfl) (by kernel_rfl) (by kernel_rfl) (by kernel_rfl) (fun _ _ _ h => h) (Or.inr ⟨by rfl, rfl⟩) (by assumption) ?restf4
                              try simp only [Act.put, List.setIfInBounds_toArray, List.set_cons_zero, List.set_cons_succ]
                              refine wpAnyH_take (i := 5) (v := undef) (by rw [List.getElem?_toArray]; rfl) (by kernel_rfl) (by kernel_rfl) (by kernel_rfl) (fun _ _ _ h => h) (Or.inr ⟨by rfl, rfl⟩) (by assumption) ?restf5
                              try simp only [Act.put, List.setIfInBounds_toArray, List.set_cons_zero, List.set_cons_succ]
                              refine wpAnyH_take (i := 6) (v := undef) (by rw [List.getElem?_toArray]; rfl) (by kernel_rfl) (by kernel_rfl) (by kernel_rfl) (fun _ _ _ h => h) (Or.inr ⟨by rfl, rfl⟩) (by assumption) ?restf6
                              try simp only [Act.put, List.setIfInBounds_toArray, List.set_cons_zero, List.set_cons_succ]
                              refine wpAnyH_take (i := 7) (v := undef) (by rw [List.getElem?_toArray]; rfl) (by kernel_rfl) (by kernel_rfl) (by kernel_rfl) (fun _ _ _ h => h) (Or.inr ⟨by rfl, rfl⟩) (by assumption) ?restf7
                              try simp only [Act.put, List.setIfInBounds_toArray, List.set_cons_zero, List.set_cons_succ]
                              refine wpAnyH_take (i := 8) (v := undef) (by rw [List.getElem?_toArray]; rfl) (by kernel_rfl) (by kernel_rfl) (by kernel_rfl) (fun _ _ _ h => h) (Or.inr ⟨by rfl, rfl⟩) (by assumption) ?restf8
                              try simp only [Act.put, List.setIfInBounds_toArray, List.set_cons_zero, List.set_cons_succ]
                              refine wpAnyH_take (i := 9) (v := undef) (by rw [List.getElem?_toArray]; rfl) (by kernel_rfl) (by kernel_rfl) (by kernel_rfl) (fun _ _ _ h => h) (Or.inr ⟨by rfl, rfl⟩) (by assumption) ?restf9
                              try simp only [Act.put, List.setIfInBounds_toArray, List.set_cons_zero, List.set_cons_succ]
                              refine wpAnyH_take (i := 10) (v := undef) (by rw [List.getElem?_toArray]; rfl) (by kernel_rfl) (by kernel_rfl) (by kernel_rfl) (fun _ _ _ h => h) (Or.inr ⟨by rfl, rfl⟩) (by assumption) ?restf10
                              try simp only [Act.put, List.setIfInBounds_toArray, List.set_cons_zero, List.set_cons_succ]
                              refine wpAnyH_take (i := 11) (v := undef) (by rw [List.getElem?_toArray]; rfl) (by kernel_rfl) (by kernel_rfl) (by kernel_rfl) (fun _ _ _ h => h) (Or.inr ⟨by rfl, rfl⟩) (by assumption) ?restf11
                              try simp only [Act.put, List.setIfInBounds_toArray, List.set_cons_zero, List.set_cons_succ]
                              refine wpAnyH_take (i := 12) (v := undef) (by rw [List.getElem?_toArray]; rfl) (by kernel_rfl) (by kernel_rfl) (by kernel_rfl) (fun _ _ _ h => h) (Or.inr ⟨by rfl, rfl⟩) (by assumption) ?restf12
                              try simp only [Act.put, List.setIfInBounds_toArray, List.set_cons_zero, List.set_cons_succ]
                              refine wpAnyH_take (i := 13) (v := ?_) (by rw [List.getElem?_toArray]; rfl) (by kernel_rfl) (by kernel_rfl) (by kernel_rfl) (fun _ _ _ h => h) (Or.inl ⟨by rfl, ?hyf13⟩) (by assumption) ?restf13
                              case hyf13 => (intro w hSw; (try dsimp only at hSw); go_simp; (try with_reducible rfl))
                              try simp only [Act.put, List.setIfInBounds_toArray, List.set_cons_zero, List.set_cons_succ]
                              refine wpAnyH_done (by kernel_rfl) ?_ _
                              refine NoPanic.normal ?_
                              have HKf := Lib.hid hHeld
                              clear hHeld hF0 hF1 hk0
                              go_wp2
                              go_ret2
                              exact .inr ⟨.inr HF.out, rfl, HK2.out.kept.trans HKf.out⟩
                            | true =>
                              have hPP : (p : Int) ≤ (pq : Int) := by omega
                              have hPN : (pq : Int) ≤ (n : Int) := by omega
                              have hwpq : IntKind.i64.wrap (pq : Int) = (pq : Int) := by rw [IntWalk.i64_in _ (by omega)]
                              by_cases heq : recB x = rest.take q
                              · rw [decide_eq_true heq] at hcmp
                                have HEq := Lib.hid heq
                                clear heq
                                go_wp2_with fail
                                refine wp_region_noPanic ?_
                                refine wp_region_held_drew (S := fun W => Kept NoB w2 W) (by kernel_rfl) (Kept.drew (Kept.refl _ _)) (fun hHeld => ?_)
                                refine wpAnyH_take (i := 0) (v := ?_) (by rw [List.getElem?_toArray]; rfl) (by kernel_rfl) (by kernel_rfl) (by kernel_rfl) (fun _ _ _ h => h) (Or.inl ⟨by rfl, ?hyg0⟩) (by assumption) ?restg0
                                case hyg0 => (intro w hSw; (try dsimp only at hSw); go_simp; (try with_reducible rfl))
                                try simp only [Act.put, List.setIfInBounds_toArray, List.set_cons_zero, List.set_cons_succ]
                                refine wpAnyH_ready (rs := [1]) (by kernel_rfl) (by simp) ?_
                                refine AllReadyH.cons (by rw [List.getElem?_toArray]; rfl) (fun K hK => ?_) AllReadyH.nil
                                go_simp
                                go_at_call 15
                                (with_reducible refine (HKo.out _).mono ?_)
                                rintro e wn ⟨rfl, hkn⟩
                                go_wp2_with fail
                                refine hK.out _ _ (hHeld.trans hkn) (fun hHeld => ?_)
                                clear hK K
                                try simp only [Act.put, List.setIfInBounds_toArray, List.set_cons_zero, List.set_cons_succ]
                                refine wpAnyH_take (i := 2) (v := ?_) (by rw [List.getElem?_toArray]; rfl) (by kernel_rfl) (by kernel_rfl) (by kernel_rfl) (fun _ _ _ h => h) (Or.inl ⟨by rfl, ?hyg2⟩) (by assumption) ?restg2
                                case hyg2 => (intro w hSw; (try dsimp only at hSw); go_simp; (try with_reducible rfl))
                                try simp only [Act.put, List.setIfInBounds_toArray, List.set_cons_zero, List.set_cons_succ]
                                refine wpAnyH_take (i := 3) (v := ?_) (by rw [List.getElem?_toArray]; rfl) (by kernel_rfl) (by kernel_rfl) (by kernel_rfl) (fun _ _ _ h => h) (Or.inl ⟨by rfl, ?hyg3⟩) (by assumption) ?restg3
                                case hyg3 => (intro w hSw; (try dsimp only at hSw); go_simp; (try with_reducible rfl))
                                try simp only [Act.put, List.setIfInBounds_toArray, List.set_cons_zero, List.set_cons_succ]
                                refine wpAnyH_take (i := 4) (v := ?_) (by rw [List.getElem?_toArray]; rfl) (by kernel_rfl) (by kernel_rfl) (by kernel_rfl) (fun _ _ _ h => h) (Or.inl ⟨by rfl, ?hyg4⟩) (by assumption) ?restg4
                                case hyg4 => (intro w hSw; (try dsimp only at hSw); go_simp; (try with_reducible rfl))
                                try simp only [Act.put, List.setIfInBounds_toArray, List.set_cons_zero, List.set_cons_succ]
                                refine wpAnyH_take (i := 6) (v := ?_) (by rw [List.getElem?_toArray]; rfl) (by kernel_rfl) (by kernel_rfl) (by kernel_rfl) (fun _ _ _ h => h) (Or.inl ⟨by rfl, ?hyg6⟩) (by assumption) ?restg6
                                case hyg6 => (intro w hSw; (try dsimp only at hSw); go_simp; (try with_reducible rfl))
                                try simp only [Act.put, List.setIfInBounds_toArray, List.set_cons_zero, List.set_cons_succ]
                                refine wpAnyH_take (i := 7) (v := ?_) (by rw [List.getElem?_toArray]; rfl) (by kernel_rfl) (by kernel_rfl) (by kernel_rfl) (fun _ _ _ h => h) (Or.inl ⟨by rfl, ?hyg7⟩) (by assumption) ?restg7
                                case hyg7 => (intro w hSw; (try dsimp only at hSw); go_simp; (try with_reducible rfl))
                                try simp only [Act.put, List.setIfInBounds_toArray, List.set_cons_zero, List.set_cons_succ]
                                refine wpAnyH_take (i := 8) (v := ?_) (by rw [List.getElem?_toArray]; rfl) (by kernel_rfl) (by kernel_rfl) (by kernel_rfl) (fun _ _ _ h => h) (Or.inl ⟨by rfl, ?hyg8⟩) (by assumption) ?restg8
                                case hyg8 => (intro w hSw; (try dsimp only at hSw); go_simp; (try with_reducible rfl))
                                try simp only [Act.put, List.setIfInBounds_toArray, List.set_cons_zero, List.set_cons_succ]
                                refine wpAnyH_take (i := 9) (v := ?_) (by rw [List.getElem?_toArray]; rfl) (by kernel_rfl) (by kernel_rfl) (by kernel_rfl) (fun _ _ _ h => h) (Or.inl ⟨by rfl, ?hyg9⟩) (by assumption) ?restg9
                                case hyg9 => (intro w hSw; (try dsimp only at hSw); go_simp; (try with_reducible rfl))
                                try simp only [Act.put, List.setIfInBounds_toArray, List.set_cons_zero, List.set_cons_succ]
                                refine wpAnyH_take (i := 10) (v := ?_) (by rw [List.getElem?_toArray]; rfl) (by kernel_rfl) (by kernel_rfl) (by kernel_rfl) (fun _ _ _ h => h) (Or.inl ⟨by rfl, ?hyg10⟩) (by assumption) ?restg10
                                case hyg10 => (intro w hSw; (try dsimp only at hSw); go_simp; (try with_reducible rfl))
                                try simp only [Act.put, List.setIfInBounds_toArray, List.set_cons_zero, List.set_cons_succ]
                                refine wpAnyH_take (i := 11) (v := ?_) (by rw [List.getElem?_toArray]; rfl) (by kernel_rfl) (by kernel_rfl) (by kernel_rfl) (fun _ _ _ h => h) (Or.inl ⟨by rfl, ?hyg11⟩) (by assumption) ?restg11
                                case hyg11 => (intro w hSw; (try dsimp only at hSw); go_simp; (try with_reducible rfl))
                                try simp only [Act.put, List.setIfInBounds_toArray, List.set_cons_zero, List.set_cons_succ]
                                refine wpAnyH_ready (rs := [5]) (by kernel_rfl) (by simp) ?_
                                refine AllReadyH.cons (by rw [List.getElem?_toArray]; rfl) (fun K hK => ?_) AllReadyH.nil
                                go_simp
                                go_at_call 16
                                (with_reducible refine (HRc.out _).mono ?_)
                                rintro e wm ⟨rfl, hkm⟩
                                go_wp2_with fail
                                refine hK.out _ _ (hHeld.trans hkm) (fun hHeld => ?_)
                                clear hK K
                                try simp only [Act.put, List.setIfInBounds_toArray, List.set_cons_zero, List.set_cons_succ]
                                refine wpAnyH_take (i := 12) (v := ?_) (by rw [List.getElem?_toArray]; rfl) (by kernel_rfl) (by kernel_rfl) (by kernel_rfl) (fun _ _ _ h => h) (Or.inl ⟨by rfl, ?hyg12⟩) (by assumption) ?restg12
                                case hyg12 => (intro w hSw; (try dsimp only at hSw); go_simp; (try with_reducible rfl))
                                try simp only [Act.put, List.setIfInBounds_toArray, List.set_cons_zero, List.set_cons_succ]
                                refine wpAnyH_take (i := 13) (v := ?_) (by rw [List.getElem?_toArray]; rfl) (by kernel_rfl) (by kernel_rfl) (by kernel_rfl) (fun _ _ _ h => h) (Or.inl ⟨by rfl, ?hyg13⟩) (by assumption) ?restg13
                                case hyg13 => (intro w hSw; (try dsimp only at hSw); go_simp; (try with_reducible rfl))
                                try simp only [Act.put, List.setIfInBounds_toArray, List.set_cons_zero, List.set_cons_succ]
                                refine wpAnyH_done (by kernel_rfl) ?_ _
                                refine NoPanic.normal ?_
                                have HKf := Lib.hid hHeld
                                have g0 := HF01.out.1 _ hHeld
                                have g1 := HF01.out.2 _ hHeld
                                clear hHeld hF0 hF1 hk0 hcmp
                                have HKv := Lib.hid (HK2.out.on HKf.out)
                                go_wp2_with (at_builtin; refine wpList_kv1 rfl (.tmp 134) (.tmp 136) rfl (HKv.out.on ((Kept.refl NoB wm).alloc _)) rfl wm.heap.size 1 x rfl (by rw [cell_new 0 rfl, ← HAB.out.1]; rfl) (by rw [cell_new 1 rfl, ← HAB.out.2]; rfl) (by omega) ?_)
                                intro a9 c9 w9 h9
                                have HF : Hid (KvSt w w9 a9 (m + 1) c9 (pre ++ [x]) ∧ L = recsB (pre ++ [x]) ++ L.drop pq ∧ ∀ r ∈ pre ++ [x], okR r = true) := Lib.hid (by
                                  refine ⟨h9, ?_, ?_⟩
                                  · have e2 : L.drop pq = rest.drop q := by rw [HRest.out, List.drop_drop, HPq.out]
                                    have e3 : L.drop p = rest.take q ++ rest.drop q := by rw [List.take_append_drop]; exact HRest.out.symm
                                    conv => lhs; rw [HI.out.2.1, e3]
                                    rw [recsB_snoc, e2, HEq.out, List.append_assoc]
                                  · intro r hr
                                    rcases List.mem_append.1 hr with h | h
                                    · exact HI.out.2.2 r h
                                    · simp at h; subst h; exact Hok.out.symm)
                                clear h9 g0 g1
                                go_wp2
                                go_roundw
                                case rel => exact ⟨a9, m + 1, c9, pq, pre ++ [x], rfl, by first | rfl | go_num, hpqn, by omega, HF⟩
                                case measure => simp [intOf]; omega
                              · rw [decide_eq_false heq] at hcmp
                                have HF := Lib.hid (HBad.out (.inr heq))
                                clear heq
                                go_wp2_with fail
                                refine wp_region_noPanic ?_
                                refine wp_region_held_drew (S := fun W => Kept NoB w2 W) (by kernel_rfl) (Kept.drew (Kept.refl _ _)) (fun hHeld => ?_)
                                refine wpAnyH_take (i := 0) (v := ?_) (by rw [List.getElem?_toArray]; rfl) (by kernel_rfl) (by kernel_rfl) (by kernel_rfl) (fun _ _ _ h => h) (Or.inl ⟨by rfl, ?hyk0⟩) (by assumption) ?restk0
                                case hyk0 => (intro w hSw; (try dsimp only at hSw); go_simp; (try with_reducible rfl))
                                try simp only [Act.put, List.setIfInBounds_toArray, List.set_cons_zero, List.set_cons_succ]
                                refine wpAnyH_ready (rs := [1]) (by kernel_rfl) (by simp) ?_
                                refine AllReadyH.cons (by rw [List.getElem?_toArray]; rfl) (fun K hK => ?_) AllReadyH.nil
                                go_simp
                                go_at_call 15
                                (with_reducible refine (HKo.out _).mono ?_)
                                rintro e wn ⟨rfl, hkn⟩
                                go_wp2_with fail
                                refine hK.out _ _ (hHeld.trans hkn) (fun hHeld => ?_)
                                clear hK K
                                try simp only [Act.put, List.setIfInBounds_toArray, List.set_cons_zero, List.set_cons_succ]
                                refine wpAnyH_take (i := 2) (v := ?_) (by rw [List.getElem?_toArray]; rfl) (by kernel_rfl) (by kernel_rfl) (by kernel_rfl) (fun _ _ _ h => h) (Or.inl ⟨by rfl, ?hyk2⟩) (by assumption) ?restk2
                                case hyk2 => (intro w hSw; (try dsimp only at hSw); go_simp; (try with_reducible rfl))
                                try simp only [Act.put, List.setIfInBounds_toArray, List.set_cons_zero, List.set_cons_succ]
                                refine wpAnyH_take (i := 3) (v := ?_) (by rw [List.getElem?_toArray]; rfl) (by kernel_rfl) (by kernel_rfl) (by kernel_rfl) (fun _ _ _ h => h) (Or.inl ⟨by rfl, ?hyk3⟩) (by assumption) ?restk3
                                case hyk3 => (intro w hSw; (try dsimp only at hSw); go_simp; (try with_reducible rfl))
                                try simp only [Act.put, List.setIfInBounds_toArray, List.set_cons_zero, List.set_cons_succ]
                                refine wpAnyH_take (i := 4) (v := ?_) (by rw [List.getElem?_toArray]; rfl) (by kernel_rfl) (by kernel_rfl) (by kernel_rfl) (fun _ _ _ h => h) (Or.inl ⟨by rfl, ?hyk4⟩) (by assumption) ?restk4
                                case hyk4 => (intro w hSw; (try dsimp only at hSw); go_simp; (try with_reducible rfl))
                                try simp only [Act.put, List.setIfInBounds_toArray, List.set_cons_zero, List.set_cons_succ]
                                refine wpAnyH_take (i := 6) (v := ?_) (by rw [List.getElem?_toArray]; rfl) (by kernel_rfl) (by kernel_rfl) (by kernel_rfl) (fun _ _ _ h => h) (Or.inl ⟨by rfl, ?hyk6⟩) (by assumption) ?restk6
                                case hyk6 => (intro w hSw; (try dsimp only at hSw); go_simp; (try with_reducible rfl))
                                try simp only [Act.put, List.setIfInBounds_toArray, List.set_cons_zero, List.set_cons_succ]
                                refine wpAnyH_take (i := 7) (v := ?_) (by rw [List.getElem?_toArray]; rfl) (by kernel_rfl) (by kernel_rfl) (by kernel_rfl) (fun _ _ _ h => h) (Or.inl ⟨by rfl, ?hyk7⟩) (by assumption) ?restk7
                                case hyk7 => (intro w hSw; (try dsimp only at hSw); go_simp; (try with_reducible rfl))
                                try simp only [Act.put, List.setIfInBounds_toArray, List.set_cons_zero, List.set_cons_succ]
                                refine wpAnyH_take (i := 8) (v := ?_) (by rw [List.getElem?_toArray]; rfl) (by kernel_rfl) (by kernel_rfl) (by kernel_rfl) (fun _ _ _ h => h) (Or.inl ⟨by rfl, ?hyk8⟩) (by assumption) ?restk8
                                case hyk8 => (intro w hSw; (try dsimp only at hSw); go_simp; (try with_reducible rfl))
                                try simp only [Act.put, List.setIfInBounds_toArray, List.set_cons_zero, List.set_cons_succ]
                                refine wpAnyH_take (i := 9) (v := ?_) (by rw [List.getElem?_toArray]; rfl) (by kernel_rfl) (by kernel_rfl) (by kernel_rfl) (fun _ _ _ h => h) (Or.inl ⟨by rfl, ?hyk9⟩) (by assumption) ?restk9
                                case hyk9 => (intro w hSw; (try dsimp only at hSw); go_simp; (try with_reducible rfl))
                                try simp only [Act.put, List.setIfInBounds_toArray, List.set_cons_zero, List.set_cons_succ]
                                refine wpAnyH_take (i := 10) (v := ?_) (by rw [List.getElem?_toArray]; rfl) (by kernel_rfl) (by kernel_rfl) (by kernel_rfl) (fun _ _ _ h => h) (Or.inl ⟨by rfl, ?hyk10⟩) (by assumption) ?restk10
                                case hyk10 => (intro w hSw; (try dsimp only at hSw); go_simp; (try with_reducible rfl))
                                try simp only [Act.put, List.setIfInBounds_toArray, List.set_cons_zero, List.set_cons_succ]
                                refine wpAnyH_take (i := 11) (v := ?_) (by rw [List.getElem?_toArray]; rfl) (by kernel_rfl) (by kernel_rfl) (by kernel_rfl) (fun _ _ _ h => h) (Or.inl ⟨by rfl, ?hyk11⟩) (by assumption) ?restk11
                                case hyk11 => (intro w hSw; (try dsimp only at hSw); go_simp; (try with_reducible rfl))
                                try simp only [Act.put, List.setIfInBounds_toArray, List.set_cons_zero, List.set_cons_succ]
                                refine wpAnyH_ready (rs := [5]) (by kernel_rfl) (by simp) ?_
                                refine AllReadyH.cons (by rw [List.getElem?_toArray]; rfl) (fun K hK => ?_) AllReadyH.nil
                                go_simp
                                go_at_call 16
                                (with_reducible refine (HRc.out _).mono ?_)
                                rintro e wm ⟨rfl, hkm⟩
                                go_wp2_with fail
                                refine hK.out _ _ (hHeld.trans hkm) (fun hHeld => ?_)
                                clear hK K
                                try simp only [Act.put, List.setIfInBounds_toArray, List.set_cons_zero, List.set_cons_succ]
                                refine wpAnyH_take (i := 12) (v := ?_) (by rw [List.getElem?_toArray]; rfl) (by kernel_rfl) (by kernel_rfl) (by kernel_rfl) (fun _ _ _ h => h) (Or.inl ⟨by rfl, ?hyk12⟩) (by assumption) ?restk12
                                case hyk12 => (intro w hSw; (try dsimp only at hSw); go_simp; (try with_reducible rfl))
                                try simp only [Act.put, List.setIfInBounds_toArray, List.set_cons_zero, List.set_cons_succ]
                                refine wpAnyH_take (i := 13) (v := ?_) (by rw [List.getElem?_toArray]; rfl) (by kernel_rfl) (by kernel_rfl) (by kernel_rfl) (fun _ _ _ h => h) (Or.inl ⟨by rfl, ?hyk13⟩) (by assumption) ?restk13
                                case hyk13 => (intro w hSw; (try dsimp only at hSw); go_simp; (try with_reducible rfl))
                                try simp only [Act.put, List.setIfInBounds_toArray, List.set_cons_zero, List.set_cons_succ]
                                refine wpAnyH_done (by kernel_rfl) ?_ _
                                refine NoPanic.normal ?_
                                have HKf := Lib.hid hHeld
                                clear hHeld hF0 hF1 hk0
                                go_wp2
                                go_ret2
                                exact .inr ⟨.inr HF.out, rfl, HK2.out.kept.trans HKf.out⟩
                          · have hv3 : ¬ ((SS[j]'hlt3).toNat : Int) = 61 := fun e => h61 (by rw [← hat3]; exact UInt8.toNat_inj.1 (by rw [show (61 : UInt8).toNat = 61 from rfl]; omega))
                            have hv3b : (((SS[j]'hlt3).toNat : Int) == 61) = false := by simpa using hv3
                            have HJ2 : Hid (∀ i, i < j + 1 → sl.getD i 0 ≠ 61) := Lib.hid (fun i hi => by
                              by_cases hij : i = j
                              · subst hij; exact h61
                              · exact HJ.out i (by omega))
                            clear hat3 h61
                            go_wp2
                            go_roundw
                            case rel => exact ⟨j + 1, by go_num, by omega, HJ2, trivial⟩
                            case measure => simp [intOf]; omega
                        · have hje : j = zz := by omega
                          have hje2 : ((j : Int) == (zz : Int)) = true := by simp; omega
                          have HF := Lib.hid (HNo.out (read_no3 kk HJ32.out HKr.out HG32.out q HNv.out sl HSl.out (by rw [← HZ.out, ← hje]; exact HJ.out)))
                          have hjl : ¬ (j : Int) < (zz : Int) := by omega
                          clear hje
                          go_wp2
                          go_ret2
                          exact .inr ⟨.inr HF.out, rfl, HI.out.1.kept⟩
                  · have hv1 : ¬ ((S[i1]'hlt2).toNat : Int) = 10 := fun e => h10 (by rw [← hat2]; exact UInt8.toNat_inj.1 (by rw [show (10 : UInt8).toNat = 10 from rfl]; omega))
                    have hv1b : (((S[i1]'hlt2).toNat : Int) == 10) = false := by simpa using hv1
                    have HF := Lib.hid (HN2.out (.inr (.inr (.inl (by rw [Int.toNat_natCast, hrg1]; exact h10)))))
                    clear hat2 h10 hrg1 hi1 hnp2
                    go_wp2
                    go_ret2
                    exact .inr ⟨.inr HF.out, rfl, HI.out.1.kept⟩
          · have hv : ¬ ((S[K]'hlt).toNat : Int) = 32 := fun e => h32 (by rw [← hat]; exact UInt8.toNat_inj.1 (by rw [show (32 : UInt8).toNat = 32 from rfl]; omega))
            have hvb : (((S[K]'hlt).toNat : Int) == 32) = false := by simpa using hv
            have HF := Lib.hid (HNo.out (no_space (K - p) HK.out.1 (.inr ⟨by rcases HK.out.2 with h | h | h; exact absurd h hKe; omega; exact absurd h h32, by rw [HRg.out, show p + (K - p) = K by omega]; exact h32⟩)))
            clear hat h32
            go_wp2
            go_ret2
            exact .inr ⟨.inr HF.out, rfl, HI.out.1.kept⟩
    · have hpe : p = n := by omega
      have HF : Hid (Good L pre ∧ m = pre.length) := Lib.hid ⟨⟨by
        have h := HI.out.2.1
        rw [hpe, HN.out, List.drop_length, List.append_nil] at h
        exact h, HI.out.2.2⟩, HI.out.1.len⟩
      have hpl : ¬ (p : Int) < (n : Int) := by omega
      clear hpe
      go_wp2
      go_ret2
      refine .inl ⟨pre, a, c, HF.out.1, HL6.out, by rw [← HF.out.2]; rfl, by rw [← HF.out.2]; exact HI.out.1⟩
end Go.Proofs.YtclcgiochjibjaaGreatDoor
