/-
  The document's Longest.
-/
import Derived.Test.YtifoldonmmobpaaDoorMatW
namespace Go.Proofs.YtifoldonmmobpaaDoor
open Go.RowKit
set_option linter.unusedVariables false
set_option linter.unusedSimpArgs false

/-- The best so far, as the document keeps it. -/
theorem ans_step (c : Nat → Nat) (D : Nat) : ansN (scanN c 2 (D + 1)) = if 3 ≤ c (D + 1) ∧ (ansN (scanN c 2 D)).1 < c (D + 1) then (c (D + 1), D + 1) else ansN (scanN c 2 D) := by
  have hb := (scan_best c 2 D).le
  obtain ⟨s, hs⟩ : ∃ s, s = scanN c 2 D := ⟨_, rfl⟩
  rw [scanN, ← hs]
  rw [← hs] at hb
  obtain ⟨n, d⟩ := s
  simp only at hb
  by_cases hd : d = 0
  · have hn := hb.2.2.1 hd
    subst hd hn
    have e : ansN (2, 0) = (0, 0) := rfl
    rw [e]
    by_cases h : 2 < c (D + 1)
    · rw [if_pos h, if_pos h, if_pos ⟨by omega, by show 0 < _; omega⟩, ansN, if_neg (by simp)]
    · rw [if_neg h, if_neg h, if_neg (by omega)]
      rfl
  · have hn := hb.2.2.2 hd
    have e : ansN (n, d) = (n, d) := by rw [ansN, if_neg hd]
    rw [e]
    by_cases h : n < c (D + 1)
    · rw [if_pos h, if_pos h, if_pos ⟨by omega, h⟩, ansN, if_neg (by simp)]
    · rw [if_neg h, if_neg h, if_neg (fun g => h g.2), e]
theorem ba_get (l : List UInt8) (S : ByteArray) (hS : S = ⟨l.toArray⟩) (i : Nat) (h : i < S.size) : (S[i]'h) = l.getD i 0 := by
  subst hS
  have h2 : i < l.length := h
  have : l.getD i 0 = l[i] := by simp [List.getD, h2]
  rw [this]
  rfl
set_option maxRecDepth 20000 in
set_option maxHeartbeats 8000000 in
theorem rlong_any (S : ByteArray) (L : List UInt8) (n : Nat) (at_ : Int) (w : World) (hS : S = ⟨L.toArray⟩) (hn : n = L.length) (hn3 : n ≤ 32768) (hlo : -9223372036854775808 ≤ at_) (hhi : at_ ≤ 9223372036854775807) :
    Calls Tryd.prog 13 #[.string S, .int .i64 at_] w fun e w' => e = .returned (.tuple #[.int .i64 ((longV L at_).1 : Int), .int .i64 ((longV L at_).2 : Int)]) ∧ Kept NoB w w' := by
  have hSz : S.size = n := by rw [hS, hn]; rfl
  have hSat := ba_get L S hS
  clear hS
  by_cases hout : at_ < 0 ∨ (n : Int) ≤ at_
  · have hv : longV L at_ = (0, 0) := by rw [longV, if_pos (by omega)]
    rw [hv]
    clear hv hSat hn
    have hex : at_ < 0 ∨ (¬ at_ < 0 ∧ (n : Int) ≤ at_) := by omega
    clear hout
    rcases hex with h1 | ⟨h1, h2⟩
    all_goals
      go_enter Tryd.func13, Tryd.ntmps13
      go_wp2
      go_ret2
      exact ⟨rfl, Kept.refl _ _⟩
  · obtain ⟨a, rfl⟩ : ∃ a : Nat, at_ = (a : Int) := ⟨at_.toNat, by omega⟩
    have hv : longV L (a : Int) = longN L a := by rw [longV, if_neg (by omega)]; rfl
    have ha : a < n := by omega
    have h1 : ¬ (a : Int) < 0 := by omega
    have h2 : ¬ (n : Int) ≤ (a : Int) := by omega
    rw [hv, longN, show min a 32768 = a by omega]
    obtain ⟨f, hf⟩ : ∃ f, f = candN L a := ⟨_, rfl⟩
    rw [← hf]
    have HF := Lib.hid hf; have HSat := Lib.hid hSat; have HN := Lib.hid hn
    clear hout hlo hhi hv hf hSat hn
    go_enter Tryd.func13, Tryd.ntmps13
    go_wp2_with fail
    go_loopw [6, 7, 8] (fun v6 v7 v8 wr => ∃ (N D d : Nat), v6 = .int .i64 (N : Int) ∧ v7 = .int .i64 (D : Int) ∧ v8 = .int .i64 (d : Int) ∧ 1 ≤ d ∧ d ≤ a + 1 ∧ Hid (ansN (scanN f 2 (d - 1)) = (N, D)) ∧ Hid (Kept NoB w wr)) (fun _ _ v8 _ => a + 1 - (intOf v8).toNat)
    case atStart => exact ⟨0, 0, 1, rfl, rfl, rfl, by omega, by omega, Lib.hid rfl, Lib.hid (Kept.refl _ _)⟩
    case round =>
      obtain ⟨N, D, d, rfl, rfl, rfl, hd1, hda, HA, HK⟩ := hrel
      by_cases hle : d ≤ a
      · have hle1 : (d : Int) ≤ (a : Int) := by omega
        have hle2 : (d : Int) ≤ 32768 := by omega
        obtain ⟨x, hx⟩ : ∃ x, x = candN L a d := ⟨_, rfl⟩
        have hx2 := hx
        rw [candN, mostN, ← HN.out] at hx2
        obtain ⟨p, hp⟩ : ∃ p, p = a - d := ⟨_, rfl⟩
        obtain ⟨m, hm⟩ : ∃ m, m = min 258 (n - a) := ⟨_, rfl⟩
        rw [← hp, ← hm] at hx2
        have HX : Hid (x = 0 + shr L (p + 0) (a + 0) (m - 0)) := Lib.hid (by rw [hx2]; simp)
        have HXf : Hid (x = f d) := Lib.hid (by rw [hx, HF.out])
        have HAp : Hid (a = p + d) := Lib.hid (by omega)
        have HM := Lib.hid hm
        have hm2 : m ≤ 258 ∧ m ≤ n - a := by omega
        clear hx hx2 hp hm
        go_upto_block 2 with fail
        go_cut [9] from 27 to 54 (fun v9 wx => v9 = .int .i64 (x : Int) ∧ Hid (Kept NoB w wx))
        case first =>
          go_wp2_with fail
          go_loopw [9] (fun v9 wq => ∃ k : Nat, v9 = .int .i64 (k : Int) ∧ k ≤ m ∧ Hid (x = k + shr L (p + k) (a + k) (m - k)) ∧ Hid (Kept NoB w wq)) (fun v9 _ => 300 - (intOf v9).toNat)
          case atStart => exact ⟨0, rfl, by omega, HX, HK⟩
          case round =>
            clear HX HK
            obtain ⟨k, rfl, hk, HX, HK⟩ := hrel
            obtain ⟨u, hu⟩ : ∃ u, u = a + k := ⟨_, rfl⟩
            obtain ⟨q, hq⟩ : ∃ q, q = p + k := ⟨_, rfl⟩
            have hw1 : IntKind.i64.wrap ((a : Int) + (k : Int)) = (u : Int) := by rw [hu]; exact (IntWalk.i64_in _ (by omega)).trans (by omega)
            have hw2 : IntKind.i64.wrap ((u : Int) - (d : Int)) = (q : Int) := by have := HAp.out; rw [hu, hq]; exact (IntWalk.i64_in _ (by omega)).trans (by omega)
            by_cases hkm : k < m
            · have g1' : (k : Int) < 258 := by omega
              have g1 : decide ((k : Int) < 258) = true := decide_eq_true g1'
              have g2' : (u : Int) < (n : Int) := by omega
              have g2 : decide ((u : Int) < (n : Int)) = true := decide_eq_true g2'
              have g3 : (q : Int) < (n : Int) := by have := HAp.out; omega
              have c1 : ∀ W : World, (Instr.index 9 (.string S) (.int .i64 (u : Int))).run Tryd.prog W = .ok (.int .u8 ((L.getD u 0).toNat : Int)) W := fun W => by
                rw [run_index_string W _ _ _ _ Tryd.underlying9, dif_pos ⟨by omega, by rw [hSz]; exact g2'⟩]
                have := HSat.out u (by omega)
                rw [← this]
                rfl
              have c2 : ∀ W : World, (Instr.index 9 (.string S) (.int .i64 (q : Int))).run Tryd.prog W = .ok (.int .u8 ((L.getD q 0).toNat : Int)) W := fun W => by
                rw [run_index_string W _ _ _ _ Tryd.underlying9, dif_pos ⟨by omega, by rw [hSz]; exact g3⟩]
                have := HSat.out q (by omega)
                rw [← this]
                rfl
              by_cases he : L.getD (p + k) 0 = L.getD (a + k) 0
              · have HX2 := Lib.hid (shr_go HX.out hkm he)
                rw [← hq, ← hu] at he
                rw [he] at c2
                generalize ((L.getD u 0).toNat : Int) = y at c1 c2
                have HU := Lib.hid hu; have HQ := Lib.hid hq
                clear he HX hu hq
                go_upto_region 8 with fail
                go_quiet (fail)
                have HK2 := Lib.hid (HK.out.drewN nq)
                go_wp2
                go_roundw
                case rel => exact ⟨k + 1, by go_num, by omega, HX2, HK2⟩
                case measure => simp [intOf]; omega
              · have HX2 := Lib.hid (shr_out HX.out hkm he)
                rw [← hu, ← hq] at he
                have hne : (((L.getD u 0).toNat : Int) == ((L.getD q 0).toNat : Int)) = false := by
                  rw [beq_eq_false_iff_ne]
                  intro h
                  exact he (UInt8.toNat.inj (by omega))
                generalize ((L.getD u 0).toNat : Int) = y at c1 hne
                generalize ((L.getD q 0).toNat : Int) = y2 at c2 hne
                have HU := Lib.hid hu; have HQ := Lib.hid hq
                clear he HX hu hq
                go_upto_region 8 with fail
                go_quiet (fail)
                have HK2 := Lib.hid (HK.out.drewN nq)
                go_wp2
                go_meet
                exact ⟨by rw [HX2.out], HK2⟩
            · have HX2 := Lib.hid (shr_all HX.out (show k = m by omega))
              have HU := Lib.hid hu; have HQ := Lib.hid hq
              have hux : k = 258 ∨ (k < 258 ∧ u = n) := by have := HM.out; omega
              clear HX hu hq
              rcases hux with h | ⟨h, h2⟩
              · have g1 : decide ((k : Int) < 258) = false := decide_eq_false (by omega)
                clear h
                go_upto_region 8 with fail
                go_quiet (fail)
                have HK2 := Lib.hid (HK.out.drewN nq)
                go_wp2
                go_meet
                exact ⟨by rw [HX2.out], HK2⟩
              · have g1 : decide ((k : Int) < 258) = true := decide_eq_true (by omega)
                have g1' : (k : Int) < 258 := by omega
                have g2' : ¬ (u : Int) < (n : Int) := by omega
                have g2 : decide ((u : Int) < (n : Int)) = false := decide_eq_false g2'
                clear h h2
                go_upto_region 8 with fail
                go_quiet (fail)
                have HK2 := Lib.hid (HK.out.drewN nq)
                go_wp2
                go_meet
                exact ⟨by rw [HX2.out], HK2⟩
        case rest =>
        obtain ⟨rfl, HK2⟩ := hcut
        have hst := ans_step f (d - 1)
        rw [show d - 1 + 1 = d by omega, ← HXf.out, HA.out] at hst
        simp only at hst
        by_cases hup : 3 ≤ x ∧ N < x
        · rw [if_pos hup] at hst
          obtain ⟨u1, u2⟩ := hup
          have u1' : (3 : Int) ≤ (x : Int) := by omega
          have u2' : (N : Int) < (x : Int) := by omega
          have HSt := Lib.hid hst
          clear hst
          go_wp2
          go_roundw
          case rel => exact ⟨x, d, d + 1, rfl, rfl, by go_num, by omega, by omega, HSt, HK2⟩
          case measure => simp [intOf]; omega
        · rw [if_neg hup] at hst
          have HSt := Lib.hid hst
          have hex : ¬ (3 : Int) ≤ (x : Int) ∨ ((3 : Int) ≤ (x : Int) ∧ ¬ (N : Int) < (x : Int)) := by omega
          clear hst hup
          rcases hex with u1 | ⟨u1, u2⟩
          all_goals
            go_wp2
            go_roundw
            case rel => exact ⟨N, D, d + 1, rfl, rfl, by go_num, by omega, by omega, HSt, HK2⟩
            case measure => simp [intOf]; omega
      · have hde : d = a + 1 := by omega
        have HA2 : Hid (ansN (scanN f 2 a) = (N, D)) := Lib.hid (by have := HA.out; rwa [hde] at this)
        have hnle : ¬ (d : Int) ≤ (a : Int) := by omega
        clear HA hde
        go_wp2
        go_ret2
        exact ⟨by rw [HA2.out]; rfl, HK.out⟩
end Go.Proofs.YtifoldonmmobpaaDoor
