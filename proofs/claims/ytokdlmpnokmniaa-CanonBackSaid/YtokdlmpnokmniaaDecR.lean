/-
  Decoder.Read: the place whose code comes next.
-/
import Derived.Test.YtokdlmpnokmniaaNewB
import Derived.Test.YtokdlmpnokmniaaBitsC
import Derived.Test.YtokdlmpnokmniaaMask
namespace Go.Proofs.Ytokdlmpnokmniaa
open Go.RowKit
set_option linter.unusedVariables false
set_option linter.unusedSimpArgs false

theorem and1_u32d (r : Nat) (h : r < 4294967296) : bits .and .u32 (r : Int) 1 = ((r % 2 : Nat) : Int) := by
  have := u32_and_nat r 1 h (by decide)
  rw [nat_mask1] at this
  exact this
theorem rank_at : ∀ (ls : List Int) (z : Int) (k : Nat), k < ls.count z → ∃ j, j < ls.length ∧ ls.getD j 0 = z ∧ (ls.take j).count z = k
  | [], z, k, h => by simp at h
  | y :: r, z, k, h => by
    rw [List.count_cons] at h
    by_cases e : y = z
    · subst e
      cases k with
      | zero => exact ⟨0, by simp, rfl, by simp⟩
      | succ k =>
        simp at h
        obtain ⟨j, h1, h2, h3⟩ := rank_at r y k h
        exact ⟨j + 1, by simpa using h1, by simpa using h2, by rw [List.take_succ_cons, List.count_cons, h3]; simp⟩
    · have e2 : (y == z) = false := by simpa using e
      rw [e2] at h
      simp at h
      obtain ⟨j, h1, h2, h3⟩ := rank_at r z k h
      exact ⟨j + 1, by simpa using h1, by simpa using h2, by rw [List.take_succ_cons, List.count_cons, h3, e2]; simp⟩
/-- The first n bits, the first one the highest. -/
def codeN (v : Nat) : Nat → Nat
  | 0 => 0
  | n + 1 => codeN v n * 2 + v / 2 ^ n % 2
theorem codeN_lt (v : Nat) : ∀ n, codeN v n < 2 ^ n
  | 0 => by simp [codeN]
  | n + 1 => by have := codeN_lt v n; simp only [codeN, Nat.pow_succ]; omega
/-- No place of length m has these bits for its code. -/
def NoAt (ls : List Int) (v m : Nat) : Prop := ∀ j, j < ls.length → ls.getD j 0 = (m : Int) → codeAt ls j ≠ (codeN v m : Int)
theorem codeAt_of (ls : List Int) (m j : Nat) (hm : 1 ≤ m) (hz : ls.getD j 0 = (m : Int)) : codeAt ls j = fC (cntsL ls) m + (((ls.take j).count (m : Int) : Nat) : Int) := by
  unfold codeAt
  rw [if_pos (by omega), hz, Int.toNat_natCast]
theorem hit_at (ls : List Int) (v m : Nat) (hm : 1 ≤ m) (h0 : 0 ≤ (codeN v m : Int) - fC (cntsL ls) m) (h1 : (codeN v m : Int) - fC (cntsL ls) m < ((ls.count (m : Int) : Nat) : Int)) :
    ∃ j, j < ls.length ∧ ls.getD j 0 = (m : Int) ∧ codeAt ls j = (codeN v m : Int) ∧ posAt ls j = sN (cnt0 ls) m + ((codeN v m : Int) - fC (cntsL ls) m) := by
  obtain ⟨k, hk⟩ : ∃ k : Nat, (codeN v m : Int) - fC (cntsL ls) m = (k : Int) := ⟨((codeN v m : Int) - fC (cntsL ls) m).toNat, by omega⟩
  obtain ⟨j, h2, h3, h4⟩ := rank_at ls (m : Int) k (by omega)
  refine ⟨j, h2, h3, ?_, ?_⟩
  · rw [codeAt_of ls m j hm h3, h4]; omega
  · unfold posAt; rw [h3, Int.toNat_natCast, h4, hk]
theorem no_at (ls : List Int) (v m : Nat) (hm : 1 ≤ m) (h : ¬ (0 ≤ (codeN v m : Int) - fC (cntsL ls) m ∧ (codeN v m : Int) - fC (cntsL ls) m < ((ls.count (m : Int) : Nat) : Int))) : NoAt ls v m := by
  intro j hj hz e
  rw [codeAt_of ls m j hm hz] at e
  have h1 := count_step ls j hj
  have h2 := count_all ls (m : Int) (j + 1)
  rw [hz] at h1
  omega
/-- What Read tells, and where the reader is then. -/
def ReadS (ls : List Int) (T v p : Nat) (s f : Int) (q : Nat) : Prop :=
  (∃ n i : Nat, 1 ≤ n ∧ n ≤ T ∧ i < ls.length ∧ ls.getD i 0 = (n : Int) ∧ codeAt ls i = (codeN v n : Int) ∧ (∀ m, 1 ≤ m → m < n → NoAt ls v m) ∧ s = (i : Int) ∧ f = 0 ∧ q = p + n) ∨
  ((∀ m, 1 ≤ m → m ≤ T → NoAt ls v m) ∧ s = 0 ∧ f = (if kindS ls = 3 ∨ (T = 0 ∧ 0 < sN (cnt0 ls) 16) then 2 else 3) ∧ q = p)
/-- A Decoder below block B. -/
structure DecB (ls : List Int) (D B : Nat) (w : World) : Prop where
  lt : D < B
  all : ∃ pa P pc, DecSt D w (cnt0 ls) (firstsP (cntsL ls) 16) (fromP (cnt0 ls) 16) (.slice pa P.length pc) (kindS ls == 3) ∧ RdI w B pa P ∧ ((P.length : Nat) : Int) = sN (cnt0 ls) 16 ∧
    ∀ i, i < ls.length → 0 < ls.getD i 0 → P.getD (posAt ls i).toNat 0 = (i : Int)
theorem DecAll.toB {ls : List Int} {D : Nat} {w : World} (h : DecAll ls D w) : DecB ls D w.heap.size w := by
  obtain ⟨pa, P, pc, h1, h2, h3, h4⟩ := h.all
  exact ⟨obj_lt h1.obj, pa, P, pc, h1, h2, h3, h4⟩
theorem DecB.kept {S : Nat → Prop} {ls : List Int} {D B : Nat} {w w' : World} (h : DecB ls D B w) (hk : Kept S w w') (hs : ∀ k, k < B → ¬ S k) : DecB ls D B w' := by
  obtain ⟨pa, P, pc, h1, h2, h3, h4⟩ := h.all
  exact ⟨h.lt, pa, P, pc, h1.kept hk (hs D h.lt), h2.kept hk hs, h3, h4⟩

set_option maxRecDepth 20000 in
set_option maxHeartbeats 4000000 in
theorem read_calls (ls : List Int) (D B R : Nat) (ao : Option Addr) (cap : Nat) (bs : List Int) (p T : Nat) (w : World) (hd : DecB ls D B w) (hr : Rdr w R ao cap bs p) (hBR : B ≤ R) (hs : Small 15 ls) (hl : ls.length ≤ 320) (hT : min3 15 (8 * bs.length - p) = T) :
    Calls Try.prog 14 #[.pointer (some ⟨D, 0, none⟩), .pointer (some ⟨R, 0, none⟩)] w fun e w' => ∃ (s f : Int) (q : Nat), e = .returned (.tuple #[.int .i64 s, .int .i64 f]) ∧ ReadS ls T (bitsAt bs p T) p s f q ∧ Rdr w' R ao cap bs q ∧ Kept (OneB R) w w' := by
  have hT15 : T ≤ 15 ∧ p + T ≤ 8 * bs.length := by
    have := hr.2.2.2.1
    unfold min3 at hT; omega
  have HPk := Lib.hid (peek_any w R ao cap bs p 15 hr T hT)
  have hvl := bitsAt_lt bs p T
  obtain ⟨v, hv⟩ : ∃ v, v = bitsAt bs p T := ⟨_, rfl⟩
  rw [← hv] at HPk hvl ⊢
  have hv2 : v < 32768 := Nat.lt_of_lt_of_le hvl (by have := Nat.pow_le_pow_right (n := 2) (by decide) hT15.1; simpa using this)
  obtain ⟨hDB, pa, P, pc, hD, hP, hM, hPos⟩ := hd
  have HD := Lib.hid hD; have HP := Lib.hid hP; have HMl := Lib.hid hM; have HPos := Lib.hid hPos; have HRd := Lib.hid hr; have HS := Lib.hid hs
  have hT1 := hT15.1
  have hT2 := hT15.2
  clear hv hvl hD hP hM hPos hr hT hT15 hs
  go_enter Try.func14, Try.ntmps14
  go_wp2_with fail
  refine HPk.out.mono ?_
  rintro e w1 ⟨rfl, hk⟩
  have HK1 := Lib.hid hk
  clear hk
  go_wp2
  go_loopw [9, 8, 6, 10] (fun v9 v8 v6 _v10 wr => ∃ m : Nat, v9 = .int .i64 ((m : Int) + 1) ∧ v8 = .int .i64 (codeN v m : Int) ∧ v6 = .int .u32 ((v / 2 ^ m : Nat) : Int) ∧ m ≤ T ∧ Hid (∀ k, 1 ≤ k → k ≤ m → NoAt ls v k) ∧ Hid (Kept NoB w wr)) (fun v9 _ _ _ _ => T + 1 - (intOf v9).toNat)
  case atStart => exact ⟨0, rfl, rfl, by simp, by omega, Lib.hid (fun k h1 h2 => by omega), HK1⟩
  case round =>
    obtain ⟨m, rfl, rfl, rfl, hm, HNo, HK⟩ := hrel
    by_cases hlt : (m : Int) + 1 ≤ T
    · obtain ⟨q, hq⟩ : ∃ q : Nat, q = m + 1 := ⟨_, rfl⟩
      have hq2 : (m : Int) + 1 = (q : Int) := by omega
      have hq15 : q < 16 := by omega
      have hcl := codeN_lt v m
      have hpw : 2 ^ m ≤ 2 ^ 14 := Nat.pow_le_pow_right (by decide) (by omega)
      have hcs : codeN v q = codeN v m * 2 + v / 2 ^ m % 2 := by rw [hq]; rfl
      have hsh : v / 2 ^ q = v / 2 ^ m / 2 := by rw [hq, Nat.pow_succ, Nat.div_div_eq_div_mul]
      have hxl : v / 2 ^ m ≤ v := Nat.div_le_self _ _
      obtain ⟨X, hX⟩ : ∃ X, X = v / 2 ^ m := ⟨_, rfl⟩
      rw [← hX] at hcs hsh hxl ⊢
      obtain ⟨cm, hcm⟩ : ∃ cm, cm = codeN v m := ⟨_, rfl⟩
      rw [← hcm] at hcs hcl ⊢
      have e1 : bits .and .u32 (X : Int) 1 = ((X % 2 : Nat) : Int) := and1_u32d X (by omega)
      obtain ⟨b, hb⟩ : ∃ b, b = X % 2 := ⟨_, rfl⟩
      have hb2 : b < 2 := by omega
      rw [← hb] at e1 hcs
      have e2 : IntKind.i64.wrap (b : Int) = (b : Int) := IntWalk.i64_in _ (by omega)
      obtain ⟨cq, hcq⟩ : ∃ cq, cq = codeN v q := ⟨_, rfl⟩
      rw [← hcq] at hcs
      have e3 : (cm : Int) * 2 + (b : Int) = (cq : Int) := by omega
      obtain ⟨Y, hY⟩ : ∃ Y, Y = X / 2 := ⟨_, rfl⟩
      have e4 : ((X : Nat) : Int) / 2 = (Y : Int) := by omega
      rw [← hY] at hsh
      have hcq2 : cq < 100000 := by omega
      have d1 := (HD.out.kept HK.out (fun h => h)).atF q hq15
      rw [firstsP_get _ _ hq15] at d1
      have d2 := (HD.out.kept HK.out (fun h => h)).atC q hq15
      rw [cnt0_get _ _ hq15, if_neg (by omega)] at d2
      have hfb := fC_bd (cntsL ls) (cnts_bd ls hl) q (by omega)
      have hcb := List.count_le_length (l := ls) (a := (q : Int))
      have hhit := hit_at ls v q (by omega)
      have hno := no_at ls v q (by omega)
      rw [← hcq] at hhit hno
      obtain ⟨fq, hfq⟩ : ∃ fq, fq = fC (cntsL ls) q := ⟨_, rfl⟩
      obtain ⟨nq', hnq⟩ : ∃ c, c = ls.count (q : Int) := ⟨_, rfl⟩
      rw [← hfq] at d1 hfb hhit hno
      rw [← hnq] at d2 hcb hhit hno
      have e5 : IntKind.i64.wrap ((cq : Int) - fq) = (cq : Int) - fq := IntWalk.i64_in _ (by omega)
      have HHit := Lib.hid hhit; have HNoq := Lib.hid hno; have HQ := Lib.hid hq; have HSh := Lib.hid hsh; have HCq := Lib.hid hcq
      have b1 : (q : Int) < 16 := by omega
      have HX := Lib.hid hX
      rw [hq2] at hlt ⊢
      clear hhit hno hq hsh hX hY hcm hb hcs hcq hfq hnq hpw hq2 hcl
      by_cases h0 : 0 ≤ (cq : Int) - fq
      · by_cases h1 : (cq : Int) - fq < (nq' : Int)
        · obtain ⟨j, hj, hz, hca, hpo⟩ := HHit.out h0 h1
          have HJ := Lib.hid (show ReadS ls T v p (j : Int) 0 (p + q) from .inl ⟨q, j, by have := HQ.out; omega, by omega, hj, hz, by rw [← HCq.out]; exact hca, fun k h1 h2 => HNo.out k h1 (by have := HQ.out; omega), rfl, rfl, rfl⟩)
          have hTk := take_yes wr R ao cap bs p q (HRd.out.keptNo HK.out) (by omega) (by omega)
          have hg0 : decide (0 ≤ (cq : Int) - fq) = true := decide_eq_true h0
          have hg1 : decide ((cq : Int) - fq < (nq' : Int)) = true := decide_eq_true h1
          have HTk := Lib.hid hTk
          have HPo := Lib.hid hpo; have HZj := Lib.hid hz; have HJl := Lib.hid hj
          clear hTk hj hz hca hpo
          go_wp2_with fail
          refine HTk.out.mono ?_
          rintro e w3 ⟨rfl, hr3, hk3⟩
          have hko : Kept (OneB R) w w3 := (HK.out.mono (fun _ _ h => h.elim)).trans hk3
          have hsb : ∀ k, k < B → ¬ OneB R k := fun k h e => by unfold OneB at e; omega
          have hD3 := HD.out.kept hko (hsb D hDB)
          have hP3 := HP.out.kept hko hsb
          have x0 := hD3.atP
          have x1 := hD3.atM q hq15
          rw [fromP_get _ _ _ hq15 hq15] at x1
          have hjb := HS.out.getD j HJl.out
          have hpos := pos_in ls hl j q HJl.out HZj.out (by have := HQ.out; omega) hq15
          obtain ⟨pN, hpN⟩ : ∃ pN : Nat, (pN : Int) = posAt ls j := ⟨(posAt ls j).toNat, by have := sN_bd ls hl q; omega⟩
          have hpl : pN < P.length := by have := HMl.out; omega
          have hpv : P.getD pN 0 = (j : Int) := by
            have := HPos.out j HJl.out (by rw [HZj.out]; have := HQ.out; omega)
            rw [← hpN, Int.toNat_natCast] at this
            exact this
          obtain ⟨g, off, rfl, _, x2⟩ := hP3 pN hpl
          rw [hpv] at x2
          have hsb2 := sN_bd ls hl q
          have hpo := HPo.out
          rw [← hpN] at hpo
          obtain ⟨sq, hsq⟩ : ∃ sq, sq = sN (cnt0 ls) q := ⟨_, rfl⟩
          rw [← hsq] at hpo x1 hsb2
          have e6 : IntKind.i64.wrap (sq + ((cq : Int) - fq)) = (pN : Int) := by rw [IntWalk.i64_in _ (by omega)]; omega
          have b2 : (pN : Int) < (P.length : Int) := by omega
          obtain ⟨Pl, hPl⟩ : ∃ Pl, Pl = P.length := ⟨_, rfl⟩
          rw [← hPl] at x0 b2 hpl
          have HR3 := Lib.hid hr3; have HKo := Lib.hid hko
          clear hko hsb hD3 hP3 hjb hpos hpN hpv hsb2 hpo hsq hPl hk3 hr3 d1 d2
          go_upto_region 11 with fail
          go_quiet (fail)
          have hkd : Kept NoB w3 (w3.drewN nq) := (Kept.refl NoB w3).drewN nq
          have HR4 := Lib.hid (HR3.out.keptNo hkd); have HK4 := Lib.hid (HKo.out.trans (hkd.mono (fun _ _ h => h.elim)))
          clear hkd
          go_wp2
          go_ret2
          exact ⟨_, _, _, rfl, HJ.out, HR4.out, HK4.out⟩
        · have hg0 : decide (0 ≤ (cq : Int) - fq) = true := decide_eq_true h0
          have hg1 : decide ((cq : Int) - fq < (nq' : Int)) = false := decide_eq_false h1
          have hn2 := HNoq.out (by omega)
          have hall : ∀ k, 1 ≤ k → k ≤ q → NoAt ls v k := fun k h1 h2 => by
            by_cases e : k = q
            · subst e; exact hn2
            · exact HNo.out k h1 (by have := HQ.out; omega)
          have HAll := Lib.hid hall
          clear hn2 hall
          go_wp2
          go_roundw
          case rel => exact ⟨q, by go_num, by rw [HCq.out], by rw [HSh.out], by omega, HAll, HK⟩
          case measure => have := HQ.out; simp [intOf]; omega
      · have hg0 : decide (0 ≤ (cq : Int) - fq) = false := decide_eq_false h0
        have hn2 := HNoq.out (by omega)
        have hall : ∀ k, 1 ≤ k → k ≤ q → NoAt ls v k := fun k h1 h2 => by
          by_cases e : k = q
          · subst e; exact hn2
          · exact HNo.out k h1 (by have := HQ.out; omega)
        have HAll := Lib.hid hall
        clear hn2 hall
        go_wp2
        go_roundw
        case rel => exact ⟨q, by go_num, by rw [HCq.out], by rw [HSh.out], by omega, HAll, HK⟩
        case measure => have := HQ.out; simp [intOf]; omega
    · have hmT : m = T := by omega
      subst hmT
      have hD4 := HD.out.kept HK.out (fun h => h)
      have x0 := hD4.atP
      have x1 := hD4.atB
      have hml := HMl.out
      obtain ⟨Pl, hPl⟩ : ∃ Pl, Pl = P.length := ⟨_, rfl⟩
      rw [← hPl] at x0 hml
      have HNo2 := Lib.hid (show ∀ f : Int, f = (if kindS ls = 3 ∨ (m = 0 ∧ 0 < sN (cnt0 ls) 16) then 2 else 3) → ReadS ls m v p 0 f p from fun f hf => .inr ⟨HNo.out, rfl, hf, rfl⟩)
      have HPl := Lib.hid hml
      have HKd := Lib.hid (show (kindS ls == 3) = (kindS ls == 3) from rfl)
      by_cases hk3 : kindS ls = 3
      · have hb : (kindS ls == 3) = true := by simpa using hk3
        rw [hb] at x1
        have HF := Lib.hid (HNo2.out 2 (by rw [if_pos (.inl hk3)]))
        clear hk3 hb hml hPl hD4
        go_wp2
        go_ret2
        exact ⟨0, 2, rfl, _, HF.out, HRd.out.keptNo HK.out, HK.out.mono (fun _ _ h => h.elim)⟩
      · have hb : (kindS ls == 3) = false := by simpa using hk3
        rw [hb] at x1
        by_cases hm0 : m = 0
        · have g1 : ((m : Int) == 0) = true := by simp; omega
          by_cases hp0 : (0 : Int) < (Pl : Int)
          · have HF := Lib.hid (HNo2.out 2 (by rw [if_pos (.inr ⟨hm0, by omega⟩)]))
            have g2 : decide ((0 : Int) < (Pl : Int)) = true := decide_eq_true hp0
            clear hk3 hb hml hPl hD4 hm0
            go_wp2
            go_ret2
            exact ⟨0, 2, rfl, _, HF.out, HRd.out.keptNo HK.out, HK.out.mono (fun _ _ h => h.elim)⟩
          · have HF := Lib.hid (HNo2.out 3 (by rw [if_neg (fun h => by rcases h with h | h; exact hk3 h; omega)]))
            have g2 : decide ((0 : Int) < (Pl : Int)) = false := decide_eq_false hp0
            clear hk3 hb hml hPl hD4 hm0
            go_wp2
            go_ret2
            exact ⟨0, 3, rfl, _, HF.out, HRd.out.keptNo HK.out, HK.out.mono (fun _ _ h => h.elim)⟩
        · have g1 : ((m : Int) == 0) = false := by simp; omega
          have HF := Lib.hid (HNo2.out 3 (by rw [if_neg (fun h => by rcases h with h | h; exact hk3 h; omega)]))
          clear hk3 hb hml hPl hD4
          go_wp2
          go_ret2
          exact ⟨0, 3, rfl, _, HF.out, HRd.out.keptNo HK.out, HK.out.mono (fun _ _ h => h.elim)⟩
end Go.Proofs.Ytokdlmpnokmniaa
