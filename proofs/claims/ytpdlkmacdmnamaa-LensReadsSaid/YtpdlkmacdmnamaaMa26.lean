/-
  The document's own way to read a place by lengths.
-/
import Derived.Test.YtpdlkmacdmnamaaMa25
namespace Go.Proofs.Ytpdlkmacdmnamaa
open Go.RowKit
set_option linter.unusedVariables false
set_option linter.unusedSimpArgs false

theorem err_of {ls : List Int} (h1 : MayL ls) (h2 : refS ls = 0) : errS ls = 0 := by
  unfold errS kindA
  rw [if_pos h1]
  unfold refS at h2
  rcases kindS_of ls with k | k | k | k | k <;> simp [k] at h2 ⊢

set_option maxRecDepth 20000 in
set_option maxHeartbeats 4000000 in
theorem rread_callsG (ls : List Int) (a : Option Addr) (c : Nat) (S : Nat → Prop) (R : Nat) (bs : List Int) (p T : Nat) (w : World) (hr : Rfb w R bs p) (hx : RdG w S a ls) (hBR : ¬ S R) (hs : Small 15 ls) (hl : ls.length ≤ 320) (hok : refS ls = 0)
    (hT : min3 15 (8 * bs.length - p) = T) :
    Calls Try.prog 35 #[.pointer (some ⟨R, 0, none⟩), .slice a ls.length c] w fun e w' => ∃ (s f : Int) (q : Nat), e = .returned (.tuple #[.int .i64 s, .int .i64 f]) ∧ ReadS ls T (bitsAt bs p T) p s f q ∧ Rfb w' R bs q ∧ Kept (OneB R) w w' := by
  have hT15 : T ≤ 15 ∧ p + T ≤ 8 * bs.length ∧ (T : Int) = if 15 < 8 * (bs.length : Int) - p then 15 else 8 * (bs.length : Int) - p := by
    have := hr.2.2.2
    unfold min3 at hT; omega
  have hml : min3 (T : Int) (8 * bs.length - p) = T := by unfold min3 at hT ⊢; omega
  have hvl := bitsAt_lt bs p T
  have hlm := hr.2.2.1
  have hall : AllI ls := fun z hz => by have := hs z hz; omega
  have HCd := Lib.hid (rcodes_yes a c _ ls w hx.room hall (err_of ⟨hl, hs⟩ hok))
  have hp8 := hr.2.2.2
  obtain ⟨hT1, hT2, hT3⟩ := hT15
  have HT3 := Lib.hid hT3
  have HMl := Lib.hid hml
  have HOp := Lib.hid (open_iff ls hs hl hok T (bitsAt bs p T))
  have HSt : Hid (∀ i n : Nat, i < ls.length → ls.getD i 0 = (n : Int) → 1 ≤ n → n ≤ T → codeAt ls i = (codeN (bitsAt bs p T) n : Int) → ReadS ls T (bitsAt bs p T) p (i : Int) 0 (p + n)) := Lib.hid (by
    intro i n hi hz h1 h2 hc
    refine .inl ⟨n, i, h1, h2, hi, hz, hc, ?_, rfl, rfl, rfl⟩
    intro m hm1 hm2 j hj hzj e
    obtain ⟨d, rfl⟩ : ∃ d, n = m + d := ⟨n - m, by omega⟩
    have hne : j ≠ i := by
      rintro rfl
      rw [hz] at hzj; omega
    have hfr := (code_free ls hl hs j i hj hi hne (by omega) d (by rw [hzj, hz]; omega)).1
    rw [hc, codeN_pre_int, ← e] at hfr
    exact hfr rfl)
  obtain ⟨v, hv⟩ : ∃ v, v = bitsAt bs p T := ⟨_, rfl⟩
  rw [← hv] at hvl HOp HSt ⊢
  have HV := Lib.hid hv
  have hv2 : v < 32768 := Nat.lt_of_lt_of_le hvl (by have := Nat.pow_le_pow_right (n := 2) (by decide) hT1; simpa using this)
  have HRf := Lib.hid hr; have HX := Lib.hid hx; have HS := Lib.hid hs
  obtain ⟨n, hn⟩ : ∃ n, n = ls.length := ⟨_, rfl⟩
  have HN := Lib.hid hn
  have hn320 : n ≤ 320 := by omega
  rw [← hn] at HCd ⊢
  clear hr hx hs hn hv hvl hT3 hml hall hok hT hp8
  go_enter Try.func35, Try.ntmps35
  go_wp2_with fail
  refine HCd.out.mono ?_
  intro e w2 hp
  obtain ⟨a4, c4, rfl, ho4, hr4, hk⟩ := codes_read2 hp
  have hne4 := row_ne ho4 (hk.obj HRf.out.1 (fun h => h)) (by decide)
  have hcl : (codesL ls).length = n := by unfold codesL; rw [codesP_len]; exact HN.out.symm
  rw [hcl] at hr4 hne4 ⊢
  have HNe := Lib.hid hne4
  have HR4 := Lib.hid hr4; have HK2 := Lib.hid hk; have HRf2 := Lib.hid (HRf.out.kept hk (fun h => h))
  clear hp hr4 hk hcl HCd ho4 hne4
  go_upto_region 4 with fail
  go_cut [8] from 23 to 26 (fun s wx => s = .int .i64 T ∧ Hid (Kept NoB w2 wx))
  case first =>
    go_wp2_with (go_at_call 33; refine (refLeft_any _ _ _ _ HRf2.out).mono ?_; rintro e w1 ⟨rfl, hk1⟩)
    all_goals go_meet
    all_goals exact ⟨by have := HT3.out; congr 1; omega, Lib.hid hk1⟩
  case rest =>
  obtain ⟨rfl, HK3⟩ := hcut
  have HPk := Lib.hid (refPeek_any wc R bs p (T : Int) (HRf2.out.kept HK3.out (fun h => h)) T HMl.out)
  rw [← HV.out] at HPk
  go_wp2_with fail
  refine HPk.out.mono ?_
  rintro e w4 ⟨rfl, hrf, hk⟩
  have HRf4 := Lib.hid hrf
  have HK4 := Lib.hid ((HK3.out.mono (fun _ _ h => h.elim) : Kept (OneB R) w2 wc).trans hk)
  have HK := Lib.hid ((HK2.out.mono (fun _ _ h => h.elim) : Kept (OneB R) w w2).trans HK4.out)
  clear hrf hk HPk
  go_wp2
  go_loopw [12, 11, 13, 14] (fun v12 v11 _v13 _v14 wr => ∃ (i : Nat) (o : Bool), v12 = .int .i64 (i : Int) ∧ v11 = .bool o ∧ i ≤ n ∧ Hid (o = true ↔ ∃ j, j < i ∧ OpenP ls T v j) ∧ Hid (∀ j m : Nat, j < i → ls.getD j 0 = (m : Int) → 1 ≤ m → m ≤ T → codeAt ls j ≠ (codeN v m : Int)) ∧ Hid (Kept NoB w4 wr)) (fun v12 _ _ _ _ => n - (intOf v12).toNat)
  case atStart => exact ⟨0, false, rfl, rfl, by omega, Lib.hid (by simp), Lib.hid (fun j m h => by omega), Kept.refl _ _⟩
  case round =>
    obtain ⟨i, o, rfl, rfl, hin, HO, HNo, HKr⟩ := hrel
    by_cases hlt : (i : Int) < n
    · have hil : i < ls.length := by have := HN.out; omega
      have hbi := HS.out.getD i hil
      obtain ⟨z, hz⟩ : ∃ z : Nat, ls.getD i 0 = (z : Int) := ⟨(ls.getD i 0).toNat, by omega⟩
      have hrd := (HX.out.kept (HK.out.trans (HKr.out.mono (fun _ _ h => h.elim))) (fun k hk e => by unfold OneB at e; exact hBR (e ▸ hk))) i hil
      obtain ⟨g1, o1, rfl, hg1, d0⟩ := hrd
      obtain ⟨g4, rfl, y0⟩ := HR4.out i (by omega)
      have hK24 : Kept (OneB R) w2 wr := HK4.out.trans (HKr.out.mono (fun _ _ h => h.elim))
      rw [codesL_get _ _ hil] at y0
      have hg4 : g4 ≠ R := HNe.out g4 rfl
      have d1 := (World.cell?_of_block (hK24.block _ (World.block_lt_of_cell? w2 _ y0) (fun e => hg4 e))).trans y0
      rw [hz] at d0 hbi
      have HZ := Lib.hid hz
      have hcb := codeAt_bd ls (by rw [← HN.out]; exact hn320) HS.out i hil
      obtain ⟨ck, hck⟩ : ∃ ck : Nat, codeAt ls i = (ck : Int) := ⟨(codeAt ls i).toNat, by omega⟩
      rw [hck] at d1 hcb
      have HCk := Lib.hid hck; have HIl := Lib.hid hil
      clear hz hck hil y0 hg4 hg1 hK24
      have hNs : ∀ (h : z = 0 ∨ T < z ∨ (1 ≤ z ∧ codeAt ls i ≠ (codeN v z : Int))), Hid (∀ j m : Nat, j < i + 1 → ls.getD j 0 = (m : Int) → 1 ≤ m → m ≤ T → codeAt ls j ≠ (codeN v m : Int)) := fun h => Lib.hid (by
        intro j m hj hzj h1 h2
        by_cases e : j = i
        · subst e
          have hzm : z = m := by have := HZ.out; omega
          subst hzm
          rcases h with h | h | h
          · omega
          · omega
          · exact h.2
        · exact HNo.out j m (by omega) hzj h1 h2)
      have hOs : ∀ (h : ¬ OpenP ls T v i), Hid (o = true ↔ ∃ j, j < i + 1 ∧ OpenP ls T v j) := fun h => Lib.hid (by
        rw [HO.out]
        constructor
        · rintro ⟨j, hj, hp⟩; exact ⟨j, by omega, hp⟩
        · rintro ⟨j, hj, hp⟩
          refine ⟨j, ?_, hp⟩
          by_cases e : j = i
          · subst e; exact absurd hp h
          · omega)
      have HNs := Lib.hid hNs; have HOs := Lib.hid hOs
      clear hNs hOs
      by_cases hz0 : z = 0
      · have HA := Lib.hid (HNs.out (.inl hz0))
        have HB := Lib.hid (HOs.out (fun h => by have := h.1; rw [HZ.out] at this; omega))
        have q0 : ((z : Int) == 0) = true := by simp; omega
        clear hz0
        go_wp2
        go_roundw
        case rel => exact ⟨i + 1, o, by go_num, rfl, by omega, HB.out, HA.out, HKr⟩
        case measure => simp [intOf]; omega
      · have q0 : ((z : Int) == 0) = false := by simp; omega
        obtain ⟨k, hk⟩ : ∃ k, k = min z T := ⟨_, rfl⟩
        obtain ⟨d, hd⟩ : ∃ d, d = z - k := ⟨_, rfl⟩
        have hk15 : k ≤ 15 := by omega
        have hd15 : d ≤ 15 := by omega
        have e1 : IntKind.i64.wrap ((z : Int) - (k : Int)) = (d : Int) := by rw [IntWalk.i64_in _ (by omega)]; omega
        have hrv := fun w0 => refRev_any v k w0 (by omega) (by omega)
        rw [revN_code v k] at hrv
        have HRv := Lib.hid hrv
        have hX := codeN_lt v k
        have hpw : 2 ^ k ≤ 2 ^ 15 := Nat.pow_le_pow_right (by decide) hk15
        have hdiv : ((ck : Nat) : Int) / 2 ^ d = ((ck / 2 ^ d : Nat) : Int) := by push_cast; rfl
        obtain ⟨X, hXe⟩ : ∃ X, X = codeN v k := ⟨_, rfl⟩
        rw [← hXe] at HRv hX
        have HXe := Lib.hid hXe
        have HD := Lib.hid hd; have HKe := Lib.hid hk
        clear hXe hrv hpw
        obtain ⟨Y, hY⟩ : ∃ Y, Y = ck / 2 ^ d := ⟨_, rfl⟩
        have hYb : Y ≤ ck := by rw [hY]; exact Nat.div_le_self _ _
        rw [← hY] at hdiv
        have HY := Lib.hid hY
        clear hY hd
        by_cases hTz : T < z
        · have hkT : k = T := by omega
          subst hkT
          have hTz2 : (k : Int) < (z : Int) := by omega
          clear hTz hk
          have HOp1 : Hid (OpenP ls k v i ↔ Y = X) := Lib.hid (by
            unfold OpenP
            rw [HZ.out, HCk.out, Int.toNat_natCast, ← HD.out, hdiv, ← HXe.out]
            omega)
          have HA := Lib.hid (HNs.out (.inr (.inl (by omega))))
          by_cases hXY : X = Y
          · have q1 : ((X : Int) != (Y : Int)) = false := by simp; omega
            have q2 : ((k : Int) == (z : Int)) = false := by simp; omega
            have HB : Hid (true = true ↔ ∃ j, j < i + 1 ∧ OpenP ls k v j) := Lib.hid ⟨fun _ => ⟨i, by omega, HOp1.out.2 hXY.symm⟩, fun _ => rfl⟩
            clear hXY
            go_upto_region 13 with fail
            go_quiet ((go_at_call 56; exact Calls.quiet_of_same ((HRv.out _).mono fun _ _ h => ⟨h.1, h.2.symm⟩)))
            have HKq := Lib.hid (HKr.out.drewN nq)
            go_wp2
            go_roundw
            case rel => exact ⟨i + 1, true, by go_num, rfl, by omega, HB.out, HA.out, HKq⟩
            case measure => simp [intOf]; omega
          · have q1 : ((X : Int) != (Y : Int)) = true := by simp; omega
            have HB := Lib.hid (HOs.out (fun h => hXY (HOp1.out.1 h).symm))
            clear hXY
            go_upto_region 13 with fail
            go_quiet ((go_at_call 56; exact Calls.quiet_of_same ((HRv.out _).mono fun _ _ h => ⟨h.1, h.2.symm⟩)))
            have HKq := Lib.hid (HKr.out.drewN nq)
            go_wp2
            go_roundw
            case rel => exact ⟨i + 1, o, by go_num, rfl, by omega, HB.out, HA.out, HKq⟩
            case measure => simp [intOf]; omega
        · have hkz : k = z := by omega
          subst hkz
          have hTz2 : ¬ (T : Int) < (k : Int) := by omega
          have hd0 : d = 0 := by have := HD.out; omega
          have hYck : Y = ck := by rw [HY.out, hd0]; simp
          have hnop : ¬ OpenP ls T v i := fun h => by have := h.1; rw [HZ.out] at this; omega
          have HB := Lib.hid (HOs.out hnop)
          clear hk hnop
          by_cases hXY : X = Y
          · have q1 : ((X : Int) != (ck : Int)) = false := by simp; omega
            have q2 : ((k : Int) == (k : Int)) = true := by simp
            have HF := Lib.hid (HSt.out i k HIl.out HZ.out (by omega) (by omega) (by rw [HCk.out, ← hYck, ← hXY, ← HXe.out]))
            clear hXY hYck hd0
            go_upto_region 13 with fail
            go_quiet ((go_at_call 56; exact Calls.quiet_of_same ((HRv.out _).mono fun _ _ h => ⟨h.1, h.2.symm⟩)))
            have HKq := Lib.hid (HKr.out.drewN nq)
            have hR5 := HRf4.out.kept HKq.out (fun h => h)
            have c1 : (wr.drewN nq).cell? ⟨R, 1, none⟩ = some (.int .i64 p) := by simpa using obj_cell hR5.1 1
            have f1 : (wr.drewN nq).frozen? ⟨R, 1, none⟩ = false := obj_free hR5.1 1
            have HR5 := Lib.hid hR5
            clear hR5
            go_wp2
            go_ret2
            have e9 : ((p : Int) + (k : Int)) = ((p + k : Nat) : Int) := by omega
            rw [e9]
            exact ⟨i, 0, rfl, p + k, HF.out, HR5.out.moved (Kept.refl _ _) (by omega), Kept.setCell (S := OneB R) (p := ⟨R, 1, none⟩) (HK.out.trans (HKq.out.mono (fun _ _ h => h.elim))) (.inl rfl) _⟩
          · have q1 : ((X : Int) != (ck : Int)) = true := by simp; omega
            have HA := Lib.hid (HNs.out (.inr (.inr ⟨by omega, by rw [HCk.out, ← hYck, ← HXe.out]; omega⟩)))
            clear hXY hYck hd0
            go_upto_region 13 with fail
            go_quiet ((go_at_call 56; exact Calls.quiet_of_same ((HRv.out _).mono fun _ _ h => ⟨h.1, h.2.symm⟩)))
            have HKq := Lib.hid (HKr.out.drewN nq)
            go_wp2
            go_roundw
            case rel => exact ⟨i + 1, o, by go_num, rfl, by omega, HB.out, HA.out, HKq⟩
            case measure => simp [intOf]; omega
    · have hin2 : i = n := by omega
      subst hin2
      have hno : ∀ m, 1 ≤ m → m ≤ T → NoAt ls v m := fun m h1 h2 j hj hzj => HNo.out j m (by have := HN.out; omega) hzj h1 h2
      have hop := HOp.out hno
      have hoo : o = true ↔ (kindS ls = 3 ∨ (T = 0 ∧ 0 < sN (cnt0 ls) 16)) := by
        rw [HO.out, ← hop, HN.out]
      have hF : ∀ f : Int, f = (if o = true then 2 else 3) → ReadS ls T v p 0 f p := fun f hf => .inr ⟨hno, rfl, by rw [hf]; by_cases h : o = true <;> simp [h, ← hoo], rfl⟩
      have HF := Lib.hid hF
      clear hno hop hoo hF
      cases o with
      | true =>
        have HF2 := Lib.hid (HF.out 2 rfl)
        go_wp2
        go_ret2
        exact ⟨0, 2, rfl, _, HF2.out, HRf4.out.kept HKr.out (fun h => h), HK.out.trans (HKr.out.mono (fun _ _ h => h.elim))⟩
      | false =>
        have HF2 := Lib.hid (HF.out 3 rfl)
        go_wp2
        go_ret2
        exact ⟨0, 3, rfl, _, HF2.out, HRf4.out.kept HKr.out (fun h => h), HK.out.trans (HKr.out.mono (fun _ _ h => h.elim))⟩
theorem rread_calls (ls : List Int) (a : Option Addr) (c B R : Nat) (bs : List Int) (p T : Nat) (w : World) (hr : Rfb w R bs p) (hx : RdI w B a ls) (hBR : B ≤ R) (hs : Small 15 ls) (hl : ls.length ≤ 320) (hok : refS ls = 0)
    (hT : min3 15 (8 * bs.length - p) = T) :
    Calls Try.prog 35 #[.pointer (some ⟨R, 0, none⟩), .slice a ls.length c] w fun e w' => ∃ (s f : Int) (q : Nat), e = .returned (.tuple #[.int .i64 s, .int .i64 f]) ∧ ReadS ls T (bitsAt bs p T) p s f q ∧ Rfb w' R bs q ∧ Kept (OneB R) w w' :=
  rread_callsG ls a c (fun k => k < B) R bs p T w hr hx.toG (by show ¬ R < B; omega) hs hl hok hT
end Go.Proofs.Ytpdlkmacdmnamaa
