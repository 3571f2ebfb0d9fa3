/-
  LzExpands: tokens are expanded as the document says, up to the first that is wrong, reaches too far, or is too much.
-/
import Derived.Test.YtkhkcmekjjihkaaLawLzParts
import Derived.Test.YtkhkcmekjjihkaaRefPutY
import Derived.Deep.CutBlock
namespace Go.Proofs.Ytkhkcmekjjihkaa
open Go.RowKit
set_option linter.unusedVariables false
set_option linter.unusedSimpArgs false

/-- The tokens of a round. -/
def LCut (w wx : World) (s : Value) (M : Nat) : Prop :=
  ∃ al cl ts l, s = .slice al l cl ∧ Hid (l = ts.length) ∧ l ≤ M ∧ l ≤ cl ∧ cl ≤ 9223372036854775807 ∧ Hid (Toks wx al ts) ∧ Hid (AllT ts) ∧ Hid (Kept NoB w wx)
theorem mask4095 (n : Int) : bits .and .i64 n 4095 = n % 4096 := i64_mask n 12 (by decide)

theorem put_len258 (t : Tk) (bs : List Int) (most : Int) (hno : t.no bs.length most = 0) : (t.put bs).length ≤ bs.length + 258 := by
  have hok : t.ok = true := by
    cases h : t.ok with
    | true => rfl
    | false => unfold Tk.no at hno; rw [if_pos h] at hno; cases hno
  have hpl := put_len t bs
  by_cases h : t.l = 0
  · rw [if_pos h] at hpl; omega
  · rw [if_neg h] at hpl
    have := hok; unfold Tk.ok at this; rw [if_neg h] at this
    have := (of_decide_eq_true this).2.1
    omega
theorem put_both (t : Tk) (bs : List Int) (most : Int) (hb : AllB bs) (hn : bs.length ≤ 100000) (ht : t.wf) (hm : -9223372036854775808 ≤ most ∧ most ≤ 9223372036854775807) :
    ∃ (xs : List Int) (x : Int), (∀ (W : World) (ao : Option Addr) (cap : Nat), Reads W ao bs → Calls Try.prog 9 #[.slice ao bs.length cap, t.v, .int .i64 most] W fun e w' => ∃ ao' cap', e = .returned (.tuple #[.slice ao' xs.length cap', .int .i64 x]) ∧ Hid (Reads w' ao' xs) ∧ Hid (ao' = none → cap' = 0) ∧ Kept NoB W w') ∧
      (∀ W, Calls Try.prog 15 #[.string (strOfNums bs), t.v, .int .i64 most] W fun e w' => e = .returned (.tuple #[.string (strOfNums xs), .int .i64 x]) ∧ Kept NoB W w') := by
  by_cases hno : t.no bs.length most = 0
  · refine ⟨t.put bs, 0, fun W ao cap hr => ?_, fun W => refPut_yes t bs most W hb hn ht hm hno⟩
    refine (lput_yes t ao cap bs most W hr (by omega) ht hm hno).mono ?_
    rintro e w' ⟨ao', cap', rfl, hM⟩
    exact ⟨ao', cap', rfl, hM.out.reads, own_nil hM.out.1, hM.out.2.2⟩
  · refine ⟨[], t.no bs.length most, fun W ao cap hr => ?_, fun W => refPut_no t (strOfNums bs) bs.length most W (strOfNums_size bs) (by omega) ht hm hno⟩
    refine (lput_no t ao cap bs.length most W (by omega) ht hm hno).mono ?_
    rintro e w' ⟨rfl, hk⟩
    exact ⟨none, 0, rfl, ⟨fun _ => rfl, fun a ha => by cases ha⟩, fun _ => rfl, hk⟩

set_option maxRecDepth 100000 in
set_option maxHeartbeats 4000000 in
theorem lzExpands_walk (ao : Option Addr) (cap len : Nat) (ts0 : List Tk) (most0 : Int) (w : World) (hlen : ts0.length = len) (hr : Toks w ao ts0) (ha : AllT ts0) (hlc : len ≤ cap) (hm : cap ≤ maxLen) (hmo : -9223372036854775808 ≤ most0 ∧ most0 ≤ 9223372036854775807) :
    Calls Try.prog 5 #[.slice ao len cap, .int .i64 most0] w fun e w' => e = .returned (.bool true) ∧ Below w.heap.size w w' := by
  have hml : len ≤ maxLen := Nat.le_trans hlc hm
  have HTame := Lib.hid (fun W hk => tame_any ao cap len ts0 60 W hlen (hr.keptNo hk) ha hml (by decide))
  have HLen := Lib.hid hlen; have HR := Lib.hid hr; have HA := Lib.hid ha
  have hm' : cap ≤ 9223372036854775807 := by unfold maxLen at hm; omega
  clear hlen hr ha hml
  go_enter Try.func5, Try.ntmps5
  go_wp2
  go_loopw [1, 5] (fun mo q wr => ∃ (j : Nat) (most : Int), j ≤ 2 ∧ mo = .int .i64 most ∧ q = .int .i64 j ∧ (-9223372036854775808 ≤ most ∧ most ≤ 9223372036854775807) ∧ Kept NoB w wr) (fun _ q _ => 2 - (intOf q).toNat)
  case atStart => exact ⟨0, most0, by omega, rfl, rfl, hmo, Kept.refl _ _⟩
  case round =>
    obtain ⟨j0, most, hj, rfl, rfl, hmost, hK⟩ := hrel
    have HK := Lib.hid hK; clear hK
    by_cases hlt : (j0 : Int) < 2
    · obtain ⟨q1, hq1⟩ : ∃ q1 : Bool, q1 = decide (j0 = 1) := ⟨_, rfl⟩
      have hjq : ((j0 : Int) == 1) = q1 := by rw [hq1]; by_cases h : j0 = 1 <;> simp [h]; omega
      have HQ := Lib.hid hq1; clear hq1
      go_upto_if 26 with fail
      go_cut [6] from 27 to 28 (fun s wx => LCut w wx s maxLen)
      case first =>
        cases q1 with
        | true =>
          go_wp2_with fail
          refine (HTame.out _ HK.out).mono ?_
          rintro e w1 ⟨a1, c1, ts, n, rfl, HTk, HTs, hl60, hl2, hl3, hn0, HK1⟩
          have HX : Hid (LCut w w1 (.slice a1 ts.length c1) maxLen) := ⟨a1, c1, ts, ts.length, rfl, rfl, Nat.le_trans hl2 hl3, hl2, by unfold maxLen at hl3; omega, HTk, HTs.out.1, HK.out.trans HK1.out⟩
          clear hl60 hl2 hl3
          go_wp2
          go_meet
          exact HX.out
        | false =>
          have HX : Hid (LCut w wr (.slice ao len cap) maxLen) := ⟨ao, cap, ts0, len, rfl, HLen.out.symm, Nat.le_trans hlc hm, hlc, hm', HR.out.keptNo HK.out, HA.out, HK.out⟩
          go_wp2
          go_meet
          exact HX.out
      case rest =>
      obtain ⟨al, cl, ts, l, rfl, HL, hlM, hlcl, hclm, HTk, HTa, HKc⟩ := hcut
      go_upto_if 31 with fail
      go_cut [6] from 32 to 33 (fun s wx => LCut w wx s 60)
      case first =>
        by_cases h60 : (60 : Int) < l
        · have h6c : (60 : Int) ≤ cl := by omega
          have HX : Hid (LCut w wc (.slice al 60 cl) 60) := ⟨al, cl, ts.take 60, 60, rfl, (by have := HL.out; rw [List.length_take]; omega : 60 = (ts.take 60).length), by omega, by omega, hclm, HTk.out.take 60, (fun t ht => HTa.out t (List.mem_of_mem_take ht)), HKc.out⟩
          go_wp2
          go_meet
          exact HX.out
        · have HX : Hid (LCut w wc (.slice al l cl) 60) := ⟨al, cl, ts, l, rfl, HL.out, by omega, hlcl, hclm, HTk.out, HTa.out, HKc.out⟩
          go_wp2
          go_meet
          exact HX.out
      case rest =>
      obtain ⟨al, cl, ts, l, rfl, HL, hlM, hlcl, hclm, HTk, HTa, HKc⟩ := hcut
      clear HTame hjq HQ HK
      obtain ⟨⟨rb, rn, rf⟩, hR⟩ : ∃ R, R = expF most ts [] 0 := ⟨_, rfl⟩
      have hex := expand_any al cl l ts most
      rw [← hR] at hex
      have HEx : Hid (∀ W, Toks W al ts → Calls Try.prog 8 #[.int .i64 most, .slice al l cl] W fun e w' => ∃ ao' cap', e = .returned (.tuple #[.slice ao' rb.length cap', .int .i64 rn, .int .i64 rf]) ∧ Hid (Made W rb ao' cap' w')) := fun W h => hex W HL.out.symm h HTa.out (by omega) hmost
      have HRe := Lib.hid hR
      clear hex hR
      have e0 : (⟨#[]⟩ : ByteArray) = strOfNums [] := rfl
      go_upto_block 2 with fail
      go_cut [7, 8, 9, 10, 11] from 34 to 53 (fun a b c _ _ wx => a = .string (strOfNums rb) ∧ b = .int .i64 rn ∧ c = .int .i64 rf ∧ Hid (AllB rb) ∧ rb.length ≤ 20000 ∧ Hid (Kept NoB w wx) ∧ Hid (Toks wx al ts))
      case first =>
        go_wp2_with fail
        go_loopw [7, 8, 9] (fun wa nn ee wr2 => ∃ (i : Nat) (bs : List Int), i ≤ l ∧ ee = .int .i64 0 ∧ wa = .string (strOfNums bs) ∧ nn = .int .i64 i ∧ Hid (expF most (ts.drop i) bs i = (rb, rn, rf)) ∧ Hid (AllB bs) ∧ bs.length ≤ 258 * i ∧ Hid (Kept NoB w wr2) ∧ Hid (Toks wr2 al ts)) (fun _ nn _ _ => l - (intOf nn).toNat)
        case atStart => exact ⟨0, [], by omega, rfl, rfl, rfl, by rw [List.drop_zero]; exact HRe.out.symm, (by intro b hb; cases hb), by simp, HKc.out, HTk.out⟩
        case round =>
          obtain ⟨i, bs, hil, rfl, rfl, rfl, HXr, HAb, hbl, HKi, HTi⟩ := hrel
          clear e0
          by_cases hlt2 : (i : Int) < l
          · have hit : i < ts.length := by have := HL.out; omega
            obtain ⟨b, off, rfl, c0, c1, c2⟩ := HTi.out i hit
            have hwf := AllT.getD HTa.out i
            have hdr := drop_getD ts i hit
            have hbx := HXr.out
            rw [hdr] at hbx
            unfold expF at hbx
            generalize ts.getD i ⟨0, 0, 0⟩ = t at c0 c1 c2 hwf hbx
            clear hdr hit HXr
            by_cases hno : t.no bs.length most = 0
            · rw [if_pos hno] at hbx
              have HX2 := Lib.hid hbx
              have HP := Lib.hid (fun W => refPut_yes t bs most W HAb.out (by omega) hwf hmost hno)
              have HAp := Lib.hid (put_all t bs HAb.out hwf)
              have hpl := put_len258 t bs most hno
              clear hbx hno hwf
              generalize t.put bs = pb at HX2 HP HAp hpl
              obtain ⟨tl, td, tc⟩ := t
              unfold Tk.v at HP
              simp only [] at HP
              simp only at c0 c1 c2
              go_wp2_with fail
              refine (HP.out _).mono ?_
              rintro e w1 ⟨rfl, hk1⟩
              have HK1 := Lib.hid (HKi.out.trans hk1); have HT1 := Lib.hid (HTi.out.keptNo hk1)
              clear hk1 c0 c1 c2
              go_wp2
              go_roundw
              case rel => exact ⟨i + 1, pb, by omega, rfl, rfl, by go_num, HX2, HAp, by omega, HK1.out, HT1.out⟩
              case measure => simp [intOf]; omega
            · rw [if_neg hno] at hbx
              have HP := Lib.hid (fun W => refPut_no t (strOfNums bs) bs.length most W (strOfNums_size bs) (by omega) hwf hmost hno)
              have hne : (t.no bs.length most == 0) = false := by simp; exact hno
              clear hno hwf
              generalize t.no bs.length most = x at HP hne hbx
              simp only [Prod.mk.injEq] at hbx
              obtain ⟨rfl, rfl, rfl⟩ := hbx
              obtain ⟨tl, td, tc⟩ := t
              unfold Tk.v at HP
              simp only [] at HP
              simp only at c0 c1 c2
              go_wp2_with fail
              refine (HP.out _).mono ?_
              rintro e w1 ⟨rfl, hk1⟩
              have HK1 := Lib.hid (HKi.out.trans hk1); have HT1 := Lib.hid (HTi.out.keptNo hk1)
              clear hk1 c0 c1 c2
              go_wp2
              go_meet
              exact ⟨rfl, rfl, rfl, HAb, by omega, HK1, HT1⟩
          · have hjl : i = l := by omega
            have hdr : ts.drop i = [] := List.drop_of_length_le (by have := HL.out; omega)
            have hbx := HXr.out
            rw [hdr] at hbx
            unfold expF at hbx
            simp only [Prod.mk.injEq] at hbx
            obtain ⟨rfl, rfl, rfl⟩ := hbx
            clear hdr hjl
            go_wp2
            go_meet
            exact ⟨rfl, rfl, rfl, HAb, by omega, HKi, HTi⟩
      case rest =>
      obtain ⟨rfl, rfl, rfl, HAb, hbl, HKd, HTd⟩ := hcut
      clear HTk HKc HRe
      go_wp2_with fail
      refine (HEx.out _ HTd.out).mono ?_
      rintro e w2 ⟨ao', cap', rfl, HM⟩
      have hcv := conv_reads (n := rb.length) HM.out.reads rfl (own_nil HM.out.1)
      have HK2 := Lib.hid (HKd.out.trans HM.out.2.2); have HT2 := Lib.hid (HTd.out.keptNo HM.out.2.2)
      clear HM HEx
      obtain ⟨f, g, hmk⟩ : ∃ (f : World → Nat) (g : World → World), ∀ W : World, (convert 9 24 (.string (strOfNums rb))).run Try.prog W = .ok (.slice (some ⟨W.heap.size, 0, none⟩) rb.length (f W)) (g W) ∧ OwnM (g W) (.slice (some ⟨W.heap.size, 0, none⟩) rb.length (f W)) rb ∧ Kept NoB W (g W) :=
        ⟨fun W => (conv_mark W rb (by omega) HAb.out).choose, fun W => (conv_mark W rb (by omega) HAb.out).choose_spec.choose, fun W => (conv_mark W rb (by omega) HAb.out).choose_spec.choose_spec⟩
      have hcm := fun W => (hmk W).1
      have HMk : Hid (∀ W : World, Reads (g W) (some ⟨W.heap.size, 0, none⟩) rb ∧ Kept NoB W (g W)) := fun W => ⟨(hmk W).2.1.reads, (hmk W).2.2⟩
      clear hmk
      have HPB := Lib.hid (fun (t : Tk) (ht : t.wf) => put_both t rb most HAb.out (by omega) ht hmost)
      obtain ⟨sr, hsr⟩ : ∃ sr, sr = strOfNums rb := ⟨_, rfl⟩
      rw [← hsr] at hcv ⊢
      simp only [← hsr] at HPB hcm
      obtain ⟨rl, hrl⟩ : ∃ rl, rl = rb.length := ⟨_, rfl⟩
      rw [← hrl] at hcv
      simp only [← hrl] at HPB hcm ⊢
      clear hsr hrl hbl HAb
      go_wp2
      clear hcv
      go_loopw [15] (fun v wr => ∃ j : Nat, j ≤ l ∧ v = .int .i64 j ∧ Hid (Kept NoB w wr) ∧ Hid (Toks wr al ts)) (fun v _ => l - (intOf v).toNat)
      case atStart => exact ⟨0, by omega, rfl, HK2.out, HT2.out⟩
      case round =>
        obtain ⟨j, hjl, rfl, HKr, HTr⟩ := hrel
        by_cases hlt3 : (j : Int) < l
        · have hit : j < ts.length := by have := HL.out; omega
          obtain ⟨b, off, rfl, c0, c1, c2⟩ := HTr.out j hit
          have hwf := AllT.getD HTa.out j
          generalize ts.getD j ⟨0, 0, 0⟩ = t at c0 c1 c2 hwf
          have HOk := Lib.hid (fun W => ok_any t W)
          have HRo := Lib.hid (fun W => refOk_any t W)
          obtain ⟨xs, x, hL, hRf⟩ := HPB.out t hwf
          have HLp := Lib.hid hL; have HRp := Lib.hid hRf
          clear hL hRf hit hwf
          generalize t.ok = q at HOk HRo
          obtain ⟨tl, td, tc⟩ := t
          unfold Tk.v at HOk HRo HLp HRp
          simp only [] at HOk HRo HLp HRp
          simp only at c0 c1 c2
          have d0 : ∀ W : World, Kept NoB wr W → W.cell? ⟨b, off + j * 3, none⟩ = some (.int .i64 tl) := fun W hk => hk.cell c0
          have d1 : ∀ W : World, Kept NoB wr W → W.cell? ⟨b, off + j * 3 + 1, none⟩ = some (.int .i64 td) := fun W hk => hk.cell c1
          have d2 : ∀ W : World, Kept NoB wr W → W.cell? ⟨b, off + j * 3 + 2, none⟩ = some (.int .u8 tc) := fun W hk => hk.cell c2
          have hk0 : Kept NoB wr wr := Kept.refl _ _
          have dg0 : ∀ W : World, Kept NoB wr W → (g W).cell? ⟨b, off + j * 3, none⟩ = some (.int .i64 tl) := fun W hk => (HMk.out W).2.cell (d0 W hk)
          have dg1 : ∀ W : World, Kept NoB wr W → (g W).cell? ⟨b, off + j * 3 + 1, none⟩ = some (.int .i64 td) := fun W hk => (HMk.out W).2.cell (d1 W hk)
          have dg2 : ∀ W : World, Kept NoB wr W → (g W).cell? ⟨b, off + j * 3 + 2, none⟩ = some (.int .u8 tc) := fun W hk => (HMk.out W).2.cell (d2 W hk)
          clear c0 c1 c2
          have hqq : (q == q) = true := by simp
          go_wp2_with fail
          go_region_held3 (fun W => Kept NoB wr W) (first | assumption | exact Kept.drew (Kept.refl _ _) | exact Kept.drew (by assumption) | exact Kept.trans (by assumption) hkn)
            (first
              | (go_at_call 16; ((with_reducible refine (HOk.out _).mono ?_); rintro e wn ⟨rfl, hkn⟩))
              | (go_at_call 17; ((with_reducible refine (HRo.out _).mono ?_); rintro e wn ⟨rfl, hkn⟩)))
          have hkw : Kept NoB wr wn := by assumption
          clear hqq
          go_wp2_with fail
          refine (HLp.out _ _ _ (HMk.out _).1).mono ?_
          rintro e w3 ⟨a3, c3, rfl, HR3, H03, hk3⟩
          have hkw3 : Kept NoB wr w3 := (hkw.trans (HMk.out _).2).trans hk3
          clear dg0 dg1 dg2 hk3 hkn hkw
          go_wp2_with fail
          refine (HRp.out _).mono ?_
          rintro e w4 ⟨rfl, hk4⟩
          have hcv3 := conv_reads (n := xs.length) (HR3.out.keptNo hk4) rfl H03.out
          have hkw4 := hkw3.trans hk4
          have HK4 := Lib.hid (HKr.out.trans hkw4); have HT4 := Lib.hid (HTr.out.keptNo hkw4)
          clear hkw4 hk4 hkw3 d0 d1 d2 hk0
          generalize strOfNums xs = sx at hcv3 ⊢
          go_wp2
          go_roundw
          case rel => exact ⟨j + 1, by omega, by go_num, HK4.out, HT4.out⟩
          case measure => simp [intOf]; omega
        · have hjL : j = l := by omega
          subst hjL
          have hm4 := mask4095 most
          have hm5 : 0 ≤ most % 4096 ∧ most % 4096 < 4096 := ⟨Int.emod_nonneg _ (by decide), Int.emod_lt_of_pos _ (by decide)⟩
          generalize most % 4096 = m2 at hm4 hm5
          clear hcm
          go_wp2
          go_roundw
          case rel => exact ⟨j0 + 1, m2, by omega, rfl, by go_num, by omega, HKr.out⟩
          case measure => simp [intOf]; omega
    · go_wp2_with fail
      refine (awake6 _).mono ?_
      rintro e w5 ⟨rfl, hb5⟩
      have hfin := (HK.out.ofBelow hb5).belowNo (Below.refl _ _)
      go_wp2
      go_ret
      exact ⟨rfl, hfin⟩

theorem lzExpands_law (v0 v1 : Value) (w : World) (r0 : Arg w 22 v0) (r1 : Arg w 3 v1) : Calls Try.prog 5 #[v0, v1] w fun e w' => e = .returned (.bool true) ∧ Below w.heap.size w w' := by
  obtain ⟨ao, cap, ts, rfl, hr, ha, hlc, hm, _⟩ := toks_open r0
  obtain ⟨a, rfl, hi⟩ := r1.int Try.underlying3
  exact lzExpands_walk ao cap _ ts a w rfl hr ha hlc hm (i64_bd hi)
end Go.Proofs.Ytkhkcmekjjihkaa
