/-
  SparseCodes: pieces that may be have the map and the bytes that the document says, and are read from them; any bytes are such, or none; and so are all bytes, with noughts in holes.
-/
import Derived.Test.YtbambcondcikbaaDoorSCodA
import Derived.Test.YtbambcondcikbaaDoorAwakeS
import Derived.Test.YtbambcondcikbaaDoorOwnSet
namespace Go.Proofs.YtbambcondcikbaaDoor
open Go.RowKit
set_option linter.unusedVariables false
set_option linter.unusedSimpArgs false

theorem fewS_bd (l : List Pc) (h : fewS l = true) : l.length ≤ 40 ∧ sumS l ≤ 12000 := by
  rw [fewS, Bool.and_eq_true, List.all_eq_true, decide_eq_true_eq] at h
  obtain ⟨h1, h2⟩ := h
  have key : ∀ l : List Pc, (∀ p ∈ l, p.2.length ≤ 300) → sumS l ≤ 300 * l.length := by
    intro l
    induction l with
    | nil => intro _; simp [sumS]
    | cons p l ih =>
      intro h
      have e : sumS (p :: l) = p.2.length + sumS l := by simp [sumS]
      have := ih (fun q hq => h q (List.mem_cons_of_mem _ hq))
      have := h p List.mem_cons_self
      rw [e, List.length_cons]
      omega
  have := key l (fun p hp => by simpa using h1 p hp)
  exact ⟨h2, by omega⟩
theorem kept_b3 {w w' : World} (h : Kept NoB w w') : Below w.heap.size w w' := ⟨h.os, h.tape, h.output, h.size, fun i hi => h.block i hi (fun h => h)⟩
/-- Pieces and a size, as the law takes them. -/
structure SetP (W : World) (ao : Option Addr) (n cap : Nat) (l : List Pc) (size : Int) : Prop where
  lo : -9223372036854775808 ≤ size
  hi : size ≤ 9223372036854775807
  len : n = l.length
  rd : RdP W W.heap.size ao l
  int : IntP l
  hcap : n ≤ cap
  hmax : cap ≤ maxLen
  sum : sumS l ≤ 1000000
  few : n ≤ 40
theorem SetP.on {W W' : World} {ao : Option Addr} {n cap : Nat} {l : List Pc} {size : Int} (h : SetP W ao n cap l size) (hk : Kept NoB W W') : SetP W' ao n cap l size := ⟨h.lo, h.hi, h.len, (h.rd.kept hk).room hk.size, h.int, h.hcap, h.hmax, h.sum, h.few⟩

set_option maxRecDepth 100000 in
set_option maxHeartbeats 16000000 in
theorem sparseCodes_walk (ao : Option Addr) (n cap : Nat) (raw : List Pc) (size : Int) (bo : Option Addr) (bl cb : Nat) (bs : List Int) (at0 by0 cut0 oth : Int) (w : World) (h0 : -9223372036854775808 ≤ size) (h1 : size ≤ 9223372036854775807) (hn : n = raw.length) (hr : RdP w w.heap.size ao raw) (hi : IntP raw) (hc : n ≤ cap) (hcm : cap ≤ maxLen)
    (hbl : bl = bs.length) (hrb : Reads w bo bs) (hbb : AllB bs) (hbn : bo = none → cb = 0) (hbc : bl ≤ cb) (hbm : cb ≤ maxLen) (hy : 0 ≤ by0 ∧ by0 ≤ 255) (ho : -9223372036854775808 ≤ oth ∧ oth ≤ 9223372036854775807) (htab : Pow10 w) (herr : ErrVars w) :
    Calls Tryd.prog 5 #[.slice ao n cap, .int .i64 size, .slice bo bl cb, .int .i64 at0, .int .u8 by0, .int .i64 cut0, .int .i64 oth] w fun e w' => e = .returned (.bool true) ∧ Below w.heap.size w w' := by
  have HT := Lib.hid htab; have HE := Lib.hid herr
  have HFew := Lib.hid (few_any ao n cap raw w hn hr hc hcm)
  have HTam : Hid (∀ W, Kept NoB w W → Calls Tryd.prog 20 #[.slice ao n cap, .int .i64 size] W (TamR W raw size)) := Lib.hid (fun W h => tame_any ao n cap raw size W hn ((hr.kept h).room h.size) hi hc hcm h0 h1)
  have HAw : Hid (∀ W, Kept NoB w W → Calls Tryd.prog 17 #[] W fun e w' => e = .returned (.bool true) ∧ Kept NoB W w') := Lib.hid (fun W hk => awake19 W (HT.out.keptNo hk) (HE.out.keptNo hk))
  obtain ⟨hok, hz0, hz1, hl12, hsum, hint⟩ := tame_ok raw size
  obtain ⟨l, hl⟩ : ∃ l, l = tmL raw := ⟨_, rfl⟩
  obtain ⟨N, hN⟩ : ∃ N : Nat, tmZ raw size = (N : Int) := ⟨(tmZ raw size).toNat, by omega⟩
  have HTr : Hid (∀ W e w', TamR W raw size e w' → ∃ (a : Option Addr) (m c : Nat), e = .returned (.tuple #[.slice a m c, .int .i64 (N : Int)]) ∧ SetP w' a m c l (N : Int) ∧ Kept NoB W w') := Lib.hid (fun W e w' ⟨qs, a, c, g1, g2, g3⟩ => ⟨a, qs.length, c, by rw [g1, hN], ⟨by omega, by omega, by rw [hl, ← g2, List.length_map], by rw [hl, ← g2]; exact g3.reads, by rw [hl]; exact hint, g3.cap.1, g3.cap.2, by rw [hl]; omega, by have := congrArg List.length g2; rw [List.length_map] at this; omega⟩, g3.kept⟩)
  rw [hN] at hok hz1
  rw [← hl] at hok hl12 hsum hint
  have hN2 : N ≤ 20000 := by omega
  have HFb := Lib.hid (fewS_bd raw)
  have HRaw : Hid (∀ W, Kept NoB w W → fewS raw = true → SetP W ao n cap raw size) := Lib.hid (fun W h hf => ⟨h0, h1, hn, (hr.kept h).room h.size, hi, hc, hcm, by have := (fewS_bd raw hf).2; omega, by have := (fewS_bd raw hf).1; omega⟩)
  have HOk := Lib.hid hok; have HInt := Lib.hid hint; have HSum := Lib.hid hsum; have HL12 := Lib.hid hl12
  have HBl := Lib.hid hbl; have HRb := Lib.hid hrb; have HBb := Lib.hid hbb; have HBn := Lib.hid hbn; have HBm := Lib.hid hbm; have HBc := Lib.hid hbc; have HY := Lib.hid hy; have HO := Lib.hid ho
  have hblm : bl ≤ 9223372036854775807 := by unfold maxLen at hbm; omega
  clear hl hN hok hz0 hz1 hl12 hsum hint htab herr hn hr hi hc hcm h0 h1 hbl hrb hbb hbn hbc hbm hy ho
  obtain ⟨fw, hfw⟩ : ∃ fw, fw = fewS raw := ⟨_, rfl⟩
  rw [← hfw] at HFew HRaw
  clear hfw HFb
  go_enter Tryd.func5, Tryd.ntmps5
  go_wp2_with fail
  with_reducible refine HFew.out.mono ?_
  rintro e w1 ⟨rfl, hk1⟩
  have HK1 := Lib.hid hk1
  clear hk1
  cases fw with
  | false =>
    go_wp2_with fail
    with_reducible refine (HAw.out _ HK1.out).mono ?_
    rintro e w2 ⟨rfl, hk2⟩
    have HK2 := Lib.hid (HK1.out.trans hk2)
    clear hk2
    go_wp2
    go_ret
    exact ⟨rfl, kept_b3 HK2.out⟩
  | true =>
    by_cases h700 : (700 : Int) < (bl : Int)
    · go_wp2_with fail
      with_reducible refine (HAw.out _ HK1.out).mono ?_
      rintro e w2 ⟨rfl, hk2⟩
      have HK2 := Lib.hid (HK1.out.trans hk2)
      clear hk2
      go_wp2
      go_ret
      exact ⟨rfl, kept_b3 HK2.out⟩
    · have hbl7 : bl ≤ 700 := by omega
      clear hblm
      go_wp2_with fail
      with_reducible refine (HTam.out _ HK1.out).mono ?_
      intro e w2 hT2
      obtain ⟨a2, m, c2, rfl, hS2, hk2⟩ := HTr.out _ _ _ hT2
      have HS2 := Lib.hid hS2
      have HK2 := Lib.hid (HK1.out.trans hk2)
      have HRw := Lib.hid (HRaw.out w2 HK2.out (by trivial))
      clear hT2 hS2 hk2 HTam HTr HFew HRaw
      go_wp2
      go_loopw [17, 18, 19, 20, 21, 22, 23, 24, 25, 26, 27] (fun v17 v18 v19 v20 v21 v22 v23 v24 v25 v26 v27 wr => ∃ i : Nat, i ≤ 2 ∧ v17 = .int .i64 (i : Int) ∧ Hid (Kept NoB w2 wr)) (fun v17 _ _ _ _ _ _ _ _ _ _ _ => 2 - (intOf v17).toNat)
      case atStart => exact ⟨0, by omega, rfl, Lib.hid (Kept.refl _ _)⟩
      case round =>
        obtain ⟨i, hi2, rfl, HKr⟩ := hrel
        by_cases hlt : i < 2
        · have hii : (i : Int) < 2 := by omega
          go_upto_if 61 with fail
          go_cut [18, 19] from 61 to 63 (fun v18 v19 wx => ∃ (a : Option Addr) (q c : Nat) (p : List Pc) (z : Int), v18 = .slice a q c ∧ v19 = .int .i64 z ∧ Hid (SetP wr a q c p z) ∧ wr = wx)
          case first =>
            have hi01 : i = 0 ∨ i = 1 := by omega
            rcases hi01 with rfl | rfl
            · have HX := Lib.hid (HRw.out.on HKr.out)
              go_wp2
              go_meet
              exact ⟨ao, n, cap, raw, size, rfl, rfl, HX, rfl⟩
            · have HX := Lib.hid (HS2.out.on HKr.out)
              go_wp2
              go_meet
              exact ⟨a2, m, c2, l, (N : Int), rfl, rfl, HX, rfl⟩
          case rest =>
          obtain ⟨a, q, c, p, z, rfl, rfl, HP, rfl⟩ := hcut
          have hz0 := HP.out.lo; have hz1 := HP.out.hi
          have HKw := Lib.hid (HK2.out.trans HKr.out)
          by_cases hbig : 1048576 < z ∧ z ≤ 2097152
          · obtain ⟨hb1, hb2⟩ := hbig
            go_wp2_with fail
            with_reducible refine (HAw.out _ HKw.out).mono ?_
            rintro e w3 ⟨rfl, hk3⟩
            have HK3 := Lib.hid (HKw.out.trans hk3)
            clear hk3
            go_wp2
            go_ret
            exact ⟨rfl, kept_b3 HK3.out⟩
          · have HEn := Lib.hid (enc2_any z a q c p wr hz0 hz1 HP.out.len HP.out.rd HP.out.int HP.out.hcap HP.out.hmax HP.out.sum (HT.out.keptNo HKw.out))
            have HMp := Lib.hid (fun W (hk : Kept NoB wr W) => (have h := HP.out.on hk; map2_any z a q c p W hz0 hz1 h.len h.rd h.int h.hcap h.hmax h.sum))
            have HOk1 := Lib.hid (fun W (hk : Kept NoB wr W) => (have h := HP.out.on hk; spok_any z a q c p W hz0 hz1 h.len h.rd h.int h.hcap h.hmax))
            have HOk2 := Lib.hid (fun W (hk : Kept NoB wr W) => (have h := HP.out.on hk; rmapok_any z a q c p W hz0 hz1 h.len h.rd h.int h.hcap h.hmax))
            have HHo1 := Lib.hid (fun W (hk : Kept NoB wr W) => (have h := HP.out.on hk; holes_any z a q c p W hz0 hz1 h.len h.rd h.int h.hcap h.hmax))
            have HHo2 := Lib.hid (fun W (hk : Kept NoB wr W) => (have h := HP.out.on hk; rholes_any z a q c p W hz0 hz1 h.len h.rd h.int h.hcap h.hmax (by have := h.sum; omega)))
            have HDe1 := Lib.hid (fun W (hk : Kept NoB wr W) => (have h := HP.out.on hk; den2_any z a q c p W hz0 hz1 h.len h.rd h.int h.hcap h.hmax))
            have HDe2 := Lib.hid (fun W (hk : Kept NoB wr W) => (have h := HP.out.on hk; rden2_any z a q c p W hz0 hz1 h.len h.rd h.int h.hcap h.hmax))
            obtain ⟨ok, hok⟩ : ∃ ok, ok = okS z p := ⟨_, rfl⟩
            obtain ⟨X, hX⟩ : ∃ X, X = encX z p := ⟨_, rfl⟩
            obtain ⟨ho, hho⟩ : ∃ ho, ho = holesS z p := ⟨_, rfl⟩
            rw [← hok] at HEn HMp HOk1 HOk2
            rw [← hX] at HEn HMp
            rw [← hho] at HHo1 HHo2
            obtain ⟨dk, hdk⟩ : ∃ dk, dk = (okS z p && decide (z ≤ 1048576)) := ⟨_, rfl⟩
            obtain ⟨D, hD⟩ : ∃ D, D = denX z p := ⟨_, rfl⟩
            rw [← hdk, ← hD] at HDe1 HDe2
            have y1 : (ok != ok) = false := by cases ok <;> rfl
            have y2 : (ho != ho) = false := by cases ho <;> rfl
            have y3 : (dk != dk) = false := by cases dk <;> rfl
            have y1b : (ok == ok) = true := by cases ok <;> rfl
            have y2b : (ho == ho) = true := by cases ho <;> rfl
            have y3b : (dk == dk) = true := by cases dk <;> rfl
            obtain ⟨T, hT⟩ : ∃ T, T = strB X := ⟨_, rfl⟩
            obtain ⟨U, hU⟩ : ∃ U, U = strB D := ⟨_, rfl⟩
            rw [← hT] at HMp
            rw [← hU] at HDe2
            have y4 : (T.toList == T.toList) = true := by simp
            have y5 : (U.toList == U.toList) = true := by simp
            have HTX := Lib.hid hT; have HUD := Lib.hid hU
            have hbz : ¬ (1048576 < z ∧ z ≤ 2097152) := hbig
            have HBz := Lib.hid hbz
            clear hok hX hho hdk hD hT hU hbig hbz
            go_upto_region 10 with fail
            go_cut [69] from 64 to 69 (fun v69 wx => v69 = .bool false ∧ wr = wx)
            case first =>
              by_cases hb1 : 1048576 < z
              · have hb2 : ¬ z ≤ 2097152 := fun h => HBz.out ⟨hb1, h⟩
                have hb3 : decide (z ≤ 2097152) = false := decide_eq_false hb2
                go_wp2
                go_meet
                exact ⟨rfl, rfl⟩
              · have hb3 : decide (1048576 < z) = false := decide_eq_false hb1
                go_wp2
                go_meet
                exact ⟨rfl, rfl⟩
            case rest =>
            obtain ⟨rfl, rfl⟩ := hcut
            go_wp2_with fail
            with_reducible refine HEn.out.mono ?_
            rintro e w3 ⟨xa, xm, xc, rfl, hX3⟩
            have HX3 := Lib.hid hX3
            clear hX3
            go_wp2_with fail
            with_reducible refine (HMp.out _ HX3.out.kept).mono ?_
            rintro e w4 ⟨rfl, hk4⟩
            have HK4 := Lib.hid (HX3.out.kept.trans hk4)
            have hcv : (convert 26 9 (.slice xa xm xc)).run Tryd.prog w4 = .ok (.string T) w4 := by
              rw [HTX.out, ← nb_str]
              exact conv_reads (HX3.out.rd.keptNo hk4) (by rw [nb_len]; exact HX3.out.len) HX3.out.nil
            clear hk4
            go_wp2_with fail
            with_reducible refine (HOk1.out _ HK4.out).mono ?_
            rintro e w5 ⟨rfl, hk5⟩
            have HK5 := Lib.hid (HK4.out.trans hk5)
            clear hk5 hcv
            go_wp2_with fail
            with_reducible refine (HOk2.out _ HK5.out).mono ?_
            rintro e w6 ⟨rfl, hk6⟩
            have HK6 := Lib.hid (HK5.out.trans hk6)
            clear hk6
            go_wp2_with fail
            with_reducible refine (HHo1.out _ HK6.out).mono ?_
            rintro e w7 ⟨rfl, hk7⟩
            have HK7 := Lib.hid (HK6.out.trans hk7)
            clear hk7
            go_wp2_with fail
            with_reducible refine (HHo2.out _ HK7.out).mono ?_
            rintro e w8 ⟨rfl, hk8⟩
            have HK8 := Lib.hid (HK7.out.trans hk8)
            clear hk8
            by_cases hsm : z < 1048576
            · go_wp2_with fail
              with_reducible refine (HDe1.out _ HK8.out).mono ?_
              rintro e w9 ⟨da, dm, dc, rfl, hX9⟩
              have HX9 := Lib.hid hX9
              have HK9 := Lib.hid (HK8.out.trans hX9.kept)
              clear hX9
              go_wp2_with fail
              with_reducible refine (HDe2.out _ HK9.out).mono ?_
              rintro e w10 ⟨rfl, hk10⟩
              have HK10 := Lib.hid (HK9.out.trans hk10)
              have hcv : (convert 26 9 (.slice da dm dc)).run Tryd.prog w10 = .ok (.string U) w10 := by
                rw [HUD.out, ← nb_str]
                exact conv_reads (HX9.out.rd.keptNo hk10) (by rw [nb_len]; exact HX9.out.len) HX9.out.nil
              have HKf := Lib.hid (HKr.out.trans HK10.out)
              clear hk10
              go_wp2
              go_roundw
              case rel => exact ⟨i + 1, by omega, by go_num, HKf⟩
              case measure => simp [intOf]; omega
            · have HKf := Lib.hid (HKr.out.trans HK8.out)
              go_wp2
              go_roundw
              case rel => exact ⟨i + 1, by omega, by go_num, HKf⟩
              case measure => simp [intOf]; omega
        · have hie : i = 2 := by omega
          subst hie
          have hok := HOk.out
          have HMp := Lib.hid (fun W (hk : Kept NoB w2 W) => (have h := HS2.out.on hk; map2_any (N : Int) a2 m c2 l W h.lo h.hi h.len h.rd h.int h.hcap h.hmax h.sum))
          have hmap := map_len (N : Int) l hok
          have hex : encX (N : Int) l = mapB (N : Int) l := by rw [encX, hok]; rfl
          obtain ⟨M, hM⟩ : ∃ M, M = mapB (N : Int) l := ⟨_, rfl⟩
          obtain ⟨ml, hml⟩ : ∃ ml, ml = M.length := ⟨_, rfl⟩
          have hM0 : 1 ≤ ml := by
            have : (mapB (N : Int) l).length = (headB (N : Int) l).length + (List.replicate (padN (headB (N : Int) l).length) (0 : UInt8)).length + (dataB l).length := by rw [mapB, List.length_append, List.length_append]
            have h2 : 1 ≤ (headB (N : Int) l).length := by simp [headB, lineB]; omega
            rw [hml, hM]; omega
          rw [← hM] at hmap hex
          have hmlb : ml ≤ 51000 := by have := HSum.out; omega
          rw [hok, hex] at HMp
          obtain ⟨SM, hSM⟩ : ∃ SM, SM = strB M := ⟨_, rfl⟩
          rw [← hSM] at HMp
          have hSMz : SM.size = ml := by rw [hSM, strB_size, hml]
          have hnbl : (nb M).length = ml := by rw [nb_len, hml]
          have hCM := fun W => conv_mark W (nb M) (by omega) (nb_all M)
          rw [nb_str, ← hSM, hnbl] at hCM
          have HCM := Lib.hid hCM; have HNbl := Lib.hid hnbl
          clear hok hmap hex hSM
          go_wp2_with fail
          with_reducible refine (HMp.out _ HKr.out).mono ?_
          rintro e w9 ⟨rfl, hk9⟩
          have HK9 := Lib.hid (HK2.out.trans (HKr.out.trans hk9))
          clear hk9 HMp
          obtain ⟨cd, w3, hrun, hown, hk3⟩ := HCM.out w9
          obtain ⟨Gc, hGc⟩ : ∃ Gc, Gc = w9.heap.size := ⟨_, rfl⟩
          rw [← hGc] at hrun hown
          have hGw : w.heap.size ≤ Gc := by rw [hGc]; exact HK9.out.size
          obtain ⟨t, ht⟩ : ∃ t : Nat, (t : Int) = at0 % 65536 % (ml : Int) := ⟨(at0 % 65536 % (ml : Int)).toNat, Int.toNat_of_nonneg (Int.emod_nonneg _ (by omega))⟩
          have htl : t < ml := by have := Int.emod_lt_of_pos (at0 % 65536) (show (0 : Int) < ml by omega); omega
          have hma := mask65535 at0
          have hj2 : at0 % 65536 % (ml : Int) = (t : Int) := ht.symm
          have hj3 : (at0 % 65536).tmod (ml : Int) = (t : Int) := by rw [Int.tmod_eq_emod_of_nonneg (by omega)]; exact ht.symm
          have hown' : OwnM w3 (.slice (some ⟨Gc, 0, none⟩) (nb M).length cd) (nb M) := by rw [hnbl]; exact hown
          have hcz := hown'.cellAt t (by omega)
          generalize hz : (nb M).getD t 0 = z at hcz
          obtain ⟨x, hx⟩ : ∃ x, x = bits .xor .u8 z by0 := ⟨_, rfl⟩
          have hxr := xor_u8 z by0
          rw [← hx] at hxr
          have hx2 := hx.symm
          obtain ⟨hfz, hown4⟩ := hown'.set t (by omega) x
          have hck := own_capM hown'
          have hR4 : Reads (w3.setCell ⟨Gc, t, none⟩ (.int .u8 x)) (some ⟨Gc, 0, none⟩) ((nb M).set t x) := hown4.reads
          have hab : AllB ((nb M).set t x) := by
            intro v hv
            rcases List.mem_or_eq_of_mem_set hv with h | h
            · exact nb_all M v h
            · subst h; omega
          have hC2 : nb (un ((nb M).set t x)) = (nb M).set t x := nb_un hab
          obtain ⟨LC, hLC⟩ : ∃ LC, LC = un ((nb M).set t x) := ⟨_, rfl⟩
          rw [← hLC] at hC2
          rw [← hC2] at hR4
          have hLCl : LC.length = ml := by rw [← nb_len, hC2, List.length_set, hnbl]
          have HR4 := Lib.hid hR4; have HLCl := Lib.hid hLCl
          have HK4 := Lib.hid (Kept.setCell (S := NoB) (p := ⟨Gc, t, none⟩) (HK9.out.trans hk3) (.inr hGw) (.int .u8 x))
          have hcdb : ml ≤ cd ∧ cd ≤ 9223372036854775807 := by rw [hnbl] at hck; exact hck
          clear hk3 hown hown' hown4 ht hx hz hxr hGc hab hC2 hLC hLCl hR4 hnbl hCM hml hck hM
          go_upto_region 24 with fail
          clear hrun hcz hfz hma hj2 hj3 hx2
          generalize w3.setCell ⟨Gc, t, none⟩ (.int .u8 x) = w4 at HR4 HK4 ⊢
          go_wp2
          go_loopw [31, 32, 33, 34, 35, 36, 37, 38] (fun v31 v32 v33 v34 v35 v36 v37 v38 wr => ∃ i : Nat, i ≤ 4 ∧ v31 = .int .i64 (i : Int) ∧ Hid (Kept NoB w4 wr)) (fun v31 _ _ _ _ _ _ _ _ => 4 - (intOf v31).toNat)
          case atStart => exact ⟨0, by omega, rfl, Lib.hid (Kept.refl _ _)⟩
          case round =>
            obtain ⟨i2, hi4, rfl, HKr⟩ := hrel
            by_cases hlt4 : i2 < 4
            · have hii : (i2 : Int) < 4 := by omega
              go_upto_region 27 with fail
              go_cut [32] from 156 to 172 (fun v32 wx => ∃ (ay : Option Addr) (ny cy : Nat) (Ly : List UInt8), v32 = .slice ay ny cy ∧ ny ≤ 60000 ∧ Hid (Reads wx ay (nb Ly) ∧ ny = Ly.length ∧ (ay = none → cy = 0) ∧ ny ≤ cy ∧ cy ≤ maxLen) ∧ Hid (Kept NoB wr wx))
              case first =>
                obtain ⟨cd2, wA, hr1, hown1, hk1⟩ := HCM.out wr
                obtain ⟨cd3, wB, hr2, hown2, hk2⟩ := HCM.out wA
                have hmc := mask65535 cut0
                obtain ⟨m1, hm1⟩ : ∃ m1, m1 = ml + 1 := ⟨_, rfl⟩
                have hm1i : (ml : Int) + 1 = (m1 : Int) := by omega
                obtain ⟨kc, hkc⟩ : ∃ kc : Nat, (kc : Int) = cut0 % 65536 % (m1 : Int) := ⟨(cut0 % 65536 % (m1 : Int)).toNat, Int.toNat_of_nonneg (Int.emod_nonneg _ (by omega))⟩
                have hkl : kc < m1 := by have := Int.emod_lt_of_pos (cut0 % 65536) (show (0 : Int) < m1 by omega); omega
                have hj2 : cut0 % 65536 % (m1 : Int) = (kc : Int) := hkc.symm
                have hj3 : (cut0 % 65536).tmod (m1 : Int) = (kc : Int) := by rw [Int.tmod_eq_emod_of_nonneg (by omega)]; exact hkc.symm
                have hkm : kc ≤ ml := by omega
                obtain ⟨GA, hGA⟩ : ∃ GA, GA = wr.heap.size := ⟨_, rfl⟩
                obtain ⟨GB, hGB⟩ : ∃ GB, GB = wA.heap.size := ⟨_, rfl⟩
                rw [← hGA] at hr1 hown1
                rw [← hGB] at hr2 hown2
                have hA : OwnM wA (.slice (some ⟨GA, 0, none⟩) (nb M).length cd2) (nb M) := by rw [HNbl.out]; exact hown1
                have hB : OwnM wB (.slice (some ⟨GB, 0, none⟩) (nb M).length cd3) (nb M) := by rw [HNbl.out]; exact hown2
                have hcapA := own_capM hA; have hcapB := own_capM hB
                rw [HNbl.out] at hcapA hcapB
                obtain ⟨hcA1, hcA2⟩ := hcapA; obtain ⟨hcB1, hcB2⟩ := hcapB
                have hkcap : (kc : Int) ≤ (cd2 : Int) := by omega
                obtain ⟨ROW, hROW⟩ : ∃ R : Array Value, R = #[Value.slice bo bl cb, .slice (some ⟨Gc, 0, none⟩) ml cd, .slice (some ⟨GA, 0, none⟩) kc cd2, .slice (some ⟨GB, 0, none⟩) ml cd3] := ⟨_, rfl⟩
                have hkB : Kept NoB wr wB := hk1.trans hk2
                have hmx : ∀ z : Nat, z ≤ 9223372036854775807 → z ≤ maxLen := fun z hz => by unfold maxLen; omega
                have hrow : ∃ (ay : Option Addr) (ny cy : Nat) (Ly : List UInt8), ROW[i2]? = some (.slice ay ny cy) ∧ Hid (Reads wB ay (nb Ly) ∧ ny = Ly.length ∧ (ay = none → cy = 0) ∧ ny ≤ cy ∧ cy ≤ maxLen) ∧ ny ≤ 60000 := by
                  have hc4 : i2 = 0 ∨ i2 = 1 ∨ i2 = 2 ∨ i2 = 3 := by omega
                  rcases hc4 with rfl | rfl | rfl | rfl
                  · refine ⟨bo, bl, cb, un bs, by rw [hROW]; rfl, Lib.hid ⟨?_, ?_, HBn.out, HBc.out, HBm.out⟩, by omega⟩
                    · rw [nb_un HBb.out]; exact HRb.out.keptNo (HK4.out.trans (HKr.out.trans hkB))
                    · rw [HBl.out]; simp [un]
                  · exact ⟨_, ml, cd, LC, by rw [hROW]; rfl, Lib.hid ⟨HR4.out.keptNo (HKr.out.trans hkB), HLCl.out.symm, (fun h => by cases h), hcdb.1, hmx _ hcdb.2⟩, by omega⟩
                  · refine ⟨_, kc, cd2, M.take kc, by rw [hROW]; rfl, Lib.hid ⟨?_, ?_, (fun h => by cases h), by omega, hmx _ hcA2⟩, by omega⟩
                    · have h2 := hA.reads.keptNo hk2
                      refine ⟨(fun e => by cases e), (fun ad e i hi => ?_)⟩
                      have hi2 : i < kc := by rw [nb_len, List.length_take] at hi; omega
                      rw [h2.2 ad e i (by rw [HNbl.out]; omega)]
                      congr 2
                      simp [nb, List.getD, List.getElem?_take, hi2]
                    · rw [List.length_take, ← nb_len, HNbl.out]; omega
                  · refine ⟨_, ml, cd3, M, by rw [hROW]; rfl, Lib.hid ⟨hB.reads, by rw [← HNbl.out, nb_len], (fun h => by cases h), hcB1, hmx _ hcB2⟩, by omega⟩
                obtain ⟨ay, ny, cy, Ly, hget, HYy, hny⟩ := hrow
                have hcell : (wB.alloc (.cells ROW 26)).cell? ⟨wB.heap.size, i2, none⟩ = some (.slice ay ny cy) := by
                  rw [cell_new i2 rfl]; exact hget
                have hkC : Kept NoB wB (wB.alloc (.cells ROW 26)) := (Kept.refl _ _).alloc _
                have HYC := Lib.hid (⟨HYy.out.1.keptNo hkC, HYy.out.2⟩ : _ ∧ _)
                have HKC := Lib.hid (hkB.trans hkC)
                rw [hROW] at hcell HYC HKC
                clear hkC hget hROW hown1 hown2 hk1 hk2 hkB hkc hGA hGB hm1 hA hB hmx HYy
                go_wp2
                go_meet
                exact ⟨ay, ny, cy, Ly, rfl, hny, HYC, HKC⟩
              case rest =>
              obtain ⟨ay, ny, cy, Ly, rfl, hny, HYy, hkY⟩ := hcut
              obtain ⟨wy, hwy⟩ : ∃ wy, wy = wc := ⟨_, rfl⟩
              rw [← hwy] at HYy hkY ⊢
              clear hwy
              have HKy := Lib.hid (HK4.out.trans (HKr.out.trans hkY.out))
              have HKry := Lib.hid (HKr.out.trans hkY.out)
              have HDc := Lib.hid (fun W (z : Int) (hk : Kept NoB wy W) (h0 : -9223372036854775808 ≤ z) (h1 : z ≤ 9223372036854775807) => dec2_any z ay ny cy Ly W h0 h1 HYy.out.2.1 (HYy.out.1.keptNo hk) HYy.out.2.2.1 HYy.out.2.2.2.1 HYy.out.2.2.2.2 (by omega) (HT.out.keptNo (HKy.out.trans hk)) (HE.out.keptNo (HKy.out.trans hk)))
              have HRm := Lib.hid (fun W (z : Int) (h0 : -9223372036854775808 ≤ z) (h1 : z ≤ 9223372036854775807) => rdec2_any z Ly W h0 h1 (by have := HYy.out.2.1; omega))
              have HCv : Hid (∀ W, Kept NoB wy W → (convert 26 9 (.slice ay ny cy)).run Tryd.prog W = .ok (.string (strB Ly)) W) := Lib.hid (fun W hW => by
                have h := conv_reads (HYy.out.1.keptNo hW) (n := ny) (cap := cy) (by rw [nb_len]; exact HYy.out.2.1) HYy.out.2.2.1
                rw [nb_str] at h
                exact h)
              have hob := HO.out
              clear hkY
              go_wp2
              go_loopw [33, 34, 35, 36, 37, 38] (fun v33 v34 v35 v36 v37 v38 wq => ∃ q : Nat, q ≤ 3 ∧ v33 = .int .i64 (q : Int) ∧ Hid (Kept NoB wy wq)) (fun v33 _ _ _ _ _ _ => 3 - (intOf v33).toNat)
              case atStart => exact ⟨0, by omega, rfl, Lib.hid (Kept.refl _ _)⟩
              case round =>
                obtain ⟨q, hq3, rfl, HKq⟩ := hrel
                obtain ⟨wq, hwq⟩ : ∃ wq, wq = wr := ⟨_, rfl⟩
                rw [← hwq] at HKq ⊢
                clear hwq
                by_cases hltq : q < 3
                · have hqi : (q : Int) < 3 := by omega
                  go_upto_region 31 with fail
                  go_cut [34] from 177 to 187 (fun v34 wx => ∃ z : Int, v34 = .int .i64 z ∧ -9223372036854775808 ≤ z ∧ z ≤ 9223372036854775807 ∧ Hid (Kept NoB wq wx))
                  case first =>
                    have hm3 : bits .and .i64 oth 3 = oth % 4 := i64_mask oth 2 (by decide)
                    obtain ⟨f4, hf4⟩ : ∃ f4, f4 = oth % 4 := ⟨_, rfl⟩
                    rw [← hf4] at hm3
                    have hf4b : 0 ≤ f4 ∧ f4 ≤ 3 := by omega
                    obtain ⟨z1, hz1⟩ : ∃ z1, z1 = (N : Int) + f4 - 1 := ⟨_, rfl⟩
                    have hz1b : -1 ≤ z1 ∧ z1 ≤ 20002 := by omega
                    have hz1e : (N : Int) + f4 - 1 = z1 := hz1.symm
                    have hrow : ∃ z : Int, (#[Value.int .i64 (N : Int), .int .i64 z1, .int .i64 oth] : Array Value)[q]? = some (.int .i64 z) ∧ -9223372036854775808 ≤ z ∧ z ≤ 9223372036854775807 := by
                      have hc3 : q = 0 ∨ q = 1 ∨ q = 2 := by omega
                      rcases hc3 with rfl | rfl | rfl
                      · exact ⟨_, rfl, by omega, by omega⟩
                      · exact ⟨_, rfl, by omega, by omega⟩
                      · exact ⟨_, rfl, hob.1, hob.2⟩
                    obtain ⟨z, hget, hzb0, hzb1⟩ := hrow
                    have hcell : (wq.alloc (.cells #[Value.int .i64 (N : Int), .int .i64 z1, .int .i64 oth] 3)).cell? ⟨wq.heap.size, q, none⟩ = some (.int .i64 z) := by
                      rw [cell_new q rfl]; exact hget
                    have HKC := Lib.hid ((Kept.refl NoB wq).alloc (.cells #[Value.int .i64 (N : Int), .int .i64 z1, .int .i64 oth] 3))
                    clear hget hf4 hz1
                    go_wp2
                    go_meet
                    exact ⟨z, rfl, hzb0, hzb1, HKC⟩
                  case rest =>
                  obtain ⟨z, rfl, hzb0, hzb1, HKz⟩ := hcut
                  have HKz2 := Lib.hid (HKq.out.trans HKz.out)
                  have HDz := Lib.hid (HDc.out _ z HKz2.out hzb0 hzb1)
                  have HRz := Lib.hid (fun W => HRm.out W z hzb0 hzb1)
                  obtain ⟨e0, he0⟩ : ∃ e0, e0 = decE z Ly := ⟨_, rfl⟩
                  obtain ⟨PL, hPL⟩ : ∃ PL, PL = decX z Ly := ⟨_, rfl⟩
                  have hpl := decX_len z Ly
                  rw [← hPL] at hpl
                  rw [← he0, ← hPL] at HDz HRz
                  have y1 : (e0 != e0) = false := by simp
                  have y2 : (e0 == e0) = true := by simp
                  obtain ⟨SY, hSY⟩ : ∃ SY, SY = strB Ly := ⟨_, rfl⟩
                  have HCw := Lib.hid (fun W hW => HCv.out W hW)
                  rw [← hSY] at HRz HCw
                  clear he0 hPL hSY
                  go_wp2_with fail
                  with_reducible refine HDz.out.mono ?_
                  rintro e w5 ⟨a5, m5, c5, rfl, hP5⟩
                  have HP5 := Lib.hid hP5
                  have HK5 := Lib.hid (HKz2.out.trans hP5.kept)
                  have hcv := HCw.out w5 HK5.out
                  clear hP5
                  go_wp2_with fail
                  with_reducible refine (HRz.out _).mono ?_
                  rintro e w6 ⟨a6, m6, c6, rfl, hP6⟩
                  have HK6 := Lib.hid (HK5.out.trans hP6.kept)
                  have hsame := samePc_any a5 m5 c5 PL a6 m6 c6 PL w6 HP5.out.len hP6.len ((HP5.out.rd.kept hP6.kept).room hP6.kept.size) hP6.rd (by have := HP5.out.len; omega) (by have := hP6.len; omega)
                  rw [show decide (PL = PL) = true from decide_eq_true rfl] at hsame
                  have HSame := Lib.hid hsame
                  clear hcv hP6 hsame
                  go_wp2_with fail
                  with_reducible refine HSame.out.mono ?_
                  rintro e w7 ⟨rfl, hk7⟩
                  have HK7 := Lib.hid (HK6.out.trans hk7)
                  clear hk7
                  go_wp2
                  go_roundw
                  case rel => exact ⟨q + 1, by omega, by go_num, HK7⟩
                  case measure => simp [intOf]; omega
                · have hqi : ¬ (q : Int) < 3 := by omega
                  have HKn := Lib.hid (HKry.out.trans HKq.out)
                  go_wp2
                  go_roundw
                  case rel => exact ⟨i2 + 1, by omega, by go_num, HKn⟩
                  case measure => simp [intOf]; omega
            · have hii : ¬ (i2 : Int) < 4 := by omega
              have HKz := Lib.hid (HK4.out.trans HKr.out)
              go_wp2_with fail
              with_reducible refine (HAw.out _ HKz.out).mono ?_
              rintro e w6 ⟨rfl, hk6⟩
              have HK6 := Lib.hid (HKz.out.trans hk6)
              go_wp2
              go_ret
              exact ⟨rfl, kept_b3 HK6.out⟩

theorem sparseCodes_law (v0 v1 v2 v3 v4 v5 v6 : Value) (w : World) (r0 : Arg w 31 v0) (r1 : Arg w 3 v1) (r2 : Arg w 26 v2) (r3 : Arg w 3 v3) (r4 : Arg w 5 v4) (r5 : Arg w 3 v5) (r6 : Arg w 3 v6) (htab : Pow10 w) (herr : ErrVars w) :
    Calls Tryd.prog 5 #[v0, v1, v2, v3, v4, v5, v6] w fun e w' => e = .returned (.bool true) ∧ Below w.heap.size w w' := by
  obtain ⟨ao, cap, raw, rfl, hr, hc, hcm, _, hi⟩ := pcs_open r0
  obtain ⟨x1, rfl, hx1⟩ := r1.int Tryd.underlying3
  obtain ⟨bo, cb, bs, rfl, hbc, hbm, hrb, hbb, hbn⟩ := r2.bytes Tryd.underlying26
  obtain ⟨x3, rfl, _⟩ := r3.int Tryd.underlying3
  obtain ⟨x4, rfl, hx4⟩ := r4.int Tryd.underlying5
  obtain ⟨x5, rfl, _⟩ := r5.int Tryd.underlying3
  obtain ⟨x6, rfl, hx6⟩ := r6.int Tryd.underlying3
  have hb := i64_bd hx1
  exact sparseCodes_walk ao raw.length cap raw x1 bo bs.length cb bs x3 x4 x5 x6 w hb.1 hb.2 rfl hr hi hc hcm rfl hrb hbb hbn hbc hbm (u8_bd hx4) (i64_bd hx6) htab herr
end Go.Proofs.YtbambcondcikbaaDoor
