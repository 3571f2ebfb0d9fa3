/-
  CanonBack: places that are written by lengths are read by them, and nothing is left; a place that has no code is refused, and nothing is written.
-/
import Derived.Test.YtokdlmpnokmniaaCanW
import Derived.Test.YtokdlmpnokmniaaAwake5
import Derived.Test.YtokdlmpnokmniaaCanD
import Derived.Test.YtokdlmpnokmniaaMask
namespace Go.Proofs.Ytokdlmpnokmniaa
open Go.RowKit
set_option linter.unusedVariables false
set_option linter.unusedSimpArgs false

theorem revN_low (n v : Nat) : revN n v = revN n (v % 2 ^ n) := by
  apply Nat.eq_of_testBit_eq
  intro i
  rw [revN_bit, revN_bit, Nat.testBit_mod_two_pow]
  by_cases h : i < n
  · have : n - 1 - i < n := by omega
    simp [h, this]
  · simp [h]
theorem drop_cons (a : List (Nat × Nat)) (i : Nat) (y : Nat × Nat) (h : a[i]? = some y) : a.drop i = y :: a.drop (i + 1) := by
  obtain ⟨hi, e⟩ := List.getElem?_eq_some_iff.1 h
  rw [List.drop_eq_getElem_cons hi, e]
theorem wdN_take : ∀ (a : List (Nat × Nat)) (i : Nat) (y : Nat × Nat), a[i]? = some y → wdN (a.take (i + 1)) = wdN (a.take i) + y.2 ∧ wdN (a.take (i + 1)) ≤ wdN a
  | [], i, y, h => by simp at h
  | (x, n) :: r, 0, y, h => by simp at h; subst h; simp [wdN]
  | (x, n) :: r, i + 1, y, h => by
    have := wdN_take r i y (by simpa using h)
    rw [List.take_succ_cons, List.take_succ_cons, wdN, wdN, wdN]
    omega
/-- What was written is what comes next. -/
theorem read_word (L : List Int) (hs : Small 15 L) (hl : L.length ≤ 320) (hok : refS L = 0) (Y : List Int) (bs : List Int) (hn : num bs = putsN (wordsL L Y)) (hb : wdN (wordsL L Y) ≤ 8 * bs.length) (i k : Nat) (hi : i < Y.length)
    (hk : Y.getD i 0 = (k : Int)) (hkl : k < L.length) (h0 : 0 < L.getD k 0) (p T : Nat) (hp : p = wdN ((wordsL L Y).take i)) (hT : min3 15 (8 * bs.length - p) = T) :
    ∃ n : Nat, L.getD k 0 = (n : Int) ∧ wdN ((wordsL L Y).take (i + 1)) = p + n ∧ ReadS L T (bitsAt bs p T) p (k : Int) 0 (p + n) := by
  have hbk := hs.getD k hkl
  obtain ⟨n, hlk⟩ : ∃ n : Nat, L.getD k 0 = (n : Int) := ⟨(L.getD k 0).toNat, by omega⟩
  have hcb := codeAt_bd L hl hs k hkl
  obtain ⟨ck, hck⟩ : ∃ ck : Nat, codeAt L k = (ck : Int) := ⟨(codeAt L k).toNat, by omega⟩
  have hclt := code_lt L hs hl hok k n hkl hlk (by omega)
  have hword : (wordsL L Y)[i]? = some (revN n ck, n) := by
    unfold wordsL
    have : Y[i]? = some (k : Int) := by
      rw [List.getElem?_eq_getElem hi, ← hk]; simp [List.getD, hi]
    rw [List.getElem?_map, this]
    simp only [Option.map_some, wordZ, Int.toNat_natCast, hlk, hck]
  obtain ⟨hw1, hw2⟩ := wdN_take _ _ _ hword
  simp only at hw1
  have hnT : n ≤ T := by unfold min3 at hT; omega
  refine ⟨n, hlk, by rw [hw1, hp], ?_⟩
  have hv : codeN (bitsAt bs p T) n = ck := by
    rw [← revN_code, revN_low]
    unfold bitsAt
    rw [hn, hp, putsN_drop _ _ (wordsL_lt L Y), drop_cons _ _ _ hword, putsN, Nat.mod_mod_of_dvd _ (Nat.pow_dvd_pow 2 hnT), Nat.add_mul_mod_self_right, Nat.mod_eq_of_lt (revN_lt n ck)]
    exact revN_revN n ck (by omega)
  refine .inl ⟨n, k, by omega, hnT, hkl, hlk, by rw [hck, hv], ?_, rfl, rfl, rfl⟩
  intro m hm1 hm2 j hj hzj e
  obtain ⟨d, rfl⟩ : ∃ d, n = m + d := ⟨n - m, by omega⟩
  have hne : j ≠ k := by
    rintro rfl
    rw [hlk] at hzj; omega
  have hfr := (code_free L hl hs j k hj hkl hne (by omega) d (by rw [hzj, hlk]; omega)).1
  rw [hck, ← hv, codeN_pre_int, ← e] at hfr
  exact hfr rfl

set_option maxRecDepth 20000 in
set_option maxHeartbeats 8000000 in
theorem canonBack_walk (ao : Option Addr) (ca : Nat) (ws : List Int) (bo : Option Addr) (cb : Nat) (sy : List Int) (bad : Int) (w : World) (hx : RdI w w.heap.size ao ws) (hy : RdI w w.heap.size bo sy) (hsl : sy.length ≤ maxLen) :
    Calls Try.prog 6 #[.slice ao ws.length ca, .slice bo sy.length cb, .int .i64 bad] w fun e w' => e = .returned (.bool true) ∧ Below w.heap.size w w' := by
  unfold maxLen at hsl
  have HG := Lib.hid (good_calls ao ca w.heap.size ws w hx)
  have HAw := Lib.hid awake_any
  have HSy := Lib.hid hy
  have m1 := mask255
  obtain ⟨i0, hi, hz0, hz1, hz2⟩ := info_parts infoI
  obtain ⟨n1, hn1⟩ : ∃ n, n = ws.length := ⟨_, rfl⟩
  obtain ⟨ns, hns⟩ : ∃ n, n = sy.length := ⟨_, rfl⟩
  have HNs := Lib.hid hns
  have hns2 : ns ≤ 9223372036854775807 := by omega
  rw [← hn1] at HG
  rw [← hn1, ← hns]
  clear hx hy hn1 hns hsl
  go_enter Try.func6, Try.ntmps6
  go_wp2_with fail
  refine HG.out.mono ?_
  rintro e w1 ⟨a9, c9, L, hgp, rfl, hr, hk⟩
  have HGp := Lib.hid hgp; have HRl := Lib.hid hr; have HK1 := Lib.hid hk
  obtain ⟨m, hm⟩ : ∃ m, m = L.length := ⟨_, rfl⟩
  have HM := Lib.hid hm
  have hm60 : m ≤ 60 := by have := hgp.few; omega
  rw [← hm]
  obtain ⟨P, hP⟩ : ∃ P, P = if m = 0 then 0 else min ns 60 := ⟨_, rfl⟩
  have hP60 : P ≤ 60 := by rw [hP]; split <;> omega
  have HP := Lib.hid hP
  clear hgp hr hk hm hP HG
  go_wp2
  go_loopw [9, 10, 8] (fun v9 _ v8 wr => ∃ (i : Nat) (a3 : Option Addr) (y c3 : Nat) (Y : List Int), v9 = .int .i64 (i : Int) ∧ v8 = .slice a3 y c3 ∧ i ≤ P ∧ y ≤ i ∧ Hid (IntSt w1 wr a3 y c3 Y) ∧ Hid (∀ z ∈ Y, HasC L z) ∧ Hid (a3 = none → y = 0 ∧ c3 = 0)) (fun v9 _ _ _ => P - (intOf v9).toNat)
  case atStart => exact ⟨0, none, 0, 0, [], rfl, rfl, by omega, by omega, Lib.hid (IntSt.nil w1), Lib.hid (by simp), Lib.hid (fun _ => ⟨rfl, rfl⟩)⟩
  case round =>
    obtain ⟨i, a3, y, c3, Y, rfl, rfl, hiP, hyi, HS, HC, HNn⟩ := hrel
    go_upto_region 4 with fail
    go_cut [34] from 22 to 35 (fun v wx => v = .bool (decide (i < P)) ∧ wr = wx)
    case first =>
      have hip := HP.out
      by_cases h1 : (i : Int) < ns
      · by_cases h2 : (i : Int) < 60
        · by_cases h3 : (0 : Int) < m
          · have HD : Hid (decide (i < P) = true) := Lib.hid (decide_eq_true (by split at hip <;> omega))
            clear hip
            go_wp2
            go_meet
            exact ⟨by (rw [HD.out]) <;> (try simp) <;> (try omega), rfl⟩
          · have HD : Hid (decide (i < P) = false) := Lib.hid (decide_eq_false (by split at hip <;> omega))
            clear hip
            go_wp2
            go_meet
            exact ⟨by (rw [HD.out]) <;> (try simp) <;> (try omega), rfl⟩
        · have HD : Hid (decide (i < P) = false) := Lib.hid (decide_eq_false (by split at hip <;> omega))
          clear hip
          go_wp2
          go_meet
          exact ⟨by (rw [HD.out]) <;> (try simp) <;> (try omega), rfl⟩
      · have HD : Hid (decide (i < P) = false) := Lib.hid (decide_eq_false (by split at hip <;> omega))
        clear hip
        go_wp2
        go_meet
        exact ⟨by (rw [HD.out]) <;> (try simp) <;> (try omega), rfl⟩
    case rest =>
    obtain ⟨rfl, hww⟩ := hcut
    subst hww
    by_cases hlt : i < P
    · have hm0 : 0 < m := by have := HP.out; split at this <;> omega
      have hin : (i : Int) < ns := by have := HP.out; split at this <;> omega
      have hi60 : (i : Int) < 60 := by omega
      have hmi : (0 : Int) < (m : Int) := by omega
      obtain ⟨g1, o1, rfl, _, x0⟩ := (HSy.out.keptNo (HK1.out.trans HS.out.kept)) i (by have := HNs.out; omega)
      obtain ⟨z, hz⟩ : ∃ z, z = sy.getD i 0 := ⟨_, rfl⟩
      rw [← hz] at x0
      obtain ⟨k, hk⟩ : ∃ k : Nat, z % 256 % (m : Int) = (k : Int) := ⟨(z % 256 % (m : Int)).toNat, by
        have := Int.emod_nonneg (z % 256) (show (m : Int) ≠ 0 by omega); omega⟩
      have hkm : k < m := by have := Int.emod_lt_of_pos (z % 256) hmi; omega
      have hkm2 : (k : Int) < m := by omega
      obtain ⟨g2, o2, rfl, _, x1⟩ := (HRl.out.keptNo HS.out.kept) k (by have := HM.out; omega)
      obtain ⟨lk, hlk⟩ : ∃ lk, lk = L.getD k 0 := ⟨_, rfl⟩
      rw [← hlk] at x1
      have HLk := Lib.hid hlk
      clear hz hlk
      by_cases h0 : 0 < lk
      · have hrow := HS.out.own
        obtain ⟨cs, hcs⟩ : ∃ cs, cs = Y.map (Value.int .i64) := ⟨_, rfl⟩
        rw [← hcs] at hrow
        have HRow := Lib.hid (hrow.alloc (.cells #[.int .i64 (k : Int)] 3)); have HCs := Lib.hid hcs
        clear hrow hcs
        go_wp2_with (at_builtin; refine wpList_app _ rfl _ _ 22 rfl 3 i0 (.int .i64 0) 1 8 Try.underlying22 hi hz0 hz1 hz2 rfl (by decide) _ y cs rfl HRow.out ⟨wr.heap.size, 0, none⟩ 1 1 [.int .i64 (k : Int)] rfl rfl (cell_one_new _ _ _) ?d2 ?d3 ?d4 ?_)
        case d2 => first | rfl | (intro u hu; simp at hu; subst hu; rfl)
        case d3 => unfold maxLen; omega
        case d4 => omega
        intro v' w2 hown' hgrow hnew
        obtain ⟨a2, c2, rfl⟩ := own_shape2 hown'
        rw [HCs.out] at hown'
        have hs2 := HS.out.app hown' hgrow hnew
        have HS2 := Lib.hid hs2
        have HC2 : Hid (∀ z ∈ Y ++ [(k : Int)], HasC L z) := Lib.hid (by
          intro z hz
          rcases List.mem_append.1 hz with h | h
          · exact HC.out z h
          · simp at h; subst h; exact ⟨k, rfl, by have := HM.out; omega, by rw [← HLk.out]; exact h0⟩)
        have HN2 : Hid (a2 = none → y + 1 = 0 ∧ c2 = 0) := Lib.hid (by
          intro e; subst e
          rcases hown'.2 with ⟨hv, hz⟩ | ⟨g, cc, cur, hv, _⟩
          · omega
          · simp at hv)
        clear hown' hgrow hnew hs2
        go_wp2
        go_roundw
        case rel => exact ⟨i + 1, a2, y + 1, c2, Y ++ [(k : Int)], by go_num, by rfl, by omega, by omega, HS2, HC2, HN2⟩
        case measure => simp [intOf]; omega
      · go_wp2
        go_roundw
        case rel => exact ⟨i + 1, a3, y, c3, Y, by go_num, by rfl, by omega, by omega, HS, HC, HNn⟩
        case measure => simp [intOf]; omega
    · have hiP2 : i = P := by omega
      have hyl : y = Y.length := HS.out.len
      have HYl := Lib.hid hyl
      have hy60 : y ≤ 60 := by omega
      have HK2 := Lib.hid (HK1.out.trans HS.out.kept)
      have HRl2 := Lib.hid (HRl.out.keptNo HS.out.kept).room
      have HRy2 := Lib.hid HS.out.reads
      clear hyl HK1 HRl HSy HP hiP hiP2
      go_wp2_with fail
      refine (neww_any _).mono ?_
      rintro e w9 ⟨R, rfl, hW, hRf, hk⟩
      have HW := Lib.hid hW; have HRf := Lib.hid hRf; have HKn := Lib.hid hk
      have hk0 := hk.size
      clear hW hRf hk hlt
      have HWy := Lib.hid (write_yes L a9 c9 wr.heap.size a3 c3 Y R none 0 [] 0 w9 (HRl2.out.keptNo HKn.out) (HRy2.out.keptNo HKn.out) HW.out HRf.out (fun k hk => by simp [Value.ownBlock] at hk) hk0 HGp.out.small (by have := HGp.out.few; omega) HGp.out.ref HC.out (by have := HYl.out; omega) (by omega))
      rw [← HM.out, ← HYl.out] at HWy
      go_wp2_with fail
      refine HWy.out.mono ?_
      rintro e w10 ⟨aw, cw, bs, rfl, hwr⟩
      obtain ⟨ps, hps⟩ : ∃ ps, ps = wordsL L Y := ⟨_, rfl⟩
      rw [← hps] at hwr
      obtain ⟨hw1, hw2, hw3, hw4⟩ := hwr
      rw [Nat.zero_add] at hw1
      have hnum : num bs = putsN ps := by rw [hw2]; simp [num]
      have hdis : ∀ j, j < wr.heap.size → ¬ (OrB (OneB R) (OwnB (.slice none 0 0))) j := by
        intro j hj e
        rcases e with e | e
        · have := HRf.out; unfold OneB at e; omega
        · simp [OwnB, Value.ownBlock] at e
      have HRl10 := Lib.hid ((HRl2.out.keptNo HKn.out).kept hw3 hdis).room
      have HRy10 := Lib.hid ((HRy2.out.keptNo HKn.out).kept hw3 hdis).room
      have hbel : Below w.heap.size w w10 := hw3.below ((HK2.out.trans HKn.out).belowNo (Below.refl _ _)) (by
        intro k e
        rcases e with e | e
        · have h1 := HRf.out; have h2 := HK2.out.size; unfold OneB at e; omega
        · simp [OwnB, Value.ownBlock] at e)
      obtain ⟨wd, hwd⟩ : ∃ wd, wd = wdN ps := ⟨_, rfl⟩
      rw [← hwd] at hw1
      have hwdb : wd ≤ 15 * 60 := by
        have := wdN_le L HGp.out.small Y HC.out
        rw [← hps, ← hwd] at this
        have := HYl.out
        omega
      have HW10 := Lib.hid hw1; have HNum := Lib.hid hnum; have HB10 := Lib.hid hbel; have HPs := Lib.hid hps; have HWd := Lib.hid hwd
      clear hw1 hw2 hw3 hw4 hnum hdis hbel HWy HRl2 HRy2 HKn HW HRf HK2 hk0 HS hps hwd
      go_wp2_with fail
      refine (wlen_any _ _ _ _ _ _ HW10.out).mono ?_
      rintro e w11 ⟨rfl, hk⟩
      have HK11 := Lib.hid hk
      clear hk
      obtain ⟨x, hx⟩ : ∃ x : Int, x = (m : Int) + bad % 256 := ⟨_, rfl⟩
      have hx2 : (m : Int) ≤ x ∧ x ≤ 1000 := by omega
      have hwx : IntKind.i64.wrap ((m : Int) + bad % 256) = x := by rw [IntWalk.i64_in _ (by omega)]; exact hx.symm
      have HXe := Lib.hid hx
      have HWn : Hid (∀ (W : World) (ta : Option Addr) (tc : Nat), W.ownsRow 0 3 1 (.slice ta (y + 1) tc) (y + 1) (Y.map (.int .i64) ++ [.int .i64 x]) → Kept NoB w11 W →
          Calls Try.prog 22 #[.pointer (some ⟨R, 0, none⟩), .slice a9 m c9, .slice ta (y + 1) tc] W fun e w' => e = .returned (.int .i64 1) ∧ Kept NoB W w') := Lib.hid (by
        intro W ta tc ho hk
        have hk' := HK11.out.trans hk
        have hlen : (Y ++ [x]).length = y + 1 := by simp; exact HYl.out.symm
        have ho2 : W.ownsRow 0 3 1 (.slice ta (y + 1) tc) (y + 1) ((Y ++ [x]).map (.int .i64)) := by rw [List.map_append]; exact ho
        have h := write_no L a9 c9 _ ta tc Y x R aw cw bs wd W (HRl10.out.keptNo hk') (own_reads_int hlen.symm ho2) (HW10.out.keptNo hk') HGp.out.small (by have := HGp.out.few; omega) HGp.out.ref HC.out (by have := HYl.out; omega) (by have := HM.out; omega)
        rwa [hlen, ← HM.out] at h)
      clear hx
      go_upto_region 13 with fail
      go_cut [13] from 66 to 79 (fun v13 wx => v13 = .int .i64 1 ∧ Hid (Kept NoB w11 wx))
      case first =>
        have hemp : (w11.alloc (.cells #[] 3)).ownsRow 0 3 1 (.slice (some ⟨w11.heap.size, 0, none⟩) 0 0) 0 [] := World.ownsRow_lit w11 #[] 0 (Nat.zero_le _) (Nat.zero_le _) rfl
        have HEmp := Lib.hid hemp
        clear hemp
        cases a3 with
        | none =>
          obtain ⟨hy0, hc0⟩ := HNn.out rfl
          subst hy0
          subst hc0
          have hY0 : Y = [] := List.eq_nil_of_length_eq_zero HYl.out.symm
          have HE2 := Lib.hid (HEmp.out.alloc (.cells #[.int .i64 x] 3))
          have HY0 := Lib.hid hY0
          have hcn := cell_one_new (w11.alloc (.cells #[] 3)) (.int .i64 x) 3
          rw [show (w11.alloc (.cells #[] 3)).heap.size = w11.heap.size + 1 from by simp] at hcn
          clear hY0
          go_wp2_with (at_builtin; refine wpList_app _ rfl _ _ 22 rfl 3 i0 (.int .i64 0) 1 8 Try.underlying22 hi hz0 hz1 hz2 rfl (by decide) _ 0 [] rfl HE2.out ⟨w11.heap.size + 1, 0, none⟩ 1 1 [.int .i64 x] rfl rfl hcn ?d2 ?d3 ?d4 ?_)
          case d2 => first | rfl | (intro u hu; simp at hu; subst hu; rfl)
          case d3 => unfold maxLen; omega
          try (case d4 => omega)
          intro v' w2 hown' hgrow hnew
          obtain ⟨ta, tc, rfl⟩ := own_shape2 hown'
          have HO := Lib.hid hown'
          have hk2 : Kept NoB w11 w2 := (((Kept.refl NoB w11).alloc _).alloc _).grown hgrow (fun k hk e => by simp [Value.ownBlock] at e; omega)
          have HK2 := Lib.hid hk2
          have HWc := Lib.hid (HWn.out w2 ta tc (by rw [HY0.out]; exact HO.out) HK2.out)
          clear hown' hgrow hnew hk2 hcn
          go_wp2_with fail
          refine HWc.out.mono ?_
          rintro e w3 ⟨rfl, hk⟩
          have HK3 := Lib.hid (HK2.out.trans hk)
          clear hk
          go_wp2
          go_meet
          exact ⟨rfl, HK3⟩
        | some ad =>
          have hrn : ∀ j u, (Y.map (Value.int .i64))[j]? = some u → (w11.alloc (.cells #[] 3)).cell? (ad.add j) = some u := by
            intro j u hu
            have hj : j < Y.length := by have := (List.getElem?_eq_some_iff.1 hu).1; simpa using this
            obtain ⟨g, off, he, _, hc⟩ := HRy10.out j hj
            cases he
            have := (HK11.out.alloc (.cells #[] 3)).cell hc
            rw [addr_add, this, ← hu]
            simp [List.getD, hj]
          have HRn := Lib.hid hrn
          have hml : (Y.map (Value.int .i64)).length = y * 1 := by rw [List.length_map, Nat.mul_one]; exact HYl.out.symm
          have HMl := Lib.hid hml
          clear hrn hml
          go_wp2_with (at_builtin; refine wpList_app _ rfl _ _ 22 rfl 3 i0 (.int .i64 0) 1 8 Try.underlying22 hi hz0 hz1 hz2 rfl (by decide) _ 0 [] rfl HEmp.out ad y c3 (Y.map (.int .i64)) rfl HMl.out HRn.out ?e2 ?e3 ?e4 ?_)
          case e2 => intro u hu; obtain ⟨x, _, rfl⟩ := List.mem_map.1 hu; rfl
          case e3 => unfold maxLen; omega
          case e4 => omega
          intro v' w2 hown' hgrow hnew
          obtain ⟨ta, tc, rfl⟩ := own_shape2 hown'
          try rw [List.nil_append] at hown'
          try rw [Nat.zero_add] at hown'
          have hk2 : Kept NoB w11 w2 := ((Kept.refl NoB w11).alloc (.cells #[] 3)).grown hgrow (fun k hk e => by simp [Value.ownBlock] at e; omega)
          have HO2 := Lib.hid (hown'.alloc (.cells #[.int .i64 x] 3)); have HK2 := Lib.hid hk2
          have hnew' : ∀ k, (Value.slice ta y tc).ownBlock = some k → w11.heap.size ≤ k := by
            intro k hk
            have hk' : (Value.slice ta (0 + y) tc).ownBlock = some k := by rw [Nat.zero_add]; exact hk
            rcases hnew k (by first | exact hk | exact hk') with h | h
            · simp [Value.ownBlock] at h; omega
            · first | omega | (simp at h; omega)
          have HNew := Lib.hid hnew'
          clear hown' hgrow hnew hk2 hnew'
          go_wp2_with (at_builtin; refine wpList_app _ rfl _ _ 22 rfl 3 i0 (.int .i64 0) 1 8 Try.underlying22 hi hz0 hz1 hz2 rfl (by decide) _ y (Y.map (.int .i64)) rfl HO2.out ⟨w2.heap.size, 0, none⟩ 1 1 [.int .i64 x] rfl rfl (cell_one_new _ _ _) ?f2 ?f3 ?f4 ?_)
          case f2 => first | rfl | (intro u hu; simp at hu; subst hu; rfl)
          case f3 => unfold maxLen; omega
          case f4 => omega
          intro v' w3 hown' hgrow hnew
          obtain ⟨ta2, tc2, rfl⟩ := own_shape2 hown'
          have HO := Lib.hid hown'
          have hk3 : Kept NoB w11 w3 := (HK2.out.alloc (.cells #[.int .i64 x] 3)).grown hgrow (fun k hk e => by
            have := HNew.out k e; omega)
          have HK3 := Lib.hid hk3
          have HWc := Lib.hid (HWn.out w3 ta2 tc2 HO.out HK3.out)
          clear hown' hgrow hnew hk3
          go_wp2_with fail
          refine HWc.out.mono ?_
          rintro e w4 ⟨rfl, hk⟩
          have HK4 := Lib.hid (HK3.out.trans hk)
          clear hk
          go_wp2
          go_meet
          exact ⟨rfl, HK4⟩
      case rest =>
      obtain ⟨rfl, HK12⟩ := hcut
      have HK12' := Lib.hid (HK11.out.trans HK12.out)
      go_wp2_with fail
      refine (wlen_any _ _ _ _ _ _ (HW10.out.keptNo HK12'.out)).mono ?_
      rintro e w13 ⟨rfl, hk⟩
      have HK13 := Lib.hid (HK12'.out.trans hk)
      clear hk
      have hL320 : L.length ≤ 320 := by have := HGp.out.few; omega
      have HNa := Lib.hid (new_calls a9 c9 _ L w13 (HRl10.out.keptNo HK13.out) HGp.out.small hL320 HGp.out.ref)
      rw [← HM.out] at HNa
      have q1 : ((wd : Int) != (wd : Int)) = false := by simp
      go_wp2_with fail
      refine HNa.out.mono ?_
      rintro e w14 ⟨D1, rfl, _, hD, hk⟩
      have HD1 := Lib.hid hD.toB; have HK14 := Lib.hid (HK13.out.trans hk)
      clear hD hk HNa
      go_wp2_with fail
      refine (wbytes_any _ _ _ _ _ _ (HW10.out.keptNo HK14.out)).mono ?_
      rintro e w15 ⟨ab, cb2, rfl, ho, hf, _, hk⟩
      have HRd := Lib.hid (own_reads ho rfl); have HK15 := Lib.hid (HK14.out.trans hk); have HD15 := Lib.hid (HD1.out.kept hk (fun _ _ h => h))
      have hsz := hk.size
      have hbl := HW10.out.2.2.2.1
      have hab := HW10.out.2.2.1
      clear ho hf hk HD1
      have HNr := Lib.hid (newr_any ab cb2 bs w15 HRd.out (by omega) hab)
      have HBl := Lib.hid hbl
      clear hbl hab
      go_wp2_with fail
      refine HNr.out.mono ?_
      rintro e w16 ⟨R2, ar, cr, rfl, hR, hRf, hRo, hk⟩
      have HR := Lib.hid hR; have HK16 := Lib.hid (HK15.out.trans hk); have HD16 := Lib.hid (HD15.out.kept hk (fun _ _ h => h))
      have hDR : w14.heap.size ≤ R2 := by omega
      have hbR : w10.heap.size ≤ R2 := by have := HK14.out.size; omega
      clear hR hRf hRo hk HNr HD15
      go_wp2
      go_loopw [17, 18, 19] (fun v17 _ _ wr => ∃ i : Nat, v17 = .int .i64 (i : Int) ∧ i ≤ y ∧ Hid (Rdr wr R2 ar cr bs (wdN (ps.take i))) ∧ Hid (Kept (OneB R2) w16 wr)) (fun v17 _ _ _ => y - (intOf v17).toNat)
      case atStart => exact ⟨0, rfl, by omega, HR, Kept.refl _ _⟩
      case round =>
        obtain ⟨j, rfl, hjy, HRj, HKj⟩ := hrel
        by_cases hlt : (j : Int) < y
        · have hjl : j < Y.length := by have := HYl.out; omega
          obtain ⟨k, hzk, hkl, hk0⟩ := HC.out _ (get_mem' hjl)
          obtain ⟨p, hp⟩ : ∃ p, p = wdN (ps.take j) := ⟨_, rfl⟩
          have hrj := HRj.out
          rw [← hp] at hrj
          have hpl := hrj.2.2.2.1
          obtain ⟨T, hT, hT15, hTp, hT0⟩ := min3_at (8 * bs.length) p hpl
          rw [show ((8 * bs.length : Nat) : Int) = 8 * (bs.length : Int) from by omega] at hT
          obtain ⟨n, hn1, hn2, hrs⟩ := read_word L HGp.out.small hL320 HGp.out.ref Y bs (by rw [← HPs.out]; exact HNum.out) (by rw [← HPs.out, ← HWd.out]; have := HBl.out; omega) j k hjl hzk hkl hk0 p T (by rw [← HPs.out]; exact hp) hT
          rw [← HPs.out] at hn2
          have hRa := read_calls L D1 _ R2 ar cr bs p T wr (HD16.out.kept HKj.out (fun k hk e => by unfold OneB at e; omega)) hrj hDR HGp.out.small hL320 hT
          have HRa := Lib.hid hRa; have HRs := Lib.hid hrs; have HP2 := Lib.hid hn2; have HZk := Lib.hid hzk
          have hkept := HKj.out
          have HJl := Lib.hid hjl
          clear hRa hrs hn2 hrj hp hT hpl hzk hjl hkl hk0 hn1
          go_wp2_with fail
          refine HRa.out.mono ?_
          rintro e w17 ⟨s, f, q, rfl, hrs2, hR7, hk7⟩
          obtain ⟨rfl, rfl, rfl⟩ := read_det L hL320 HGp.out.small T _ p _ _ _ _ _ _ HRs.out hrs2
          have HR7 := Lib.hid hR7; have HK7 := Lib.hid (HKj.out.trans hk7)
          obtain ⟨g1, o1, rfl, _, x0⟩ := ((HRy10.out.keptNo (HK16.out)).kept HK7.out (fun k hk e => by unfold OneB at e; omega)) j HJl.out
          rw [HZk.out] at x0
          have q2 : ((k : Int) != (k : Int)) = false := by simp
          clear hrs2 hR7 hk7 HRa HRs
          go_wp2
          go_roundw
          case rel => exact ⟨j + 1, by go_num, by omega, by rw [HP2.out]; exact HR7, HK7⟩
          case measure => simp [intOf]; omega
        · have hjy2 : j = y := by omega
          subst hjy2
          have hrj := HRj.out
          have hpe : wdN (ps.take j) = wd := by
            rw [List.take_of_length_le (by rw [HPs.out, wordsL, List.length_map, ← HYl.out]; exact Nat.le_refl _), HWd.out]
          rw [hpe] at hrj
          have HAt := Lib.hid (at_same _ _ _ _ _ _ hrj)
          have q3 : ((wd : Int) == (wd : Int)) = true := by simp
          clear hrj hpe
          go_wp2_with fail
          refine HAt.out.mono ?_
          rintro e w17 ⟨rfl, rfl⟩
          go_wp2_with fail
          refine (HAw.out _).mono ?_
          rintro e w18 ⟨rfl, hk⟩
          have HKz := Lib.hid (hk.belowNo ((HKj.out.below ((HK16.out).belowNo HB10.out) (by
            intro k e; have := HB10.out.size; unfold OneB at e; omega))))
          clear hk
          go_wp2
          go_ret
          exact ⟨rfl, HKz.out⟩

theorem canonBack_law (v0 v1 v2 : Value) (w : World) (r0 : Arg w 22 v0) (r1 : Arg w 22 v1) (r2 : Arg w 3 v2) : Calls Try.prog 6 #[v0, v1, v2] w fun e w' => e = .returned (.bool true) ∧ Below w.heap.size w w' := by
  obtain ⟨ao, ca, ws, rfl, _, _, hx, _, _⟩ := r0.ints
  obtain ⟨bo, cb, sy, rfl, hc, hmb, hy, _, _⟩ := r1.ints
  obtain ⟨bad, rfl, _⟩ := r2.int rfl
  exact canonBack_walk ao ca ws bo cb sy bad w hx hy (by omega)
end Go.Proofs.Ytokdlmpnokmniaa
