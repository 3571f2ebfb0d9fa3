/-
  NumTexts: any number has the digits that the document says, and is read from them; any text is a number, or none.
-/
import Derived.Test.YtbambcondcikbaaDoorRNumy
import Derived.Test.YtbambcondcikbaaDoorAwakeN
import Derived.Test.YtbambcondcikbaaDoorMark
import Derived.Test.YtbambcondcikbaaDoorOwnSet
namespace Go.Proofs.YtbambcondcikbaaDoor
open Go.RowKit Go.Lib
set_option linter.unusedVariables false
set_option linter.unusedSimpArgs false

set_option maxRecDepth 100000 in
set_option maxHeartbeats 4000000 in
theorem numTexts_walk (n : Int) (s : ByteArray) (at0 by0 : Int) (w : World) (h0 : -9223372036854775808 ≤ n) (h1 : n ≤ 9223372036854775807) (hby : 0 ≤ by0 ∧ by0 ≤ 255) (htab : Pow10 w) (herr : ErrVars w) :
    Calls Tryd.prog 3 #[.int .i64 n, .string s, .int .i64 at0, .int .u8 by0] w fun e w' => e = .returned (.bool true) ∧ Below w.heap.size w w' := by
  have HT := Lib.hid htab; have HE := Lib.hid herr
  clear htab herr
  obtain ⟨N, hN⟩ : ∃ N, s.size = N := ⟨_, rfl⟩
  by_cases h60 : 60 < N
  · have hAw := Lib.hid (awake16 w HT.out)
    go_enter Tryd.func3, Tryd.ntmps3
    go_wp2_with fail
    refine hAw.out.mono ?_
    rintro e w6 ⟨rfl, hb6⟩
    go_wp2
    go_ret
    exact ⟨rfl, hb6⟩
  · obtain ⟨T, hT⟩ : ∃ T : ByteArray, T = ⟨(itoa n).toArray⟩ := ⟨_, rfl⟩
    have hdg := digits_any n h0 h1 w HT.out
    have hrd := fun W => rDigits_any n W h0 h1
    have hTL : T.data.toList = itoa n := by rw [hT]
    have hlen : 1 ≤ (itoa n).length ∧ (itoa n).length ≤ 21 := by
      have hU : ∀ U : Nat, U ≤ 9223372036854775808 → 1 ≤ (decDigits U).length ∧ (decDigits U).length ≤ 19 := fun U hU => by
        refine ⟨?_, decDigits_len 19 U (by decide) (by omega)⟩
        have := decDigits_ne U
        cases hd : decDigits U with
        | nil => exact absurd hd this
        | cons _ _ => simp
      rcases itoa_parts n h0 h1 with ⟨_, U, _, _, h2, hit⟩ | ⟨_, U, _, h2, hit⟩
      · have := hU U (by omega)
        rw [hit, List.length_append]; simp; omega
      · have := hU U (by omega)
        rw [hit, List.length_append]; simp; omega
    obtain ⟨bs, hbs⟩ : ∃ bs : List Int, bs = (itoa n).map fun b => (b.toNat : Int) := ⟨_, rfl⟩
    have hTb : T = strOfNums bs := by rw [hbs, strOf_bytes, hT]
    have hbl : bs.length = (itoa n).length := by rw [hbs]; simp
    have hbb : AllB bs := by
      rw [hbs]
      intro b hb
      obtain ⟨c, _, rfl⟩ := List.mem_map.1 hb
      have := UInt8.toNat_lt c
      omega
    have hnum := numL_yes n h0 h1
    rw [← hTL] at hnum
    have hTs : T.size ≤ 1000 := by rw [hT]; show (itoa n).length ≤ 1000; omega
    rw [← hT] at hdg hrd
    have hself := tl_eq T
    have HDg := Lib.hid hdg; have HRd := Lib.hid hrd; have HTb := Lib.hid hTb; have HBb := Lib.hid hbb; have HNum := Lib.hid hnum; have HTs := Lib.hid hTs
    obtain ⟨len, hln⟩ : ∃ len, bs.length = len := ⟨_, rfl⟩
    have hl1 : 1 ≤ len ∧ len ≤ 21 := by omega
    clear hdg hrd hTL hT hTb hbb hnum hbl hlen hbs hTs
    go_enter Tryd.func3, Tryd.ntmps3
    go_wp2_with fail
    refine HDg.out.mono ?_
    rintro e w1 ⟨rfl, hk1⟩
    have HK1 := Lib.hid hk1
    clear hk1 HDg
    go_wp2_with fail
    refine (HRd.out _).mono ?_
    rintro e w2 ⟨rfl, rfl⟩
    have hno := number_any T w1 HTs.out (HT.out.keptNo HK1.out) (HE.out.keptNo HK1.out)
    rw [HNum.out] at hno
    have HNo := Lib.hid hno
    clear hno
    go_wp2_with fail
    refine HNo.out.mono ?_
    rintro e w2 ⟨rfl, hk2⟩
    have HK2 := Lib.hid (HK1.out.trans hk2)
    clear hk2 HK1 HNo HNum
    go_wp2_with fail
    refine (HRd.out _).mono ?_
    rintro e w3 ⟨rfl, rfl⟩
    clear HRd
    obtain ⟨cd, w3, hrun, hown, hk3⟩ := conv_mark w2 bs (by omega) HBb.out
    rw [← HTb.out, hln] at hrun
    obtain ⟨G, hG⟩ : ∃ G, G = w2.heap.size := ⟨_, rfl⟩
    rw [← hG] at hrun hown
    have hGw : w.heap.size ≤ G := by rw [hG]; exact HK2.out.size
    obtain ⟨j, hj⟩ : ∃ j : Nat, (j : Int) = at0 % 256 % (len : Int) := ⟨(at0 % 256 % (len : Int)).toNat, Int.toNat_of_nonneg (Int.emod_nonneg _ (by omega))⟩
    have hjl : j < len := by have := Int.emod_lt_of_pos (at0 % 256) (show (0 : Int) < len by omega); omega
    have hma := mask255 at0
    have hj2 : at0 % 256 % (len : Int) = (j : Int) := hj.symm
    have hj3 : (at0 % 256).tmod (len : Int) = (j : Int) := by rw [Int.tmod_eq_emod_of_nonneg (by omega)]; exact hj.symm
    have hcz := hown.cellAt j (by omega)
    have hzz := AllB.getD HBb.out j
    generalize hz : bs.getD j 0 = z at hcz hzz
    obtain ⟨x, hx⟩ : ∃ x, x = bits .xor .u8 z by0 := ⟨_, rfl⟩
    have hxr := xor_u8 z by0
    rw [← hx] at hxr
    have hx2 := hx.symm
    obtain ⟨hfz, hown4⟩ := hown.set j (by omega) x
    have hck := own_capM hown
    have HR4 := Lib.hid (hown4.reads)
    have hl4 : (bs.set j x).length = len := by rw [List.length_set, hln]
    have HK4 := Lib.hid (Kept.setCell (S := NoB) (p := ⟨G, j, none⟩) (HK2.out.trans hk3) (.inr hGw) (.int .u8 x))
    clear hk3 hown hown4 hj hx hz hxr hG
    go_upto_region 9 with fail
    clear hrun hcz hfz hma hj2 hj3 hx2 hself
    generalize w3.setCell ⟨G, j, none⟩ (.int .u8 x) = w4 at HR4 HK4 ⊢
    have hs2 : (strOfNums (bs.set j x)).size = len := by rw [strOfNums_size, hl4]
    go_wp2
    go_loopw [13] (fun v13 wr => ∃ i : Nat, i ≤ 2 ∧ v13 = .int .i64 (i : Int) ∧ Hid (Kept NoB w4 wr)) (fun v13 _ => 2 - (RowKit.intOf v13).toNat)
    case atStart => exact ⟨0, by omega, rfl, Kept.refl _ _⟩
    case round =>
      obtain ⟨i, hi3, rfl, HKr⟩ := hrel
      by_cases hlt : i < 2
      · obtain ⟨S2, hS2⟩ : ∃ S2, S2 = strOfNums (bs.set j x) := ⟨_, rfl⟩
        have hrow : ∃ X : ByteArray, (#[Value.string s, .string S2] : Array Value)[i]? = some (.string X) ∧ Hid (X.size ≤ 1000) := by
          have hc3 : i = 0 ∨ i = 1 := by omega
          rcases hc3 with rfl | rfl
          · exact ⟨s, rfl, (by omega : s.size ≤ 1000)⟩
          · exact ⟨S2, rfl, (by rw [hS2, hs2]; omega : S2.size ≤ 1000)⟩
        obtain ⟨X, hget, HXs⟩ := hrow
        have hcv := conv_reads (n := len) (cap := cd) (HR4.out.keptNo HKr.out) hl4.symm (fun h => by cases h)
        rw [← hS2] at hcv
        have hcell : (wr.alloc (.cells #[Value.string s, .string S2] 9)).cell? ⟨wr.heap.size, i, none⟩ = some (.string X) := by
          rw [cell_new i rfl]; exact hget
        have HKn := Lib.hid (HKr.out.alloc (.cells #[Value.string s, .string S2] 9))
        have HKw := Lib.hid (HK4.out.trans HKn.out)
        have hno := number_any X (wr.alloc (.cells #[Value.string s, .string S2] 9)) HXs.out (HT.out.keptNo HKw.out) (HE.out.keptNo HKw.out)
        have hrn := fun W => rNumber_any X W HXs.out
        generalize numL X.data.toList = q at hno hrn
        obtain ⟨qv, qb⟩ := q
        have HNo := Lib.hid hno; have HRn := Lib.hid hrn
        have hii : (i : Int) < 2 := by omega
        clear hno hrn hget hS2
        go_wp2_with fail
        refine HNo.out.mono ?_
        rintro e w5 ⟨rfl, hk5⟩
        have HK5 := Lib.hid (HKn.out.trans hk5)
        clear HNo hcell hcv hk5
        go_wp2_with fail
        refine (HRn.out _).mono ?_
        rintro e w6 ⟨rfl, rfl⟩
        clear HRn
        cases qb
        all_goals
          go_wp2
          go_roundw
          case rel => exact ⟨i + 1, by omega, by go_num, HK5⟩
          case measure => simp [RowKit.intOf]; omega
      · have hii : ¬ (i : Int) < 2 := by omega
        have HKz := Lib.hid (HK4.out.trans HKr.out)
        have hAw := Lib.hid (awake16 wr (HT.out.keptNo HKz.out))
        go_wp2_with fail
        refine hAw.out.mono ?_
        rintro e w6 ⟨rfl, hb6⟩
        have hfin := (HKz.out.ofBelow hb6).belowNo (Below.refl _ _)
        go_wp2
        go_ret
        exact ⟨rfl, hfin⟩

theorem numTexts_law (v0 v1 v2 v3 : Value) (w : World) (r0 : Arg w 3 v0) (r1 : Arg w 9 v1) (r2 : Arg w 3 v2) (r3 : Arg w 5 v3) (htab : Pow10 w ∧ ErrVars w) : Calls Tryd.prog 3 #[v0, v1, v2, v3] w fun e w' => e = .returned (.bool true) ∧ Below w.heap.size w w' := by
  obtain ⟨n, rfl, hn⟩ := r0.int Tryd.underlying3
  obtain ⟨s, rfl, _⟩ := r1.string Tryd.underlying9
  obtain ⟨a, rfl, _⟩ := r2.int Tryd.underlying3
  obtain ⟨y, rfl, hy⟩ := r3.int Tryd.underlying5
  exact numTexts_walk n s a y w (i64_bd hn).1 (i64_bd hn).2 (u8_bd hy) htab.1 htab.2
end Go.Proofs.YtbambcondcikbaaDoor
