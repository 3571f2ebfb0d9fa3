/-
  PaxTimes: any time has the text that the document says, and is read from it; any text is a time, or none.
-/
import Derived.Test.YtclcgiochjibjaaDoorRTimeT
import Derived.Test.YtclcgiochjibjaaDoorAwakeX
import Derived.Test.YtclcgiochjibjaaDoorOwnSet
import Derived.Test.YtclcgiochjibjaaDoorInts
import Derived.Test.YtclcgiochjibjaaDoorMask
namespace Go.Proofs.YtclcgiochjibjaaDoor
open Go.RowKit
set_option linter.unusedVariables false
set_option linter.unusedSimpArgs false

theorem lit12 (k : Nat) (hk : k < 12) : ((⟨#[48, 49, 50, 51, 52, 53, 54, 55, 56, 57, 46, 45]⟩ : ByteArray).extract k (k + 1)).size = 1 := by
  have hc : k = 0 ∨ k = 1 ∨ k = 2 ∨ k = 3 ∨ k = 4 ∨ k = 5 ∨ k = 6 ∨ k = 7 ∨ k = 8 ∨ k = 9 ∨ k = 10 ∨ k = 11 := by omega
  rcases hc with rfl | rfl | rfl | rfl | rfl | rfl | rfl | rfl | rfl | rfl | rfl | rfl <;> decide +kernel

set_option maxRecDepth 100000 in
set_option maxHeartbeats 8000000 in
theorem paxTimes_walk (ns : Int) (s : ByteArray) (ao : Option Addr) (n cap : Nat) (zs : List Int) (at0 by0 : Int) (w : World) (h0 : -9223372036854775808 ≤ ns) (h1 : ns ≤ 9223372036854775807) (hby : 0 ≤ by0 ∧ by0 ≤ 255)
    (hn : n = zs.length) (hc : n ≤ cap) (hcm : cap ≤ maxLen) (hrd : RdI w w.heap.size ao zs) (htab : Pow10 w) (herr : ErrVars w) :
    Calls Tryd.prog 7 #[.int .i64 ns, .string s, .slice ao n cap, .int .i64 at0, .int .u8 by0] w fun e w' => e = .returned (.bool true) ∧ Below w.heap.size w w' := by
  have HT := Lib.hid htab; have HE := Lib.hid herr
  have HA := Lib.hid (fun W (h : Kept NoB w W) => awake18 W (HT.out.keptNo h) (HE.out.keptNo h))
  clear htab herr
  obtain ⟨N, hN⟩ : ∃ N, s.size = N := ⟨_, rfl⟩
  by_cases h100 : 100 < N
  · go_enter Tryd.func7, Tryd.ntmps7
    go_wp2_with fail
    refine (HA.out _ (Kept.refl _ _)).mono ?_
    rintro e w6 ⟨rfl, hk⟩
    have HK := Lib.hid hk
    clear hk
    go_wp2
    go_ret
    exact ⟨rfl, HK.out.belowNo (Below.refl _ _)⟩
  · have htx := text_any ns w h0 h1 HT.out
    have hrt := fun W => rtext_any ns W h0 h1
    have htl := text_len ns h0 h1
    have htt := time_text ns h0 h1
    have htm := fun W => time_any (textS ns) W (by omega)
    rw [htt] at htm
    obtain ⟨L, hL⟩ : ∃ L, L = textS ns := ⟨_, rfl⟩
    rw [← hL] at htx hrt htl htm
    obtain ⟨T, hTT⟩ : ∃ T, T = strB L := ⟨_, rfl⟩
    rw [← hTT] at htx hrt htm
    have hTb : T = strOfNums (nb L) := by rw [nb_str, hTT]
    obtain ⟨bs, hbs⟩ : ∃ bs, bs = nb L := ⟨_, rfl⟩
    rw [← hbs] at hTb
    have hbb : AllB bs := by rw [hbs]; exact nb_all L
    have hbl : bs.length = L.length := by rw [hbs, nb_len]
    have hself : (T.toList == T.toList) = true := by simp
    have HTx := Lib.hid htx; have HRt := Lib.hid hrt; have HTm := Lib.hid htm; have HTb := Lib.hid hTb; have HBb := Lib.hid hbb
    obtain ⟨len, hln⟩ : ∃ len, bs.length = len := ⟨_, rfl⟩
    have hl1 : 1 ≤ len ∧ len ≤ 40 := by omega
    have HR := Lib.hid hrd; have HN := Lib.hid hn
    have hcm2 : n ≤ 9223372036854775807 := by unfold maxLen at hcm; omega
    clear htx hrt htm htt htl hL hTT hTb hbs hbb hbl hrd hn hcm hc
    go_enter Tryd.func7, Tryd.ntmps7
    go_wp2_with fail
    refine HTx.out.mono ?_
    rintro e w1 ⟨rfl, hk1⟩
    have HK1 := Lib.hid hk1
    clear hk1
    go_wp2_with fail
    refine (HRt.out _).mono ?_
    rintro e w2 ⟨rfl, rfl⟩
    go_wp2_with fail
    refine (HTm.out _).mono ?_
    rintro e w2 ⟨rfl, hk2⟩
    have HK2 := Lib.hid (HK1.out.trans hk2)
    clear hk2
    go_wp2
    go_loopw [14, 15, 16] (fun v14 v15 v16 wr => ∃ (i : Nat) (D : ByteArray), v14 = .string D ∧ v15 = .int .i64 (i : Int) ∧ i ≤ n ∧ i ≤ 32 ∧ D.size ≤ i ∧ w2 = wr) (fun _ v15 _ _ => n - (intOf v15).toNat)
    case atStart => exact ⟨0, ⟨#[]⟩, rfl, rfl, by omega, by omega, Nat.le_refl _, rfl⟩
    case round =>
      obtain ⟨i, D, rfl, rfl, hi, hi32, hDi, rfl⟩ := hrel
      have hgo : ∀ (_ : i < n ∧ i < 32), ∃ (b off k : Nat) (z : Int), ao = some ⟨b, off, none⟩ ∧ w2.cell? ⟨b, off + i, none⟩ = some (.int .i64 z) ∧ bits .and .i64 z 255 = z % 256 ∧ z % 256 % 12 = (k : Int) ∧ k < 12 := fun h => by
        obtain ⟨b, off, ha, _, hcell⟩ := HR.out i (by have := HN.out; omega)
        refine ⟨b, off, (zs.getD i 0 % 256 % 12).toNat, zs.getD i 0, ha, HK2.out.cell hcell, mask255 _, ?_, ?_⟩ <;> omega
      by_cases hin : i < n
      · by_cases hi31 : i < 32
        · obtain ⟨b, off, k, z, rfl, hcell, hm, hk, hk12⟩ := hgo ⟨hin, hi31⟩
          have hk3 : (z % 256).tmod 12 = (k : Int) := by rw [Int.tmod_eq_emod_of_nonneg (by omega)]; exact hk
          have hxz := lit12 k hk12
          obtain ⟨X, hX⟩ : ∃ X, X = (⟨#[48, 49, 50, 51, 52, 53, 54, 55, 56, 57, 46, 45]⟩ : ByteArray).extract k (k + 1) := ⟨_, rfl⟩
          rw [← hX] at hxz
          have hx := hX.symm
          obtain ⟨D2, hD2⟩ : ∃ D2, D2 = D ++ X := ⟨_, rfl⟩
          have hd2 := hD2.symm
          have hD2z : D2.size ≤ i + 1 := by rw [hD2, ByteArray.size_append]; omega
          have q1 : (i : Int) < (n : Int) := by omega
          have q2 : (i : Int) < 32 := by omega
          clear hX hD2 hgo
          go_wp2
          go_roundw
          case rel => exact ⟨i + 1, D2, rfl, by go_num, by omega, by omega, hD2z, trivial⟩
          case measure => simp [intOf]; omega
        · have q1 : (i : Int) < (n : Int) := by omega
          have q2 : ¬ (i : Int) < 32 := by omega
          clear hgo
          go_wp2_with fail
          refine (HRt.out _).mono ?_
          rintro e w3 ⟨rfl, rfl⟩
          obtain ⟨cd, w3, hrun, hown, hk3⟩ := conv_mark w2 bs (by omega) HBb.out
          rw [← HTb.out, hln] at hrun
          obtain ⟨G, hG⟩ : ∃ G, G = w2.heap.size := ⟨_, rfl⟩
          rw [← hG] at hrun hown
          have hGw : w.heap.size ≤ G := by rw [hG]; exact HK2.out.size
          obtain ⟨j, hj⟩ : ∃ j : Nat, (j : Int) = at0 % 256 % (len : Int) := ⟨(at0 % 256 % (len : Int)).toNat, Int.toNat_of_nonneg (Int.emod_nonneg _ (by omega))⟩
          have hjl : j < len := by have := Int.emod_lt_of_pos (at0 % 256) (show (0 : Int) < len by omega); omega
          have hma := mask255 at0
          have hj2 : at0 % 256 % (len : Int) = (j : Int) := hj.symm
          have hj3 : (at0 % 256).tmod (len : Int) = (j : Int) := by rw [Int.tmod_eq_emod_of_nonneg (by omega)]; exact hj.symm
          have hcz := hown.cellAt j (by omega)
          generalize hz : bs.getD j 0 = z at hcz
          obtain ⟨x, hx⟩ : ∃ x, x = bits .xor .u8 z by0 := ⟨_, rfl⟩
          have hx2 := hx.symm
          obtain ⟨hfz, hown4⟩ := hown.set j (by omega) x
          have hck := own_capM hown
          have HR4 := Lib.hid (hown4.reads)
          have hl4 : (bs.set j x).length = len := by rw [List.length_set, hln]
          have HK4 := Lib.hid (Kept.setCell (S := NoB) (p := ⟨G, j, none⟩) (HK2.out.trans hk3) (.inr hGw) (.int .u8 x))
          clear hk3 hown hown4 hj hx hz hG
          go_upto_region 15 with fail
          clear hrun hcz hfz hma hj2 hj3 hx2 hself
          generalize w3.setCell ⟨G, j, none⟩ (.int .u8 x) = w4 at HR4 HK4 ⊢
          have hs2 : (strOfNums (bs.set j x)).size = len := by rw [strOfNums_size, hl4]
          go_wp2
          go_loopw [18, 19, 20, 21, 22, 23] (fun v18 v19 v20 v21 v22 v23 wr => ∃ i : Nat, i ≤ 3 ∧ v18 = .int .i64 (i : Int) ∧ Hid (Kept NoB w4 wr)) (fun v18 _ _ _ _ _ _ => 3 - (intOf v18).toNat)
          case atStart => exact ⟨0, by omega, rfl, Kept.refl _ _⟩
          case round =>
            obtain ⟨i2, hi3, rfl, HKr⟩ := hrel
            by_cases hlt : i2 < 3
            · obtain ⟨S2, hS2⟩ : ∃ S2, S2 = strOfNums (bs.set j x) := ⟨_, rfl⟩
              have hrow : ∃ X : ByteArray, (#[Value.string s, .string D, .string S2] : Array Value)[i2]? = some (.string X) ∧ Hid (X.size ≤ 1000) := by
                have hc3 : i2 = 0 ∨ i2 = 1 ∨ i2 = 2 := by omega
                rcases hc3 with rfl | rfl | rfl
                · exact ⟨s, rfl, (by omega : s.size ≤ 1000)⟩
                · exact ⟨D, rfl, (by omega : D.size ≤ 1000)⟩
                · exact ⟨S2, rfl, (by rw [hS2, hs2]; omega : S2.size ≤ 1000)⟩
              obtain ⟨X, hget, HXs⟩ := hrow
              have hcv := conv_reads (n := len) (cap := cd) (HR4.out.keptNo HKr.out) hl4.symm (fun h => by cases h)
              rw [← hS2] at hcv
              have hcell : (wr.alloc (.cells #[Value.string s, .string D, .string S2] 9)).cell? ⟨wr.heap.size, i2, none⟩ = some (.string X) := by
                rw [cell_new i2 rfl]; exact hget
              have HKn := Lib.hid (HKr.out.alloc (.cells #[Value.string s, .string D, .string S2] 9))
              have hxl : X.data.toList.length ≤ 1000 := by have := HXs.out; rw [Array.length_toList]; exact this
              have hno := fun W => time_any X.data.toList W (by omega)
              have hrn := fun W => rtime_any X.data.toList W hxl
              rw [strB_of] at hno hrn
              generalize timeS X.data.toList = q at hno hrn
              obtain ⟨qv, qb⟩ := q
              have HNo := Lib.hid hno; have HRn := Lib.hid hrn
              have hii : (i2 : Int) < 3 := by omega
              clear hno hrn hget hS2 hxl
              go_wp2_with fail
              refine (HNo.out _).mono ?_
              rintro e w5 ⟨rfl, hk5⟩
              have HK5 := Lib.hid (HKn.out.trans hk5)
              clear HNo hcell hcv hk5
              go_wp2_with fail
              refine (HRn.out _).mono ?_
              rintro e w6 ⟨rfl, rfl⟩
              clear HRn
              cases qb
              all_goals
                go_wp2
                go_roundw
                case rel => exact ⟨i2 + 1, by omega, by go_num, HK5⟩
                case measure => simp [RowKit.intOf]; omega
            · have hii : ¬ (i2 : Int) < 3 := by omega
              have HKz := Lib.hid (HK4.out.trans HKr.out)
              go_wp2_with fail
              refine (HA.out _ HKz.out).mono ?_
              rintro e w6 ⟨rfl, hb6⟩
              have hfin := (HKz.out.trans hb6).belowNo (Below.refl _ _)
              go_wp2
              go_ret
              exact ⟨rfl, hfin⟩
      · have q1 : ¬ (i : Int) < (n : Int) := by omega
        clear hgo
        go_wp2_with fail
        refine (HRt.out _).mono ?_
        rintro e w3 ⟨rfl, rfl⟩
        obtain ⟨cd, w3, hrun, hown, hk3⟩ := conv_mark w2 bs (by omega) HBb.out
        rw [← HTb.out, hln] at hrun
        obtain ⟨G, hG⟩ : ∃ G, G = w2.heap.size := ⟨_, rfl⟩
        rw [← hG] at hrun hown
        have hGw : w.heap.size ≤ G := by rw [hG]; exact HK2.out.size
        obtain ⟨j, hj⟩ : ∃ j : Nat, (j : Int) = at0 % 256 % (len : Int) := ⟨(at0 % 256 % (len : Int)).toNat, Int.toNat_of_nonneg (Int.emod_nonneg _ (by omega))⟩
        have hjl : j < len := by have := Int.emod_lt_of_pos (at0 % 256) (show (0 : Int) < len by omega); omega
        have hma := mask255 at0
        have hj2 : at0 % 256 % (len : Int) = (j : Int) := hj.symm
        have hj3 : (at0 % 256).tmod (len : Int) = (j : Int) := by rw [Int.tmod_eq_emod_of_nonneg (by omega)]; exact hj.symm
        have hcz := hown.cellAt j (by omega)
        generalize hz : bs.getD j 0 = z at hcz
        obtain ⟨x, hx⟩ : ∃ x, x = bits .xor .u8 z by0 := ⟨_, rfl⟩
        have hx2 := hx.symm
        obtain ⟨hfz, hown4⟩ := hown.set j (by omega) x
        have hck := own_capM hown
        have HR4 := Lib.hid (hown4.reads)
        have hl4 : (bs.set j x).length = len := by rw [List.length_set, hln]
        have HK4 := Lib.hid (Kept.setCell (S := NoB) (p := ⟨G, j, none⟩) (HK2.out.trans hk3) (.inr hGw) (.int .u8 x))
        clear hk3 hown hown4 hj hx hz hG
        go_upto_region 15 with fail
        clear hrun hcz hfz hma hj2 hj3 hx2 hself
        generalize w3.setCell ⟨G, j, none⟩ (.int .u8 x) = w4 at HR4 HK4 ⊢
        have hs2 : (strOfNums (bs.set j x)).size = len := by rw [strOfNums_size, hl4]
        go_wp2
        go_loopw [18, 19, 20, 21, 22, 23] (fun v18 v19 v20 v21 v22 v23 wr => ∃ i : Nat, i ≤ 3 ∧ v18 = .int .i64 (i : Int) ∧ Hid (Kept NoB w4 wr)) (fun v18 _ _ _ _ _ _ => 3 - (intOf v18).toNat)
        case atStart => exact ⟨0, by omega, rfl, Kept.refl _ _⟩
        case round =>
          obtain ⟨i2, hi3, rfl, HKr⟩ := hrel
          by_cases hlt : i2 < 3
          · obtain ⟨S2, hS2⟩ : ∃ S2, S2 = strOfNums (bs.set j x) := ⟨_, rfl⟩
            have hrow : ∃ X : ByteArray, (#[Value.string s, .string D, .string S2] : Array Value)[i2]? = some (.string X) ∧ Hid (X.size ≤ 1000) := by
              have hc3 : i2 = 0 ∨ i2 = 1 ∨ i2 = 2 := by omega
              rcases hc3 with rfl | rfl | rfl
              · exact ⟨s, rfl, (by omega : s.size ≤ 1000)⟩
              · exact ⟨D, rfl, (by omega : D.size ≤ 1000)⟩
              · exact ⟨S2, rfl, (by rw [hS2, hs2]; omega : S2.size ≤ 1000)⟩
            obtain ⟨X, hget, HXs⟩ := hrow
            have hcv := conv_reads (n := len) (cap := cd) (HR4.out.keptNo HKr.out) hl4.symm (fun h => by cases h)
            rw [← hS2] at hcv
            have hcell : (wr.alloc (.cells #[Value.string s, .string D, .string S2] 9)).cell? ⟨wr.heap.size, i2, none⟩ = some (.string X) := by
              rw [cell_new i2 rfl]; exact hget
            have HKn := Lib.hid (HKr.out.alloc (.cells #[Value.string s, .string D, .string S2] 9))
            have hxl : X.data.toList.length ≤ 1000 := by have := HXs.out; rw [Array.length_toList]; exact this
            have hno := fun W => time_any X.data.toList W (by omega)
            have hrn := fun W => rtime_any X.data.toList W hxl
            rw [strB_of] at hno hrn
            generalize timeS X.data.toList = q at hno hrn
            obtain ⟨qv, qb⟩ := q
            have HNo := Lib.hid hno; have HRn := Lib.hid hrn
            have hii : (i2 : Int) < 3 := by omega
            clear hno hrn hget hS2 hxl
            go_wp2_with fail
            refine (HNo.out _).mono ?_
            rintro e w5 ⟨rfl, hk5⟩
            have HK5 := Lib.hid (HKn.out.trans hk5)
            clear HNo hcell hcv hk5
            go_wp2_with fail
            refine (HRn.out _).mono ?_
            rintro e w6 ⟨rfl, rfl⟩
            clear HRn
            cases qb
            all_goals
              go_wp2
              go_roundw
              case rel => exact ⟨i2 + 1, by omega, by go_num, HK5⟩
              case measure => simp [RowKit.intOf]; omega
          · have hii : ¬ (i2 : Int) < 3 := by omega
            have HKz := Lib.hid (HK4.out.trans HKr.out)
            go_wp2_with fail
            refine (HA.out _ HKz.out).mono ?_
            rintro e w6 ⟨rfl, hb6⟩
            have hfin := (HKz.out.trans hb6).belowNo (Below.refl _ _)
            go_wp2
            go_ret
            exact ⟨rfl, hfin⟩

theorem paxTimes_law (v0 v1 v2 v3 v4 : Value) (w : World) (r0 : Arg w 3 v0) (r1 : Arg w 9 v1) (r2 : Arg w 42 v2) (r3 : Arg w 3 v3) (r4 : Arg w 5 v4) (htab : Pow10 w) (herr : ErrVars w) :
    Calls Tryd.prog 7 #[v0, v1, v2, v3, v4] w fun e w' => e = .returned (.bool true) ∧ Below w.heap.size w w' := by
  obtain ⟨n, rfl, hn⟩ := r0.int Tryd.underlying3
  obtain ⟨s, rfl, _⟩ := r1.string Tryd.underlying9
  obtain ⟨ao, cap, zs, rfl, hl, hm, hr, _, _⟩ := r2.ints
  obtain ⟨a, rfl, _⟩ := r3.int Tryd.underlying3
  obtain ⟨y, rfl, hy⟩ := r4.int Tryd.underlying5
  exact paxTimes_walk n s ao zs.length cap zs a y w (i64_bd hn).1 (i64_bd hn).2 (u8_bd hy) rfl hl hm hr htab herr
end Go.Proofs.YtclcgiochjibjaaDoor
