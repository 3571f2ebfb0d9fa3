/-
  NumReads: any bytes of a field are the number that the document says, or none.
-/
import Derived.Test.YtligfngbmahdkaaDoorRefOct
import Derived.Test.YtligfngbmahdkaaDoorRefNum
import Derived.Test.YtligfngbmahdkaaDoorAwake16
import Derived.Test.YtligfngbmahdkaaDoorMark
import Derived.Test.YtligfngbmahdkaaDoorInts
namespace Go.Proofs.YtligfngbmahdkaaDoor
open Go.RowKit
set_option linter.unusedVariables false
set_option linter.unusedSimpArgs false

theorem rdW_zero : ∀ (bs : List Int) (n : Int), (rdW bs n).2 = false → (rdW bs n).1 = 0 := by
  intro bs
  induction bs with
  | nil => intro n h; cases h
  | cons b r ih =>
    intro n h
    unfold rdW at h ⊢
    split
    · rfl
    · rename_i hn
      rw [if_neg hn] at h
      exact ih _ h
theorem readS_zero (bs : List Int) (h : (readS bs).2 = false) : (readS bs).1 = 0 := by
  by_cases hl : bs.length < 1 ∨ 12 < bs.length
  · rw [readS_out hl]
  · rw [readS_in hl] at h ⊢
    split
    · rename_i h1
      rw [if_pos h1] at h
      exact rdW_zero _ _ h
    · rename_i h1
      rw [if_neg h1] at h
      split
      · rename_i h2
        rw [if_pos h2] at h
        exact rdW_zero _ _ h
      · rename_i h2
        rw [if_neg h2] at h
        unfold rdO at h ⊢
        split
        · rename_i h3; rw [if_pos h3] at h; cases h
        · rfl
theorem rWide_len (n : Int) : (rWide n 12).1.length = 12 := by
  have e : rWide n 12 = ((if n < 0 then 255 else 128) :: pre (wc8 n) 11, decide (sh 256 n 11 = if n < 0 then -1 else 0)) := if_pos (by omega)
  rw [e, List.length_cons, pre_len]
theorem pre_all (f : Nat → Int) (hf : ∀ t, 0 ≤ f t ∧ f t < 256) (t : Nat) : AllB (pre f t) := by
  intro b hb
  obtain ⟨i, hi, rfl⟩ := List.getElem_of_mem hb
  rw [pre_get]
  exact hf _
theorem rWide_all (n : Int) : AllB (rWide n 12).1 := by
  have e : rWide n 12 = ((if n < 0 then 255 else 128) :: pre (wc8 n) 11, decide (sh 256 n 11 = if n < 0 then -1 else 0)) := if_pos (by omega)
  rw [e]
  intro b hb
  rcases List.mem_cons.1 hb with h | h
  · subst h; split <;> omega
  · exact pre_all _ (wc8_lt n) _ b h
theorem own_capM {w : World} {g cap : Nat} {bs : List Int} (h : OwnM w (.slice (some ⟨g, 0, none⟩) bs.length cap) bs) : bs.length ≤ cap ∧ cap ≤ 9223372036854775807 := by
  rcases h with ⟨h1, _⟩ | ⟨g', cap', cur, fz, h1, hg, hfz, hnc, hcm, _⟩
  · simp at h1
  · simp at h1; unfold maxLen at hcm; omega
/-- One byte of such a row is changed. -/
theorem OwnM.set {w : World} {g cap : Nat} {bs : List Int} (h : OwnM w (.slice (some ⟨g, 0, none⟩) bs.length cap) bs) (j : Nat) (hj : j < bs.length) (z : Int) :
    w.frozen? ⟨g, j, none⟩ = false ∧ OwnM (w.setCell ⟨g, j, none⟩ (.int .u8 z)) (.slice (some ⟨g, 0, none⟩) (bs.set j z).length cap) (bs.set j z) := by
  rcases h with ⟨h1, _⟩ | ⟨g', cap', cur, fz, h1, hg, hfz, hnc, hcm, hcs, htk⟩
  · simp at h1
  · simp at h1
    obtain ⟨rfl, rfl⟩ := h1
    refine ⟨?_, ?_⟩
    · unfold World.frozen?
      rw [hg]
      obtain ⟨lo, hi'⟩ := fz
      simp only [Bool.and_eq_false_iff, decide_eq_false_iff_not]
      simp only at hfz
      rcases hfz with h | h
      · left; omega
      · right; omega
    · have hset : (w.setCell ⟨g, j, none⟩ (.int .u8 z)).heap[g]? = some (.cells (cur.setIfInBounds j (.int .u8 z)) 5 fz) := by
        rw [setCell_eq_setRow w g _ cur _ fz _ hg]
        exact setRow_heap w g cur _ _ fz hg
      rw [List.length_set]
      refine .inr ⟨g, cap, _, fz, by simp, hset, by simpa using hfz, by simpa using hnc, hcm, by simpa using hcs, ?_⟩
      rw [List.length_set, Array.toList_setIfInBounds, List.take_set, htk, List.map_set]

/-- A row that was there is not touched by a store into a block that is newer. -/
theorem Reads.setOther {w0 w : World} {ao : Option Addr} {bs : List Int} (h : Reads w0 ao bs) (hk : Kept NoB w0 w) {G : Nat} (hG : w0.heap.size ≤ G) (j : Nat) (u : Value) : Reads (w.setCell ⟨G, j, none⟩ u) ao bs := by
  by_cases he : bs = []
  · subst he
    refine ⟨fun _ => rfl, fun a _ i hi => ?_⟩
    cases hi
  · obtain ⟨b, off, rfl, hlt, _⟩ := h.at (by cases bs with | nil => exact absurd rfl he | cons => simp)
    refine (h.keptNo hk).kept (Kept.setCell (S := OneB G) (p := ⟨G, j, none⟩) (Kept.refl _ w) (.inl rfl) u) ?_
    intro a e hs
    cases e
    have : b = G := hs
    omega
theorem xor_u8 (a b : Int) : 0 ≤ bits .xor .u8 a b ∧ bits .xor .u8 a b < 256 := by
  show 0 ≤ IntKind.u8.wrap _ ∧ IntKind.u8.wrap _ < 256
  rw [IntKind.wrap_u8]
  omega

set_option maxRecDepth 100000 in
set_option maxHeartbeats 4000000 in
theorem numReads_walk (ab : Option Addr) (cb : Nat) (bs : List Int) (al : Option Addr) (cl : Nat) (zs : List Int) (n at0 by0 : Int) (w : World)
    (hb : Reads w ab bs) (hbb : AllB bs) (hbl : bs.length ≤ cb) (hbc : cb ≤ maxLen) (hbn : ab = none → cb = 0)
    (hl : RdI w w.heap.size al zs) (hlc : zs.length ≤ cl) (hcl : cl ≤ maxLen) (hn : -9223372036854775808 ≤ n ∧ n ≤ 9223372036854775807) (hby : 0 ≤ by0 ∧ by0 ≤ 255) (htab : Pow10 w) :
    Calls Tryd.prog 6 #[.slice ab bs.length cb, .slice al zs.length cl, .int .i64 n, .int .i64 at0, .int .u8 by0] w fun e w' => e = .returned (.bool true) ∧ Below w.heap.size w w' := by
  have HT := Lib.hid htab; have HB := Lib.hid hb; have HBb := Lib.hid hbb; have HBn := Lib.hid hbn; have HL := Lib.hid hl
  clear htab hb hbb hbn hl
  obtain ⟨i0, hi, hz0, hz1, hz2⟩ := info_parts info5
  unfold maxLen at hbc hcl
  by_cases h40 : 40 < bs.length
  · have hAw := Lib.hid (awake16 w HT.out)
    go_enter Tryd.func6, Tryd.ntmps6
    go_wp2_with fail
    refine hAw.out.mono ?_
    rintro e w6 ⟨rfl, hb6⟩
    go_wp2
    go_ret
    exact ⟨rfl, hb6⟩
  · go_enter Tryd.func6, Tryd.ntmps6
    go_upto_block 0 with fail
    go_cut [11, 12] from 26 to 45 (fun v11 v12 wx => ∃ ao cap xs, v11 = .slice ao xs.length cap ∧ Hid (wx.ownsRow 0 5 1 (.slice ao xs.length cap) xs.length (xs.map (.int .u8))) ∧ Hid (AllB xs) ∧ xs.length ≤ 12 ∧ Hid (Kept NoB w wx) ∧ Hid (∀ k, (Value.slice ao xs.length cap).ownBlock = some k → w.heap.size ≤ k))
    case first =>
      go_wp2_with fail
      go_loopw [11, 12] (fun v11 v12 wr => ∃ ao cap xs, v11 = .slice ao xs.length cap ∧ v12 = .int .i64 (xs.length : Int) ∧ xs.length ≤ 12 ∧ xs.length ≤ zs.length ∧ Hid (wr.ownsRow 0 5 1 (.slice ao xs.length cap) xs.length (xs.map (.int .u8))) ∧ Hid (AllB xs) ∧ Hid (Kept NoB w wr) ∧ Hid (∀ k, (Value.slice ao xs.length cap).ownBlock = some k → w.heap.size ≤ k)) (fun _ v12 _ => 12 - (intOf v12).toNat)
      case atStart => exact ⟨none, 0, [], rfl, rfl, by simp, by simp, World.ownsRow_nil _ _ _ _, (fun b hb => by cases hb), Kept.refl _ _, (fun k hk => by simp [Value.ownBlock] at hk)⟩
      case round =>
        obtain ⟨ao, cap, xs, rfl, rfl, hx12, hxz, HO, HA, HK, HF⟩ := hrel
        obtain ⟨m, hm⟩ : ∃ m, m = xs.length := ⟨_, rfl⟩
        rw [← hm] at hx12 hxz HO HF ⊢
        by_cases hgo : m < zs.length ∧ m < 12
        · obtain ⟨g, off, rfl, hgl, hcell⟩ := HL.out m hgo.1
          have hcl2 : wr.cell? ⟨g, off + m, none⟩ = some (.int .i64 (zs.getD m 0)) := HK.out.cell hcell
          generalize zs.getD m 0 = z at hcl2 hcell
          have hm255 := mask255 z
          obtain ⟨k, hk⟩ : ∃ k : Nat, (k : Int) = z % 256 % 12 := ⟨(z % 256 % 12).toNat, Int.toNat_of_nonneg (by omega)⟩
          have hk12 : k < 12 := by omega
          have hkl : k < (⟨#[32, 48, 49, 50, 51, 52, 53, 54, 55, 0, 32, 57]⟩ : ByteArray).size := hk12
          obtain ⟨y, hy⟩ : ∃ y : Nat, ((⟨#[32, 48, 49, 50, 51, 52, 53, 54, 55, 0, 32, 57]⟩ : ByteArray)[k]'hkl).toNat = y := ⟨_, rfl⟩
          have hy256 : y < 256 := by rw [← hy]; exact UInt8.toNat_lt _
          have hk2 : z % 256 % 12 = (k : Int) := hk.symm
          have h1 : (m : Int) < zs.length := by omega
          have h2 : (m : Int) < 12 := by omega
          have HM := Lib.hid hm; have HGo := Lib.hid hgo
          clear hm hgo hk hcell hgl
          go_wp2_with (at_builtin; refine wpList_app _ rfl _ _ 22 rfl 5 i0 (.int .u8 0) 1 1 Tryd.underlying22 hi hz0 hz1 hz2 rfl (by decide) _ m (xs.map (.int .u8)) rfl (HO.out.alloc _) ⟨wr.heap.size, 0, none⟩ 1 1 [.int .u8 (y : Int)] rfl rfl (cell_one_new _ _ _) ?d2 ?d3 ?d4 ?_)
          case d2 => first | rfl | (intro u hu; simp at hu; subst hu; rfl)
          case d3 => unfold maxLen; omega
          case d4 => omega
          intro v' w2 hown' hgrow hnew
          obtain ⟨ao2, cap2, rfl⟩ := own_shape hown'
          have hx3 : m + 1 = (xs ++ [(y : Int)]).length := by rw [List.length_append, HM.out]; rfl
          have hx4 : xs.map (Value.int .u8) ++ [.int .u8 (y : Int)] = (xs ++ [(y : Int)]).map (Value.int .u8) := by simp
          rw [hx4] at hown'
          have hk2' : Kept NoB w w2 := (HK.out.alloc _).grown hgrow (by
            intro k hk e
            have := HF.out k e
            omega)
          have hn2 : ∀ k, (Value.slice ao2 (m + 1) cap2).ownBlock = some k → w.heap.size ≤ k := by
            intro k hk
            rcases hnew k hk with h | h
            · exact HF.out k h
            · have := HK.out.size; omega
          have hall : AllB (xs ++ [(y : Int)]) := by
            intro b hb
            rcases List.mem_append.1 hb with h | h
            · exact HA.out b h
            · simp at h; omega
          rw [hx3] at hown' hn2
          have HF1 := Lib.hid hown'; have HF3 := Lib.hid hk2'; have HF4 := Lib.hid hn2; have HX3 := Lib.hid hx3; have HAll := Lib.hid hall
          clear hown' hk2' hn2 hgrow hnew hx3 hx4 hall hcl2 hm255 hk2
          go_wp2
          go_roundw
          case rel =>
            refine ⟨ao2, cap2, xs ++ [(y : Int)], by rw [← HX3.out], by rw [← HX3.out]; go_num, by rw [← HX3.out]; have := HGo.out; omega, by rw [← HX3.out]; have := HGo.out; omega, HF1.out, HAll.out, HF3.out, HF4.out⟩
          case measure => simp [intOf]; omega
        · have hex : ¬ (m : Int) < zs.length ∨ ((m : Int) < zs.length ∧ ¬ (m : Int) < 12) := by omega
          have HM := Lib.hid hm
          clear hgo hm
          rcases hex with h1 | ⟨h1, h2⟩
          all_goals
            go_wp2
            go_meet
            exact ⟨ao, cap, xs, by rw [HM.out], by rw [← HM.out]; exact HO, HA, by rw [← HM.out]; omega, HK, by rw [← HM.out]; exact HF⟩
    case rest =>
    obtain ⟨ac, cc, cs, rfl, HO, HA, hc12, HK, HF⟩ := hcut
    have hcap := own_cap HO.out
    have hcm : cc ≤ 9223372036854775807 := by unfold maxLen at hcap; omega
    have hcn := own_nil HO.out
    have HC := Lib.hid (own_reads HO.out rfl)
    have hwid := rWide_any (n / 256) 12 wc (by omega)
    have hwl := rWide_len (n / 256)
    have hwa := rWide_all (n / 256)
    generalize rWide (n / 256) 12 = S at hwid hwl hwa
    obtain ⟨ds, sq⟩ := S
    simp only at hwid hwl hwa
    have HWid := Lib.hid hwid; have HWa := Lib.hid hwa; have HCn := Lib.hid hcn
    clear hwid hwa hcn HF HO
    go_wp2_with fail
    refine HWid.out.mono ?_
    rintro e w2 ⟨rfl, hk2⟩
    clear HWid
    have HC2 := Lib.hid (HC.out.keptNo hk2); have HK2 := Lib.hid (HK.out.trans hk2)
    clear hk2 HC HK
    obtain ⟨cd, w3, hrun, hown, hk3⟩ := conv_mark w2 ds (by omega) HWa.out
    rw [hwl] at hrun
    have HC3 := Lib.hid (HC2.out.keptNo hk3); have HK3 := Lib.hid (HK2.out.trans hk3)
    obtain ⟨G, hG⟩ : ∃ G, G = w2.heap.size := ⟨_, rfl⟩
    rw [← hG] at hrun hown
    have hGw : w.heap.size ≤ G := by rw [hG]; exact HK2.out.size
    have HGe := Lib.hid hG
    have HK23 := Lib.hid hk3
    have HDs : Hid (AllB ds) := HWa
    obtain ⟨j, hj⟩ : ∃ j : Nat, (j : Int) = at0 % 256 % 12 := ⟨(at0 % 256 % 12).toNat, Int.toNat_of_nonneg (by omega)⟩
    have hj12 : j < 12 := by omega
    have hma := mask255 at0
    have hj2 : at0 % 256 % 12 = (j : Int) := hj.symm
    have hown2 : OwnM w3 (.slice (some ⟨G, 0, none⟩) ds.length cd) ds := hown
    have hcz := hown2.cellAt j (by omega)
    have hzz := AllB.getD HDs.out j
    generalize hz : ds.getD j 0 = z at hcz hzz
    obtain ⟨x, hx⟩ : ∃ x, x = bits .xor .u8 z by0 := ⟨_, rfl⟩
    have hxr := xor_u8 z by0
    rw [← hx] at hxr
    have hx2 := hx.symm
    obtain ⟨hfz, hown4⟩ := hown2.set j (by omega) x
    have hck := own_capM hown2
    have HR4 := Lib.hid (hown4.reads)
    have HD4 : Hid (AllB (ds.set j x)) := fun b hb => by
      rcases List.mem_or_eq_of_mem_set hb with h | h
      · exact HDs.out b h
      · omega
    have hl4 : (ds.set j x).length = 12 := by rw [List.length_set, hwl]
    have HC4 := Lib.hid (HC2.out.setOther HK23.out (G := G) (by rw [hG]; exact Nat.le_refl _) j (.int .u8 x))
    have HB4 := Lib.hid (HB.out.setOther (HK2.out.trans hk3) (G := G) hGw j (.int .u8 x))
    have HK4 := Lib.hid (Kept.setCell (S := NoB) (p := ⟨G, j, none⟩) (HK2.out.trans hk3) (.inr hGw) (.int .u8 x))
    clear hk3 HC2 hown hG HC3 HK3 hown2 hown4 hj hx hz hxr HK23 HWa
    go_upto_region 12 with fail
    clear hrun hcz hfz hma hj2 hx2
    generalize w3.setCell ⟨G, j, none⟩ (.int .u8 x) = w4 at HR4 HC4 HB4 HK4 ⊢
    go_wp2
    go_loopw [16] (fun v16 wr => ∃ i : Nat, i ≤ 3 ∧ v16 = .int .i64 (i : Int) ∧ Hid (Kept NoB w4 wr)) (fun v16 _ => 3 - (intOf v16).toNat)
    case atStart => exact ⟨0, by omega, rfl, Kept.refl _ _⟩
    case round =>
      obtain ⟨i, hi3, rfl, HKr⟩ := hrel
      by_cases hlt : i < 3
      · have hrow : ∃ ax nx cx Y, (#[Value.slice ab bs.length cb, .slice ac cs.length cc, .slice (some ⟨G, 0, none⟩) 12 cd] : Array Value)[i]? = some (.slice ax nx cx) ∧ Hid (Reads w4 ax Y) ∧ Hid (AllB Y) ∧ Hid (Y.length = nx) ∧ nx ≤ cx ∧ cx ≤ 9223372036854775807 ∧ Hid (ax = none → cx = 0) ∧ nx ≤ 1000 := by
          have hc3 : i = 0 ∨ i = 1 ∨ i = 2 := by omega
          rcases hc3 with rfl | rfl | rfl
          · exact ⟨ab, bs.length, cb, bs, rfl, HB4, HBb, rfl, hbl, by omega, HBn, by omega⟩
          · exact ⟨ac, cs.length, cc, cs, rfl, HC4, HA, rfl, hcap.1, hcm, HCn, by omega⟩
          · exact ⟨some ⟨G, 0, none⟩, 12, cd, ds.set j x, rfl, HR4, HD4, hl4, by omega, by omega, (fun h => by cases h), by omega⟩
        obtain ⟨ax, nx, cx, Y, hget, HRY, HAY, HLY, hnc, hcx, HNY, hn1⟩ := hrow
        obtain ⟨C, hC⟩ : ∃ C, C = wr.heap.size := ⟨_, rfl⟩
        have hcell : (wr.alloc (.cells #[Value.slice ab bs.length cb, .slice ac cs.length cc, .slice (some ⟨G, 0, none⟩) 12 cd] 22)).cell? ⟨wr.heap.size, i, none⟩ = some (.slice ax nx cx) := by
          rw [cell_new i rfl]; exact hget
        have HKn := Lib.hid (HKr.out.alloc (.cells #[Value.slice ab bs.length cb, .slice ac cs.length cc, .slice (some ⟨G, 0, none⟩) 12 cd] 22))
        have HRn := Lib.hid (HRY.out.keptNo HKn.out)
        have hrd := fun W (h : Reads W ax Y) => read_any ax cx nx Y W h HAY.out HLY.out hnc hcx
        have hrn := fun W => rReadNum_any Y W HAY.out (by have := HLY.out; omega)
        have hz0 := readS_zero Y
        have hcv := conv_reads HRn.out HLY.out.symm HNY.out
        generalize readS Y = rs at hrd hrn hz0
        obtain ⟨rv, rq⟩ := rs
        simp only at hz0
        have HRd := Lib.hid (hrd _ HRn.out); have HRn2 := Lib.hid hrn
        have hii : (i : Int) < 3 := by omega
        clear hrd hrn hget hC
        go_wp2_with fail
        refine HRd.out.mono ?_
        rintro e w5 ⟨rfl, rfl⟩
        clear HRd hcell
        go_wp2_with fail
        refine (HRn2.out _).mono ?_
        rintro e w6 ⟨rfl, rfl⟩
        clear HRn2 hcv
        cases rq with
        | true =>
          clear hz0
          go_wp2
          go_roundw
          case rel => exact ⟨i + 1, by omega, by go_num, HKn⟩
          case measure => simp [intOf]; omega
        | false =>
          have hz0' := hz0 rfl
          subst hz0'
          go_wp2
          go_roundw
          case rel => exact ⟨i + 1, by omega, by go_num, HKn⟩
          case measure => simp [intOf]; omega
      · have hii : ¬ (i : Int) < 3 := by omega
        have HKz := Lib.hid (HK4.out.trans HKr.out)
        have hAw := Lib.hid (awake16 wr (HT.out.keptNo HKz.out))
        go_wp2_with fail
        refine hAw.out.mono ?_
        rintro e w6 ⟨rfl, hb6⟩
        have hfin := (HKz.out.ofBelow hb6).belowNo (Below.refl _ _)
        go_wp2
        go_ret
        exact ⟨rfl, hfin⟩

theorem numReads_law (v0 v1 v2 v3 v4 : Value) (w : World) (r0 : Arg w 22 v0) (r1 : Arg w 35 v1) (r2 : Arg w 3 v2) (r3 : Arg w 3 v3) (r4 : Arg w 5 v4) (htab : Pow10 w) : Calls Tryd.prog 6 #[v0, v1, v2, v3, v4] w fun e w' => e = .returned (.bool true) ∧ Below w.heap.size w w' := by
  obtain ⟨ab, cb, bs, rfl, hbl, hbc, hb, hbb, hbn⟩ := r0.bytes Tryd.underlying22
  obtain ⟨al, cl, zs, rfl, hlc, hcl, hl, _, _⟩ := r1.ints
  obtain ⟨n, rfl, hn⟩ := r2.int Tryd.underlying3
  obtain ⟨a, rfl, _⟩ := r3.int Tryd.underlying3
  obtain ⟨y, rfl, hy⟩ := r4.int Tryd.underlying5
  exact numReads_walk ab cb bs al cl zs n a y w hb hbb hbl hbc hbn hl hlc hcl (i64_bd hn) (u8_bd hy) htab
end Go.Proofs.YtligfngbmahdkaaDoor
