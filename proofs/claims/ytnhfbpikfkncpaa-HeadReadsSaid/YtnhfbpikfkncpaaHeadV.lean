/-
  The document's side of blocks: Head.
-/
import Derived.Test.YtnhfbpikfkncpaaHeadR
namespace Go.Proofs.Ytnhfbpikfkncpaa
open Go.RowKit
set_option linter.unusedVariables false
set_option linter.unusedSimpArgs false

def nF (h : HdP) (i : Nat) : Int := [h.md, h.us, h.gr, h.sz, h.tm, h.ma, h.mi].getD i 0
def wF (i : Nat) : Int := ([8, 8, 8, 12, 12, 8, 8] : List Int).getD i 0
def fF (h : HdP) (i : Nat) : List Int := (fieldS (nF h i) (wF i) h.gn).1
def oF (h : HdP) (i : Nat) : Bool := (fieldS (nF h i) (wF i) h.gn).2
/-- The rows told so far. -/
def rowF (h : HdP) (i j : Nat) : Value := if j < i then .string (strOfNums (fF h j)) else .string ⟨#[]⟩
def cellsF (h : HdP) (i : Nat) : Array Value := #[rowF h i 0, rowF h i 1, rowF h i 2, rowF h i 3, rowF h i 4, rowF h i 5, rowF h i 6]
theorem cellsF_set (h : HdP) (i : Nat) (hi : i < 7) : (cellsF h i).setIfInBounds i (.string (strOfNums (fF h i))) = cellsF h (i + 1) := by
  rcases (by omega : i = 0 ∨ i = 1 ∨ i = 2 ∨ i = 3 ∨ i = 4 ∨ i = 5 ∨ i = 6) with rfl | rfl | rfl | rfl | rfl | rfl | rfl <;> rfl
theorem enc_split (h : HdP) : encOk h = ((!h.gn || h.px.isEmpty) && okT h.nm 100 && okT h.lk 100 && okT h.px 155 && (oF h 0 && oF h 1 && oF h 2 && oF h 3 && oF h 4 && oF h 5 && oF h 6)) := by
  show ((!h.gn || h.px.isEmpty) && okT h.nm 100 && oF h 0 && oF h 1 && oF h 2 && oF h 3 && oF h 4 && okT h.lk 100 && oF h 5 && oF h 6 && okT h.px 155) = _
  cases (!h.gn || h.px.isEmpty) <;> cases okT h.nm 100 <;> cases okT h.lk 100 <;> cases okT h.px 155 <;> cases oF h 0 <;> cases oF h 1 <;> cases oF h 2 <;> cases oF h 3 <;> cases oF h 4 <;> cases oF h 5 <;> cases oF h 6 <;> rfl
theorem enc_no (h : HdP) (i : Nat) (hi : i < 7) (ho : oF h i = false) : encOk h = false := by
  rw [enc_split]
  rcases (by omega : i = 0 ∨ i = 1 ∨ i = 2 ∨ i = 3 ∨ i = 4 ∨ i = 5 ∨ i = 6) with rfl | rfl | rfl | rfl | rfl | rfl | rfl <;> rw [ho] <;> simp
theorem add_nums (a b : List Int) (h : a.length + b.length ≤ 1000000) (W : World) : (binOp .add 9 (.string (strOfNums a)) (.string (strOfNums b))).run Try.prog W = .ok (.string (strOfNums (a ++ b))) W := by
  rw [← str_append]
  exact run_string_add_sum (P := Try.prog) W _ _ (by rw [strOfNums_size, strOfNums_size]; omega)
theorem ba_size_app2 (a b : ByteArray) : (a ++ b).size = a.size + b.size := by simp
theorem pre_sp {h : HdP} (k : HdOk h) (o : EncO h) : sumL (oneL h ++ (List.replicate 8 32 ++ twoL h)) = sumTo (preL h) 512 := by
  rw [sumL, if_pos (by simp only [List.length_append, List.length_replicate, one_len o, two_len o])]
  exact sumTo_congr 512 (fun i _ => wgt_mid _ _ _ _ (one_len o) (by simp) (by simp) i)
theorem rOct_sum {h : HdP} (k : HdOk h) : (rOct (sumTo (preL h) 512) 7).1 = (octS (sumTo (preL h) 512) 7).1 := by
  obtain ⟨h1, h2⟩ := sum_small (pre_all k)
  have e : octS (sumTo (preL h) 512) 7 = (fld (oc (sumTo (preL h) 512)) 6 6 true, true) := if_pos ⟨by omega, by omega, h1, h2⟩
  have t := octS_told (sumTo (preL h) 512) 7
  rw [t]
  rw [e] at t
  unfold told at t ⊢
  split at t
  · rename_i hc; rw [if_pos hc]
  · cases t
theorem nF_in {h : HdP} (k : HdOk h) (i : Nat) (hi : i < 7) : -9223372036854775808 ≤ nF h i ∧ nF h i ≤ 9223372036854775807 := by
  rcases (by omega : i = 0 ∨ i = 1 ∨ i = 2 ∨ i = 3 ∨ i = 4 ∨ i = 5 ∨ i = 6) with rfl | rfl | rfl | rfl | rfl | rfl | rfl
  · exact k.md
  · exact k.us
  · exact k.gr
  · exact k.sz
  · exact k.tm
  · exact k.ma
  · exact k.mi
theorem cellsF_at (h : HdP) (i : Nat) (hi : i < 7) : ∃ v, (cellsF h i)[i]? = some v := by
  rcases (by omega : i = 0 ∨ i = 1 ∨ i = 2 ∨ i = 3 ∨ i = 4 ∨ i = 5 ∨ i = 6) with rfl | rfl | rfl | rfl | rfl | rfl | rfl <;> exact ⟨_, rfl⟩
def FldR (ss : List Int) (W : Nat) (o : Bool) (w : World) (e : Ending) (w' : World) : Prop := (∃ t, e = .returned (.tuple #[.string t, .bool o]) ∧ (o = true → t = strOfNums (padT ss W))) ∧ Kept NoB w w'
def RHeadR (h : HdP) (w : World) (e : Ending) (w' : World) : Prop :=
  (∃ s f, e = .returned (.tuple #[.string s, .int .i64 f]) ∧ (encOk h = true → f = 0 ∧ s = strOfNums (encL h)) ∧ (encOk h = false → f = 16 ∧ s = ⟨#[]⟩)) ∧ Kept NoB w w'
set_option maxRecDepth 100000 in
set_option maxHeartbeats 4000000 in
theorem rhead_any (h : HdP) (w : World) (k : HdOk h) (hl : h.nm.length ≤ 400 ∧ h.lk.length ≤ 400 ∧ h.px.length ≤ 400) : Calls Try.prog 12 #[hdV h] w (RHeadR h w) := by
  obtain ⟨X, hX⟩ : ∃ X, X = w.heap.size := ⟨_, rfl⟩
  obtain ⟨wA, hwA⟩ : ∃ y, y = w.alloc (.cells #[.string (strOfNums h.nm), .string (strOfNums h.lk), .string (strOfNums h.px), .int .u8 h.ty, .bool h.gn, .int .i64 h.md, .int .i64 h.us, .int .i64 h.gr, .int .i64 h.sz, .int .i64 h.tm, .int .i64 h.ma, .int .i64 h.mi] 23) := ⟨_, rfl⟩
  have hkA : Kept NoB w wA := by rw [hwA]; exact (Kept.refl NoB w).alloc _
  have hxA : wA.heap[X]? = some (.cells (hdC h) 23 (0, 0)) := by rw [hwA, hX]; exact heap_alloc_new _ _
  have HXA := Lib.hid hxA; have HKA := Lib.hid hkA; have HX := Lib.hid hX; have HWA := Lib.hid hwA
  clear hX hwA hkA hxA
  have HF1 : Hid (∀ W, Calls Try.prog 29 #[.string (strOfNums h.nm), .int .i64 100] W (FldR h.nm 100 (okT h.nm 100) W)) := Lib.hid (fun W => rfield16_any h.nm 100 W k.nm (by omega) (by omega))
  have HF2 : Hid (∀ W, Calls Try.prog 29 #[.string (strOfNums h.lk), .int .i64 100] W (FldR h.lk 100 (okT h.lk 100) W)) := Lib.hid (fun W => rfield16_any h.lk 100 W k.lk (by omega) (by omega))
  have HF3 : Hid (∀ W, Calls Try.prog 29 #[.string (strOfNums h.px), .int .i64 155] W (FldR h.px 155 (okT h.px 155) W)) := Lib.hid (fun W => rfield16_any h.px 155 W k.px (by omega) (by omega))
  obtain ⟨o1, ho1⟩ : ∃ o, o = okT h.nm 100 := ⟨_, rfl⟩
  obtain ⟨o2, ho2⟩ : ∃ o, o = okT h.lk 100 := ⟨_, rfl⟩
  obtain ⟨o3, ho3⟩ : ∃ o, o = okT h.px 155 := ⟨_, rfl⟩
  obtain ⟨gb, hgb⟩ : ∃ o, o = h.gn := ⟨_, rfl⟩
  obtain ⟨pe, hpe⟩ : ∃ o, o = h.px.isEmpty := ⟨_, rfl⟩
  rw [← ho1] at HF1; rw [← ho2] at HF2; rw [← ho3] at HF3
  have HES : Hid (encOk h = ((!gb || pe) && o1 && o2 && o3 && (oF h 0 && oF h 1 && oF h 2 && oF h 3 && oF h 4 && oF h 5 && oF h 6))) := Lib.hid (by rw [enc_split, ho1, ho2, ho3, hgb, hpe])
  have HGb := Lib.hid hgb
  have hpl : (strOfNums h.px).toList = h.px.map (fun n => n.toNat.toUInt8) := num_list _
  have pe1 : (strOfNums h.px).toList.isEmpty = pe := by rw [hpl, hpe]; cases h.px <;> rfl
  have pe2 : ((strOfNums h.px).toList == []) = pe := by rw [hpl, hpe]; cases h.px <;> rfl
  have pe3 : (!(strOfNums h.px).toList == []) = !pe := by rw [pe2]
  have HP1 := Lib.hid pe1; have HP2 := Lib.hid pe2; have HP3 := Lib.hid pe3
  clear ho1 ho2 ho3 hgb hpe hpl pe1 pe2 pe3
  unfold hdV
  go_enter Try.func12, Try.ntmps12
  go_upto_region 1 with fail
  rw [← HX.out, ← HWA.out]
  have c0 : wA.cell? ⟨X, 0, none⟩ = some (.string (strOfNums h.nm)) := by rw [obj_cell HXA.out 0]; rfl
  go_wp2_with fail
  with_reducible refine (HF1.out _).mono ?_
  rintro e w1 ⟨⟨T1, rfl, ht1⟩, hk1⟩
  have HT1 := Lib.hid ht1
  have HX1 := Lib.hid (hk1.obj HXA.out (fun h => h)); have HK1 := Lib.hid (HKA.out.trans hk1)
  clear ht1 hk1 c0 HXA HKA
  have c1 : w1.cell? ⟨X, 1, none⟩ = some (.string (strOfNums h.lk)) := by rw [obj_cell HX1.out 1]; rfl
  go_wp2_with fail
  with_reducible refine (HF2.out _).mono ?_
  rintro e w2 ⟨⟨T2, rfl, ht2⟩, hk2⟩
  have HT2 := Lib.hid ht2
  have HX2 := Lib.hid (hk2.obj HX1.out (fun h => h)); have HK2 := Lib.hid (HK1.out.trans hk2)
  clear ht2 hk2 c1 HX1 HK1
  have c2 : w2.cell? ⟨X, 2, none⟩ = some (.string (strOfNums h.px)) := by rw [obj_cell HX2.out 2]; rfl
  go_wp2_with fail
  with_reducible refine (HF3.out _).mono ?_
  rintro e w3 ⟨⟨T3, rfl, ht3⟩, hk3⟩
  have HT3 := Lib.hid ht3
  have HX3 := Lib.hid (hk3.obj HX2.out (fun h => h)); have HK3 := Lib.hid (HK2.out.trans hk3)
  clear ht3 hk3 c2 HX2 HK2 HF1 HF2 HF3
  have c2 : w3.cell? ⟨X, 2, none⟩ = some (.string (strOfNums h.px)) := by rw [obj_cell HX3.out 2]; rfl
  have c4 : w3.cell? ⟨X, 4, none⟩ = some (.bool gb) := by rw [obj_cell HX3.out 4, HGb.out]; rfl
  obtain ⟨G, hG⟩ : ∃ G, G = ((!gb || pe) && o1 && o2 && o3) := ⟨_, rfl⟩
  go_upto_region 4 with fail
  go_cut [55] from 37 to 55 (fun v55 wy => v55 = .bool (!G) ∧ w3 = wy)
  case first =>
    have hp1 := HP1.out; have hp2 := HP2.out; have hp3 := HP3.out
    clear HES
    cases o1
    · go_wp2; go_meet; exact ⟨by rw [hG]; simp, rfl⟩
    cases o2
    · go_wp2; go_meet; exact ⟨by rw [hG]; simp, rfl⟩
    cases o3
    · go_wp2; go_meet; exact ⟨by rw [hG]; simp, rfl⟩
    cases gb
    · go_wp2; go_meet; exact ⟨by rw [hG]; simp, rfl⟩
    cases pe
    · go_wp2; go_meet; exact ⟨by rw [hG]; simp, rfl⟩
    · go_wp2; go_meet; exact ⟨by rw [hG]; simp, rfl⟩
  case rest =>
  obtain ⟨rfl, rfl⟩ := hcut
  clear c2 c4
  cases G with
  | false =>
    have HE : Hid (encOk h = false) := Lib.hid (by rw [HES.out, ← hG]; rfl)
    clear hG
    go_wp2
    go_ret2
    exact ⟨⟨_, _, rfl, (fun hh => absurd (HE.out.symm.trans hh) (by decide)), fun _ => ⟨rfl, rfl⟩⟩, HK3.out⟩
  | true =>
  have hg4 : (!gb || pe) = true ∧ o1 = true ∧ o2 = true ∧ o3 = true := by
    have := hG.symm
    simp only [Bool.and_eq_true] at this
    exact ⟨this.1.1.1, this.1.1.2, this.1.2, this.2⟩
  obtain ⟨hgd, rfl, rfl, rfl⟩ := hg4
  have HES2 : Hid (encOk h = (oF h 0 && oF h 1 && oF h 2 && oF h 3 && oF h 4 && oF h 5 && oF h 6)) := Lib.hid (by rw [HES.out, hgd]; simp only [Bool.true_and])
  have e1 := HT1.out rfl
  have e2 := HT2.out rfl
  have e3 := HT3.out rfl
  have HE1 := Lib.hid e1; have HE2 := Lib.hid e2; have HE3 := Lib.hid e3
  clear hgd hG HES HT1 HT2 HT3 HP1 HP2 HP3 e1 e2 e3
  obtain ⟨B, hB⟩ : ∃ B, B = w3.heap.size := ⟨_, rfl⟩
  obtain ⟨w4, hw4⟩ : ∃ y, y = w3.alloc (.cells #[.string ⟨#[]⟩, .string ⟨#[]⟩, .string ⟨#[]⟩, .string ⟨#[]⟩, .string ⟨#[]⟩, .string ⟨#[]⟩, .string ⟨#[]⟩] 68) := ⟨_, rfl⟩
  have HB4 : Hid (w4.heap[B]? = some (.cells (cellsF h 0) 68 (0, 0))) := Lib.hid (by rw [hw4, hB]; exact heap_alloc_new _ _)
  have hk4 : Kept NoB w3 w4 := by rw [hw4]; exact (Kept.refl NoB w3).alloc _
  have HX4 := Lib.hid (hk4.obj HX3.out (fun h => h)); have HK4 := Lib.hid (HK3.out.trans hk4)
  have HB := Lib.hid hB; have HW4 := Lib.hid hw4
  have HwB : Hid (w.heap.size ≤ B) := Lib.hid (by rw [hB]; exact HK3.out.size)
  have HwX : Hid (X < B) := Lib.hid (by rw [hB]; exact obj_lt HX3.out)
  clear hB hw4 hk4 HX3 HK3
  go_upto_region 7 with fail
  rw [← HB.out, ← HW4.out]
  clear HW4 HB HX HWA hl
  go_wp2
  go_loopw [11] (fun v11 wr => ∃ i : Nat, v11 = .int .i64 (i : Int) ∧ i ≤ 7 ∧ Hid (∀ j, j < i → oF h j = true) ∧ Hid (wr.heap[B]? = some (.cells (cellsF h i) 68 (0, 0))) ∧ Hid (wr.heap[X]? = some (.cells (hdC h) 23 (0, 0))) ∧ Hid (Kept NoB w wr)) (fun v11 _ => 7 - (intOf v11).toNat)
  case atStart => exact ⟨0, rfl, by omega, Lib.hid (fun j hj => by omega), HB4, HX4, HK4⟩
  case round =>
    obtain ⟨i, rfl, hi, HO, HC, HXr, HKr⟩ := hrel
    by_cases hlt : (i : Int) < 7
    · have hi7 : i < 7 := by omega
      obtain ⟨d0, d1, d2, d3, d4, d5, d6, d7, d8, d9, d10, d11⟩ := hd_cells (by have := HXr.out; unfold hdC at this; exact this)
      obtain ⟨n, hn⟩ : ∃ n, n = nF h i := ⟨_, rfl⟩
      obtain ⟨wd0, hwd⟩ : ∃ n, n = wF i := ⟨_, rfl⟩
      have hget : (#[Value.int .i64 h.md, .int .i64 h.us, .int .i64 h.gr, .int .i64 h.sz, .int .i64 h.tm, .int .i64 h.ma, .int .i64 h.mi] : Array Value)[i]? = some (.int .i64 n) := by
        rw [hn]
        rcases (by omega : i = 0 ∨ i = 1 ∨ i = 2 ∨ i = 3 ∨ i = 4 ∨ i = 5 ∨ i = 6) with rfl | rfl | rfl | rfl | rfl | rfl | rfl <;> rfl
      have hget2 : (#[Value.int .i64 8, .int .i64 8, .int .i64 8, .int .i64 12, .int .i64 12, .int .i64 8, .int .i64 8] : Array Value)[i]? = some (.int .i64 wd0) := by
        rw [hwd]
        rcases (by omega : i = 0 ∨ i = 1 ∨ i = 2 ∨ i = 3 ∨ i = 4 ∨ i = 5 ∨ i = 6) with rfl | rfl | rfl | rfl | rfl | rfl | rfl <;> rfl
      have hcell : (wr.alloc (.cells #[Value.int .i64 h.md, .int .i64 h.us, .int .i64 h.gr, .int .i64 h.sz, .int .i64 h.tm, .int .i64 h.ma, .int .i64 h.mi] 3)).cell? ⟨wr.heap.size, i, none⟩ = some (.int .i64 n) := by
        rw [cell_new i rfl]; exact hget
      clear hget
      have hcell2 : ∀ W : World, (W.alloc (.cells #[Value.int .i64 8, .int .i64 8, .int .i64 8, .int .i64 12, .int .i64 12, .int .i64 8, .int .i64 8] 3)).cell? ⟨W.heap.size, i, none⟩ = some (.int .i64 wd0) := fun W => by
        rw [cell_new i rfl]; exact hget2
      clear hget2
      have HN := Lib.hid hn; have HWd := Lib.hid hwd
      clear hn hwd
      go_upto_region 12 with fail
      obtain ⟨wx, hwx⟩ : ∃ y, y = wr.alloc (.cells #[Value.int .i64 h.md, .int .i64 h.us, .int .i64 h.gr, .int .i64 h.sz, .int .i64 h.tm, .int .i64 h.ma, .int .i64 h.mi] 3) := ⟨_, rfl⟩
      rw [← hwx]
      have hkx : Kept NoB wr wx := by rw [hwx]; exact (Kept.refl NoB wr).alloc _
      have HKx := Lib.hid (HKr.out.trans hkx); have HXx := Lib.hid (hkx.obj HXr.out (fun h => h)); have HCx := Lib.hid (hkx.obj HC.out (fun h => h))
      clear hwx hkx hcell d0 d1 d2 d3 d4 d5 d6 d7 d8 d9 d10 d11 HXr HKr HC
      have c4 : wx.cell? ⟨X, 4, none⟩ = some (.bool gb) := by rw [obj_cell HXx.out 4, HGb.out]; rfl
      have HFl := Lib.hid (fun W => rField_any n wd0 gb W (by rw [HN.out]; exact nF_in k i hi7))
      have HLd : Hid (∀ W, Kept (OneB B) wx W → W.cell? ⟨X, 4, none⟩ = some (.bool gb)) := Lib.hid (fun W hk => by rw [obj_cell (hk.obj HXx.out (fun e => absurd e (Nat.ne_of_lt HwX.out))) 4, HGb.out]; rfl)
      clear c4
      --REG12
      go_wp2_with fail
      refine wp_region_noPanic ?_
      refine wp_region_held_drew (S := fun W => Kept (OneB B) wx W) (by kernel_rfl) (Kept.drew (Kept.refl _ _)) (fun hHeld => ?_)
      obtain ⟨wd, hwd⟩ : ∃ x, x = wx.drew := ⟨_, rfl⟩
      have HCd : Hid (wd.heap[B]? = some (.cells (cellsF h i) 68 (0, 0))) := Lib.hid (by rw [hwd]; exact HCx.out)
      have HKd : Hid (Kept NoB w wd) := Lib.hid (by rw [hwd]; exact HKx.out.drew)
      have HXd : Hid (wd.heap[X]? = some (.cells (hdC h) 23 (0, 0))) := Lib.hid (by rw [hwd]; exact HXx.out)
      rw [← hwd] at hHeld ⊢
      clear hwd
      refine wpAnyH_take (i := 0) (v := ?_) (by rw [List.getElem?_toArray]; rfl) (by kernel_rfl) (by kernel_rfl) (by kernel_rfl) (fun _ _ _ h => h) (Or.inl ⟨by rfl, ?hyq1_⟩) (by assumption) ?restq1_
      case hyq1_ => (intro w hSw; (try dsimp only at hSw); go_simp; (try with_reducible rfl))
      try simp only [Act.put, List.setIfInBounds_toArray, List.set_cons_zero, List.set_cons_succ]
      refine wpAnyH_take (i := 1) (v := ?_) (by rw [List.getElem?_toArray]; rfl) (by kernel_rfl) (by kernel_rfl) (by kernel_rfl) (fun _ _ _ h => h) (Or.inl ⟨by rfl, ?hyq2_⟩) (by assumption) ?restq2_
      case hyq2_ => (intro w hSw; (try dsimp only at hSw); go_simp; (try with_reducible rfl))
      try simp only [Act.put, List.setIfInBounds_toArray, List.set_cons_zero, List.set_cons_succ]
      refine wpAnyH_take (i := 3) (v := ?_) (by rw [List.getElem?_toArray]; rfl) (by kernel_rfl) (by kernel_rfl) (by kernel_rfl) (fun _ _ _ h => h) (Or.inl ⟨by rfl, ?hyq3_⟩) (by assumption) ?restq3_
      case hyq3_ => (intro w hSw; (try dsimp only at hSw); go_simp; (try with_reducible rfl))
      try simp only [Act.put, List.setIfInBounds_toArray, List.set_cons_zero, List.set_cons_succ]
      refine wpAnyH_take (i := 6) (v := ?_) (by rw [List.getElem?_toArray]; rfl) (by kernel_rfl) (by kernel_rfl) (by kernel_rfl) (fun _ _ _ h => h) (Or.inl ⟨by rfl, ?hyq4_⟩) (by assumption) ?restq4_
      case hyq4_ => (intro w hSw; (try dsimp only at hSw); go_simp; (try with_reducible rfl))
      try simp only [Act.put, List.setIfInBounds_toArray, List.set_cons_zero, List.set_cons_succ]
      refine wpAnyH_take (i := 7) (v := ?_) (by rw [List.getElem?_toArray]; rfl) (by kernel_rfl) (by kernel_rfl) (by kernel_rfl) (fun _ _ _ h => h) (Or.inl ⟨by rfl, ?hyq5_⟩) (by assumption) ?restq5_
      case hyq5_ => (intro w hSw; (try dsimp only at hSw); (try have e1 := HLd.out w hSw); go_simp; (try with_reducible rfl))
      try simp only [Act.put, List.setIfInBounds_toArray, List.set_cons_zero, List.set_cons_succ]
      refine wpAnyH_ready (rs := [2]) (by kernel_rfl) (by simp) ?_
      refine AllReadyH.cons (by rw [List.getElem?_toArray]; rfl) (fun K hK => ?_) AllReadyH.nil
      go_simp
      refine hK.out _ _ (hHeld.alloc _) (fun hHeld => ?_)
      clear hK K
      try simp only [Act.put, List.setIfInBounds_toArray, List.set_cons_zero, List.set_cons_succ]
      obtain ⟨wy, hwy⟩ : ∃ y, y = wd.alloc (.cells #[Value.int .i64 8, .int .i64 8, .int .i64 8, .int .i64 12, .int .i64 12, .int .i64 8, .int .i64 8] 3) := ⟨_, rfl⟩
      have hcy : wy.cell? ⟨wd.heap.size, i, none⟩ = some (.int .i64 wd0) := by rw [hwy]; exact hcell2 wd
      have hky : Kept NoB wd wy := by rw [hwy]; exact (Kept.refl NoB wd).alloc _
      have HCy := Lib.hid (hky.obj HCd.out (fun h => h))
      have HKy := Lib.hid (HKd.out.trans hky)
      have HXy := Lib.hid (hky.obj HXd.out (fun h => h))
      rw [← hwy] at hHeld ⊢
      clear hwy hky hcell2
      refine wpAnyH_take (i := 4) (v := ?_) (by rw [List.getElem?_toArray]; rfl) (by kernel_rfl) (by kernel_rfl) (by kernel_rfl) (fun _ _ _ h => h) (Or.inl ⟨by rfl, ?hyq6_⟩) (by assumption) ?restq6_
      case hyq6_ => (intro w hSw; (try dsimp only at hSw); go_simp; (try with_reducible rfl))
      try simp only [Act.put, List.setIfInBounds_toArray, List.set_cons_zero, List.set_cons_succ]
      refine wpAnyH_ready (rs := [5]) (by kernel_rfl) (by simp) ?_
      refine AllReadyH.cons (by rw [List.getElem?_toArray]; rfl) (fun K hK => ?_) AllReadyH.nil
      go_simp
      refine hK.out _ _ hHeld (fun hHeld => ?_)
      clear hK K
      try simp only [Act.put, List.setIfInBounds_toArray, List.set_cons_zero, List.set_cons_succ]
      refine wpAnyH_ready (rs := [8]) (by kernel_rfl) (by simp) ?_
      refine AllReadyH.cons (by rw [List.getElem?_toArray]; rfl) (fun K hK => ?_) AllReadyH.nil
      go_simp
      go_at_call 30
      (with_reducible refine (HFl.out _).mono ?_)
      rintro e wn ⟨rfl, hkn⟩
      have hSn := hHeld.trans (hkn.mono (fun _ _ h => h.elim))
      have HCn := Lib.hid (hkn.obj HCy.out (fun h => h))
      have HKn := Lib.hid (HKy.out.trans hkn)
      have HXn := Lib.hid (hkn.obj HXy.out (fun h => h))
      clear hkn hcy
      go_wp2_with fail
      refine hK.out _ _ hSn (fun hHeld => ?_)
      clear hK K hSn
      try simp only [Act.put, List.setIfInBounds_toArray, List.set_cons_zero, List.set_cons_succ]
      refine wpAnyH_take (i := 9) (v := ?_) (by rw [List.getElem?_toArray]; rfl) (by kernel_rfl) (by kernel_rfl) (by kernel_rfl) (fun _ _ _ h => h) (Or.inl ⟨by rfl, ?hyq7_⟩) (by assumption) ?restq7_
      case hyq7_ => (intro w hSw; (try dsimp only at hSw); go_simp; (try with_reducible rfl))
      try simp only [Act.put, List.setIfInBounds_toArray, List.set_cons_zero, List.set_cons_succ]
      refine wpAnyH_take (i := 10) (v := ?_) (by rw [List.getElem?_toArray]; rfl) (by kernel_rfl) (by kernel_rfl) (by kernel_rfl) (fun _ _ _ h => h) (Or.inl ⟨by rfl, ?hyq8_⟩) (by assumption) ?restq8_
      case hyq8_ => (intro w hSw; (try dsimp only at hSw); go_simp; (try with_reducible rfl))
      try simp only [Act.put, List.setIfInBounds_toArray, List.set_cons_zero, List.set_cons_succ]
      refine wpAnyH_take (i := 11) (v := ?_) (by rw [List.getElem?_toArray]; rfl) (by kernel_rfl) (by kernel_rfl) (by kernel_rfl) (fun _ _ _ h => h) (Or.inl ⟨by rfl, ?hyq9_⟩) (by assumption) ?restq9_
      case hyq9_ => (intro w hSw; (try dsimp only at hSw); go_simp; (try with_reducible rfl))
      try simp only [Act.put, List.setIfInBounds_toArray, List.set_cons_zero, List.set_cons_succ]
      refine wpAnyH_take (i := 12) (v := ?_) (by rw [List.getElem?_toArray]; rfl) (by kernel_rfl) (by kernel_rfl) (by kernel_rfl) (fun _ _ _ h => h) (Or.inl ⟨by rfl, ?hyq10_⟩) (by assumption) ?restq10_
      case hyq10_ => (intro w hSw; (try dsimp only at hSw); go_simp; (try with_reducible rfl))
      try simp only [Act.put, List.setIfInBounds_toArray, List.set_cons_zero, List.set_cons_succ]
      obtain ⟨old, hold⟩ := cellsF_at h i hi7
      have cB : wn.cell? ⟨B, i, none⟩ = some old := by rw [obj_cell HCn.out i]; exact hold
      have fB : wn.frozen? ⟨B, i, none⟩ = false := obj_free HCn.out i
      refine wpAnyH_ready (rs := [13]) (by kernel_rfl) (by simp) ?_
      refine AllReadyH.cons (by rw [List.getElem?_toArray]; rfl) (fun K hK => ?_) AllReadyH.nil
      go_simp
      refine hK.out _ _ (Kept.setCell (S := OneB B) (p := ⟨B, i, none⟩) hHeld (.inl rfl) _) (fun hHeld => ?_)
      clear hK K
      try simp only [Act.put, List.setIfInBounds_toArray, List.set_cons_zero, List.set_cons_succ]
      have hCs := obj_set HCn.out i (.string (strOfNums (fieldS n wd0 gb).1))
      have hKs := Kept.setCell (p := ⟨B, i, none⟩) HKn.out (.inr HwB.out) (.string (strOfNums (fieldS n wd0 gb).1))
      have hXs := (Kept.setCell (S := OneB B) (p := ⟨B, i, none⟩) (Kept.refl (OneB B) wn) (.inl rfl) (.string (strOfNums (fieldS n wd0 gb).1))).obj HXn.out (fun e => absurd e (Nat.ne_of_lt HwX.out))
      have HCs := Lib.hid hCs; have HKs := Lib.hid hKs; have HXs := Lib.hid hXs
      clear hCs hKs hXs cB fB
      generalize wn.setCell ⟨B, i, none⟩ (.string (strOfNums (fieldS n wd0 gb).1)) = ws at HCs HKs HXs hHeld ⊢
      refine wpAnyH_take (i := 14) (v := ?_) (by rw [List.getElem?_toArray]; rfl) (by kernel_rfl) (by kernel_rfl) (by kernel_rfl) (fun _ _ _ h => h) (Or.inl ⟨by rfl, ?hyq11_⟩) (by assumption) ?restq11_
      case hyq11_ => (intro w hSw; (try dsimp only at hSw); go_simp; (try with_reducible rfl))
      try simp only [Act.put, List.setIfInBounds_toArray, List.set_cons_zero, List.set_cons_succ]
      refine wpAnyH_done (by kernel_rfl) ?_ _
      refine NoPanic.normal ?_
      have hfe : fieldS n wd0 gb = (fF h i, oF h i) := by rw [HN.out, HWd.out, HGb.out]; rfl
      rw [hfe]
      have HCe : Hid (ws.heap[B]? = some (.cells (cellsF h (i + 1)) 68 (0, 0))) := Lib.hid (by have := HCs.out; rw [hfe, cellsF_set h i hi7] at this; exact this)
      obtain ⟨ok, hok⟩ : ∃ ok, ok = oF h i := ⟨_, rfl⟩
      have HOk := Lib.hid hok
      rw [← hok]
      clear hfe hok HCs hHeld
      cases ok with
      | false =>
        have HE := Lib.hid (enc_no h i hi7 HOk.out.symm)
        go_wp2
        go_ret2
        exact ⟨⟨_, _, rfl, (fun hh => absurd (HE.out.symm.trans hh) (by decide)), fun _ => ⟨rfl, rfl⟩⟩, HKs.out⟩
      | true =>
        have HOn : Hid (∀ j, j < i + 1 → oF h j = true) := Lib.hid (fun j hj => by
          by_cases e : j = i
          · subst e; exact HOk.out.symm
          · exact HO.out j (by omega))
        go_wp2
        refine ⟨?_, ?measure⟩
        case measure => simp [intOf]; omega
        (repeat apply Exists.intro)
        refine ⟨⟨i + 1, ?_, ?_, HOn, HCe, HXs, HKs⟩, rfl⟩
        · go_num
        · omega
      --END12
    · have hi7 : i = 7 := by omega
      subst hi7
      have HE : Hid (encOk h = true) := Lib.hid (by rw [HES2.out, HO.out 0 (by omega), HO.out 1 (by omega), HO.out 2 (by omega), HO.out 3 (by omega), HO.out 4 (by omega), HO.out 5 (by omega), HO.out 6 (by omega)]; rfl)
      have f4 : wr.cell? ⟨X, 4, none⟩ = some (.bool gb) := by rw [obj_cell HXr.out 4, HGb.out]; rfl
      obtain ⟨M, hM⟩ : ∃ M, M = strOfNums (magB gb) := ⟨_, rfl⟩
      clear HES2 HO HB4 HX4 HK4
      go_upto_if 94 with fail
      go_cut [14] from 93 to 94 (fun v14 wy => v14 = .string M ∧ wr = wy)
      case first =>
        cases gb with
        | true =>
          go_wp2
          go_meet
          exact ⟨by rw [hM]; rfl, rfl⟩
        | false =>
          go_wp2
          go_meet
          exact ⟨by rw [hM]; rfl, rfl⟩
      case rest =>
      obtain ⟨rfl, rfl⟩ := hcut
      --TAIL
      obtain ⟨F0, hF0⟩ : ∃ F, F = strOfNums (fF h 0) := ⟨_, rfl⟩
      have b0 : wr.cell? ⟨B, 0, none⟩ = some (.string F0) := by rw [obj_cell HC.out 0, hF0]; rfl
      obtain ⟨F1, hF1⟩ : ∃ F, F = strOfNums (fF h 1) := ⟨_, rfl⟩
      have b1 : wr.cell? ⟨B, 1, none⟩ = some (.string F1) := by rw [obj_cell HC.out 1, hF1]; rfl
      obtain ⟨F2, hF2⟩ : ∃ F, F = strOfNums (fF h 2) := ⟨_, rfl⟩
      have b2 : wr.cell? ⟨B, 2, none⟩ = some (.string F2) := by rw [obj_cell HC.out 2, hF2]; rfl
      obtain ⟨F3, hF3⟩ : ∃ F, F = strOfNums (fF h 3) := ⟨_, rfl⟩
      have b3 : wr.cell? ⟨B, 3, none⟩ = some (.string F3) := by rw [obj_cell HC.out 3, hF3]; rfl
      obtain ⟨F4, hF4⟩ : ∃ F, F = strOfNums (fF h 4) := ⟨_, rfl⟩
      have b4 : wr.cell? ⟨B, 4, none⟩ = some (.string F4) := by rw [obj_cell HC.out 4, hF4]; rfl
      obtain ⟨F5, hF5⟩ : ∃ F, F = strOfNums (fF h 5) := ⟨_, rfl⟩
      have b5 : wr.cell? ⟨B, 5, none⟩ = some (.string F5) := by rw [obj_cell HC.out 5, hF5]; rfl
      obtain ⟨F6, hF6⟩ : ∃ F, F = strOfNums (fF h 6) := ⟨_, rfl⟩
      have b6 : wr.cell? ⟨B, 6, none⟩ = some (.string F6) := by rw [obj_cell HC.out 6, hF6]; rfl
      have hEo := enc_o HE.out
      have ln0 := padT_len h.nm 100 hEo.nm.1
      have ln1 := padT_len h.lk 100 hEo.lk.1
      have ln2 := padT_len h.px 155 hEo.px.1
      have lm := magB_len h.gn
      have lf0 : (fF h 0).length = 8 := field_len _ _ _ hEo.md (by decide)
      have lf1 : (fF h 1).length = 8 := field_len _ _ _ hEo.us (by decide)
      have lf2 : (fF h 2).length = 8 := field_len _ _ _ hEo.gr (by decide)
      have lf3 : (fF h 3).length = 12 := field_len _ _ _ hEo.sz (by decide)
      have lf4 : (fF h 4).length = 12 := field_len _ _ _ hEo.tm (by decide)
      have lf5 : (fF h 5).length = 8 := field_len _ _ _ hEo.ma (by decide)
      have lf6 : (fF h 6).length = 8 := field_len _ _ _ hEo.mi (by decide)
      have HlO := Lib.hid (one_len hEo); have HlT := Lib.hid (two_len hEo)
      obtain ⟨Ty, hTy⟩ : ∃ A, A = strOfNums [h.ty] := ⟨_, rfl⟩
      obtain ⟨Z64, hZ64⟩ : ∃ A, A = strOfNums (List.replicate 64 0) := ⟨_, rfl⟩
      obtain ⟨Z12, hZ12⟩ : ∃ A, A = strOfNums (List.replicate 12 0) := ⟨_, rfl⟩
      have hM2 : M = strOfNums (magB gb) := hM
      have zT1 : T1.size = 100 := by rw [HE1.out, strOfNums_size, ln0]
      have zT2 : T2.size = 100 := by rw [HE2.out, strOfNums_size, ln1]
      have zT3 : T3.size = 155 := by rw [HE3.out, strOfNums_size, ln2]
      have zM : M.size = 8 := by rw [hM, strOfNums_size, magB_len]
      have zTy : Ty.size = 1 := by rw [hTy, strOfNums_size, List.length_singleton]
      have zZ64 : Z64.size = 64 := by rw [hZ64, strOfNums_size, List.length_replicate]
      have zZ12 : Z12.size = 12 := by rw [hZ12, strOfNums_size, List.length_replicate]
      have zF0 : F0.size = 8 := by rw [hF0, strOfNums_size, lf0]
      have zF1 : F1.size = 8 := by rw [hF1, strOfNums_size, lf1]
      have zF2 : F2.size = 8 := by rw [hF2, strOfNums_size, lf2]
      have zF3 : F3.size = 12 := by rw [hF3, strOfNums_size, lf3]
      have zF4 : F4.size = 12 := by rw [hF4, strOfNums_size, lf4]
      have zF5 : F5.size = 8 := by rw [hF5, strOfNums_size, lf5]
      have zF6 : F6.size = 8 := by rw [hF6, strOfNums_size, lf6]
      have sA1 : (T1 ++ F0).size = 108 := by rw [ba_size_app2, zT1, zF0]
      have sA2 : ((T1 ++ F0) ++ F1).size = 116 := by rw [ba_size_app2, sA1, zF1]
      have sA3 : (((T1 ++ F0) ++ F1) ++ F2).size = 124 := by rw [ba_size_app2, sA2, zF2]
      have sA4 : ((((T1 ++ F0) ++ F1) ++ F2) ++ F3).size = 136 := by rw [ba_size_app2, sA3, zF3]
      have sA5 : (((((T1 ++ F0) ++ F1) ++ F2) ++ F3) ++ F4).size = 148 := by rw [ba_size_app2, sA4, zF4]
      have sB1 : (Ty ++ T2).size = 101 := by rw [ba_size_app2, zTy, zT2]
      have sB2 : ((Ty ++ T2) ++ M).size = 109 := by rw [ba_size_app2, sB1, zM]
      have sB3 : (((Ty ++ T2) ++ M) ++ Z64).size = 173 := by rw [ba_size_app2, sB2, zZ64]
      have sB4 : ((((Ty ++ T2) ++ M) ++ Z64) ++ F5).size = 181 := by rw [ba_size_app2, sB3, zF5]
      have sB5 : (((((Ty ++ T2) ++ M) ++ Z64) ++ F5) ++ F6).size = 189 := by rw [ba_size_app2, sB4, zF6]
      have sB6 : ((((((Ty ++ T2) ++ M) ++ Z64) ++ F5) ++ F6) ++ T3).size = 344 := by rw [ba_size_app2, sB5, zT3]
      have sB7 : (((((((Ty ++ T2) ++ M) ++ Z64) ++ F5) ++ F6) ++ T3) ++ Z12).size = 356 := by rw [ba_size_app2, sB6, zZ12]
      have HAo : Hid ((((((T1 ++ F0) ++ F1) ++ F2) ++ F3) ++ F4) = strOfNums (oneL h)) := Lib.hid (by rw [HE1.out, hF0, hF1, hF2, hF3, hF4, str_append, str_append, str_append, str_append, str_append]; congr 1; simp only [oneL, List.append_assoc]; rfl)
      have HBo : Hid ((((((((Ty ++ T2) ++ M) ++ Z64) ++ F5) ++ F6) ++ T3) ++ Z12) = strOfNums (twoL h)) := Lib.hid (by rw [hTy, HE2.out, hM, HGb.out, hZ64, hF5, hF6, HE3.out, hZ12, str_append, str_append, str_append, str_append, str_append, str_append, str_append]; congr 1; simp only [twoL, List.append_assoc]; rfl)
      have HZ1 : Hid (∀ W, Calls Try.prog 31 #[.int .i64 64] W fun e w' => e = .returned (.string Z64) ∧ Kept NoB W w') := Lib.hid (fun W => by rw [hZ64]; exact rnoughts_any 64 W (by omega) (by omega))
      have HZ2 : Hid (∀ W, Calls Try.prog 31 #[.int .i64 12] W fun e w' => e = .returned (.string Z12) ∧ Kept NoB W w') := Lib.hid (fun W => by rw [hZ12]; exact rnoughts_any 12 W (by omega) (by omega))
      have HTy := Lib.hid hTy
      have hF5' : ∀ W, Kept NoB wr W → W.cell? ⟨B, 5, none⟩ = some (.string F5) := fun W hk => hk.cell b5
      have hF6' : ∀ W, Kept NoB wr W → W.cell? ⟨B, 6, none⟩ = some (.string F6) := fun W hk => hk.cell b6
      have hTy' : ∀ W, Kept NoB wr W → W.cell? ⟨X, 3, none⟩ = some (.int .u8 h.ty) := fun W hk => hk.cell (by rw [obj_cell HXr.out 3]; rfl)
      have HF5 := Lib.hid hF5'; have HF6 := Lib.hid hF6'; have HTc := Lib.hid hTy'
      have HK := Lib.hid k
      clear hF5' hF6' hTy' hTy hZ64 hZ12 hM hM2 hF0 hF1 hF2 hF3 hF4 hF5 hF6 ln0 ln1 ln2 lm lf0 lf1 lf2 lf3 lf4 lf5 lf6 b5 b6 f4 hEo k HE1 HE2 HE3
      go_upto_region 19 with fail
      clear b0 b1 b2 b3 b4
      obtain ⟨A5, hA5⟩ : ∃ A, A = (((((T1 ++ F0) ++ F1) ++ F2) ++ F3) ++ F4) := ⟨_, rfl⟩
      rw [← hA5] at HAo sA5 ⊢
      clear sA1 sA2 sA3 sA4 hA5
      go_cut [16] from 111 to 130 (fun v16 wy => v16 = .string (((((((Ty ++ T2) ++ M) ++ Z64) ++ F5) ++ F6) ++ T3) ++ Z12) ∧ Hid (Kept NoB w wy))
      case first =>
        go_wp2_with fail
        refine wp_region_noPanic ?_
        refine wp_region_held_drew (S := fun W => Kept NoB wr W) (by kernel_rfl) (Kept.drew (Kept.refl _ _)) (fun hHeld => ?_)
        obtain ⟨wd, hwd⟩ : ∃ x, x = wr.drew := ⟨_, rfl⟩
        rw [← hwd] at hHeld ⊢
        clear hwd
        refine wpAnyH_take (i := 0) (v := ?_) (by rw [List.getElem?_toArray]; rfl) (by kernel_rfl) (by kernel_rfl) (by kernel_rfl) (fun _ _ _ h => h) (Or.inl ⟨by rfl, ?hyq12_⟩) (by assumption) ?restq12_
        case hyq12_ => (intro w hSw; (try dsimp only at hSw); go_simp; (try with_reducible rfl))
        try simp only [Act.put, List.setIfInBounds_toArray, List.set_cons_zero, List.set_cons_succ]
        refine wpAnyH_take (i := 1) (v := ?_) (by rw [List.getElem?_toArray]; rfl) (by kernel_rfl) (by kernel_rfl) (by kernel_rfl) (fun _ _ _ h => h) (Or.inl ⟨by rfl, ?hyq13_⟩) (by assumption) ?restq13_
        case hyq13_ => (intro w hSw; (try dsimp only at hSw); have e1 := HTc.out w hSw; go_simp; (try with_reducible rfl))
        try simp only [Act.put, List.setIfInBounds_toArray, List.set_cons_zero, List.set_cons_succ]
        refine wpAnyH_take (i := 4) (v := ?_) (by rw [List.getElem?_toArray]; rfl) (by kernel_rfl) (by kernel_rfl) (by kernel_rfl) (fun _ _ _ h => h) (Or.inl ⟨by rfl, ?hyq14_⟩) (by assumption) ?restq14_
        case hyq14_ => (intro w hSw; (try dsimp only at hSw); go_simp; (try with_reducible rfl))
        try simp only [Act.put, List.setIfInBounds_toArray, List.set_cons_zero, List.set_cons_succ]
        refine wpAnyH_take (i := 6) (v := ?_) (by rw [List.getElem?_toArray]; rfl) (by kernel_rfl) (by kernel_rfl) (by kernel_rfl) (fun _ _ _ h => h) (Or.inl ⟨by rfl, ?hyq15_⟩) (by assumption) ?restq15_
        case hyq15_ => (intro w hSw; (try dsimp only at hSw); go_simp; (try with_reducible rfl))
        try simp only [Act.put, List.setIfInBounds_toArray, List.set_cons_zero, List.set_cons_succ]
        refine wpAnyH_take (i := 10) (v := ?_) (by rw [List.getElem?_toArray]; rfl) (by kernel_rfl) (by kernel_rfl) (by kernel_rfl) (fun _ _ _ h => h) (Or.inl ⟨by rfl, ?hyq16_⟩) (by assumption) ?restq16_
        case hyq16_ => (intro w hSw; (try dsimp only at hSw); go_simp; (try with_reducible rfl))
        try simp only [Act.put, List.setIfInBounds_toArray, List.set_cons_zero, List.set_cons_succ]
        refine wpAnyH_take (i := 11) (v := ?_) (by rw [List.getElem?_toArray]; rfl) (by kernel_rfl) (by kernel_rfl) (by kernel_rfl) (fun _ _ _ h => h) (Or.inl ⟨by rfl, ?hyq17_⟩) (by assumption) ?restq17_
        case hyq17_ => (intro w hSw; (try dsimp only at hSw); have e1 := HF5.out w hSw; go_simp; (try with_reducible rfl))
        try simp only [Act.put, List.setIfInBounds_toArray, List.set_cons_zero, List.set_cons_succ]
        refine wpAnyH_take (i := 13) (v := ?_) (by rw [List.getElem?_toArray]; rfl) (by kernel_rfl) (by kernel_rfl) (by kernel_rfl) (fun _ _ _ h => h) (Or.inl ⟨by rfl, ?hyq18_⟩) (by assumption) ?restq18_
        case hyq18_ => (intro w hSw; (try dsimp only at hSw); go_simp; (try with_reducible rfl))
        try simp only [Act.put, List.setIfInBounds_toArray, List.set_cons_zero, List.set_cons_succ]
        refine wpAnyH_take (i := 14) (v := ?_) (by rw [List.getElem?_toArray]; rfl) (by kernel_rfl) (by kernel_rfl) (by kernel_rfl) (fun _ _ _ h => h) (Or.inl ⟨by rfl, ?hyq19_⟩) (by assumption) ?restq19_
        case hyq19_ => (intro w hSw; (try dsimp only at hSw); have e1 := HF6.out w hSw; go_simp; (try with_reducible rfl))
        try simp only [Act.put, List.setIfInBounds_toArray, List.set_cons_zero, List.set_cons_succ]
        refine wpAnyH_take (i := 16) (v := ?_) (by rw [List.getElem?_toArray]; rfl) (by kernel_rfl) (by kernel_rfl) (by kernel_rfl) (fun _ _ _ h => h) (Or.inl ⟨by rfl, ?hyq20_⟩) (by assumption) ?restq20_
        case hyq20_ => (intro w hSw; (try dsimp only at hSw); go_simp; (try with_reducible rfl))
        try simp only [Act.put, List.setIfInBounds_toArray, List.set_cons_zero, List.set_cons_succ]
        refine wpAnyH_ready (rs := [2, 8]) (by kernel_rfl) (by simp) ?_
        refine AllReadyH.cons (by rw [List.getElem?_toArray]; rfl) (fun K hK => ?_) (AllReadyH.cons (by rw [List.getElem?_toArray]; rfl) (fun K hK => ?_) (AllReadyH.nil))
        · go_simp
          refine hK.out _ _ (hHeld.alloc _) (fun hHeld => ?_)
          clear hK K
          try simp only [Act.put, List.setIfInBounds_toArray, List.set_cons_zero, List.set_cons_succ]
          obtain ⟨g1, hg1⟩ : ∃ g, g = wd.heap.size := ⟨_, rfl⟩
          obtain ⟨w_1, hw1⟩ : ∃ y, y = wd.alloc (.cells #[.int .u8 h.ty] 5) := ⟨_, rfl⟩
          have HR1 : Hid (Reads w_1 (some ⟨g1, 0, none⟩) [h.ty]) := Lib.hid (lit_reads (t := 5) (fr := (0, 0)) _ (by rw [hw1, hg1]; exact heap_alloc_new _ _) rfl)
          rw [← hw1] at hHeld ⊢
          rw [← hg1]
          clear hw1 hg1
          refine wpAnyH_ready (rs := [3, 8]) (by kernel_rfl) (by simp) ?_
          refine AllReadyH.cons (by rw [List.getElem?_toArray]; rfl) (fun K hK => ?_) (AllReadyH.cons (by rw [List.getElem?_toArray]; rfl) (fun K hK => ?_) (AllReadyH.nil))
          · have hcv : (convert 24 9 (.slice (some ⟨g1, 0, none⟩) 1 1)).run Try.prog w_1 = .ok (.string Ty) w_1 := by rw [HTy.out]; exact conv_reads HR1.out rfl (fun h => by cases h)
            go_simp
            refine hK.out _ _ hHeld (fun hHeld => ?_)
            clear hK K hcv
            try simp only [Act.put, List.setIfInBounds_toArray, List.set_cons_zero, List.set_cons_succ]
            refine wpAnyH_take (i := 5) (v := ?_) (by rw [List.getElem?_toArray]; rfl) (by kernel_rfl) (by kernel_rfl) (by kernel_rfl) (fun _ _ _ h => h) (Or.inl ⟨by rfl, ?hyq21_⟩) (by assumption) ?restq21_
            case hyq21_ => (intro w hSw; (try dsimp only at hSw); go_simp; (try with_reducible rfl))
            try simp only [Act.put, List.setIfInBounds_toArray, List.set_cons_zero, List.set_cons_succ]
            refine wpAnyH_take (i := 7) (v := ?_) (by rw [List.getElem?_toArray]; rfl) (by kernel_rfl) (by kernel_rfl) (by kernel_rfl) (fun _ _ _ h => h) (Or.inl ⟨by rfl, ?hyq22_⟩) (by assumption) ?restq22_
            case hyq22_ => (intro w hSw; (try dsimp only at hSw); go_simp; (try with_reducible rfl))
            try simp only [Act.put, List.setIfInBounds_toArray, List.set_cons_zero, List.set_cons_succ]
            refine wpAnyH_ready (rs := [8]) (by kernel_rfl) (by simp) ?_
            refine AllReadyH.cons (by rw [List.getElem?_toArray]; rfl) (fun K hK => ?_) AllReadyH.nil
            go_simp
            go_at_call 31
            (with_reducible refine (HZ1.out _).mono ?_)
            rintro e w_3 ⟨rfl, hkn⟩
            have hSn := hHeld.trans hkn
            clear hkn
            go_wp2_with fail
            refine hK.out _ _ hSn (fun hHeld => ?_)
            clear hK K hSn
            try simp only [Act.put, List.setIfInBounds_toArray, List.set_cons_zero, List.set_cons_succ]
            refine wpAnyH_take (i := 9) (v := ?_) (by rw [List.getElem?_toArray]; rfl) (by kernel_rfl) (by kernel_rfl) (by kernel_rfl) (fun _ _ _ h => h) (Or.inl ⟨by rfl, ?hyq23_⟩) (by assumption) ?restq23_
            case hyq23_ => (intro w hSw; (try dsimp only at hSw); go_simp; (try with_reducible rfl))
            try simp only [Act.put, List.setIfInBounds_toArray, List.set_cons_zero, List.set_cons_succ]
            refine wpAnyH_take (i := 12) (v := ?_) (by rw [List.getElem?_toArray]; rfl) (by kernel_rfl) (by kernel_rfl) (by kernel_rfl) (fun _ _ _ h => h) (Or.inl ⟨by rfl, ?hyq24_⟩) (by assumption) ?restq24_
            case hyq24_ => (intro w hSw; (try dsimp only at hSw); go_simp; (try with_reducible rfl))
            try simp only [Act.put, List.setIfInBounds_toArray, List.set_cons_zero, List.set_cons_succ]
            refine wpAnyH_take (i := 15) (v := ?_) (by rw [List.getElem?_toArray]; rfl) (by kernel_rfl) (by kernel_rfl) (by kernel_rfl) (fun _ _ _ h => h) (Or.inl ⟨by rfl, ?hyq25_⟩) (by assumption) ?restq25_
            case hyq25_ => (intro w hSw; (try dsimp only at hSw); go_simp; (try with_reducible rfl))
            try simp only [Act.put, List.setIfInBounds_toArray, List.set_cons_zero, List.set_cons_succ]
            refine wpAnyH_take (i := 17) (v := ?_) (by rw [List.getElem?_toArray]; rfl) (by kernel_rfl) (by kernel_rfl) (by kernel_rfl) (fun _ _ _ h => h) (Or.inl ⟨by rfl, ?hyq26_⟩) (by assumption) ?restq26_
            case hyq26_ => (intro w hSw; (try dsimp only at hSw); go_simp; (try with_reducible rfl))
            try simp only [Act.put, List.setIfInBounds_toArray, List.set_cons_zero, List.set_cons_succ]
            refine wpAnyH_ready (rs := [18]) (by kernel_rfl) (by simp) ?_
            refine AllReadyH.cons (by rw [List.getElem?_toArray]; rfl) (fun K hK => ?_) AllReadyH.nil
            go_simp
            go_at_call 31
            (with_reducible refine (HZ2.out _).mono ?_)
            rintro e w_4 ⟨rfl, hkn⟩
            have hSn := hHeld.trans hkn
            clear hkn
            go_wp2_with fail
            refine hK.out _ _ hSn (fun hHeld => ?_)
            clear hK K hSn
            try simp only [Act.put, List.setIfInBounds_toArray, List.set_cons_zero, List.set_cons_succ]
            refine wpAnyH_take (i := 19) (v := ?_) (by rw [List.getElem?_toArray]; rfl) (by kernel_rfl) (by kernel_rfl) (by kernel_rfl) (fun _ _ _ h => h) (Or.inl ⟨by rfl, ?hyq27_⟩) (by assumption) ?restq27_
            case hyq27_ => (intro w hSw; (try dsimp only at hSw); go_simp; (try with_reducible rfl))
            try simp only [Act.put, List.setIfInBounds_toArray, List.set_cons_zero, List.set_cons_succ]
            refine wpAnyH_take (i := 20) (v := ?_) (by rw [List.getElem?_toArray]; rfl) (by kernel_rfl) (by kernel_rfl) (by kernel_rfl) (fun _ _ _ h => h) (Or.inl ⟨by rfl, ?hyq28_⟩) (by assumption) ?restq28_
            case hyq28_ => (intro w hSw; (try dsimp only at hSw); go_simp; (try with_reducible rfl))
            try simp only [Act.put, List.setIfInBounds_toArray, List.set_cons_zero, List.set_cons_succ]
            refine wpAnyH_done (by kernel_rfl) ?_ _
            refine NoPanic.normal ?_
            go_wp2
            go_meet
            exact ⟨rfl, Lib.hid (HKr.out.trans hHeld)⟩
          · go_simp
            go_at_call 31
            (with_reducible refine (HZ1.out _).mono ?_)
            rintro e w_5 ⟨rfl, hkn⟩
            have hSn := hHeld.trans hkn
            have HR5 := Lib.hid (HR1.out.keptNo hkn)
            clear hkn
            go_wp2_with fail
            refine hK.out _ _ hSn (fun hHeld => ?_)
            clear hK K hSn
            try simp only [Act.put, List.setIfInBounds_toArray, List.set_cons_zero, List.set_cons_succ]
            refine wpAnyH_ready (rs := [3, 18]) (by kernel_rfl) (by simp) ?_
            refine AllReadyH.cons (by rw [List.getElem?_toArray]; rfl) (fun K hK => ?_) (AllReadyH.cons (by rw [List.getElem?_toArray]; rfl) (fun K hK => ?_) (AllReadyH.nil))
            · have hcv : (convert 24 9 (.slice (some ⟨g1, 0, none⟩) 1 1)).run Try.prog w_5 = .ok (.string Ty) w_5 := by rw [HTy.out]; exact conv_reads HR5.out rfl (fun h => by cases h)
              go_simp
              refine hK.out _ _ hHeld (fun hHeld => ?_)
              clear hK K hcv
              try simp only [Act.put, List.setIfInBounds_toArray, List.set_cons_zero, List.set_cons_succ]
              refine wpAnyH_take (i := 5) (v := ?_) (by rw [List.getElem?_toArray]; rfl) (by kernel_rfl) (by kernel_rfl) (by kernel_rfl) (fun _ _ _ h => h) (Or.inl ⟨by rfl, ?hyq29_⟩) (by assumption) ?restq29_
              case hyq29_ => (intro w hSw; (try dsimp only at hSw); go_simp; (try with_reducible rfl))
              try simp only [Act.put, List.setIfInBounds_toArray, List.set_cons_zero, List.set_cons_succ]
              refine wpAnyH_take (i := 7) (v := ?_) (by rw [List.getElem?_toArray]; rfl) (by kernel_rfl) (by kernel_rfl) (by kernel_rfl) (fun _ _ _ h => h) (Or.inl ⟨by rfl, ?hyq30_⟩) (by assumption) ?restq30_
              case hyq30_ => (intro w hSw; (try dsimp only at hSw); go_simp; (try with_reducible rfl))
              try simp only [Act.put, List.setIfInBounds_toArray, List.set_cons_zero, List.set_cons_succ]
              refine wpAnyH_take (i := 9) (v := ?_) (by rw [List.getElem?_toArray]; rfl) (by kernel_rfl) (by kernel_rfl) (by kernel_rfl) (fun _ _ _ h => h) (Or.inl ⟨by rfl, ?hyq31_⟩) (by assumption) ?restq31_
              case hyq31_ => (intro w hSw; (try dsimp only at hSw); go_simp; (try with_reducible rfl))
              try simp only [Act.put, List.setIfInBounds_toArray, List.set_cons_zero, List.set_cons_succ]
              refine wpAnyH_take (i := 12) (v := ?_) (by rw [List.getElem?_toArray]; rfl) (by kernel_rfl) (by kernel_rfl) (by kernel_rfl) (fun _ _ _ h => h) (Or.inl ⟨by rfl, ?hyq32_⟩) (by assumption) ?restq32_
              case hyq32_ => (intro w hSw; (try dsimp only at hSw); go_simp; (try with_reducible rfl))
              try simp only [Act.put, List.setIfInBounds_toArray, List.set_cons_zero, List.set_cons_succ]
              refine wpAnyH_take (i := 15) (v := ?_) (by rw [List.getElem?_toArray]; rfl) (by kernel_rfl) (by kernel_rfl) (by kernel_rfl) (fun _ _ _ h => h) (Or.inl ⟨by rfl, ?hyq33_⟩) (by assumption) ?restq33_
              case hyq33_ => (intro w hSw; (try dsimp only at hSw); go_simp; (try with_reducible rfl))
              try simp only [Act.put, List.setIfInBounds_toArray, List.set_cons_zero, List.set_cons_succ]
              refine wpAnyH_take (i := 17) (v := ?_) (by rw [List.getElem?_toArray]; rfl) (by kernel_rfl) (by kernel_rfl) (by kernel_rfl) (fun _ _ _ h => h) (Or.inl ⟨by rfl, ?hyq34_⟩) (by assumption) ?restq34_
              case hyq34_ => (intro w hSw; (try dsimp only at hSw); go_simp; (try with_reducible rfl))
              try simp only [Act.put, List.setIfInBounds_toArray, List.set_cons_zero, List.set_cons_succ]
              refine wpAnyH_ready (rs := [18]) (by kernel_rfl) (by simp) ?_
              refine AllReadyH.cons (by rw [List.getElem?_toArray]; rfl) (fun K hK => ?_) AllReadyH.nil
              go_simp
              go_at_call 31
              (with_reducible refine (HZ2.out _).mono ?_)
              rintro e w_7 ⟨rfl, hkn⟩
              have hSn := hHeld.trans hkn
              clear hkn
              go_wp2_with fail
              refine hK.out _ _ hSn (fun hHeld => ?_)
              clear hK K hSn
              try simp only [Act.put, List.setIfInBounds_toArray, List.set_cons_zero, List.set_cons_succ]
              refine wpAnyH_take (i := 19) (v := ?_) (by rw [List.getElem?_toArray]; rfl) (by kernel_rfl) (by kernel_rfl) (by kernel_rfl) (fun _ _ _ h => h) (Or.inl ⟨by rfl, ?hyq35_⟩) (by assumption) ?restq35_
              case hyq35_ => (intro w hSw; (try dsimp only at hSw); go_simp; (try with_reducible rfl))
              try simp only [Act.put, List.setIfInBounds_toArray, List.set_cons_zero, List.set_cons_succ]
              refine wpAnyH_take (i := 20) (v := ?_) (by rw [List.getElem?_toArray]; rfl) (by kernel_rfl) (by kernel_rfl) (by kernel_rfl) (fun _ _ _ h => h) (Or.inl ⟨by rfl, ?hyq36_⟩) (by assumption) ?restq36_
              case hyq36_ => (intro w hSw; (try dsimp only at hSw); go_simp; (try with_reducible rfl))
              try simp only [Act.put, List.setIfInBounds_toArray, List.set_cons_zero, List.set_cons_succ]
              refine wpAnyH_done (by kernel_rfl) ?_ _
              refine NoPanic.normal ?_
              go_wp2
              go_meet
              exact ⟨rfl, Lib.hid (HKr.out.trans hHeld)⟩
            · go_simp
              go_at_call 31
              (with_reducible refine (HZ2.out _).mono ?_)
              rintro e w_8 ⟨rfl, hkn⟩
              have hSn := hHeld.trans hkn
              have HR8 := Lib.hid (HR5.out.keptNo hkn)
              clear hkn
              go_wp2_with fail
              refine hK.out _ _ hSn (fun hHeld => ?_)
              clear hK K hSn
              try simp only [Act.put, List.setIfInBounds_toArray, List.set_cons_zero, List.set_cons_succ]
              refine wpAnyH_ready (rs := [3]) (by kernel_rfl) (by simp) ?_
              refine AllReadyH.cons (by rw [List.getElem?_toArray]; rfl) (fun K hK => ?_) AllReadyH.nil
              have hcv : (convert 24 9 (.slice (some ⟨g1, 0, none⟩) 1 1)).run Try.prog w_8 = .ok (.string Ty) w_8 := by rw [HTy.out]; exact conv_reads HR8.out rfl (fun h => by cases h)
              go_simp
              refine hK.out _ _ hHeld (fun hHeld => ?_)
              clear hK K hcv
              try simp only [Act.put, List.setIfInBounds_toArray, List.set_cons_zero, List.set_cons_succ]
              refine wpAnyH_take (i := 5) (v := ?_) (by rw [List.getElem?_toArray]; rfl) (by kernel_rfl) (by kernel_rfl) (by kernel_rfl) (fun _ _ _ h => h) (Or.inl ⟨by rfl, ?hyq37_⟩) (by assumption) ?restq37_
              case hyq37_ => (intro w hSw; (try dsimp only at hSw); go_simp; (try with_reducible rfl))
              try simp only [Act.put, List.setIfInBounds_toArray, List.set_cons_zero, List.set_cons_succ]
              refine wpAnyH_take (i := 7) (v := ?_) (by rw [List.getElem?_toArray]; rfl) (by kernel_rfl) (by kernel_rfl) (by kernel_rfl) (fun _ _ _ h => h) (Or.inl ⟨by rfl, ?hyq38_⟩) (by assumption) ?restq38_
              case hyq38_ => (intro w hSw; (try dsimp only at hSw); go_simp; (try with_reducible rfl))
              try simp only [Act.put, List.setIfInBounds_toArray, List.set_cons_zero, List.set_cons_succ]
              refine wpAnyH_take (i := 9) (v := ?_) (by rw [List.getElem?_toArray]; rfl) (by kernel_rfl) (by kernel_rfl) (by kernel_rfl) (fun _ _ _ h => h) (Or.inl ⟨by rfl, ?hyq39_⟩) (by assumption) ?restq39_
              case hyq39_ => (intro w hSw; (try dsimp only at hSw); go_simp; (try with_reducible rfl))
              try simp only [Act.put, List.setIfInBounds_toArray, List.set_cons_zero, List.set_cons_succ]
              refine wpAnyH_take (i := 12) (v := ?_) (by rw [List.getElem?_toArray]; rfl) (by kernel_rfl) (by kernel_rfl) (by kernel_rfl) (fun _ _ _ h => h) (Or.inl ⟨by rfl, ?hyq40_⟩) (by assumption) ?restq40_
              case hyq40_ => (intro w hSw; (try dsimp only at hSw); go_simp; (try with_reducible rfl))
              try simp only [Act.put, List.setIfInBounds_toArray, List.set_cons_zero, List.set_cons_succ]
              refine wpAnyH_take (i := 15) (v := ?_) (by rw [List.getElem?_toArray]; rfl) (by kernel_rfl) (by kernel_rfl) (by kernel_rfl) (fun _ _ _ h => h) (Or.inl ⟨by rfl, ?hyq41_⟩) (by assumption) ?restq41_
              case hyq41_ => (intro w hSw; (try dsimp only at hSw); go_simp; (try with_reducible rfl))
              try simp only [Act.put, List.setIfInBounds_toArray, List.set_cons_zero, List.set_cons_succ]
              refine wpAnyH_take (i := 17) (v := ?_) (by rw [List.getElem?_toArray]; rfl) (by kernel_rfl) (by kernel_rfl) (by kernel_rfl) (fun _ _ _ h => h) (Or.inl ⟨by rfl, ?hyq42_⟩) (by assumption) ?restq42_
              case hyq42_ => (intro w hSw; (try dsimp only at hSw); go_simp; (try with_reducible rfl))
              try simp only [Act.put, List.setIfInBounds_toArray, List.set_cons_zero, List.set_cons_succ]
              refine wpAnyH_take (i := 19) (v := ?_) (by rw [List.getElem?_toArray]; rfl) (by kernel_rfl) (by kernel_rfl) (by kernel_rfl) (fun _ _ _ h => h) (Or.inl ⟨by rfl, ?hyq43_⟩) (by assumption) ?restq43_
              case hyq43_ => (intro w hSw; (try dsimp only at hSw); go_simp; (try with_reducible rfl))
              try simp only [Act.put, List.setIfInBounds_toArray, List.set_cons_zero, List.set_cons_succ]
              refine wpAnyH_take (i := 20) (v := ?_) (by rw [List.getElem?_toArray]; rfl) (by kernel_rfl) (by kernel_rfl) (by kernel_rfl) (fun _ _ _ h => h) (Or.inl ⟨by rfl, ?hyq44_⟩) (by assumption) ?restq44_
              case hyq44_ => (intro w hSw; (try dsimp only at hSw); go_simp; (try with_reducible rfl))
              try simp only [Act.put, List.setIfInBounds_toArray, List.set_cons_zero, List.set_cons_succ]
              refine wpAnyH_done (by kernel_rfl) ?_ _
              refine NoPanic.normal ?_
              go_wp2
              go_meet
              exact ⟨rfl, Lib.hid (HKr.out.trans hHeld)⟩
        · go_simp
          go_at_call 31
          (with_reducible refine (HZ1.out _).mono ?_)
          rintro e w_10 ⟨rfl, hkn⟩
          have hSn := hHeld.trans hkn
          clear hkn
          go_wp2_with fail
          refine hK.out _ _ hSn (fun hHeld => ?_)
          clear hK K hSn
          try simp only [Act.put, List.setIfInBounds_toArray, List.set_cons_zero, List.set_cons_succ]
          refine wpAnyH_ready (rs := [2, 18]) (by kernel_rfl) (by simp) ?_
          refine AllReadyH.cons (by rw [List.getElem?_toArray]; rfl) (fun K hK => ?_) (AllReadyH.cons (by rw [List.getElem?_toArray]; rfl) (fun K hK => ?_) (AllReadyH.nil))
          · go_simp
            refine hK.out _ _ (hHeld.alloc _) (fun hHeld => ?_)
            clear hK K
            try simp only [Act.put, List.setIfInBounds_toArray, List.set_cons_zero, List.set_cons_succ]
            obtain ⟨g11, hg11⟩ : ∃ g, g = w_10.heap.size := ⟨_, rfl⟩
            obtain ⟨w_11, hw11⟩ : ∃ y, y = w_10.alloc (.cells #[.int .u8 h.ty] 5) := ⟨_, rfl⟩
            have HR11 : Hid (Reads w_11 (some ⟨g11, 0, none⟩) [h.ty]) := Lib.hid (lit_reads (t := 5) (fr := (0, 0)) _ (by rw [hw11, hg11]; exact heap_alloc_new _ _) rfl)
            rw [← hw11] at hHeld ⊢
            rw [← hg11]
            clear hw11 hg11
            refine wpAnyH_ready (rs := [3, 18]) (by kernel_rfl) (by simp) ?_
            refine AllReadyH.cons (by rw [List.getElem?_toArray]; rfl) (fun K hK => ?_) (AllReadyH.cons (by rw [List.getElem?_toArray]; rfl) (fun K hK => ?_) (AllReadyH.nil))
            · have hcv : (convert 24 9 (.slice (some ⟨g11, 0, none⟩) 1 1)).run Try.prog w_11 = .ok (.string Ty) w_11 := by rw [HTy.out]; exact conv_reads HR11.out rfl (fun h => by cases h)
              go_simp
              refine hK.out _ _ hHeld (fun hHeld => ?_)
              clear hK K hcv
              try simp only [Act.put, List.setIfInBounds_toArray, List.set_cons_zero, List.set_cons_succ]
              refine wpAnyH_take (i := 5) (v := ?_) (by rw [List.getElem?_toArray]; rfl) (by kernel_rfl) (by kernel_rfl) (by kernel_rfl) (fun _ _ _ h => h) (Or.inl ⟨by rfl, ?hyq45_⟩) (by assumption) ?restq45_
              case hyq45_ => (intro w hSw; (try dsimp only at hSw); go_simp; (try with_reducible rfl))
              try simp only [Act.put, List.setIfInBounds_toArray, List.set_cons_zero, List.set_cons_succ]
              refine wpAnyH_take (i := 7) (v := ?_) (by rw [List.getElem?_toArray]; rfl) (by kernel_rfl) (by kernel_rfl) (by kernel_rfl) (fun _ _ _ h => h) (Or.inl ⟨by rfl, ?hyq46_⟩) (by assumption) ?restq46_
              case hyq46_ => (intro w hSw; (try dsimp only at hSw); go_simp; (try with_reducible rfl))
              try simp only [Act.put, List.setIfInBounds_toArray, List.set_cons_zero, List.set_cons_succ]
              refine wpAnyH_take (i := 9) (v := ?_) (by rw [List.getElem?_toArray]; rfl) (by kernel_rfl) (by kernel_rfl) (by kernel_rfl) (fun _ _ _ h => h) (Or.inl ⟨by rfl, ?hyq47_⟩) (by assumption) ?restq47_
              case hyq47_ => (intro w hSw; (try dsimp only at hSw); go_simp; (try with_reducible rfl))
              try simp only [Act.put, List.setIfInBounds_toArray, List.set_cons_zero, List.set_cons_succ]
              refine wpAnyH_take (i := 12) (v := ?_) (by rw [List.getElem?_toArray]; rfl) (by kernel_rfl) (by kernel_rfl) (by kernel_rfl) (fun _ _ _ h => h) (Or.inl ⟨by rfl, ?hyq48_⟩) (by assumption) ?restq48_
              case hyq48_ => (intro w hSw; (try dsimp only at hSw); go_simp; (try with_reducible rfl))
              try simp only [Act.put, List.setIfInBounds_toArray, List.set_cons_zero, List.set_cons_succ]
              refine wpAnyH_take (i := 15) (v := ?_) (by rw [List.getElem?_toArray]; rfl) (by kernel_rfl) (by kernel_rfl) (by kernel_rfl) (fun _ _ _ h => h) (Or.inl ⟨by rfl, ?hyq49_⟩) (by assumption) ?restq49_
              case hyq49_ => (intro w hSw; (try dsimp only at hSw); go_simp; (try with_reducible rfl))
              try simp only [Act.put, List.setIfInBounds_toArray, List.set_cons_zero, List.set_cons_succ]
              refine wpAnyH_take (i := 17) (v := ?_) (by rw [List.getElem?_toArray]; rfl) (by kernel_rfl) (by kernel_rfl) (by kernel_rfl) (fun _ _ _ h => h) (Or.inl ⟨by rfl, ?hyq50_⟩) (by assumption) ?restq50_
              case hyq50_ => (intro w hSw; (try dsimp only at hSw); go_simp; (try with_reducible rfl))
              try simp only [Act.put, List.setIfInBounds_toArray, List.set_cons_zero, List.set_cons_succ]
              refine wpAnyH_ready (rs := [18]) (by kernel_rfl) (by simp) ?_
              refine AllReadyH.cons (by rw [List.getElem?_toArray]; rfl) (fun K hK => ?_) AllReadyH.nil
              go_simp
              go_at_call 31
              (with_reducible refine (HZ2.out _).mono ?_)
              rintro e w_13 ⟨rfl, hkn⟩
              have hSn := hHeld.trans hkn
              clear hkn
              go_wp2_with fail
              refine hK.out _ _ hSn (fun hHeld => ?_)
              clear hK K hSn
              try simp only [Act.put, List.setIfInBounds_toArray, List.set_cons_zero, List.set_cons_succ]
              refine wpAnyH_take (i := 19) (v := ?_) (by rw [List.getElem?_toArray]; rfl) (by kernel_rfl) (by kernel_rfl) (by kernel_rfl) (fun _ _ _ h => h) (Or.inl ⟨by rfl, ?hyq51_⟩) (by assumption) ?restq51_
              case hyq51_ => (intro w hSw; (try dsimp only at hSw); go_simp; (try with_reducible rfl))
              try simp only [Act.put, List.setIfInBounds_toArray, List.set_cons_zero, List.set_cons_succ]
              refine wpAnyH_take (i := 20) (v := ?_) (by rw [List.getElem?_toArray]; rfl) (by kernel_rfl) (by kernel_rfl) (by kernel_rfl) (fun _ _ _ h => h) (Or.inl ⟨by rfl, ?hyq52_⟩) (by assumption) ?restq52_
              case hyq52_ => (intro w hSw; (try dsimp only at hSw); go_simp; (try with_reducible rfl))
              try simp only [Act.put, List.setIfInBounds_toArray, List.set_cons_zero, List.set_cons_succ]
              refine wpAnyH_done (by kernel_rfl) ?_ _
              refine NoPanic.normal ?_
              go_wp2
              go_meet
              exact ⟨rfl, Lib.hid (HKr.out.trans hHeld)⟩
            · go_simp
              go_at_call 31
              (with_reducible refine (HZ2.out _).mono ?_)
              rintro e w_14 ⟨rfl, hkn⟩
              have hSn := hHeld.trans hkn
              have HR14 := Lib.hid (HR11.out.keptNo hkn)
              clear hkn
              go_wp2_with fail
              refine hK.out _ _ hSn (fun hHeld => ?_)
              clear hK K hSn
              try simp only [Act.put, List.setIfInBounds_toArray, List.set_cons_zero, List.set_cons_succ]
              refine wpAnyH_ready (rs := [3]) (by kernel_rfl) (by simp) ?_
              refine AllReadyH.cons (by rw [List.getElem?_toArray]; rfl) (fun K hK => ?_) AllReadyH.nil
              have hcv : (convert 24 9 (.slice (some ⟨g11, 0, none⟩) 1 1)).run Try.prog w_14 = .ok (.string Ty) w_14 := by rw [HTy.out]; exact conv_reads HR14.out rfl (fun h => by cases h)
              go_simp
              refine hK.out _ _ hHeld (fun hHeld => ?_)
              clear hK K hcv
              try simp only [Act.put, List.setIfInBounds_toArray, List.set_cons_zero, List.set_cons_succ]
              refine wpAnyH_take (i := 5) (v := ?_) (by rw [List.getElem?_toArray]; rfl) (by kernel_rfl) (by kernel_rfl) (by kernel_rfl) (fun _ _ _ h => h) (Or.inl ⟨by rfl, ?hyq53_⟩) (by assumption) ?restq53_
              case hyq53_ => (intro w hSw; (try dsimp only at hSw); go_simp; (try with_reducible rfl))
              try simp only [Act.put, List.setIfInBounds_toArray, List.set_cons_zero, List.set_cons_succ]
              refine wpAnyH_take (i := 7) (v := ?_) (by rw [List.getElem?_toArray]; rfl) (by kernel_rfl) (by kernel_rfl) (by kernel_rfl) (fun _ _ _ h => h) (Or.inl ⟨by rfl, ?hyq54_⟩) (by assumption) ?restq54_
              case hyq54_ => (intro w hSw; (try dsimp only at hSw); go_simp; (try with_reducible rfl))
              try simp only [Act.put, List.setIfInBounds_toArray, List.set_cons_zero, List.set_cons_succ]
              refine wpAnyH_take (i := 9) (v := ?_) (by rw [List.getElem?_toArray]; rfl) (by kernel_rfl) (by kernel_rfl) (by kernel_rfl) (fun _ _ _ h => h) (Or.inl ⟨by rfl, ?hyq55_⟩) (by assumption) ?restq55_
              case hyq55_ => (intro w hSw; (try dsimp only at hSw); go_simp; (try with_reducible rfl))
              try simp only [Act.put, List.setIfInBounds_toArray, List.set_cons_zero, List.set_cons_succ]
              refine wpAnyH_take (i := 12) (v := ?_) (by rw [List.getElem?_toArray]; rfl) (by kernel_rfl) (by kernel_rfl) (by kernel_rfl) (fun _ _ _ h => h) (Or.inl ⟨by rfl, ?hyq56_⟩) (by assumption) ?restq56_
              case hyq56_ => (intro w hSw; (try dsimp only at hSw); go_simp; (try with_reducible rfl))
              try simp only [Act.put, List.setIfInBounds_toArray, List.set_cons_zero, List.set_cons_succ]
              refine wpAnyH_take (i := 15) (v := ?_) (by rw [List.getElem?_toArray]; rfl) (by kernel_rfl) (by kernel_rfl) (by kernel_rfl) (fun _ _ _ h => h) (Or.inl ⟨by rfl, ?hyq57_⟩) (by assumption) ?restq57_
              case hyq57_ => (intro w hSw; (try dsimp only at hSw); go_simp; (try with_reducible rfl))
              try simp only [Act.put, List.setIfInBounds_toArray, List.set_cons_zero, List.set_cons_succ]
              refine wpAnyH_take (i := 17) (v := ?_) (by rw [List.getElem?_toArray]; rfl) (by kernel_rfl) (by kernel_rfl) (by kernel_rfl) (fun _ _ _ h => h) (Or.inl ⟨by rfl, ?hyq58_⟩) (by assumption) ?restq58_
              case hyq58_ => (intro w hSw; (try dsimp only at hSw); go_simp; (try with_reducible rfl))
              try simp only [Act.put, List.setIfInBounds_toArray, List.set_cons_zero, List.set_cons_succ]
              refine wpAnyH_take (i := 19) (v := ?_) (by rw [List.getElem?_toArray]; rfl) (by kernel_rfl) (by kernel_rfl) (by kernel_rfl) (fun _ _ _ h => h) (Or.inl ⟨by rfl, ?hyq59_⟩) (by assumption) ?restq59_
              case hyq59_ => (intro w hSw; (try dsimp only at hSw); go_simp; (try with_reducible rfl))
              try simp only [Act.put, List.setIfInBounds_toArray, List.set_cons_zero, List.set_cons_succ]
              refine wpAnyH_take (i := 20) (v := ?_) (by rw [List.getElem?_toArray]; rfl) (by kernel_rfl) (by kernel_rfl) (by kernel_rfl) (fun _ _ _ h => h) (Or.inl ⟨by rfl, ?hyq60_⟩) (by assumption) ?restq60_
              case hyq60_ => (intro w hSw; (try dsimp only at hSw); go_simp; (try with_reducible rfl))
              try simp only [Act.put, List.setIfInBounds_toArray, List.set_cons_zero, List.set_cons_succ]
              refine wpAnyH_done (by kernel_rfl) ?_ _
              refine NoPanic.normal ?_
              go_wp2
              go_meet
              exact ⟨rfl, Lib.hid (HKr.out.trans hHeld)⟩
          · go_simp
            go_at_call 31
            (with_reducible refine (HZ2.out _).mono ?_)
            rintro e w_16 ⟨rfl, hkn⟩
            have hSn := hHeld.trans hkn
            clear hkn
            go_wp2_with fail
            refine hK.out _ _ hSn (fun hHeld => ?_)
            clear hK K hSn
            try simp only [Act.put, List.setIfInBounds_toArray, List.set_cons_zero, List.set_cons_succ]
            refine wpAnyH_ready (rs := [2]) (by kernel_rfl) (by simp) ?_
            refine AllReadyH.cons (by rw [List.getElem?_toArray]; rfl) (fun K hK => ?_) AllReadyH.nil
            go_simp
            refine hK.out _ _ (hHeld.alloc _) (fun hHeld => ?_)
            clear hK K
            try simp only [Act.put, List.setIfInBounds_toArray, List.set_cons_zero, List.set_cons_succ]
            obtain ⟨g17, hg17⟩ : ∃ g, g = w_16.heap.size := ⟨_, rfl⟩
            obtain ⟨w_17, hw17⟩ : ∃ y, y = w_16.alloc (.cells #[.int .u8 h.ty] 5) := ⟨_, rfl⟩
            have HR17 : Hid (Reads w_17 (some ⟨g17, 0, none⟩) [h.ty]) := Lib.hid (lit_reads (t := 5) (fr := (0, 0)) _ (by rw [hw17, hg17]; exact heap_alloc_new _ _) rfl)
            rw [← hw17] at hHeld ⊢
            rw [← hg17]
            clear hw17 hg17
            refine wpAnyH_ready (rs := [3]) (by kernel_rfl) (by simp) ?_
            refine AllReadyH.cons (by rw [List.getElem?_toArray]; rfl) (fun K hK => ?_) AllReadyH.nil
            have hcv : (convert 24 9 (.slice (some ⟨g17, 0, none⟩) 1 1)).run Try.prog w_17 = .ok (.string Ty) w_17 := by rw [HTy.out]; exact conv_reads HR17.out rfl (fun h => by cases h)
            go_simp
            refine hK.out _ _ hHeld (fun hHeld => ?_)
            clear hK K hcv
            try simp only [Act.put, List.setIfInBounds_toArray, List.set_cons_zero, List.set_cons_succ]
            refine wpAnyH_take (i := 5) (v := ?_) (by rw [List.getElem?_toArray]; rfl) (by kernel_rfl) (by kernel_rfl) (by kernel_rfl) (fun _ _ _ h => h) (Or.inl ⟨by rfl, ?hyq61_⟩) (by assumption) ?restq61_
            case hyq61_ => (intro w hSw; (try dsimp only at hSw); go_simp; (try with_reducible rfl))
            try simp only [Act.put, List.setIfInBounds_toArray, List.set_cons_zero, List.set_cons_succ]
            refine wpAnyH_take (i := 7) (v := ?_) (by rw [List.getElem?_toArray]; rfl) (by kernel_rfl) (by kernel_rfl) (by kernel_rfl) (fun _ _ _ h => h) (Or.inl ⟨by rfl, ?hyq62_⟩) (by assumption) ?restq62_
            case hyq62_ => (intro w hSw; (try dsimp only at hSw); go_simp; (try with_reducible rfl))
            try simp only [Act.put, List.setIfInBounds_toArray, List.set_cons_zero, List.set_cons_succ]
            refine wpAnyH_take (i := 9) (v := ?_) (by rw [List.getElem?_toArray]; rfl) (by kernel_rfl) (by kernel_rfl) (by kernel_rfl) (fun _ _ _ h => h) (Or.inl ⟨by rfl, ?hyq63_⟩) (by assumption) ?restq63_
            case hyq63_ => (intro w hSw; (try dsimp only at hSw); go_simp; (try with_reducible rfl))
            try simp only [Act.put, List.setIfInBounds_toArray, List.set_cons_zero, List.set_cons_succ]
            refine wpAnyH_take (i := 12) (v := ?_) (by rw [List.getElem?_toArray]; rfl) (by kernel_rfl) (by kernel_rfl) (by kernel_rfl) (fun _ _ _ h => h) (Or.inl ⟨by rfl, ?hyq64_⟩) (by assumption) ?restq64_
            case hyq64_ => (intro w hSw; (try dsimp only at hSw); go_simp; (try with_reducible rfl))
            try simp only [Act.put, List.setIfInBounds_toArray, List.set_cons_zero, List.set_cons_succ]
            refine wpAnyH_take (i := 15) (v := ?_) (by rw [List.getElem?_toArray]; rfl) (by kernel_rfl) (by kernel_rfl) (by kernel_rfl) (fun _ _ _ h => h) (Or.inl ⟨by rfl, ?hyq65_⟩) (by assumption) ?restq65_
            case hyq65_ => (intro w hSw; (try dsimp only at hSw); go_simp; (try with_reducible rfl))
            try simp only [Act.put, List.setIfInBounds_toArray, List.set_cons_zero, List.set_cons_succ]
            refine wpAnyH_take (i := 17) (v := ?_) (by rw [List.getElem?_toArray]; rfl) (by kernel_rfl) (by kernel_rfl) (by kernel_rfl) (fun _ _ _ h => h) (Or.inl ⟨by rfl, ?hyq66_⟩) (by assumption) ?restq66_
            case hyq66_ => (intro w hSw; (try dsimp only at hSw); go_simp; (try with_reducible rfl))
            try simp only [Act.put, List.setIfInBounds_toArray, List.set_cons_zero, List.set_cons_succ]
            refine wpAnyH_take (i := 19) (v := ?_) (by rw [List.getElem?_toArray]; rfl) (by kernel_rfl) (by kernel_rfl) (by kernel_rfl) (fun _ _ _ h => h) (Or.inl ⟨by rfl, ?hyq67_⟩) (by assumption) ?restq67_
            case hyq67_ => (intro w hSw; (try dsimp only at hSw); go_simp; (try with_reducible rfl))
            try simp only [Act.put, List.setIfInBounds_toArray, List.set_cons_zero, List.set_cons_succ]
            refine wpAnyH_take (i := 20) (v := ?_) (by rw [List.getElem?_toArray]; rfl) (by kernel_rfl) (by kernel_rfl) (by kernel_rfl) (fun _ _ _ h => h) (Or.inl ⟨by rfl, ?hyq68_⟩) (by assumption) ?restq68_
            case hyq68_ => (intro w hSw; (try dsimp only at hSw); go_simp; (try with_reducible rfl))
            try simp only [Act.put, List.setIfInBounds_toArray, List.set_cons_zero, List.set_cons_succ]
            refine wpAnyH_done (by kernel_rfl) ?_ _
            refine NoPanic.normal ?_
            go_wp2
            go_meet
            exact ⟨rfl, Lib.hid (HKr.out.trans hHeld)⟩
      case rest =>
      obtain ⟨rfl, HKt⟩ := hcut
      obtain ⟨B7, hB7⟩ : ∃ A, A = (((((((Ty ++ T2) ++ M) ++ Z64) ++ F5) ++ F6) ++ T3) ++ Z12) := ⟨_, rfl⟩
      rw [← hB7] at HBo sB7 ⊢
      clear sB1 sB2 sB3 sB4 sB5 sB6 hB7 zT1 zT2 zT3 zM zTy zZ64 zZ12 zF0 zF1 zF2 zF3 zF4 zF5 zF6 HF5 HF6 HTc HTy HZ1 HZ2
      have k := HK.out
      have hEo := enc_o HE.out
      obtain ⟨bl, hbl⟩ : ∃ b : ByteArray, b = ⟨#[32, 32, 32, 32, 32, 32, 32, 32]⟩ := ⟨_, rfl⟩
      have hbs : bl = strOfNums (List.replicate 8 32) := by rw [hbl]; rfl
      have zbl : (⟨#[32, 32, 32, 32, 32, 32, 32, 32]⟩ : ByteArray).size = 8 := rfl
      have zb1 : (⟨#[32]⟩ : ByteArray).size = 1 := rfl
      have HC2 : Hid (A5 ++ ⟨#[32, 32, 32, 32, 32, 32, 32, 32]⟩ ++ B7 = strOfNums (oneL h ++ (List.replicate 8 32 ++ twoL h))) := Lib.hid (by rw [← hbl, hbs, HAo.out, HBo.out, str_append, str_append, List.append_assoc])
      have sC1 : (A5 ++ ⟨#[32, 32, 32, 32, 32, 32, 32, 32]⟩).size = 156 := by rw [ba_size_app2, sA5, zbl]
      obtain ⟨sm, hsm⟩ : ∃ x, x = sumTo (preL h) 512 := ⟨_, rfl⟩
      have HSm : Hid (∀ W, Calls Try.prog 15 #[.string (A5 ++ ⟨#[32, 32, 32, 32, 32, 32, 32, 32]⟩ ++ B7)] W fun e w' => e = .returned (.int .i64 sm) ∧ W = w') := Lib.hid (fun W => by
        rw [HC2.out, hsm, ← pre_sp k hEo]
        exact rsum_any _ W (allB_app (one_all k) (allB_app (fun x hx => by have := List.eq_of_mem_replicate hx; omega) (two_all k))) (by simp only [List.length_append, List.length_replicate, one_len hEo, two_len hEo]; omega))
      have hsb := sum_small (pre_all k)
      have hsb2 := sumTo_bd (pre_all k) 512
      obtain ⟨So, hSo⟩ : ∃ x, x = strOfNums (octS sm 7).1 := ⟨_, rfl⟩
      obtain ⟨ob, hob⟩ : ∃ x, x = (rOct sm 7).2 := ⟨_, rfl⟩
      have hro := rOct_sum k
      rw [← hsm] at hro
      have HOc : Hid (∀ W, Calls Try.prog 16 #[.int .i64 sm, .int .i64 7] W fun e w' => e = .returned (.tuple #[.string So, .bool ob]) ∧ Kept NoB W w') := Lib.hid (fun W => by
        rw [hSo, hob, ← hro]
        exact rOctal_any sm 7 W (by rw [hsm]; omega))
      have hso7 : (octS sm 7).1.length = 7 := by
        have := sumF_len k
        unfold sumF at this
        rw [← hsm, List.length_append] at this
        simpa using this
      have zSo : So.size = 7 := by rw [hSo, strOfNums_size, hso7]
      have sD1 : (A5 ++ So).size = 155 := by rw [ba_size_app2, sA5, zSo]
      have sD2 : (A5 ++ So ++ ⟨#[32]⟩).size = 156 := by rw [ba_size_app2, sD1, zb1]
      have HFin : Hid (A5 ++ So ++ ⟨#[32]⟩ ++ B7 = strOfNums (encL h)) := Lib.hid (by
        rw [HAo.out, HBo.out, hSo, show (⟨#[32]⟩ : ByteArray) = strOfNums [32] from rfl, str_append, str_append, str_append]
        congr 1
        simp only [encL, sumF, ← hsm, List.append_assoc])
      have HKr2 := Lib.hid HKt.out
      clear k hEo hbl hbs hsm hsb hsb2 hSo hob hro hso7 HAo HBo HC2 HKt
      go_wp2_with fail
      with_reducible refine (HSm.out _).mono ?_
      rintro e wx1 ⟨rfl, rfl⟩
      go_wp2_with fail
      with_reducible refine (HOc.out _).mono ?_
      rintro e wx2 ⟨rfl, hkx⟩
      have HKx := Lib.hid (HKr2.out.trans hkx)
      clear hkx
      go_wp2
      go_ret2
      exact ⟨⟨_, _, rfl, (fun _ => ⟨rfl, HFin.out⟩), (fun hh => absurd (HE.out.symm.trans hh) (by decide))⟩, HKx.out⟩
end Go.Proofs.Ytnhfbpikfkncpaa
