/-
  LensFlat: runs are told as the lengths that the document says, or refused.
-/
import Derived.Test.YtjdhjlfckalkoaaRuns
import Derived.Test.YtjdhjlfckalkoaaMask
namespace Go.Proofs.Ytjdhjlfckalkoaa
open Go.RowKit
set_option linter.unusedVariables false
set_option linter.unusedSimpArgs false

theorem RdRn.room {w : World} {B : Nat} {ao : Option Addr} {rs : List (Int × Int)} (h : RdRn w B ao rs) : RdRn w w.heap.size ao rs := by
  intro i hi
  obtain ⟨g, off, h1, h2, h3, h4⟩ := h i hi
  exact ⟨g, off, h1, World.block_lt_of_cell? w _ h3, h3, h4⟩
theorem flatS_len (n : Int) (rs : List (Int × Int)) : (flatS n rs).1.length ≤ 320 := by
  unfold flatS
  split
  · simp
  · rename_i hb
    split
    · rename_i l hl
      have := runAll_len n rs [] l (by simp; omega) hl
      split
      · simp only; omega
      · simp
    · simp
theorem set2 {w0 w : World} {X : Nat} {a b : Value} (h : w.heap[X]? = some (.cells #[a, b] 32 (0, 0))) (hk : Kept NoB w0 w) (hX : w0.heap.size ≤ X) (u v : Value) :
    ((w.setCell ⟨X, 0, none⟩ u).setCell ⟨X, 1, none⟩ v).heap[X]? = some (.cells #[u, v] 32 (0, 0)) ∧ Kept NoB w0 ((w.setCell ⟨X, 0, none⟩ u).setCell ⟨X, 1, none⟩ v) :=
  ⟨obj_set (obj_set h 0 u) 1 v, Kept.setCell (p := ⟨X, 1, none⟩) (Kept.setCell (p := ⟨X, 0, none⟩) hk (.inr hX) u) (.inr hX) v⟩
theorem set1 {w0 w : World} {X : Nat} {a b : Value} (h : w.heap[X]? = some (.cells #[a, b] 32 (0, 0))) (hk : Kept NoB w0 w) (hX : w0.heap.size ≤ X) (v : Value) :
    (w.setCell ⟨X, 1, none⟩ v).heap[X]? = some (.cells #[a, v] 32 (0, 0)) ∧ Kept NoB w0 (w.setCell ⟨X, 1, none⟩ v) :=
  ⟨obj_set h 1 v, Kept.setCell (p := ⟨X, 1, none⟩) hk (.inr hX) v⟩

set_option maxRecDepth 100000 in
set_option maxHeartbeats 4000000 in
theorem lensFlat_walk (ao : Option Addr) (cap : Nat) (rs : List (Int × Int)) (n0 : Int) (w : World) (hr : RdRn w w.heap.size ao rs) (hall : AllR rs) (hlc : rs.length ≤ cap) (hcm : cap ≤ maxLen) :
    Calls Try.prog 4 #[.slice ao rs.length cap, .int .i64 n0] w fun e w' => e = .returned (.bool true) ∧ Below w.heap.size w w' := by
  have HR := Lib.hid hr; have HAll := Lib.hid hall
  clear hr hall
  obtain ⟨i0, hi, hz0, hz1, hz2⟩ := info_parts infoR
  unfold maxLen at hcm
  go_enter Try.func4, Try.ntmps4
  go_wp2
  go_loopw [1, 5] (fun v1 v5 wr => ∃ (n : Int) (q : Nat), v1 = .int .i64 n ∧ v5 = .int .i64 (q : Int) ∧ q ≤ 2 ∧ Hid (Kept NoB w wr)) (fun _ v5 _ => 2 - (intOf v5).toNat)
  case atStart => exact ⟨n0, 0, rfl, rfl, by omega, Kept.refl _ _⟩
  case round =>
    obtain ⟨n, q, rfl, rfl, hq2, HKq⟩ := hrel
    by_cases hlt : (q : Int) < 2
    · go_upto_block 2 with fail
      go_cut [6, 7, 8, 9] from 18 to 77 (fun v6 v7 v8 v9 wx => ∃ (l : List (Int × Int)) (a : Option Addr) (c : Nat) (kk : Int), v6 = .slice a l.length c ∧ v7 = .int .i64 kk ∧ Hid (OwnR wx a c l) ∧ l.length ≤ 60 ∧ Hid (Kept NoB w wx))
      case first =>
        go_wp2_with fail
        go_loopw [6, 7, 8, 9] (fun v6 v7 v8 v9 wr2 => ∃ (l : List (Int × Int)) (a : Option Addr) (c : Nat) (kk : Int), v6 = .slice a l.length c ∧ v7 = .int .i64 kk ∧ v8 = .int .i64 (l.length : Int) ∧ l.length ≤ 60 ∧ l.length ≤ rs.length ∧ Hid (OwnR wr2 a c l) ∧ Hid (Kept NoB w wr2) ∧ Hid (∀ k, (Value.slice a l.length c).ownBlock = some k → w.heap.size ≤ k)) (fun _ _ v8 _ _ => 60 - (intOf v8).toNat)
        case atStart => exact ⟨[], none, 0, 0, rfl, rfl, rfl, by simp, by simp, World.ownsRow_nil _ _ _ _, HKq.out, (fun k hk => by simp [Value.ownBlock] at hk)⟩
        case round =>
          obtain ⟨l, a, c, kk, rfl, rfl, rfl, hl60, hlr, HO, HK, HF⟩ := hrel
          obtain ⟨j, hj⟩ : ∃ j, j = l.length := ⟨_, rfl⟩
          rw [← hj] at hl60 hlr HF ⊢
          have HJ := Lib.hid hj
          clear hj
          by_cases hgo : j < rs.length ∧ j < 60
          · obtain ⟨g, off, rfl, hgl, hc0, hc1⟩ := HR.out j hgo.1
            have hc0' := HK.out.cell hc0
            have hc1' := HK.out.cell hc1
            generalize (rs.getD j (0, 0)).1 = s at hc0'
            generalize (rs.getD j (0, 0)).2 = x at hc1'
            have h1 : (j : Int) < rs.length := by omega
            have h2 : (j : Int) < 60 := by omega
            have HGo := Lib.hid hgo
            clear hc0 hc1 hgl hgo
            go_upto_region 10 with fail
            have hbx := heap_alloc_new wr (.cells #[.int .i64 s, .int .i64 x] 32)
            have hkx : Kept NoB wr (wr.alloc (.cells #[.int .i64 s, .int .i64 x] 32)) := (Kept.refl _ _).alloc _
            generalize wr.alloc (.cells #[.int .i64 s, .int .i64 x] 32) = wa at hbx hkx ⊢
            have e0 : wa.cell? ⟨wr.heap.size, 0, none⟩ = some (.int .i64 s) := by rw [obj_cell hbx 0]; rfl
            have e1 : wa.cell? ⟨wr.heap.size, 1, none⟩ = some (.int .i64 x) := by rw [obj_cell hbx 1]; rfl
            have f0 : wa.frozen? ⟨wr.heap.size, 0, none⟩ = false := obj_free hbx 0
            have f1 : wa.frozen? ⟨wr.heap.size, 1, none⟩ = false := obj_free hbx 1
            obtain ⟨X, hX⟩ : ∃ X, X = wr.heap.size := ⟨_, rfl⟩
            rw [← hX] at hbx e0 e1 f0 f1 ⊢
            have HXe := Lib.hid hX; have HBx := Lib.hid hbx; have HKx := Lib.hid hkx
            clear hX hbx hkx hc0' hc1'
            go_upto_if 33 with fail
            go_cut [9] from 34 to 51 (fun v9 wx => v9 = .pointer (some ⟨X, 0, none⟩) ∧ ∃ s' x' : Int, Hid (wx.heap[X]? = some (.cells #[.int .i64 s', .int .i64 x'] 32 (0, 0))) ∧ Hid (Kept NoB wr wx))
            case first =>
              by_cases hq1 : q = 1
              · subst hq1
                have hm := mask255 s
                obtain ⟨t, ht⟩ : ∃ t : Nat, (t : Int) = s % 256 % 19 := ⟨(s % 256 % 19).toNat, Int.toNat_of_nonneg (by omega)⟩
                have ht2 : s % 256 % 19 = (t : Int) := ht.symm
                have ht19 : t < 19 := by omega
                clear ht
                go_upto_region 12 with fail
                have hs2 := set2 HBx.out HKx.out (by rw [HXe.out]; exact Nat.le_refl _) (.int .i64 t) (.int .i64 x)
                generalize (wa.setCell ⟨X, 0, none⟩ (.int .i64 t)).setCell ⟨X, 1, none⟩ (.int .i64 x) = wz at hs2 ⊢
                obtain ⟨hbz, hkz⟩ := hs2
                obtain ⟨m, hm0⟩ : ∃ m : Nat, m = t - 15 := ⟨_, rfl⟩
                have hmx : (if (t : Int) - 15 < 0 then 0 else (t : Int) - 15) = (m : Int) := by split <;> omega
                have hm4 : m < 4 := by omega
                have hlit : ∃ v : Int, (#[Value.int .i64 0, .int .i64 3, .int .i64 7, .int .i64 127] : Array Value)[m]? = some (.int .i64 v) := by
                  have hc : m = 0 ∨ m = 1 ∨ m = 2 ∨ m = 3 := by omega
                  rcases hc with h | h | h | h <;> rw [h]
                  · exact ⟨0, rfl⟩
                  · exact ⟨3, rfl⟩
                  · exact ⟨7, rfl⟩
                  · exact ⟨127, rfl⟩
                obtain ⟨v, hv⟩ := hlit
                have hXlt : X < wz.heap.size := obj_lt hbz
                have d0 : wz.cell? ⟨X, 0, none⟩ = some (.int .i64 t) := by rw [obj_cell hbz 0]; rfl
                have d1 : wz.cell? ⟨X, 1, none⟩ = some (.int .i64 x) := by rw [obj_cell hbz 1]; rfl
                have hkl : Kept NoB wz (wz.alloc (.cells #[.int .i64 0, .int .i64 3, .int .i64 7, .int .i64 127] 3)) := (Kept.refl _ _).alloc _
                have d0' := hkl.cell d0
                have d1' := hkl.cell d1
                have dl : (wz.alloc (.cells #[.int .i64 0, .int .i64 3, .int .i64 7, .int .i64 127] 3)).cell? ⟨wz.heap.size, m, none⟩ = some (.int .i64 v) := by rw [cell_new m rfl]; exact hv
                have hbz3 := hkl.obj hbz (fun h => h)
                have df0 : wz.frozen? ⟨X, 1, none⟩ = false := obj_free hbz 1
                have df : (wz.alloc (.cells #[.int .i64 0, .int .i64 3, .int .i64 7, .int .i64 127] 3)).frozen? ⟨X, 1, none⟩ = false := obj_free hbz3 1
                have HBz := Lib.hid hbz; have HKz := Lib.hid hkz
                have hXne : ¬ X = wz.heap.size := by omega
                have hXne2 : ¬ wz.heap.size = X := by omega
                clear hbz hbz3 hkz hkl hm0 hv
                go_region
                have hs1 := set1 HBz.out HKz.out (by rw [HXe.out]; exact Nat.le_refl _) (.int .i64 (bits .and .i64 x v))
                generalize wz.setCell ⟨X, 1, none⟩ (.int .i64 (bits .and .i64 x v)) = wy at hs1 ⊢
                have hky : Kept NoB wy (wy.alloc (.cells #[.int .i64 0, .int .i64 3, .int .i64 7, .int .i64 127] 3)).drew := ((Kept.refl _ _).alloc _).drew
                have HB3 := Lib.hid (hky.obj hs1.1 (fun h => h)); have HK3 := Lib.hid (hs1.2.trans hky)
                generalize bits .and .i64 x v = xv at HB3
                clear hs1 hky dl d0 d1 d0' d1' df df0 hXlt hXne hXne2
                go_wp2
                go_meet
                exact ⟨rfl, t, xv, HB3, HK3⟩
              · have g1 : ((q : Int) == 1) = false := by simp; omega
                clear hq1
                go_wp2
                go_meet
                exact ⟨rfl, s, x, HBx, HKx⟩
            case rest =>
            obtain ⟨rfl, s', x', HBc, HKc⟩ := hcut
            clear HBx HKx e0 e1 f0 f1
            have e0 : wc.cell? ⟨X, 0, none⟩ = some (.int .i64 s') := by rw [obj_cell HBc.out 0]; rfl
            have e1 : wc.cell? ⟨X, 1, none⟩ = some (.int .i64 x') := by rw [obj_cell HBc.out 1]; rfl
            have HOwn2 : Hid (wc.ownsRow 0 32 2 (.slice a j c) j (rcells l)) := by
              have := HKc.out.row HO.out (fun _ _ h => h)
              rw [← HJ.out] at this
              exact this
            have hXown : ∀ k, (Value.slice a j c).ownBlock = some k → k ≠ X := fun k hk => by
              have := (HO.out.lt k (by rw [← HJ.out]; exact hk)).2
              have := HXe.out
              omega
            have hnews : ∀ (k : Nat) (u : Value), [Value.int .i64 s', .int .i64 x'][k]? = some u → (wc.alloc (.cells #[.int .i64 s', .int .i64 x'] 32)).cell? ((⟨wc.heap.size, 0, none⟩ : Addr).add k) = some u := by
              intro k u hk
              rw [addr_add, Nat.zero_add, cell_new k rfl]
              simpa using hk
            have HXo := Lib.hid hXown; have HNw := Lib.hid hnews; have HKw := Lib.hid (HK.out.trans HKc.out)
            have hXc : X < wc.heap.size := obj_lt HBc.out
            clear hXown hnews HO HK
            go_wp2_with (at_builtin; refine wpList_app _ rfl _ _ 23 rfl 32 i0 (.agg #[.int .i64 0, .int .i64 0]) 2 16 Try.underlying23 hi hz0 hz1 hz2 rfl (by decide) _ j (rcells l) rfl (HOwn2.out.alloc _) ⟨wc.heap.size, 0, none⟩ 1 1 [.int .i64 s', .int .i64 x'] rfl rfl HNw.out ?d2 ?d3 ?d4 ?_)
            case d2 => first | rfl | (intro u hu; simp at hu; rcases hu with rfl | rfl <;> rfl) | (simp [Value.oneCell'])
            case d3 => unfold maxLen; omega
            case d4 => omega
            intro v' w2 hown' hgrow hnew
            obtain ⟨a2, c2, rfl⟩ := own_shape2 hown'
            have hx1 : rcells l ++ [.int .i64 s', .int .i64 x'] = rcells (l ++ [(s', x')]) := rcells_app l s' x'
            have hx2 : j + 1 = (l ++ [(s', x')]).length := by rw [HJ.out]; simp
            rw [hx1] at hown'
            have hfr2 : ∀ k, (Value.slice a2 (j + 1) c2).ownBlock = some k → w.heap.size ≤ k := by
              intro k hk
              rcases hnew k hk with h | h
              · exact HF.out k h
              · have := HKw.out.size; omega
            have hk2 : Kept NoB w w2 := (HKw.out.alloc _).grown hgrow (by
              intro k hk e
              have := HF.out k e
              omega)
            have hbx2 : w2.heap[X]? = some (.cells #[.int .i64 s', .int .i64 x'] 32 (0, 0)) := by
              rw [hgrow.block X (by simp; omega) (fun e => HXo.out _ e.symm rfl), heap_alloc_old _ _ hXc]
              exact HBc.out
            rw [hx2] at hown' hfr2
            have HO2 := Lib.hid hown'; have HF2 := Lib.hid hfr2; have HK2 := Lib.hid hk2; have HB2 := Lib.hid hbx2; have HX2 := Lib.hid hx2
            clear hown' hfr2 hk2 hx2 hx1 hgrow hnew e0 e1
            have e0 : w2.cell? ⟨X, 0, none⟩ = some (.int .i64 s') := by rw [obj_cell hbx2 0]; rfl
            have e1 : w2.cell? ⟨X, 1, none⟩ = some (.int .i64 x') := by rw [obj_cell hbx2 1]; rfl
            clear hbx2
            go_upto_region 14 with fail
            have hm3 : bits .and .i64 x' 3 = x' % 4 := i64_mask x' 2 (by decide)
            have hm7 := mask7 x'
            have hm127 : bits .and .i64 x' 127 = x' % 128 := i64_mask x' 7 (by decide)
            obtain ⟨y1, hy1⟩ : ∃ y1, y1 = x' % 4 := ⟨_, rfl⟩
            obtain ⟨y2, hy2⟩ : ∃ y2, y2 = x' % 8 := ⟨_, rfl⟩
            obtain ⟨y3, hy3⟩ : ∃ y3, y3 = x' % 128 := ⟨_, rfl⟩
            have hyb : (0 ≤ y1 ∧ y1 < 4) ∧ (0 ≤ y2 ∧ y2 < 8) ∧ (0 ≤ y3 ∧ y3 < 128) := by omega
            rw [← hy1] at hm3
            rw [← hy2] at hm7
            rw [← hy3] at hm127
            obtain ⟨hb1, hb2, hb3⟩ := hyb
            have hkl : Kept NoB w2 (w2.alloc (.cells #[.int .i64 1, .int .i64 (3 + y1), .int .i64 (3 + y2), .int .i64 (11 + y3)] 3)) := (Kept.refl _ _).alloc _
            have d0 := hkl.cell e0
            have HKl := Lib.hid hkl
            clear hy1 hy2 hy3 hkl
            obtain ⟨z, hz⟩ : ∃ z, wrap64 (s' - 15) = z := ⟨_, rfl⟩
            have HL2 := Lib.hid (show (l ++ [(s', x')]).length ≤ 60 by rw [← HX2.out]; have := HGo.out; omega)
            have HL3 := Lib.hid (show (l ++ [(s', x')]).length ≤ rs.length by rw [← HX2.out]; have := HGo.out; omega)
            have HO3 := Lib.hid (HKl.out.row HO2.out (fun _ _ h => h)); have HK3 := Lib.hid (HK2.out.trans HKl.out)
            have hj60 : j < 60 := by have := HGo.out; omega
            have hzc : z < 0 ∨ z = 0 ∨ z = 1 ∨ z = 2 ∨ z = 3 ∨ 3 < z := by omega
            rcases hzc with h | rfl | rfl | rfl | rfl | h
            all_goals
              try (have hz0' : ¬ z < 0 := by omega)
              go_wp2
              go_roundw
              case rel => exact ⟨l ++ [(s', x')], a2, c2, _, by rw [← HX2.out], rfl, by rw [← HX2.out]; go_num, HL2.out, HL3.out, HO3.out, HK3, HF2⟩
              case measure => simp [intOf]; omega
          · have hex : ¬ (j : Int) < rs.length ∨ ((j : Int) < rs.length ∧ ¬ (j : Int) < 60) := by omega
            clear hgo
            rcases hex with h1 | ⟨h1, h2⟩
            all_goals
              go_wp2
              go_meet
              exact ⟨l, a, c, kk, by rw [HJ.out], rfl, HO, by rw [← HJ.out]; exact hl60, HK⟩
      case rest =>
      obtain ⟨l, a, c, kk, rfl, rfl, HO, hl60, HK⟩ := hcut
      go_upto_if 79 with fail
      go_cut [1] from 80 to 84 (fun v1 wx => wc = wx ∧ ∃ n' : Int, v1 = .int .i64 n')
      case first =>
        by_cases hq1 : q = 1
        · subst hq1
          go_wp2
          go_meet
          exact ⟨rfl, _, rfl⟩
        · have g1 : ((q : Int) == 1) = false := by simp; omega
          clear hq1
          go_wp2
          go_meet
          exact ⟨rfl, n, rfl⟩
      case rest =>
      obtain ⟨rfl, n', rfl⟩ := hcut
      have hfl := flat_any n' a c l wc HO.out.reads (by omega)
      have hrf := fun W (h : RdRn W W.heap.size a l) => rflat_any n' a c l W h (by omega)
      have hln := flatS_len n' l
      generalize flatS n' l = F at hfl hrf hln
      obtain ⟨xs, er⟩ := F
      have HFl := Lib.hid hfl; have HRf := Lib.hid hrf; have HLn := Lib.hid hln; have HRd := Lib.hid HO.out.reads
      clear hfl hrf hln
      go_wp2_with fail
      refine HFl.out.mono ?_
      rintro e w1 ⟨a1, c1, rfl, ho1, hk1, hf1⟩
      have HR1 := Lib.hid (HRd.out.kept hk1 (fun _ _ h => h)).room
      have HO1 := Lib.hid ho1; have HK1 := Lib.hid (HK.out.trans hk1)
      clear ho1 hk1 hf1 HFl HRd
      go_wp2_with fail
      refine (HRf.out _ HR1.out).mono ?_
      rintro e w2 ⟨a2, c2, rfl, ho2, hk2, hf2⟩
      have hs := sameInts_any a1 c1 xs a2 c2 xs _ _ w2 (HO1.out.reads.keptNo hk2) ho2.reads (by have h : xs.length ≤ 320 := HLn.out; omega)
      rw [decide_eq_true rfl] at hs
      have HS := Lib.hid hs; have HK2 := Lib.hid (HK1.out.trans hk2)
      clear hs ho2 hk2 hf2 HR1 HO1
      have her : (er != er) = false := by simp
      simp only
      go_wp2_with fail
      refine HS.out.mono ?_
      rintro e w3 ⟨rfl, hk3⟩
      have HK3 := Lib.hid (HK2.out.trans hk3)
      clear hk3 HS
      go_wp2
      go_roundw
      case rel => exact ⟨n', q + 1, rfl, by go_num, by omega, HK3⟩
      case measure => simp [intOf]; omega
    · have hAw := Lib.hid (awake8 wr)
      go_wp2_with fail
      refine hAw.out.mono ?_
      rintro e w6 ⟨rfl, hb6⟩
      have hfin := (HKq.out.ofBelow hb6).belowNo (Below.refl _ _)
      go_wp2
      go_ret
      exact ⟨rfl, hfin⟩

theorem lensFlat_law (v0 v1 : Value) (w : World) (r0 : Arg w 23 v0) (r1 : Arg w 3 v1) : Calls Try.prog 4 #[v0, v1] w fun e w' => e = .returned (.bool true) ∧ Below w.heap.size w w' := by
  obtain ⟨ao, cap, rs, rfl, hr, hall, hlc, hcm, _⟩ := runs_open r0
  obtain ⟨n, rfl, _⟩ := r1.int Try.underlying3
  exact lensFlat_walk ao cap rs n w hr hall hlc hcm
end Go.Proofs.Ytjdhjlfckalkoaa
