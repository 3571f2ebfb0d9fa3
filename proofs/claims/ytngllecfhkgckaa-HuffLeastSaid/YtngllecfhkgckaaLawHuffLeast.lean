/-
  HuffLeast: the lengths are whole, within the limit, and cost the least; what may not be is refused.
-/
import Derived.Test.YtngllecfhkgckaaLeastE
namespace Go.Proofs.Ytngllecfhkgckaa
open Go.RowKit
set_option linter.unusedVariables false
set_option linter.unusedSimpArgs false

def ownF (z : Int) : Int := z % 1048576 % 1000001
theorem own_step (ws : List Int) (j : Nat) (h : j < ws.length) : (ws.map ownF).take (j + 1) = (ws.map ownF).take j ++ [ownF (ws.getD j 0)] := by
  rw [List.take_succ_eq_append_getElem (by simpa using h)]; simp [List.getD, h]

set_option maxRecDepth 20000 in
set_option maxHeartbeats 4000000 in
theorem huffLeast_walk (ao : Option Addr) (ca : Nat) (ws0 : List Int) (lim0 : Int) (w : World) (hx : RdI w w.heap.size ao ws0) :
    Calls Try.prog 5 #[.slice ao ws0.length ca, .int .i64 lim0] w fun e w' => e = .returned (.bool true) ∧ Below w.heap.size w w' := by
  have HX := Lib.hid hx; have HAw := Lib.hid awake_any
  have m1 := mask1048575
  have m2 := mask255
  obtain ⟨n0, hn0⟩ : ∃ n, n = ws0.length := ⟨_, rfl⟩
  have HN0 := Lib.hid hn0
  rw [← hn0]
  clear hx hn0
  by_cases hbig : (400 : Int) < n0
  · go_enter Try.func5, Try.ntmps5
    go_wp2_with fail
    refine (HAw.out _).mono ?_
    rintro e w4 ⟨rfl, hk⟩
    have HKz := Lib.hid hk
    clear hk
    go_wp2
    go_ret
    exact ⟨rfl, HKz.out.belowNo (Below.refl _ _)⟩
  · have hn40 : n0 ≤ 400 := by omega
    go_enter Try.func5, Try.ntmps5
    go_wp2
    go_loopw [5, 0, 1, 6, 7, 8, 9, 10] (fun v5 v0 v1 _v6 _v7 _v8 _v9 _v10 wr => ∃ (q n c : Nat) (a : Option Addr) (lim : Int) (ws : List Int), v5 = .int .i64 (q : Int) ∧ v0 = .slice a n c ∧ v1 = .int .i64 lim ∧ n ≤ 400 ∧ Hid (n = ws.length) ∧ Hid (RdI wr wr.heap.size a ws) ∧ Hid (Kept NoB w wr)) (fun v5 _ _ _ _ _ _ _ _ => 2 - (intOf v5).toNat)
    case atStart => exact ⟨0, n0, ca, ao, lim0, ws0, rfl, rfl, rfl, hn40, HN0, HX, Lib.hid (Kept.refl _ _)⟩
    case round =>
      clear HN0 HX hbig hn40
      obtain ⟨q, n, c, a, lim, ws, rfl, rfl, rfl, hn4, HN, HR, HK⟩ := hrel
      by_cases hq : (q : Int) < 2
      · have hok := fun W => lensOk_any a c wr.heap.size ws lim W
        rw [← HN.out] at hok
        have HLo := Lib.hid hok
        clear hok
        by_cases hyes : LensOkP ws lim
        · obtain ⟨k, rfl⟩ : ∃ k : Nat, lim = (k : Int) := ⟨lim.toNat, by have := hyes.lim; omega⟩
          have hl := lens_yes a c _ ws (k : Int) wr HR.out hyes
          have HY := Lib.hid hyes
          rw [← HN.out] at hl
          have HL := Lib.hid hl
          clear hl hyes
          go_wp2_with fail
          refine HL.out.mono ?_
          rintro e w1 ⟨lv, hs, hL⟩
          have hF := lensF ws (k : Int) lv HY.out hs
          rw [Int.toNat_natCast, ← HN.out] at hF
          rw [Int.toNat_natCast] at hL
          obtain ⟨a6, c6, rfl, hr6, hk6⟩ := hL.reads
          have hlz : (lensOf lv n k).length = n := by rw [hF.len]; exact HN.out.symm
          have hfit := fun W (h : Kept NoB w1 W) => fits_calls a a6 c c6 _ _ ws (lensOf lv n k) k lv W (HR.out.keptNo (hk6.trans h)) (hr6.keptNo h) HY.out hs hF
          rw [← HN.out, hlz] at hfit
          rw [hlz]
          have HFit := Lib.hid hfit; have HK1 := Lib.hid hk6
          clear hfit hk6 hr6 hF hs hL hlz
          go_wp2_with fail
          refine (HLo.out w1 (HR.out.keptNo HK1.out)).mono ?_
          rintro e w2 ⟨bb, rfl, hb, hk2⟩
          obtain rfl : bb = true := hb.2 HY.out
          have HK2 := Lib.hid hk2
          clear hb hk2
          go_wp2_with fail
          refine (HFit.out w2 HK2.out).mono ?_
          rintro e w3 ⟨rfl, hk3⟩
          have hnd := HK1.out.trans (HK2.out.trans hk3)
          clear hk3
          have HNd := Lib.hid hnd
          clear hnd
          go_wp2
          go_loopw [10, 9] (fun v10 v9 wl => ∃ (j c9 : Nat) (a9 : Option Addr), v10 = .int .i64 (j : Int) ∧ v9 = .slice a9 j c9 ∧ j ≤ n ∧ Hid (IntSt w3 wl a9 j c9 ((ws.map ownF).take j))) (fun v10 _ _ => n - (intOf v10).toNat)
          case atStart => exact ⟨0, 0, none, rfl, rfl, by omega, Lib.hid (by simpa using IntSt.nil _)⟩
          case round =>
            obtain ⟨j, c9, a9, rfl, rfl, hj, H9⟩ := hrel
            by_cases hlt : (j : Int) < n
            · obtain ⟨g, off, rfl, _, hc0⟩ := HR.out j (by have := HN.out; omega)
              have hc := (HNd.out.trans H9.out.kept).cell hc0
              have hst := own_step ws j (by have := HN.out; omega)
              unfold ownF at hst
              obtain ⟨z, hz⟩ : ∃ z, z = ws.getD j 0 := ⟨_, rfl⟩
              rw [← hz] at hc hst
              have HSt := Lib.hid hst
              clear hz hc0 hst
              go_wp2_with (at_builtin; refine wpList_ints rfl (.tmp 59) (.tmp 66) rfl (H9.out.alloc (.cells #[.int .i64 (z % 1048576 % 1000001)] 3)) rfl _ _ _ [z % 1048576 % 1000001] rfl rfl (cell_one_new _ _ _) (by omega) ?_)
              intro a2 c2 w2 hs2
              have HS2 := Lib.hid (show IntSt _ w2 a2 (j + 1) c2 ((ws.map ownF).take (j + 1)) by unfold ownF; rw [HSt.out]; exact hs2)
              clear hs2
              go_wp2
              go_roundw
              case rel => exact ⟨j + 1, c2, a2, by go_num, rfl, by omega, HS2⟩
              case measure => simp [intOf]; omega
            · obtain rfl : n = j := by omega
              have hrr := H9.out.reads
              have hkk := HNd.out.trans H9.out.kept
              rw [List.take_of_length_le (by rw [List.length_map]; have := HN.out; omega)] at hrr
              have hlen : n = (ws.map ownF).length := by rw [List.length_map]; exact HN.out
              have HRr := Lib.hid hrr; have HKk := Lib.hid (HK.out.trans hkk); have HLen := Lib.hid hlen
              clear hrr hkk hlen
              go_wp2
              go_roundw
              case rel => exact ⟨q + 1, n, c9, a9, _, ws.map ownF, by go_num, rfl, rfl, hn4, HLen, HRr, HKk⟩
              case measure => simp [intOf]; omega
        · have hl := lens_no a c _ ws lim wr HR.out hyes
          have HY := Lib.hid hyes
          rw [← HN.out] at hl
          have HL := Lib.hid hl
          clear hl hyes
          go_wp2_with fail
          refine HL.out.mono ?_
          rintro e w1 ⟨rfl, hk1⟩
          have HK1 := Lib.hid hk1
          clear hk1
          go_wp2_with fail
          refine (HLo.out w1 (HR.out.keptNo HK1.out)).mono ?_
          rintro e w2 ⟨bb, rfl, hb, hk2⟩
          obtain rfl : bb = false := by cases bb; rfl; exact (HY.out (hb.1 rfl)).elim
          have hnd := HK1.out.trans hk2
          clear hb hk2
          have HNd := Lib.hid hnd
          clear hnd
          go_wp2
          go_loopw [10, 9] (fun v10 v9 wl => ∃ (j c9 : Nat) (a9 : Option Addr), v10 = .int .i64 (j : Int) ∧ v9 = .slice a9 j c9 ∧ j ≤ n ∧ Hid (IntSt w2 wl a9 j c9 ((ws.map ownF).take j))) (fun v10 _ _ => n - (intOf v10).toNat)
          case atStart => exact ⟨0, 0, none, rfl, rfl, by omega, Lib.hid (by simpa using IntSt.nil _)⟩
          case round =>
            obtain ⟨j, c9, a9, rfl, rfl, hj, H9⟩ := hrel
            by_cases hlt : (j : Int) < n
            · obtain ⟨g, off, rfl, _, hc0⟩ := HR.out j (by have := HN.out; omega)
              have hc := (HNd.out.trans H9.out.kept).cell hc0
              have hst := own_step ws j (by have := HN.out; omega)
              unfold ownF at hst
              obtain ⟨z, hz⟩ : ∃ z, z = ws.getD j 0 := ⟨_, rfl⟩
              rw [← hz] at hc hst
              have HSt := Lib.hid hst
              clear hz hc0 hst
              go_wp2_with (at_builtin; refine wpList_ints rfl (.tmp 59) (.tmp 66) rfl (H9.out.alloc (.cells #[.int .i64 (z % 1048576 % 1000001)] 3)) rfl _ _ _ [z % 1048576 % 1000001] rfl rfl (cell_one_new _ _ _) (by omega) ?_)
              intro a2 c2 w2 hs2
              have HS2 := Lib.hid (show IntSt _ w2 a2 (j + 1) c2 ((ws.map ownF).take (j + 1)) by unfold ownF; rw [HSt.out]; exact hs2)
              clear hs2
              go_wp2
              go_roundw
              case rel => exact ⟨j + 1, c2, a2, by go_num, rfl, by omega, HS2⟩
              case measure => simp [intOf]; omega
            · obtain rfl : n = j := by omega
              have hrr := H9.out.reads
              have hkk := HNd.out.trans H9.out.kept
              rw [List.take_of_length_le (by rw [List.length_map]; have := HN.out; omega)] at hrr
              have hlen : n = (ws.map ownF).length := by rw [List.length_map]; exact HN.out
              have HRr := Lib.hid hrr; have HKk := Lib.hid (HK.out.trans hkk); have HLen := Lib.hid hlen
              clear hrr hkk hlen
              go_wp2
              go_roundw
              case rel => exact ⟨q + 1, n, c9, a9, _, ws.map ownF, by go_num, rfl, rfl, hn4, HLen, HRr, HKk⟩
              case measure => simp [intOf]; omega
      · go_wp2_with fail
        refine (HAw.out _).mono ?_
        rintro e w4 ⟨rfl, hk⟩
        have HKz := Lib.hid (HK.out.trans hk)
        clear hk
        go_wp2
        go_ret
        exact ⟨rfl, HKz.out.belowNo (Below.refl _ _)⟩

theorem huffLeast_law (v0 v1 : Value) (w : World) (r0 : Arg w 22 v0) (r1 : Arg w 3 v1) : Calls Try.prog 5 #[v0, v1] w fun e w' => e = .returned (.bool true) ∧ Below w.heap.size w w' := by
  obtain ⟨ao, ca, ws, rfl, _, _, hx, _, _⟩ := r0.ints
  obtain ⟨k, rfl, _⟩ := r1.int rfl
  exact huffLeast_walk ao ca ws k w hx
end Go.Proofs.Ytngllecfhkgckaa
