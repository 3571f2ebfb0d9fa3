/-
  CanonFree: no code is another one's beginning; those of one length rise with their places.
-/
import Derived.Test.YtokdlmpnokmniaaAwake5
namespace Go.Proofs.Ytokdlmpnokmniaa
open Go.RowKit
set_option linter.unusedVariables false
set_option linter.unusedSimpArgs false

set_option maxRecDepth 20000 in
set_option maxHeartbeats 8000000 in
theorem canonFree_walk (ao : Option Addr) (ca : Nat) (ws : List Int) (w : World) (hx : RdI w w.heap.size ao ws) :
    Calls Try.prog 7 #[.slice ao ws.length ca] w fun e w' => e = .returned (.bool true) ∧ Below w.heap.size w w' := by
  have HG := Lib.hid (good_calls ao ca w.heap.size ws w hx)
  have HAw := Lib.hid awake_any
  obtain ⟨n0, hn0⟩ : ∃ n, n = ws.length := ⟨_, rfl⟩
  rw [← hn0] at HG ⊢
  clear hx hn0
  go_enter Try.func7, Try.ntmps7
  go_wp2_with fail
  refine HG.out.mono ?_
  rintro e w1 ⟨a3, c3, L, hgp, rfl, hr, hk⟩
  have HGp := Lib.hid hgp; have HR := Lib.hid hr; have HK1 := Lib.hid hk
  have HCd := Lib.hid (codes_calls a3 c3 _ L w1 hr hgp.small (by have := hgp.few; omega) hgp.ref)
  obtain ⟨n, hn⟩ : ∃ n, n = L.length := ⟨_, rfl⟩
  have HN := Lib.hid hn
  have hn60 : n ≤ 60 := by have := hgp.few; omega
  rw [← hn] at HCd ⊢
  clear hgp hr hk hn HG
  go_wp2_with fail
  refine HCd.out.mono ?_
  intro e w2 hp
  obtain ⟨a4, c4, rfl, hr4, hk⟩ := codes_read hp
  have hcl : (codesL L).length = n := by unfold codesL; rw [codesP_len]; exact HN.out.symm
  rw [hcl] at hr4 ⊢
  have HR4 := Lib.hid hr4; have HK2 := Lib.hid (HK1.out.trans hk); have HRl := Lib.hid (HR.out.keptNo hk)
  clear hp hr4 hk hcl HR HCd
  go_wp2
  go_loopw [6, 7] (fun v6 _v7 wr => ∃ i : Nat, v6 = .int .i64 (i : Int) ∧ i ≤ n ∧ Hid (Kept NoB w2 wr)) (fun v6 _ _ => n - (intOf v6).toNat)
  case atStart => exact ⟨0, rfl, by omega, Kept.refl _ _⟩
  case round =>
    obtain ⟨i, rfl, hin, HKi⟩ := hrel
    by_cases hlt : (i : Int) < n
    · go_wp2
      go_loopw [7] (fun v7 wr => ∃ k : Nat, v7 = .int .i64 (k : Int) ∧ k ≤ n ∧ Hid (Kept NoB w2 wr)) (fun v7 _ => n - (intOf v7).toNat)
      case atStart => exact ⟨0, rfl, by omega, HKi⟩
      case round =>
        obtain ⟨k, rfl, hkn, HKs⟩ := hrel
        by_cases hlt2 : (k : Int) < n
        · have hil : i < L.length := by have := HN.out; omega
          have hkl : k < L.length := by have := HN.out; omega
          obtain ⟨g1, o1, rfl, _, x0⟩ := HRl.out i hil
          obtain ⟨g2, o2, he2, _, x1⟩ := HRl.out k hkl
          cases he2
          obtain ⟨g3, rfl, y0⟩ := HR4.out i (by omega)
          obtain ⟨g4, he4, y1⟩ := HR4.out k (by omega)
          cases he4
          rw [codesL_get _ _ hil] at y0
          rw [codesL_get _ _ hkl] at y1
          have hbi := HGp.out.small.getD i hil
          have hbk := HGp.out.small.getD k hkl
          have hci := codeAt_bd L (by have := HGp.out.few; omega) HGp.out.small i hil
          have hck := codeAt_bd L (by have := HGp.out.few; omega) HGp.out.small k hkl
          have hfree := fun hne h0 d hd => code_free L (by have := HGp.out.few; omega) HGp.out.small i k hil hkl hne h0 d hd
          obtain ⟨li, hli⟩ : ∃ x, x = L.getD i 0 := ⟨_, rfl⟩
          obtain ⟨lk, hlk⟩ : ∃ x, x = L.getD k 0 := ⟨_, rfl⟩
          obtain ⟨ci, hcie⟩ : ∃ x, x = codeAt L i := ⟨_, rfl⟩
          obtain ⟨ck, hcke⟩ : ∃ x, x = codeAt L k := ⟨_, rfl⟩
          rw [← hli] at x0 hbi hfree
          rw [← hlk] at x1 hbk hfree
          rw [← hcie] at y0 hci hfree
          rw [← hcke] at y1 hck hfree
          have d0 := HKs.out.cell x0
          have d1 := HKs.out.cell x1
          have d2 := HKs.out.cell y0
          have d3 := HKs.out.cell y1
          have HFree := Lib.hid hfree
          clear hli hlk hcie hcke hfree hil hkl
          by_cases hik : i = k
          · have q1 : ((i : Int) == (k : Int)) = true := by simp; omega
            go_upto_region 11 with fail
            go_quiet (fail)
            have HKq := Lib.hid (HKs.out.drewN nq)
            go_wp2
            go_roundw
            case rel => exact ⟨k + 1, by go_num, by omega, HKq⟩
            case measure => simp [intOf]; omega
          · have q1 : ((i : Int) == (k : Int)) = false := by simp; omega
            by_cases hl0 : li = 0
            · have q2 : (li == 0) = true := by simp; omega
              go_upto_region 11 with fail
              go_quiet (fail)
              have HKq := Lib.hid (HKs.out.drewN nq)
              go_wp2
              go_roundw
              case rel => exact ⟨k + 1, by go_num, by omega, HKq⟩
              case measure => simp [intOf]; omega
            · have q2 : (li == 0) = false := by simp; omega
              by_cases hlt3 : lk < li
              · have q3 : decide (lk < li) = true := decide_eq_true hlt3
                go_upto_region 11 with fail
                go_quiet (fail)
                have HKq := Lib.hid (HKs.out.drewN nq)
                go_wp2
                go_roundw
                case rel => exact ⟨k + 1, by go_num, by omega, HKq⟩
                case measure => simp [intOf]; omega
              · have q3 : decide (lk < li) = false := decide_eq_false hlt3
                obtain ⟨d, hd⟩ : ∃ d : Nat, lk - li = (d : Int) := ⟨(lk - li).toNat, by omega⟩
                obtain ⟨f1, f2⟩ := HFree.out hik (by omega) d (by omega)
                have e1 : IntKind.i64.wrap (lk - li) = (d : Int) := by rw [IntWalk.i64_in _ (by omega)]; exact hd
                have q4 : (ck / 2 ^ d == ci) = false := by simpa using f1
                have hd15 : d ≤ 15 := by omega
                by_cases hd0 : d = 0
                · have hll : li = lk := by omega
                  have q5 : (li == lk) = true := by simp; omega
                  by_cases hlt4 : i < k
                  · have hcc := (f2 hd0).1 hlt4
                    have q6 : decide ((i : Int) < (k : Int)) = true := decide_eq_true (by omega)
                    have q7 : decide (ci < ck) = true := decide_eq_true hcc
                    have HHd := Lib.hid hd
                    clear hd f1 f2 hll hd0
                    go_upto_region 11 with fail
                    go_quiet (fail)
                    have HKq := Lib.hid (HKs.out.drewN nq)
                    have HKs := HKq
                    clear HKq
                    obtain ⟨wq, hwq⟩ : ∃ wq, wq = wr.drewN nq := ⟨_, rfl⟩
                    rw [← hwq] at HKs ⊢
                    clear hwq
                    have D0 := HKs.out.cell x0
                    have D1 := HKs.out.cell x1
                    have D2 := HKs.out.cell y0
                    have D3 := HKs.out.cell y1
                    clear d0 d1 d2 d3
                    go_upto_region 12 with fail
                    go_quiet (fail)
                    go_wp2
                    go_roundw
                    case rel => exact ⟨k + 1, by go_num, by omega, Lib.hid (HKs.out.drewN _)⟩
                    case measure => simp [intOf]; omega
                  · have hcc : ¬ ci < ck := fun hc => hlt4 ((f2 hd0).2 hc)
                    have q6 : decide ((i : Int) < (k : Int)) = false := decide_eq_false (by omega)
                    have q7 : decide (ci < ck) = false := decide_eq_false hcc
                    have HHd := Lib.hid hd
                    clear hd f1 f2 hll hd0
                    go_upto_region 11 with fail
                    go_quiet (fail)
                    have HKq := Lib.hid (HKs.out.drewN nq)
                    have HKs := HKq
                    clear HKq
                    obtain ⟨wq, hwq⟩ : ∃ wq, wq = wr.drewN nq := ⟨_, rfl⟩
                    rw [← hwq] at HKs ⊢
                    clear hwq
                    have D0 := HKs.out.cell x0
                    have D1 := HKs.out.cell x1
                    have D2 := HKs.out.cell y0
                    have D3 := HKs.out.cell y1
                    clear d0 d1 d2 d3
                    go_upto_region 12 with fail
                    go_quiet (fail)
                    go_wp2
                    go_roundw
                    case rel => exact ⟨k + 1, by go_num, by omega, Lib.hid (HKs.out.drewN _)⟩
                    case measure => simp [intOf]; omega
                · have q5 : (li == lk) = false := by simp; omega
                  have HHd := Lib.hid hd
                  clear hd f1 f2
                  go_upto_region 11 with fail
                  go_quiet (fail)
                  have HKq := Lib.hid (HKs.out.drewN nq)
                  have HKs := HKq
                  clear HKq
                  obtain ⟨wq, hwq⟩ : ∃ wq, wq = wr.drewN nq := ⟨_, rfl⟩
                  rw [← hwq] at HKs ⊢
                  clear hwq
                  have D0 := HKs.out.cell x0
                  have D1 := HKs.out.cell x1
                  have D2 := HKs.out.cell y0
                  have D3 := HKs.out.cell y1
                  clear d0 d1 d2 d3
                  go_upto_region 12 with fail
                  go_quiet (fail)
                  go_wp2
                  go_roundw
                  case rel => exact ⟨k + 1, by go_num, by omega, Lib.hid (HKs.out.drewN _)⟩
                  case measure => simp [intOf]; omega
        · go_wp2
          go_roundw
          case rel => exact ⟨i + 1, by go_num, by omega, HKs⟩
          case measure => simp [intOf]; omega
    · go_wp2_with fail
      refine (HAw.out _).mono ?_
      rintro e w9 ⟨rfl, hk⟩
      have HKz := Lib.hid (HK2.out.trans (HKi.out.trans hk))
      clear hk
      go_wp2
      go_ret
      exact ⟨rfl, HKz.out.belowNo (Below.refl _ _)⟩

theorem canonFree_law (v0 : Value) (w : World) (r0 : Arg w 22 v0) : Calls Try.prog 7 #[v0] w fun e w' => e = .returned (.bool true) ∧ Below w.heap.size w w' := by
  obtain ⟨ao, ca, ws, rfl, _, _, hx, _, _⟩ := r0.ints
  exact canonFree_walk ao ca ws w hx
end Go.Proofs.Ytokdlmpnokmniaa
