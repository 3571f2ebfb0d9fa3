/-
  HuffCosts: the cost is the sum of products; Kraft's sum is that of its parts.
-/
import Derived.Test.YtngllecfhkgckaaAwake4
import Derived.Test.YtngllecfhkgckaaMask
namespace Go.Proofs.Ytngllecfhkgckaa
open Go.RowKit
set_option linter.unusedVariables false
set_option linter.unusedSimpArgs false

theorem mask1048575 (n : Int) : bits .and .i64 n 1048575 = n % 1048576 := i64_mask n 20 (by decide)
theorem mask31 (n : Int) : bits .and .i64 n 31 = n % 32 := i64_mask n 5 (by decide)
/-- A row of numbers of the call's own. -/
structure IntSt (w0 w : World) (a : Option Addr) (l c : Nat) (zs : List Int) : Prop where
  len : l = zs.length
  own : w.ownsRow 0 3 1 (.slice a l c) l (zs.map (.int .i64))
  kept : Kept NoB w0 w
  fresh : ∀ k, (Value.slice a l c).ownBlock = some k → w0.heap.size ≤ k
theorem IntSt.app {w0 wr w2 : World} {a' a2 : Option Addr} {c' c2 len : Nat} {zs : List Int} {x : Int} {o : Obj} (h : IntSt w0 wr a' len c' zs)
    (hown : w2.ownsRow 0 3 1 (.slice a2 (len + 1) c2) (len + 1) (zs.map (.int .i64) ++ [.int .i64 x])) (hgrow : (wr.alloc o).grownBy w2 (Value.slice a' len c').ownBlock)
    (hnew : ∀ k, (Value.slice a2 (len + 1) c2).ownBlock = some k → (Value.slice a' len c').ownBlock = some k ∨ wr.heap.size + 1 ≤ k) : IntSt w0 w2 a2 (len + 1) c2 (zs ++ [x]) := by
  refine ⟨by rw [h.len]; simp, ?_, ?_, ?_⟩
  · rw [List.map_append]; exact hown
  · exact (h.kept.alloc o).grown hgrow (fun k hk e => by have := h.fresh k e; omega)
  · intro k hk
    rcases hnew k hk with h1 | h1
    · exact h.fresh k h1
    · have := h.kept.size; omega
theorem IntSt.reads {w0 w : World} {a : Option Addr} {l c : Nat} {zs : List Int} (h : IntSt w0 w a l c zs) : RdI w w.heap.size a zs := by
  have hl := h.len
  intro i hi
  rcases h.own.2 with ⟨_, hz⟩ | ⟨g, cc, cur, hv, _⟩
  · omega
  · simp at hv
    obtain ⟨rfl, rfl⟩ := hv
    have hc : w.cell? ⟨g, i, none⟩ = some (.int .i64 (zs.getD i 0)) := by
      rw [h.own.cellAt i (by omega)]; simp [List.getD, hi]
    exact ⟨g, 0, rfl, World.block_lt_of_cell? w _ hc, by rw [Nat.zero_add]; exact hc⟩
theorem IntSt.nil (w : World) : IntSt w w none 0 0 [] := ⟨rfl, World.ownsRow_nil _ _ _ _, Kept.refl _ _, fun k hk => by simp [Value.ownBlock] at hk⟩
theorem IntSt.drewN {w0 w : World} {a : Option Addr} {l c : Nat} {zs : List Int} (h : IntSt w0 w a l c zs) (n : Nat) : IntSt w0 (w.drewN n) a l c zs := ⟨h.len, (Kept.refl NoB w).drewN n |>.row h.own (fun _ _ h => h), h.kept.drewN n, h.fresh⟩
theorem modmap_step (m : Int) (ws : List Int) (j : Nat) (h : j < ws.length) : (ws.map (· % m)).take (j + 1) = (ws.map (· % m)).take j ++ [ws.getD j 0 % m] := by
  rw [List.take_succ_eq_append_getElem (by simpa using h)]; simp [List.getD, h]
theorem modmap_get (m : Int) (ws : List Int) (j : Nat) (h : j < ws.length) : (ws.map (· % m)).getD j 0 = ws.getD j 0 % m := by simp [List.getD, h]
theorem take_getD (l : List Int) (h j : Nat) (hj : j < h) : (l.take h).getD j 0 = l.getD j 0 := by simp [List.getD, List.getElem?_take, hj]
theorem drop_getD (l : List Int) (h j : Nat) : (l.drop h).getD j 0 = l.getD (h + j) 0 := by simp [List.getD, List.getElem?_drop]
theorem RdI.take {w : World} {B : Nat} {ao : Option Addr} {zs : List Int} (h : RdI w B ao zs) (k : Nat) : RdI w B ao (zs.take k) := by
  intro i hi
  have hi' : i < k ∧ i < zs.length := by simp at hi; omega
  obtain ⟨g, off, h1, h2, h3⟩ := h i hi'.2
  exact ⟨g, off, h1, h2, by rw [take_getD _ _ _ hi'.1]; exact h3⟩
theorem RdI.drop {w : World} {B g off : Nat} {zs : List Int} (h : RdI w B (some ⟨g, off, none⟩) zs) (k : Nat) : RdI w B (some ⟨g, off + k, none⟩) (zs.drop k) := by
  intro i hi
  have hi' : k + i < zs.length := by simp at hi; omega
  obtain ⟨g', off', h1, h2, h3⟩ := h (k + i) hi'
  cases h1
  exact ⟨g, off + k, rfl, h2, by rw [drop_getD, Nat.add_assoc]; exact h3⟩

set_option maxRecDepth 20000 in
set_option maxHeartbeats 6000000 in
theorem huffCosts_walk (ao bo : Option Addr) (ca cb : Nat) (ws ls : List Int) (w : World) (hx : RdI w w.heap.size ao ws) (hy : RdI w w.heap.size bo ls) :
    Calls Try.prog 7 #[.slice ao ws.length ca, .slice bo ls.length cb] w fun e w' => e = .returned (.bool true) ∧ Below w.heap.size w w' := by
  have HX := Lib.hid hx; have HY := Lib.hid hy; have HAw := Lib.hid awake_any
  have m1 := mask1048575
  have m2 := mask31
  obtain ⟨i0, hi, hz0, hz1, hz2⟩ := info_parts infoI
  obtain ⟨n, hn⟩ : ∃ n, n = ws.length := ⟨_, rfl⟩
  obtain ⟨m, hm⟩ : ∃ m, m = ls.length := ⟨_, rfl⟩
  have HN := Lib.hid hn; have HM := Lib.hid hm
  rw [← hn, ← hm]
  clear hx hy hn hm
  have hc : (100 < n) ∨ (¬ 100 < n ∧ 100 < m) ∨ (¬ 100 < n ∧ ¬ 100 < m) := by omega
  rcases hc with h1 | ⟨h1, h2⟩ | ⟨h1, h2⟩
  · go_enter Try.func7, Try.ntmps7
    go_wp2_with fail
    refine (HAw.out _).mono ?_
    rintro e w1 ⟨rfl, hk⟩
    have HK := Lib.hid hk
    clear hk
    go_wp2
    go_ret
    exact ⟨rfl, HK.out.belowNo (Below.refl _ _)⟩
  · go_enter Try.func7, Try.ntmps7
    go_wp2_with fail
    refine (HAw.out _).mono ?_
    rintro e w1 ⟨rfl, hk⟩
    have HK := Lib.hid hk
    clear hk
    go_wp2
    go_ret
    exact ⟨rfl, HK.out.belowNo (Below.refl _ _)⟩
  · obtain ⟨A, hA⟩ : ∃ A, A = ws.map (· % 1048576) := ⟨_, rfl⟩
    obtain ⟨B, hB⟩ : ∃ B, B = ls.map (· % 32) := ⟨_, rfl⟩
    have hAl : A.length = n := by rw [hA, HN.out]; simp
    have hBl : B.length = m := by rw [hB, HM.out]; simp
    have hAs : Small 1048576 A := fun z hz => by
      rw [hA] at hz; obtain ⟨y, _, rfl⟩ := List.mem_map.1 hz; omega
    have hBs : Small 31 B := fun z hz => by
      rw [hB] at hz; obtain ⟨y, _, rfl⟩ := List.mem_map.1 hz; omega
    have HA := Lib.hid hA; have HB := Lib.hid hB; have HAl := Lib.hid hAl; have HBl := Lib.hid hBl; have HAs := Lib.hid hAs; have HBs := Lib.hid hBs
    clear hA hB hAl hBl hAs hBs
    go_enter Try.func7, Try.ntmps7
    go_wp2
    go_loopw [5, 8] (fun v5 v8 wr => ∃ (j : Nat) (a5 : Option Addr) (c5 : Nat), v8 = .int .i64 (j : Int) ∧ v5 = .slice a5 j c5 ∧ j ≤ n ∧ Hid (IntSt w wr a5 j c5 (A.take j))) (fun _ v8 _ => n - (intOf v8).toNat)
    case atStart => exact ⟨0, none, 0, rfl, rfl, by omega, Lib.hid (IntSt.nil w)⟩
    case round =>
      obtain ⟨j, a5, c5, rfl, rfl, hj, HS⟩ := hrel
      by_cases hlt : (j : Int) < n
      · obtain ⟨g, off, rfl, _, hc0⟩ := HX.out j (by have := HN.out; omega)
        have hc := HS.out.kept.cell hc0
        have hst := modmap_step 1048576 ws j (by have := HN.out; omega)
        rw [← HA.out] at hst
        obtain ⟨z, hz⟩ : ∃ z, z = ws.getD j 0 := ⟨_, rfl⟩
        rw [← hz] at hc hst
        have HSt := Lib.hid hst
        have hrow := HS.out.own
        obtain ⟨cs, hcs⟩ : ∃ cs, cs = (A.take j).map (Value.int .i64) := ⟨_, rfl⟩
        rw [← hcs] at hrow
        have HRow := Lib.hid (hrow.alloc (.cells #[.int .i64 (z % 1048576)] 3)); have HCs := Lib.hid hcs
        clear hrow hcs
        clear hz hst hc0
        go_wp2_with (at_builtin; refine wpList_app _ rfl _ _ 22 rfl 3 i0 (.int .i64 0) 1 8 Try.underlying22 hi hz0 hz1 hz2 rfl (by decide) _ j cs rfl HRow.out ⟨wr.heap.size, 0, none⟩ 1 1 [.int .i64 (z % 1048576)] rfl rfl (cell_one_new _ _ _) ?d2 ?d3 ?d4 ?_)
        case d2 => first | rfl | (intro u hu; simp at hu; subst hu; rfl)
        case d3 => unfold maxLen; omega
        case d4 => omega
        intro v' w2 hown' hgrow hnew
        obtain ⟨a2, c2, rfl⟩ := own_shape2 hown'
        rw [HCs.out] at hown'
        have hs2 := HS.out.app hown' hgrow hnew
        rw [← HSt.out] at hs2
        have HS2 := Lib.hid hs2
        clear hown' hgrow hnew hs2
        go_wp2
        go_roundw
        case rel => exact ⟨j + 1, a2, c2, by go_num, rfl, by omega, HS2⟩
        case measure => simp [intOf]; omega
      · have hjn : j = n := by omega
        subst hjn
        rename World => W2
        have hsa := HS.out
        rw [List.take_of_length_le (by rw [HAl.out]; exact Nat.le_refl _)] at hsa
        have HSa := Lib.hid hsa
        clear hsa HS
        go_wp2
        go_loopw [6, 7, 9] (fun v6 v7 v9 wr => ∃ (i : Nat) (acc : Int) (a6 : Option Addr) (c6 : Nat), v9 = .int .i64 (i : Int) ∧ v6 = .slice a6 i c6 ∧ v7 = .int .i64 acc ∧ i ≤ m ∧ Hid (i = 0 → a6 = none ∧ c6 = 0) ∧ 0 ≤ acc ∧ acc ≤ 1099511627776 * (i : Int) ∧ Hid (IntSt W2 wr a6 i c6 (B.take i)) ∧ Hid (acc + costL (A.drop i) (B.drop i) = costL A B)) (fun _ _ v9 _ => m - (intOf v9).toNat)
        case atStart => exact ⟨0, 0, none, 0, rfl, rfl, rfl, by omega, Lib.hid (fun _ => ⟨rfl, rfl⟩), by omega, by omega, Lib.hid (IntSt.nil _), Lib.hid (by rw [List.drop_zero, List.drop_zero, Int.zero_add])⟩
        case round =>
          obtain ⟨i, acc, a6, c6, rfl, rfl, rfl, him, HE0, h0, hac, HS, HX2⟩ := hrel
          by_cases hlt2 : (i : Int) < m
          · obtain ⟨g, off, rfl, hgB, hc0⟩ := HY.out i (by have := HM.out; omega)
            have hc := HS.out.kept.cell (HSa.out.kept.cell hc0)
            have hst := modmap_step 32 ls i (by have := HM.out; omega)
            rw [← HB.out] at hst
            have hbi := modmap_get 32 ls i (by have := HM.out; omega)
            rw [← HB.out] at hbi
            obtain ⟨y, hy⟩ : ∃ y, y = ls.getD i 0 := ⟨_, rfl⟩
            rw [← hy] at hc hst hbi
            have HSt := Lib.hid hst; have HBi := Lib.hid hbi
            have hrow := HS.out.own
            obtain ⟨cs, hcs⟩ : ∃ cs, cs = (B.take i).map (Value.int .i64) := ⟨_, rfl⟩
            rw [← hcs] at hrow
            have HRow := Lib.hid (hrow.alloc (.cells #[.int .i64 (y % 32)] 3)); have HCs := Lib.hid hcs
            clear hrow hcs hy hst hbi hc0 hgB
            go_wp2_with (at_builtin; refine wpList_app _ rfl _ _ 22 rfl 3 i0 (.int .i64 0) 1 8 Try.underlying22 hi hz0 hz1 hz2 rfl (by decide) _ i cs rfl HRow.out ⟨wr.heap.size, 0, none⟩ 1 1 [.int .i64 (y % 32)] rfl rfl (cell_one_new _ _ _) ?d2 ?d3 ?d4 ?_)
            case d2 => first | rfl | (intro u hu; simp at hu; subst hu; rfl)
            case d3 => unfold maxLen; omega
            case d4 => omega
            intro v' w2 hown' hgrow hnew
            obtain ⟨a2, c2, rfl⟩ := own_shape2 hown'
            rw [HCs.out] at hown'
            have hs2 := HS.out.app hown' hgrow hnew
            rw [← HSt.out] at hs2
            have HS2 := Lib.hid hs2
            clear hown' hgrow hnew hs2
            by_cases hij : i < j
            · obtain ⟨g1, o1, rfl, _, hx0⟩ := HSa.out.reads i (by rw [HAl.out]; exact hij)
              obtain ⟨g2, o2, rfl, _, hy0⟩ := HS2.out.reads i (by rw [List.length_take, HBl.out]; omega)
              have hx1 := HS2.out.kept.cell hx0
              rw [take_getD _ _ _ (by omega)] at hy0
              have hbx := HAs.out.getD i (by rw [HAl.out]; exact hij)
              have hby := HBs.out.getD i (by rw [HBl.out]; omega)
              have hs := HX2.out
              rw [cost_step A B i (by rw [HAl.out]; exact hij) (by rw [HBl.out]; omega)] at hs
              obtain ⟨x, hx⟩ : ∃ x, x = A.getD i 0 := ⟨_, rfl⟩
              obtain ⟨b, hb⟩ : ∃ b, b = B.getD i 0 := ⟨_, rfl⟩
              rw [← hx] at hx1 hbx hs
              rw [← hb] at hy0 hby hs
              have hp := prod_bd hbx (show 0 ≤ b ∧ b ≤ 1048576 by omega)
              have hw1 : wrap64 (x * b) = x * b := IntWalk.wrap64_in _ (by omega)
              obtain ⟨p, hpe⟩ : ∃ p, p = x * b := ⟨_, rfl⟩
              rw [← hpe] at hs hp hw1
              have hw2 : wrap64 (acc + p) = acc + p := IntWalk.wrap64_in _ (by omega)
              have HPe := Lib.hid hpe; have HW1 := Lib.hid hw1; have HW2 := Lib.hid hw2; have HXX := Lib.hid hs
              clear hw1 hw2 hs hpe hx hb hx0 hbx hby
              go_upto_region 14 with fail
              go_quiet (fail)
              have HS3 := Lib.hid (HS2.out.drewN nq)
              go_wp2
              go_roundw
              case rel => exact ⟨i + 1, acc + p, _, c2, by go_num, rfl, by rw [← HPe.out, HW1.out, HW2.out], by omega, Lib.hid (fun e => by omega), by omega, by omega, HS3, Lib.hid (by have := HXX.out; omega)⟩
              case measure => simp [intOf]; omega
            · have hs := HX2.out
              rw [cost_end A B i (by rw [HAl.out]; omega)] at hs
              have hs2 : acc + costL (A.drop (i + 1)) (B.drop (i + 1)) = costL A B := by rw [cost_end A B (i + 1) (by rw [HAl.out]; omega)]; exact hs
              have HXX := Lib.hid hs2
              clear hs hs2
              go_wp2
              go_roundw
              case rel => exact ⟨i + 1, acc, a2, c2, by go_num, rfl, rfl, by omega, Lib.hid (fun e => by omega), by omega, by omega, HS2, HXX⟩
              case measure => simp [intOf]; omega
          · have him2 : i = m := by omega
            subst him2
            have hs := HX2.out
            rw [cost_end A B i (by rw [HBl.out]; omega), Int.add_zero] at hs
            have hsb := HS.out
            rw [List.take_of_length_le (by rw [HBl.out]; exact Nat.le_refl _)] at hsb
            have HSb := Lib.hid hsb
            have hai : AllI B := fun z hz => by have := HBs.out z hz; omega
            have hkept : Kept NoB w wr := HSa.out.kept.trans hsb.kept
            have hcap := own_cap2 hsb.own
            have hkb := kraft_bd B
            have hk12 : kraftL B = kraftL (B.take (i / 2)) + kraftL (B.drop (i / 2)) := by rw [← kraft_append, List.take_append_drop]
            have hk1 := kraft_bd (B.take (i / 2))
            have hk2 := kraft_bd (B.drop (i / 2))
            rw [List.length_take, HBl.out] at hk1
            rw [List.length_drop, HBl.out] at hk2
            have hL1 : ∀ W, Kept NoB wr W → Calls Try.prog 13 #[.slice a6 i c6] W fun e w' => e = .returned (.tuple #[.int .i64 (kraftL B), .int .i64 32768]) ∧ Kept NoB W w' := by
              intro W hk
              have := kraft_calls a6 c6 _ B W (hsb.reads.keptNo hk) hai (by rw [HBl.out]; omega)
              rw [HBl.out] at this
              exact this
            have hL2 : ∀ W, Kept NoB wr W → Calls Try.prog 13 #[.slice a6 (i / 2) c6] W fun e w' => e = .returned (.tuple #[.int .i64 (kraftL (B.take (i / 2))), .int .i64 32768]) ∧ Kept NoB W w' := by
              intro W hk
              have := kraft_calls a6 c6 _ (B.take (i / 2)) W ((hsb.reads.keptNo hk).take _) (fun z hz => hai z (List.mem_of_mem_take hz)) (by rw [List.length_take, HBl.out]; omega)
              rw [List.length_take, HBl.out, Nat.min_eq_left (by omega)] at this
              exact this
            have hL3 : ∀ ad c W, Kept NoB wr W → RdI wr wr.heap.size ad (B.drop (i / 2)) → Calls Try.prog 13 #[.slice ad (i - i / 2) c] W fun e w' => e = .returned (.tuple #[.int .i64 (kraftL (B.drop (i / 2))), .int .i64 32768]) ∧ Kept NoB W w' := by
              intro ad c W hk hr
              have := kraft_calls ad c _ (B.drop (i / 2)) W (hr.keptNo hk) (fun z hz => hai z (List.mem_of_mem_drop hz)) (by rw [List.length_drop, HBl.out]; omega)
              rw [List.length_drop, HBl.out] at this
              exact this
            have hL4 : ∀ W, Kept NoB wr W → Calls Try.prog 14 #[.slice a6 i c6] W fun e w' => e = .returned (.int .i64 (kraftL B)) ∧ Kept NoB W w' := by
              intro W hk
              have := rkraft_calls a6 c6 _ B W (hsb.reads.keptNo hk) hai (by rw [HBl.out]; omega)
              rw [HBl.out] at this
              exact this
            have hL5 : ∀ W, Kept NoB wr W → Calls Try.prog 10 #[.slice a5 j c5, .slice a6 i c6] W fun e w' => e = .returned (.int .i64 (costL A B)) ∧ Kept NoB W w' := by
              intro W hk
              have := cost_calls a5 a6 c5 c6 _ _ A B W (HSa.out.reads.keptNo (hsb.kept.trans hk)) (hsb.reads.keptNo hk) HAs.out (fun z hz => by have := HBs.out z hz; omega) (by rw [HAl.out]; omega) (by rw [HBl.out]; omega)
              rw [HAl.out, HBl.out] at this
              exact this
            rw [← hs] at hL5
            rw [hk12] at hL1 hL4
            obtain ⟨K1, hK1⟩ : ∃ K, K = kraftL (B.take (i / 2)) := ⟨_, rfl⟩
            obtain ⟨K2, hK2⟩ : ∃ K, K = kraftL (B.drop (i / 2)) := ⟨_, rfl⟩
            rw [← hK1] at hL1 hL2 hL4 hk1
            rw [← hK2] at hL1 hL3 hL4 hk2
            have hRd : ∀ g, a6 = some ⟨g, 0, none⟩ → RdI wr wr.heap.size (some ⟨g, i / 2, none⟩) (B.drop (i / 2)) := fun g e => by
              have h := hsb.reads
              rw [e] at h
              have := h.drop (i / 2)
              rw [Nat.zero_add] at this
              exact this
            have hRe : i = 0 → ∀ ad, RdI wr wr.heap.size ad (B.drop (i / 2)) := fun e ad t ht => by
              rw [List.length_drop, HBl.out] at ht; omega
            have hshape := hsb.own.2
            have HKp := Lib.hid hkept; have HRd := Lib.hid hRd; have HRe := Lib.hid hRe
            have hw12 : wrap64 (K1 + K2) = K1 + K2 := IntWalk.wrap64_in _ (by omega)
            clear hkept hRd hRe hK1 hK2 hk12 hkb hai hs HS HX2 HSa HSb HBs HAs hsb
            by_cases hi0 : i = 0
            · obtain ⟨rfl, rfl⟩ := HE0.out hi0
              subst hi0
              have hr := HRe.out rfl none
              simp only [Nat.zero_div, Nat.sub_zero] at hL1 hL2 hL3 hL4 hL5 hr hk1 hk2
              have HL1 := Lib.hid hL1; have HL2 := Lib.hid hL2; have HL3 := Lib.hid hL3; have HL4 := Lib.hid hL4; have HL5 := Lib.hid hL5; have HR := Lib.hid hr
              clear hL1 hL2 hL3 hL4 hL5 hr HRd HRe hshape HE0
              go_wp2_with fail
              refine (HL1.out _ (Kept.refl _ _)).mono ?_
              rintro e w3 ⟨rfl, hk3⟩
              have HK3 := Lib.hid hk3
              clear hk3
              go_wp2_with fail
              refine (HL2.out _ HK3.out).mono ?_
              rintro e w4 ⟨rfl, hk4⟩
              have HK4 := Lib.hid (HK3.out.trans hk4)
              clear hk4
              go_wp2_with fail
              refine (HL3.out none _ _ HK4.out HR.out).mono ?_
              rintro e w5 ⟨rfl, hk5⟩
              have HK5 := Lib.hid (HK4.out.trans hk5)
              clear hk5 HK3 HK4
              go_wp2_with fail
              refine (HL5.out _ HK5.out).mono ?_
              rintro e w6 ⟨rfl, hk6⟩
              have HK6 := Lib.hid (HK5.out.trans hk6)
              clear hk6 HK5
              go_wp2_with fail
              refine (HL4.out _ HK6.out).mono ?_
              rintro e w7 ⟨rfl, hk7⟩
              have HK7 := Lib.hid (HK6.out.trans hk7)
              clear hk7 HK6
              go_wp2_with fail
              refine (HAw.out _).mono ?_
              rintro e w8 ⟨rfl, hk8⟩
              have HKz := Lib.hid (HKp.out.trans (HK7.out.trans hk8))
              clear hk8
              go_wp2
              go_ret
              exact ⟨rfl, HKz.out.belowNo (Below.refl _ _)⟩
            · rcases hshape with ⟨hv, hz⟩ | ⟨g, cc, cur, hv, _⟩
              · exact absurd hz hi0
              · simp at hv
                obtain ⟨rfl, rfl⟩ := hv
                have hr := HRd.out _ rfl
                have HL1 := Lib.hid hL1; have HL2 := Lib.hid hL2; have HL3 := Lib.hid hL3; have HL4 := Lib.hid hL4; have HL5 := Lib.hid hL5; have HR := Lib.hid hr
                clear hL1 hL2 hL3 hL4 hL5 hr HRd HRe HE0
                have hce : ¬ c6 = i / 2 := by omega
                go_wp2_with fail
                refine (HL1.out _ (Kept.refl _ _)).mono ?_
                rintro e w3 ⟨rfl, hk3⟩
                have HK3 := Lib.hid hk3
                clear hk3
                go_wp2_with fail
                refine (HL2.out _ HK3.out).mono ?_
                rintro e w4 ⟨rfl, hk4⟩
                have HK4 := Lib.hid (HK3.out.trans hk4)
                clear hk4
                go_wp2_with fail
                refine (HL3.out _ _ _ HK4.out HR.out).mono ?_
                rintro e w5 ⟨rfl, hk5⟩
                have HK5 := Lib.hid (HK4.out.trans hk5)
                clear hk5 HK3 HK4
                go_wp2_with fail
                refine (HL5.out _ HK5.out).mono ?_
                rintro e w6 ⟨rfl, hk6⟩
                have HK6 := Lib.hid (HK5.out.trans hk6)
                clear hk6 HK5
                go_wp2_with fail
                refine (HL4.out _ HK6.out).mono ?_
                rintro e w7 ⟨rfl, hk7⟩
                have HK7 := Lib.hid (HK6.out.trans hk7)
                clear hk7 HK6
                go_wp2_with fail
                refine (HAw.out _).mono ?_
                rintro e w8 ⟨rfl, hk8⟩
                have HKz := Lib.hid (HKp.out.trans (HK7.out.trans hk8))
                clear hk8
                go_wp2
                go_ret
                exact ⟨rfl, HKz.out.belowNo (Below.refl _ _)⟩

theorem huffCosts_law (v0 v1 : Value) (w : World) (r0 : Arg w 22 v0) (r1 : Arg w 22 v1) : Calls Try.prog 7 #[v0, v1] w fun e w' => e = .returned (.bool true) ∧ Below w.heap.size w w' := by
  obtain ⟨ao, ca, ws, rfl, _, _, hx, _, _⟩ := r0.ints
  obtain ⟨bo, cb, ls, rfl, _, _, hy, _, _⟩ := r1.ints
  exact huffCosts_walk ao bo ca cb ws ls w hx hy
end Go.Proofs.Ytngllecfhkgckaa
