/-
  CrcSums: of three rows of one length, one the sum of the two others and of noughts, the checks sum up alike.
-/
import Derived.Test.YtffoigacpnlkgaaCrcSN
import Derived.Test.YtffoigacpnlkgaaCrcS
import Derived.Test.YtffoigacpnlkgaaAwake2
import Derived.Test.YtffoigacpnlkgaaVals
import Derived.Deep.CutRange
namespace Go.Proofs.Ytffoigacpnlkgaa
open Go.RowKit
set_option linter.unusedVariables false
set_option linter.unusedSimpArgs false

theorem reads_takeA {w : World} {ao : Option Addr} {rb : List Int} (k : Nat) (h : Reads w ao rb) : Reads w ao (rb.take k) := by
  cases ao with
  | some x => exact reads_take k h
  | none => exact ⟨fun _ => by rw [h.1 rfl]; simp, fun a ha => by cases ha⟩
/-- The sum of two bytes; the row of sums up to one of them. -/
def xAt (ra rb : List Int) (i : Nat) : Int := (((ra.getD i 0).toNat ^^^ (rb.getD i 0).toNat : Nat) : Int)
def upTo (ra rb : List Int) (N j : Nat) : List Int := (List.range N).map fun i => if i < j then xAt ra rb i else 0
theorem upTo_len (ra rb : List Int) (N j : Nat) : (upTo ra rb N j).length = N := by simp [upTo]
theorem upTo_zero (ra rb : List Int) (N : Nat) : upTo ra rb N 0 = List.replicate N 0 := by
  apply List.ext_getElem
  · simp [upTo]
  · intro i h1 h2; simp [upTo]
theorem upTo_set (ra rb : List Int) (N j : Nat) : (upTo ra rb N j).set j (xAt ra rb j) = upTo ra rb N (j + 1) := by
  apply List.ext_getElem
  · simp [upTo]
  · intro i h1 h2
    rw [List.getElem_set]
    simp only [upTo, List.getElem_map, List.getElem_range]
    by_cases e : j = i
    · subst e; simp
    · rw [if_neg e]
      by_cases h : i < j
      · rw [if_pos h, if_pos (by omega)]
      · rw [if_neg h, if_neg (by omega)]
theorem xAt_ok (ra rb : List Int) (ha : AllB ra) (hb : AllB rb) (j : Nat) : bits .xor .u8 (ra.getD j 0) (rb.getD j 0) = xAt ra rb j := by
  have h1 := ha.getD j; have h2 := hb.getD j
  have := u8_xor_nat (ra.getD j 0).toNat (rb.getD j 0).toNat (by omega) (by omega)
  rw [Int.toNat_of_nonneg h1.1, Int.toNat_of_nonneg h2.1] at this
  exact this
theorem upTo_all (ra rb : List Int) (ha : AllB ra) (hb : AllB rb) (N j : Nat) : AllB (upTo ra rb N j) := by
  intro y hy
  simp only [upTo, List.mem_map, List.mem_range] at hy
  obtain ⟨i, _, rfl⟩ := hy
  split
  · have h1 := ha.getD i; have h2 := hb.getD i
    have := Nat.xor_lt_two_pow (n := 8) (show (ra.getD i 0).toNat < 2 ^ 8 by omega) (show (rb.getD i 0).toNat < 2 ^ 8 by omega)
    unfold xAt
    omega
  · omega
theorem upTo_sum (ra rb : List Int) (N : Nat) (ha : N ≤ ra.length) (hb : N ≤ rb.length) : nats (upTo ra rb N N) = sumRow (nats (ra.take N)) (nats (rb.take N)) := by
  apply List.ext_getElem
  · simp [upTo, nats, sumRow]; omega
  · intro i h1 h2
    have hi : i < N := by simpa [upTo, nats] using h1
    simp [upTo, nats, sumRow, xAt, hi, List.getD, show i < ra.length by omega, show i < rb.length by omega]
theorem zeros_nats (N : Nat) : nats (List.replicate N 0) = List.replicate N 0 := by simp [nats]

/-- What an operation of the last region yields. -/
inductive VK where
  | eq (u : Value)
  | box (s : Value)
  | row (N : Nat)
  | boxrow (N : Nat)
def VK.holds : VK → Value → World → Prop
  | .eq u, v, _ => v = u
  | .box s, v, w => ∃ k, v = .slice (some ⟨k, 0, none⟩) 1 1 ∧ w.cell? ⟨k, 0, none⟩ = some s
  | .row N, v, w => ∃ g, v = .slice (some ⟨g, 0, none⟩) N N ∧ Reads w (some ⟨g, 0, none⟩) (List.replicate N 0)
  | .boxrow N, v, w => ∃ k g, v = .slice (some ⟨k, 0, none⟩) 1 1 ∧ w.cell? ⟨k, 0, none⟩ = some (.slice (some ⟨g, 0, none⟩) N N) ∧ Reads w (some ⟨g, 0, none⟩) (List.replicate N 0)
theorem VK.mono (q : VK) (v : Value) (w w' : World) (h : q.holds v w) (hk : Kept NoB w w') : q.holds v w' := by
  cases q with
  | eq u => exact h
  | box s => obtain ⟨k, h1, h2⟩ := h; exact ⟨k, h1, hk.cell h2⟩
  | row N => obtain ⟨g, h1, h2⟩ := h; exact ⟨g, h1, h2.keptNo hk⟩
  | boxrow N => obtain ⟨k, g, h1, h2, h3⟩ := h; exact ⟨k, g, h1, hk.cell h2, h3.keptNo hk⟩
def slS (i : Nat) : Nat := if i = 27 then 4 else 45 + i
def depsS : Nat → List Nat
  | 5 => [4] | 11 => [10] | 12 => [5, 11] | 16 => [15] | 17 => [16] | 18 => [12, 17] | 22 => [21] | 23 => [18, 22] | 24 => [23] | 25 => [24] | 26 => [24, 25] | 27 => [26] | _ => []
def kindS (va vb vc : Value) (N cA cB cZ cC : Nat) : Nat → VK
  | 4 => .box va | 5 => .eq (.int .u32 cA) | 10 => .box vb | 11 => .eq (.int .u32 cB) | 12 => .eq (.int .u32 (cA ^^^ cB : Nat))
  | 15 => .row N | 16 => .boxrow N | 17 => .eq (.int .u32 cZ) | 18 => .eq (.int .u32 cC) | 21 => .box vc | 22 => .eq (.int .u32 cC) | _ => .eq (.bool true)

set_option maxRecDepth 100000 in
set_option maxHeartbeats 4000000 in
theorem crcSums_walk (ao bo : Option Addr) (ca cb la lb : Nat) (ra rb : List Int) (w : World) (hla : ra.length = la) (hra : Reads w ao ra) (ha : AllB ra) (ha0 : ao = none → ca = 0) (hca : la ≤ ca) (hma : ca ≤ maxLen)
    (hlb : rb.length = lb) (hrb : Reads w bo rb) (hb : AllB rb) (hb0 : bo = none → cb = 0) (hcb : lb ≤ cb) (hmb : cb ≤ maxLen) :
    Calls Try.prog 8 #[.slice ao la ca, .slice bo lb cb] w fun e w' => e = .returned (.bool true) ∧ Below w.heap.size w w' := by
  have HLA := Lib.hid hla; have HRA := Lib.hid hra; have HA := Lib.hid ha; have HA0 := Lib.hid ha0
  have HLB := Lib.hid hlb; have HRB := Lib.hid hrb; have HB := Lib.hid hb; have HB0 := Lib.hid hb0
  have hma' : ca ≤ 9223372036854775807 := by unfold maxLen at hma; omega
  have hmb' : cb ≤ 9223372036854775807 := by unfold maxLen at hmb; omega
  obtain ⟨i0, hi, hz0, hz1, hz2⟩ := info_parts info5
  clear hla hra ha ha0 hlb hrb hb hb0
  go_enter Try.func8, Try.ntmps8
  go_wp2_with fail
  refine (newt_any _).mono ?_
  rintro e w1 ⟨T, rfl, hT, hTf, hk1⟩
  have HT1 := Lib.hid hT; have HK1 := Lib.hid hk1; have HB1 := Lib.hid (hk1.belowNo (Below.refl _ _))
  clear hT hk1 hTf
  obtain ⟨N, hN⟩ : ∃ N, N = min la lb := ⟨_, rfl⟩
  have hNa : N ≤ la := by omega
  have hNb : N ≤ lb := by omega
  go_upto_region 2 with fail
  go_cut [6] from 10 to 14 (fun s wx => s = .int .i64 N ∧ w1 = wx)
  case first =>
    by_cases hle : la ≤ lb
    · have e : N = la := by omega
      clear hN
      subst e
      have hle2 : ¬ (lb : Int) < N := by omega
      go_wp2
      go_meet
      exact ⟨rfl, rfl⟩
    · have e : N = lb := by omega
      clear hN
      subst e
      have hle2 : (N : Int) < la := by omega
      go_wp2
      go_meet
      exact ⟨rfl, rfl⟩
  case rest =>
  obtain ⟨rfl, rfl⟩ := hcut
  clear hN
  by_cases h500 : 500 < N
  · go_wp2_with fail
    refine (awake2 _).mono ?_
    rintro e w2 ⟨rfl, hb2⟩
    have hb3 := HB1.out.trans (hb2.mono HB1.out.size)
    go_wp2
    go_ret
    exact ⟨rfl, hb3⟩
  · have hN5 : N ≤ 500 := by omega
    clear h500
    go_wp2_with (at_make; refine wpList_make_full _ rfl _ _ _ rfl 0 5 i0 (.int .u8 0) 1 Try.underlying22 hi hz0 hz1 .i64 .i64 _ _ N rfl rfl rfl rfl (by rw [hz2]; omega) (by unfold maxLen; omega) (Nat.zero_le _) ?_)
    intro w2 hown hgrow
    have hown0 : w2.ownsRow 0 5 1 (.slice (some ⟨w1.heap.size, 0, none⟩) N N) N ((upTo ra rb N 0).map (.int .u8)) := by
      rw [upTo_zero, List.map_replicate, ← toList_madeCells_one]
      exact hown
    have hk2 : Kept NoB w1 w2 := (Kept.refl NoB w1).grown hgrow (fun _ _ e => by cases e)
    clear hown hgrow
    obtain ⟨C, hC⟩ : ∃ C, C = w1.heap.size := ⟨_, rfl⟩
    rw [← hC] at hown0 ⊢
    have HC := Lib.hid hC; have HO0 := Lib.hid hown0; have HK2 := Lib.hid hk2
    clear hC hown0 hk2
    go_wp2
    go_loopw [8] (fun v wr => ∃ j : Nat, j ≤ N ∧ v = .int .i64 j ∧ Hid (wr.ownsRow 0 5 1 (.slice (some ⟨C, 0, none⟩) N N) N ((upTo ra rb N j).map (.int .u8))) ∧ Hid (Kept NoB w1 wr)) (fun v _ => N - (intOf v).toNat)
    case atStart => exact ⟨0, by omega, rfl, HO0.out, HK2.out⟩
    case round =>
      obtain ⟨j, hj, rfl, HO, HK⟩ := hrel
      by_cases hlt : (j : Int) < N
      · obtain ⟨b1, o1, rfl, _, hc1⟩ := (HRA.out.keptNo (HK1.out.trans HK.out)).at (by have := HLA.out; omega)
        obtain ⟨b2, o2, rfl, _, hc2⟩ := (HRB.out.keptNo (HK1.out.trans HK.out)).at (by have := HLB.out; omega)
        have hx := hc1 j (by have := HLA.out; omega)
        have hy := hc2 j (by have := HLB.out; omega)
        have hcz : wr.cell? ⟨C, j, none⟩ = some (.int .u8 0) := by
          have h := HO.out.cellAt j (by omega)
          rw [h]
          simp [upTo, show j < N by omega]
        have hfz : wr.frozen? ⟨C, j, none⟩ = false := HO.out.frozenAt _
        have hxo := xAt_ok ra rb HA.out HB.out j
        generalize ra.getD j 0 = x at hx hxo
        generalize rb.getD j 0 = y at hy hxo
        have hst : (wr.setCell ⟨C, j, none⟩ (.int .u8 (xAt ra rb j))).drew.ownsRow 0 5 1 (.slice (some ⟨C, 0, none⟩) N N) N ((upTo ra rb N (j + 1)).map (.int .u8)) := by
          rw [← upTo_set, List.map_set]
          exact (HO.out.stored j (.int .u8 (xAt ra rb j))).1
        have HSt := Lib.hid hst
        have HXo := Lib.hid (upTo_len ra rb N j)
        have hkn : Kept NoB w1 (wr.setCell ⟨C, j, none⟩ (.int .u8 (xAt ra rb j))).drew := Kept.drew (Kept.setCell (p := ⟨C, j, none⟩) HK.out (.inr (show w1.heap.size ≤ C by have := HC.out; omega)) _)
        have HKn := Lib.hid hkn
        generalize xAt ra rb j = z at hxo HSt HKn
        have hja : j < la := by omega
        have hjb : j < lb := by omega
        clear hc1 hc2 hst hkn
        go_wp2_with fail
        go_region
        have hown3 := HSt.out
        generalize (wr.setCell ⟨C, j, none⟩ (.int .u8 z)).drew = w3 at HSt HKn hown3 ⊢
        clear hown3 hx hy hcz hfz hxo
        go_wp2
        go_roundw
        case rel => exact ⟨j + 1, by omega, by go_num, HSt.out, HKn.out⟩
        case measure => simp [intOf]; omega
      · have hjN : j = N := by omega
        subst hjN
        have hNca : (j : Int) ≤ ca := by omega
        have hNcb : (j : Int) ≤ cb := by omega
        have hN0 : (0 : Int) ≤ j := by omega
        have HTr := Lib.hid (HT1.out.keptNo HK.out)
        have HRr1 := Lib.hid (HRA.out.keptNo (HK1.out.trans HK.out)); have HRr2 := Lib.hid (HRB.out.keptNo (HK1.out.trans HK.out))
        go_wp2_with fail
        refine wp_region_noPanic ?_
        refine wp_region_held_drew (S := fun W => Kept NoB wr W) (by kernel_rfl) (Kept.drew (Kept.refl _ _)) (fun hHeld => ?_)
        refine wpAnyH_take (i := 0) (v := ?_) (by rw [List.getElem?_toArray]; rfl) (by kernel_rfl) (by kernel_rfl) (by kernel_rfl) (fun _ _ _ h => h) (Or.inl ⟨by rfl, ?hy0⟩) (by assumption) ?rest0
        case hy0 => (intro w hSw; (try dsimp only at hSw); go_simp; (try with_reducible rfl))
        try simp only [Act.put, List.setIfInBounds_toArray, List.set_cons_zero, List.set_cons_succ]
        refine wpAnyH_take (i := 1) (v := ?_) (by rw [List.getElem?_toArray]; rfl) (by kernel_rfl) (by kernel_rfl) (by kernel_rfl) (fun _ _ _ h => h) (Or.inl ⟨by rfl, ?hy1⟩) (by assumption) ?rest1
        case hy1 => (intro w hSw; (try dsimp only at hSw); go_simp; (try with_reducible rfl))
        try simp only [Act.put, List.setIfInBounds_toArray, List.set_cons_zero, List.set_cons_succ]
        refine wpAnyH_take (i := 2) (v := ?_) (by rw [List.getElem?_toArray]; rfl) (by kernel_rfl) (by kernel_rfl) (by kernel_rfl) (fun _ _ _ h => h) (Or.inl ⟨by rfl, ?hy2⟩) (by assumption) ?rest2
        case hy2 => (intro w hSw; (try dsimp only at hSw); go_simp; (try with_reducible rfl))
        try simp only [Act.put, List.setIfInBounds_toArray, List.set_cons_zero, List.set_cons_succ]
        refine wpAnyH_take (i := 3) (v := ?_) (by rw [List.getElem?_toArray]; rfl) (by kernel_rfl) (by kernel_rfl) (by kernel_rfl) (fun _ _ _ h => h) (Or.inl ⟨by rfl, ?hy3⟩) (by assumption) ?rest3
        case hy3 => (intro w hSw; (try dsimp only at hSw); go_simp; (try with_reducible rfl))
        try simp only [Act.put, List.setIfInBounds_toArray, List.set_cons_zero, List.set_cons_succ]
        refine wpAnyH_take (i := 6) (v := ?_) (by rw [List.getElem?_toArray]; rfl) (by kernel_rfl) (by kernel_rfl) (by kernel_rfl) (fun _ _ _ h => h) (Or.inl ⟨by rfl, ?hy6⟩) (by assumption) ?rest6
        case hy6 => (intro w hSw; (try dsimp only at hSw); go_simp; (try with_reducible rfl))
        try simp only [Act.put, List.setIfInBounds_toArray, List.set_cons_zero, List.set_cons_succ]
        refine wpAnyH_take (i := 7) (v := ?_) (by rw [List.getElem?_toArray]; rfl) (by kernel_rfl) (by kernel_rfl) (by kernel_rfl) (fun _ _ _ h => h) (Or.inl ⟨by rfl, ?hy7⟩) (by assumption) ?rest7
        case hy7 => (intro w hSw; (try dsimp only at hSw); go_simp; (try with_reducible rfl))
        try simp only [Act.put, List.setIfInBounds_toArray, List.set_cons_zero, List.set_cons_succ]
        refine wpAnyH_take (i := 8) (v := ?_) (by rw [List.getElem?_toArray]; rfl) (by kernel_rfl) (by kernel_rfl) (by kernel_rfl) (fun _ _ _ h => h) (Or.inl ⟨by rfl, ?hy8⟩) (by assumption) ?rest8
        case hy8 => (intro w hSw; (try dsimp only at hSw); go_simp; (try with_reducible rfl))
        try simp only [Act.put, List.setIfInBounds_toArray, List.set_cons_zero, List.set_cons_succ]
        refine wpAnyH_take (i := 9) (v := ?_) (by rw [List.getElem?_toArray]; rfl) (by kernel_rfl) (by kernel_rfl) (by kernel_rfl) (fun _ _ _ h => h) (Or.inl ⟨by rfl, ?hy9⟩) (by assumption) ?rest9
        case hy9 => (intro w hSw; (try dsimp only at hSw); go_simp; (try with_reducible rfl))
        try simp only [Act.put, List.setIfInBounds_toArray, List.set_cons_zero, List.set_cons_succ]
        refine wpAnyH_take (i := 13) (v := ?_) (by rw [List.getElem?_toArray]; rfl) (by kernel_rfl) (by kernel_rfl) (by kernel_rfl) (fun _ _ _ h => h) (Or.inl ⟨by rfl, ?hy13⟩) (by assumption) ?rest13
        case hy13 => (intro w hSw; (try dsimp only at hSw); go_simp; (try with_reducible rfl))
        try simp only [Act.put, List.setIfInBounds_toArray, List.set_cons_zero, List.set_cons_succ]
        refine wpAnyH_take (i := 14) (v := ?_) (by rw [List.getElem?_toArray]; rfl) (by kernel_rfl) (by kernel_rfl) (by kernel_rfl) (fun _ _ _ h => h) (Or.inl ⟨by rfl, ?hy14⟩) (by assumption) ?rest14
        case hy14 => (intro w hSw; (try dsimp only at hSw); go_simp; (try with_reducible rfl))
        try simp only [Act.put, List.setIfInBounds_toArray, List.set_cons_zero, List.set_cons_succ]
        refine wpAnyH_take (i := 19) (v := ?_) (by rw [List.getElem?_toArray]; rfl) (by kernel_rfl) (by kernel_rfl) (by kernel_rfl) (fun _ _ _ h => h) (Or.inl ⟨by rfl, ?hy19⟩) (by assumption) ?rest19
        case hy19 => (intro w hSw; (try dsimp only at hSw); go_simp; (try with_reducible rfl))
        try simp only [Act.put, List.setIfInBounds_toArray, List.set_cons_zero, List.set_cons_succ]
        refine wpAnyH_take (i := 20) (v := ?_) (by rw [List.getElem?_toArray]; rfl) (by kernel_rfl) (by kernel_rfl) (by kernel_rfl) (fun _ _ _ h => h) (Or.inl ⟨by rfl, ?hy20⟩) (by assumption) ?rest20
        case hy20 => (intro w hSw; (try dsimp only at hSw); go_simp; (try with_reducible rfl))
        try simp only [Act.put, List.setIfInBounds_toArray, List.set_cons_zero, List.set_cons_succ]
        obtain ⟨cA, hcA⟩ : ∃ c, c = crcOf 0 (nats (ra.take j)) := ⟨_, rfl⟩
        obtain ⟨cB, hcB⟩ : ∃ c, c = crcOf 0 (nats (rb.take j)) := ⟨_, rfl⟩
        obtain ⟨cZ, hcZ⟩ : ∃ c, c = crcOf 0 (nats (List.replicate j 0)) := ⟨_, rfl⟩
        obtain ⟨cC, hcC⟩ : ∃ c, c = crcOf 0 (nats (upTo ra rb j j)) := ⟨_, rfl⟩
        have hsum : cA ^^^ cB ^^^ cZ = cC := by
          rw [hcA, hcB, hcZ, hcC, zeros_nats, upTo_sum _ _ _ (by have := HLA.out; omega) (by have := HLB.out; omega)]
          exact crc_sums j _ _ (by simp [nats]; have := HLA.out; omega) (by simp [nats]; have := HLB.out; omega) (nats_lt (HA.out.take j)) (nats_lt (HB.out.take j))
        have hlA : cA < 4294967296 := by rw [hcA]; exact crcOf_lt _ _
        have hlB : cB < 4294967296 := by rw [hcB]; exact crcOf_lt _ _
        have hlZ : cZ < 4294967296 := by rw [hcZ]; exact crcOf_lt _ _
        have hx12 := u32_xor_nat cA cB hlA hlB
        have hx18 := u32_xor_nat (cA ^^^ cB) cZ (Nat.xor_lt_two_pow (n := 32) hlA hlB) hlZ
        rw [hsum] at hx18
        have HcA := Lib.hid hcA; have HcB := Lib.hid hcB; have HcZ := Lib.hid hcZ; have HcC := Lib.hid hcC
        have HX12 := Lib.hid hx12; have HX18 := Lib.hid hx18
        clear hcA hcB hcZ hcC hsum hlA hlB hlZ hx12 hx18
        refine wpAnyH_put slS [4, 5, 10, 11, 12, 15, 16, 17, 18, 21, 22, 23, 24, 25, 26, 27] depsS (fun i => (kindS (.slice ao j ca) (.slice bo j cb) (.slice (some ⟨C, 0, none⟩) j j) j cA cB cZ cC i).holds) (Kept NoB)
          (fun i v w w' => VK.mono _ v w w') (fun _ _ h k => h.trans k) hHeld (by kernel_rfl) (by kernel_rfl) ?hstep ?hend
        case hend =>
          intro vs wf hSf hall
          have e : vs 27 = .bool true := hall 27 (by simp)
          simp only [puts, slS, Nat.reduceEqDiff, if_true, if_false, ↓reduceIte, Nat.reduceAdd, Act.put, List.setIfInBounds_toArray, List.set_cons_zero, List.set_cons_succ]
          generalize vs 27 = v27 at e ⊢
          subst e
          have hfin := Kept.belowNo (HK.out.trans hSf) HB1.out
          refine NoPanic.normal ?_
          go_wp2
          go_ret
          exact ⟨rfl, hfin⟩
        case hstep =>
          simp only [puts, slS, Nat.reduceEqDiff, if_true, if_false, ↓reduceIte, Nat.reduceAdd, Act.put, List.setIfInBounds_toArray, List.set_cons_zero, List.set_cons_succ]
          intro iW hiW vs ws hSs hd
          have HRc : Hid (Reads wr (some ⟨C, 0, none⟩) (upTo ra rb j j)) := own_reads (n := j) (cap := j) (by rw [upTo_len]; exact HO.out) (upTo_len _ _ _ _).symm
          clear hHeld
          simp only [List.mem_cons, List.not_mem_nil, or_false] at hiW
          rcases hiW with rfl | rfl | rfl | rfl | rfl | rfl | rfl | rfl | rfl | rfl | rfl | rfl | rfl | rfl | rfl | rfl
          · refine ⟨_, by rw [List.getElem?_toArray]; rfl, fun K hK => ?_⟩
            simp only [Act.put, List.setIfInBounds_toArray, List.set_cons_zero, List.set_cons_succ] at hK
            go_simp
            exact hK.out _ _ ((Kept.refl _ _).alloc _) ⟨_, rfl, cell_new 0 rfl⟩
          · refine ⟨_, by rw [List.getElem?_toArray]; rfl, fun K hK => ?_⟩
            simp only [Act.put, List.setIfInBounds_toArray, List.set_cons_zero, List.set_cons_succ] at hK
            obtain ⟨k, e4, hc⟩ := hd 4 (by simp [depsS])
            generalize vs 4 = v4 at e4 hK ⊢
            subst e4
            go_simp
            go_at_call 40
            refine (sum_one (ra.take j) (HTr.out.keptNo hSs) hc (by rw [List.length_take]; have := HLA.out; omega) (reads_takeA j (HRr1.out.keptNo hSs)) (HA.out.take j) (by omega) (by unfold maxLen; omega) HA0.out).mono ?_
            rintro e wn ⟨rfl, hkn⟩
            go_wp2_with fail
            exact hK.out _ _ hkn (by show _ = _; rw [HcA.out])
          · refine ⟨_, by rw [List.getElem?_toArray]; rfl, fun K hK => ?_⟩
            simp only [Act.put, List.setIfInBounds_toArray, List.set_cons_zero, List.set_cons_succ] at hK
            go_simp
            exact hK.out _ _ ((Kept.refl _ _).alloc _) ⟨_, rfl, cell_new 0 rfl⟩
          · refine ⟨_, by rw [List.getElem?_toArray]; rfl, fun K hK => ?_⟩
            simp only [Act.put, List.setIfInBounds_toArray, List.set_cons_zero, List.set_cons_succ] at hK
            obtain ⟨k, e10, hc⟩ := hd 10 (by simp [depsS])
            generalize vs 10 = v10 at e10 hK ⊢
            subst e10
            go_simp
            go_at_call 40
            refine (sum_one (rb.take j) (HTr.out.keptNo hSs) hc (by rw [List.length_take]; have := HLB.out; omega) (reads_takeA j (HRr2.out.keptNo hSs)) (HB.out.take j) (by omega) (by unfold maxLen; omega) HB0.out).mono ?_
            rintro e wn ⟨rfl, hkn⟩
            go_wp2_with fail
            exact hK.out _ _ hkn (by show _ = _; rw [HcB.out])
          · refine ⟨_, by rw [List.getElem?_toArray]; rfl, fun K hK => ?_⟩
            simp only [Act.put, List.setIfInBounds_toArray, List.set_cons_zero, List.set_cons_succ] at hK
            have e5 : vs 5 = _ := hd 5 (by simp [depsS])
            generalize vs 5 = v5 at e5 hK ⊢
            subst e5
            have e11 : vs 11 = _ := hd 11 (by simp [depsS])
            generalize vs 11 = v11 at e11 hK ⊢
            subst e11
            have hxx := HX12.out
            go_simp
            exact hK.out _ _ (Kept.refl _ _) (by show _ = _; first | rfl | simp)
          · refine ⟨_, by rw [List.getElem?_toArray]; rfl, fun K hK => ?_⟩
            simp only [Act.put, List.setIfInBounds_toArray, List.set_cons_zero, List.set_cons_succ] at hK
            obtain ⟨wm, hrun, hown, hgrow⟩ := run_make_full (P := Try.prog) (w := ws) 0 22 5 i0 (.int .u8 0) 1 Try.underlying22 hi hz0 hz1 .i64 .i64 j (by rw [hz2]; omega) (by unfold maxLen; omega) (Nat.zero_le _)
            have hrd : Reads wm (some ⟨ws.heap.size, 0, none⟩) (List.replicate j 0) := by
              refine own_reads (cap := j) (n := j) ?_ (by simp)
              rw [List.length_replicate, List.map_replicate, ← toList_madeCells_one]
              rw [Nat.mul_one] at hown
              exact hown
            have hkm : Kept NoB ws wm := (Kept.refl NoB ws).grown hgrow (fun _ _ e => by cases e)
            clear hown hgrow
            go_simp
            exact hK.out _ _ hkm ⟨_, rfl, hrd⟩
          · refine ⟨_, by rw [List.getElem?_toArray]; rfl, fun K hK => ?_⟩
            simp only [Act.put, List.setIfInBounds_toArray, List.set_cons_zero, List.set_cons_succ] at hK
            obtain ⟨g, e15, hr⟩ := hd 15 (by simp [depsS])
            generalize vs 15 = v15 at e15 hK ⊢
            subst e15
            go_simp
            exact hK.out _ _ ((Kept.refl _ _).alloc _) ⟨_, g, rfl, cell_new 0 rfl, hr.keptNo ((Kept.refl _ _).alloc _)⟩
          · refine ⟨_, by rw [List.getElem?_toArray]; rfl, fun K hK => ?_⟩
            simp only [Act.put, List.setIfInBounds_toArray, List.set_cons_zero, List.set_cons_succ] at hK
            obtain ⟨k, g, e16, hc, hr⟩ := hd 16 (by simp [depsS])
            generalize vs 16 = v16 at e16 hK ⊢
            subst e16
            go_simp
            go_at_call 40
            refine (sum_one (List.replicate j 0) (HTr.out.keptNo hSs) hc (by simp) hr (by intro y hy; rw [(List.mem_replicate.1 hy).2]; decide) (Nat.le_refl _) (by unfold maxLen; omega) (fun h => by cases h)).mono ?_
            rintro e wn ⟨rfl, hkn⟩
            go_wp2_with fail
            exact hK.out _ _ hkn (by show _ = _; rw [HcZ.out])
          · refine ⟨_, by rw [List.getElem?_toArray]; rfl, fun K hK => ?_⟩
            simp only [Act.put, List.setIfInBounds_toArray, List.set_cons_zero, List.set_cons_succ] at hK
            have e12 : vs 12 = _ := hd 12 (by simp [depsS])
            generalize vs 12 = v12 at e12 hK ⊢
            subst e12
            have e17 : vs 17 = _ := hd 17 (by simp [depsS])
            generalize vs 17 = v17 at e17 hK ⊢
            subst e17
            have hxx := HX18.out
            go_simp
            exact hK.out _ _ (Kept.refl _ _) (by show _ = _; first | rfl | simp)
          · refine ⟨_, by rw [List.getElem?_toArray]; rfl, fun K hK => ?_⟩
            simp only [Act.put, List.setIfInBounds_toArray, List.set_cons_zero, List.set_cons_succ] at hK
            go_simp
            exact hK.out _ _ ((Kept.refl _ _).alloc _) ⟨_, rfl, cell_new 0 rfl⟩
          · refine ⟨_, by rw [List.getElem?_toArray]; rfl, fun K hK => ?_⟩
            simp only [Act.put, List.setIfInBounds_toArray, List.set_cons_zero, List.set_cons_succ] at hK
            obtain ⟨k, e21, hc⟩ := hd 21 (by simp [depsS])
            generalize vs 21 = v21 at e21 hK ⊢
            subst e21
            go_simp
            go_at_call 40
            refine (sum_one (upTo ra rb j j) (HTr.out.keptNo hSs) hc (upTo_len _ _ _ _) (HRc.out.keptNo hSs) (upTo_all _ _ HA.out HB.out _ _) (Nat.le_refl _) (by unfold maxLen; omega) (fun h => by cases h)).mono ?_
            rintro e wn ⟨rfl, hkn⟩
            go_wp2_with fail
            exact hK.out _ _ hkn (by show _ = _; rw [HcC.out])
          · refine ⟨_, by rw [List.getElem?_toArray]; rfl, fun K hK => ?_⟩
            simp only [Act.put, List.setIfInBounds_toArray, List.set_cons_zero, List.set_cons_succ] at hK
            have e18 : vs 18 = _ := hd 18 (by simp [depsS])
            generalize vs 18 = v18 at e18 hK ⊢
            subst e18
            have e22 : vs 22 = _ := hd 22 (by simp [depsS])
            generalize vs 22 = v22 at e22 hK ⊢
            subst e22
            go_simp
            exact hK.out _ _ (Kept.refl _ _) (by show _ = _; first | rfl | simp)
          · refine ⟨_, by rw [List.getElem?_toArray]; rfl, fun K hK => ?_⟩
            simp only [Act.put, List.setIfInBounds_toArray, List.set_cons_zero, List.set_cons_succ] at hK
            have e23 : vs 23 = _ := hd 23 (by simp [depsS])
            generalize vs 23 = v23 at e23 hK ⊢
            subst e23
            go_simp
            exact hK.out _ _ (Kept.refl _ _) (by show _ = _; first | rfl | simp)
          · refine ⟨_, by rw [List.getElem?_toArray]; rfl, fun K hK => ?_⟩
            simp only [Act.put, List.setIfInBounds_toArray, List.set_cons_zero, List.set_cons_succ] at hK
            have e24 : vs 24 = _ := hd 24 (by simp [depsS])
            generalize vs 24 = v24 at e24 hK ⊢
            subst e24
            go_simp
            go_at_call 39
            refine (awake2 _).mono ?_
            rintro e wn ⟨rfl, hbn⟩
            go_wp2_with fail
            exact hK.out _ _ ((Kept.refl NoB ws).ofBelow hbn) rfl
          · refine ⟨_, by rw [List.getElem?_toArray]; rfl, fun K hK => ?_⟩
            simp only [Act.put, List.setIfInBounds_toArray, List.set_cons_zero, List.set_cons_succ] at hK
            have e24 : vs 24 = _ := hd 24 (by simp [depsS])
            generalize vs 24 = v24 at e24 hK ⊢
            subst e24
            have e25 : vs 25 = _ := hd 25 (by simp [depsS])
            generalize vs 25 = v25 at e25 hK ⊢
            subst e25
            go_simp
            exact hK.out _ _ (Kept.refl _ _) (by show _ = _; first | rfl | simp)
          · refine ⟨_, by rw [List.getElem?_toArray]; rfl, fun K hK => ?_⟩
            simp only [Act.put, List.setIfInBounds_toArray, List.set_cons_zero, List.set_cons_succ] at hK
            have e26 : vs 26 = _ := hd 26 (by simp [depsS])
            generalize vs 26 = v26 at e26 hK ⊢
            subst e26
            go_simp
            exact hK.out _ _ (Kept.refl _ _) (by show _ = _; first | rfl | simp)

theorem crcSums_law (v0 v1 : Value) (w : World) (r0 : Arg w 22 v0) (r1 : Arg w 22 v1) : Calls Try.prog 8 #[v0, v1] w fun e w' => e = .returned (.bool true) ∧ Below w.heap.size w w' := by
  obtain ⟨ao, ca, ra, rfl, hc, hm, hr, hb, h0⟩ := r0.bytes Try.underlying22
  obtain ⟨bo, cb, rb, rfl, hc2, hm2, hr2, hb2, h02⟩ := r1.bytes Try.underlying22
  exact crcSums_walk ao bo ca cb _ _ ra rb w rfl hr hb h0 hc hm rfl hr2 hb2 h02 hc2 hm2
end Go.Proofs.Ytffoigacpnlkgaa
