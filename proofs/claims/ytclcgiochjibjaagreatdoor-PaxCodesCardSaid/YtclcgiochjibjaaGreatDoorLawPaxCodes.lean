/-
  PaxCodes: records that may be have the bytes that the document says, and are read from them; any bytes are records, or none.
-/
import Derived.Test.YtclcgiochjibjaaGreatDoorKvStep
import Derived.Test.YtclcgiochjibjaaGreatDoorRReadP
import Derived.Test.YtclcgiochjibjaaGreatDoorZeros
import Derived.Test.YtclcgiochjibjaaGreatDoorOwnSet
import Derived.Test.YtclcgiochjibjaaGreatDoorMask
namespace Go.Proofs.YtclcgiochjibjaaGreatDoor
open Go.RowKit
set_option linter.unusedVariables false
set_option linter.unusedSimpArgs false

theorem mask31 (n : Int) : bits .and .i64 n 31 = n % 32 := i64_mask n 5 (by decide)
theorem mask1 (n : Int) : bits .and .i64 n 1 = n % 2 := i64_mask n 1 (by decide)

set_option maxRecDepth 100000 in
set_option maxHeartbeats 16000000 in
theorem paxCodes_walk (ao : Option Addr) (n cap : Nat) (rs : List KVb) (bo : Option Addr) (cb : Nat) (bs : List Int) (at0 by0 cut0 edge0 : Int) (w : World) (hby : 0 ≤ by0 ∧ by0 ≤ 255)
    (hn : n = rs.length) (hrd : RdK w w.heap.size ao rs) (hlc : n ≤ cap) (hcm : cap ≤ maxLen) (hnil : ao = none → cap = 0) (hrb : Reads w bo bs) (hbb : AllB bs) (hbn : bo = none → cb = 0) (hbc : bs.length ≤ cb) (hbm : cb ≤ maxLen) (htab : Pow10 w) (herr : ErrVars w) :
    Calls Tryz.prog 3 #[.slice ao n cap, .slice bo bs.length cb, .int .i64 at0, .int .u8 by0, .int .i64 cut0, .int .i64 edge0] w fun e w' => e = .returned (.bool true) ∧ Below w.heap.size w w' := by
  have HT := Lib.hid htab; have HE := Lib.hid herr
  have HSm := Lib.hid (small_any ao n cap rs w hn hrd hlc hcm)
  have HR := Lib.hid hrd; have HRb := Lib.hid hrb; have HBb := Lib.hid hbb; have HBn := Lib.hid hbn; have HNil := Lib.hid hnil
  have hcm2 : n ≤ 9223372036854775807 := by unfold maxLen at hcm; omega
  obtain ⟨bl, hbl⟩ : ∃ bl, bl = bs.length := ⟨_, rfl⟩
  rw [← hbl] at hbc ⊢
  have hbl2 : bl ≤ 9223372036854775807 := by unfold maxLen at hbm; omega
  have HBl := Lib.hid hbl
  have HN := Lib.hid hn
  have HA := Lib.hid (fun W (h : Kept NoB w W) => awake18 W (HT.out.keptNo h) (HE.out.keptNo h))
  clear htab herr hrd hn hrb hbb hbn hbl hnil
  go_enter Tryz.func3, Tryz.ntmps3
  go_wp2_with fail
  refine HSm.out.mono ?_
  rintro e w1 ⟨⟨b, rfl, hb⟩, hw1⟩
  rw [← hw1]
  clear hw1
  cases b with
  | false =>
    go_wp2_with fail
    refine (HA.out _ (Kept.refl _ _)).mono ?_
    rintro e w6 ⟨rfl, hk⟩
    have HK := Lib.hid hk
    clear hk
    go_wp2
    go_ret
    exact ⟨rfl, HK.out.belowNo (Below.refl _ _)⟩
  | true =>
    obtain ⟨h15, h300⟩ := hb rfl
    have H300 := Lib.hid h300
    have hn15 : n ≤ 15 := by have := HN.out; omega
    clear hb h15 h300
    by_cases h500 : (500 : Int) < (bl : Int)
    · go_wp2_with fail
      refine (HA.out _ (Kept.refl _ _)).mono ?_
      rintro e w6 ⟨rfl, hk⟩
      have HK := Lib.hid hk
      clear hk
      go_wp2
      go_ret
      exact ⟨rfl, HK.out.belowNo (Below.refl _ _)⟩
    · obtain ⟨i0, hi, hz0, hz1, hz2⟩ := info_parts info5
      have hm := mask31 edge0
      have hm1 := mask1
      obtain ⟨N, hN⟩ : ∃ N : Nat, 85 + edge0 % 32 + 900 * (edge0 / 32 % 2) = (N : Int) := ⟨(85 + edge0 % 32 + 900 * (edge0 / 32 % 2)).toNat, by omega⟩
      have hN1 : 85 ≤ N ∧ N ≤ 1016 := by omega
      go_wp2_with (at_make; refine wpList_make_full _ rfl _ _ _ rfl 0 5 i0 (.int .u8 0) 1 Tryz.underlying23 hi hz0 hz1 .i64 .i64 _ _ N rfl rfl rfl rfl (by rw [hz2]; omega) (by unfold maxLen; omega) (Nat.zero_le _) ?_)
      intro w2 hown hgrow
      obtain ⟨G, hG⟩ : ∃ G, G = w.heap.size := ⟨_, rfl⟩
      rw [← hG] at hown ⊢
      have hown0 : w2.ownsRow 0 5 1 (.slice (some ⟨G, 0, none⟩) N N) N ((fillI (fun _ => 118) N 0).map (.int .u8)) := by
        rw [fill_zero, List.map_replicate, ← toList_madeCells_one]
        exact hown
      have HO0 := Lib.hid hown0; have HK0 := Lib.hid ((Kept.refl NoB w).grown hgrow (fun _ _ e => by cases e)); have HG := Lib.hid hG
      clear hown hgrow hown0 hG hm hm1 hN
      go_wp2
      go_loopw [48, 14] (fun v48 v14 wr => ∃ j : Nat, v48 = .int .i64 (j : Int) ∧ j ≤ N ∧ Hid (wr.ownsRow 0 5 1 (.slice (some ⟨G, 0, none⟩) N N) N ((fillI (fun _ => 118) N j).map (.int .u8))) ∧ Hid (Kept NoB w wr)) (fun v48 _ _ => N - (intOf v48).toNat)
      case atStart => exact ⟨0, rfl, by omega, HO0, HK0⟩
      case round =>
        obtain ⟨j, rfl, hj, HO, HK⟩ := hrel
        by_cases hlt : (j : Int) < N
        · have hst : (wr.setCell ⟨G, j, none⟩ (.int .u8 118)).ownsRow 0 5 1 (.slice (some ⟨G, 0, none⟩) N N) N ((fillI (fun _ => 118) N (j + 1)).map (.int .u8)) := by
            rw [← fill_set, List.map_set]
            exact (HO.out.stored j (.int .u8 118)).1
          have hkn : Kept NoB w (wr.setCell ⟨G, j, none⟩ (.int .u8 118)) := Kept.setCell (p := ⟨G, j, none⟩) HK.out (.inr (show w.heap.size ≤ G by rw [HG.out]; exact Nat.le_refl _)) _
          have hlr : j < ((fillI (fun _ => 118) N j).map (Value.int .u8)).length := by rw [List.length_map, fill_len]; omega
          have hcz : ∃ u, wr.cell? ⟨G, j, none⟩ = some u := ⟨_, by rw [HO.out.cellAt j (by omega), List.getElem?_eq_getElem hlr]⟩
          obtain ⟨u, hcz⟩ := hcz
          have hfz : wr.frozen? ⟨G, j, none⟩ = false := HO.out.frozenAt _
          have HSt := Lib.hid hst; have HKn := Lib.hid hkn
          clear hst hkn hlr
          go_wp2
          go_roundw
          case rel => exact ⟨j + 1, by go_num, by omega, HSt, HKn⟩
          case measure => simp [intOf]; omega
        · have hjN : j = N := by omega
          subst hjN
          obtain ⟨w5, hw5⟩ : ∃ w5, w5 = wr := ⟨_, rfl⟩
          rw [← hw5] at HO HK ⊢
          have hrdv : Reads w5 (some ⟨G, 0, none⟩) (fillI (fun _ => 118) j j) := own_reads (n := j) (cap := j) (by rw [fill_len]; exact HO.out) (fill_len _ _ _).symm
          obtain ⟨V, hV⟩ : ∃ V, V = strB (List.replicate j 118) := ⟨_, rfl⟩
          have hcv : ∀ W, Kept NoB w5 W → (convert 23 9 (.slice (some ⟨G, 0, none⟩) j j)).run Tryz.prog W = .ok (.string V) W := fun W hW => by
            rw [conv_reads (hrdv.keptNo hW) (n := j) (cap := j) (fill_len _ _ _).symm (fun h => by cases h), hV]
            exact congrArg (fun x => Result.ok (Value.string x) W) (fill_const 118 j)
          have HV := Lib.hid hV
          clear hw5 hrdv hV HO hlt
          go_upto_region 9 with fail
          go_cut [0] from 55 to 62 (fun v0 wx => ∃ (a : Option Addr) (c : Nat), v0 = .slice a (n + 1) c ∧ Hid (KvSt w5 wx a (n + 1) c (rs ++ [edgeR j])))
          case first =>
            cases ao with
            | none =>
              have hrs : rs = [] := kv_none (cap := 0) HR.out
              have hn0 : n = 0 := by rw [HN.out, hrs]; rfl
              have hc0 : cap = 0 := HNil.out rfl
              subst hrs hn0 hc0
              go_wp2_with fail
              refine wp_region_noPanic ?_
              refine wp_region_held_drew (S := fun W => Kept NoB w5 W) (by kernel_rfl) (Kept.drew (Kept.refl _ _)) (fun hHeld => ?_)
              obtain ⟨w5d, hw5d⟩ : ∃ x, x = w5.drew := ⟨_, rfl⟩
              rw [← hw5d] at hHeld ⊢
              clear hw5d
              refine wpAnyH_take (i := 1) (v := ?_) (by rw [List.getElem?_toArray]; rfl) (by kernel_rfl) (by kernel_rfl) (by kernel_rfl) (fun _ _ _ h => h) (Or.inl ⟨by rfl, ?hyq4_1⟩) (by assumption) ?restq4_1
              case hyq4_1 => (intro w hSw; (try dsimp only at hSw); go_simp; (try with_reducible rfl))
              try simp only [Act.put, List.setIfInBounds_toArray, List.set_cons_zero, List.set_cons_succ]
              refine wpAnyH_take (i := 3) (v := ?_) (by rw [List.getElem?_toArray]; rfl) (by kernel_rfl) (by kernel_rfl) (by kernel_rfl) (fun _ _ _ h => h) (Or.inl ⟨by rfl, ?hyq5_3⟩) (by assumption) ?restq5_3
              case hyq5_3 => (intro w hSw; (try dsimp only at hSw); go_simp; (try with_reducible rfl))
              try simp only [Act.put, List.setIfInBounds_toArray, List.set_cons_zero, List.set_cons_succ]
              refine wpAnyH_take (i := 4) (v := ?_) (by rw [List.getElem?_toArray]; rfl) (by kernel_rfl) (by kernel_rfl) (by kernel_rfl) (fun _ _ _ h => h) (Or.inl ⟨by rfl, ?hyq6_4⟩) (by assumption) ?restq6_4
              case hyq6_4 => (intro w hSw; (try dsimp only at hSw); go_simp; (try with_reducible rfl))
              try simp only [Act.put, List.setIfInBounds_toArray, List.set_cons_zero, List.set_cons_succ]
              refine wpAnyH_take (i := 5) (v := ?_) (by rw [List.getElem?_toArray]; rfl) (by kernel_rfl) (by kernel_rfl) (by kernel_rfl) (fun _ _ _ h => h) (Or.inl ⟨by rfl, ?hyq7_5⟩) (by assumption) ?restq7_5
              case hyq7_5 => (intro w hSw; (try dsimp only at hSw); go_simp; (try with_reducible rfl))
              try simp only [Act.put, List.setIfInBounds_toArray, List.set_cons_zero, List.set_cons_succ]
              refine wpAnyH_ready (rs := [0, 6]) (by kernel_rfl) (by simp) ?_
              refine AllReadyH.cons (by rw [List.getElem?_toArray]; rfl) (fun K hK => ?_) (AllReadyH.cons (by rw [List.getElem?_toArray]; rfl) (fun K hK => ?_) AllReadyH.nil)
              · go_simp
                have hP := hHeld
                refine hK.out _ _ (hHeld.alloc _) (fun hHeld => ?_)
                clear hK K
                try simp only [Act.put, List.setIfInBounds_toArray, List.set_cons_zero, List.set_cons_succ]
                have hE : KvSt w5 (w5d.alloc (.cells #[] 28)) (some ⟨w5d.heap.size, 0, none⟩) 0 0 [] := kv_empty hP _ rfl
                obtain ⟨w5a, hww5a⟩ : ∃ w', w' = w5d.alloc (.cells #[] 28) := ⟨_, rfl⟩
                have HZw5a : Hid (w5a.heap.size = w5d.heap.size + 1) := Lib.hid (by rw [hww5a]; simp)
                rw [← hww5a] at hE hHeld ⊢
                have HWw5a := Lib.hid hww5a
                clear hP hww5a
                refine wpAnyH_ready (rs := [2, 6]) (by kernel_rfl) (by simp) ?_
                refine AllReadyH.cons (by rw [List.getElem?_toArray]; rfl) (fun K hK => ?_) (AllReadyH.cons (by rw [List.getElem?_toArray]; rfl) (fun K hK => ?_) AllReadyH.nil)
                · refine step_kvs_none rfl (.tmp 55) (.tmp 56) rfl hE rfl rfl ?_
                  have h2 := hE
                  refine hK.out _ _ h2.kept (fun hHeld => ?_)
                  clear hK K
                  try simp only [Act.put, List.setIfInBounds_toArray, List.set_cons_zero, List.set_cons_succ]
                  refine wpAnyH_ready (rs := [6]) (by kernel_rfl) (by simp) ?_
                  refine AllReadyH.cons (by rw [List.getElem?_toArray]; rfl) (fun K hK => ?_) AllReadyH.nil
                  go_simp
                  have hP := hHeld
                  refine hK.out _ _ (hHeld.alloc _) (fun hHeld => ?_)
                  clear hK K
                  try simp only [Act.put, List.setIfInBounds_toArray, List.set_cons_zero, List.set_cons_succ]
                  have hX : RdK (w5a.alloc (.cells #[.string ⟨#[101, 100, 103, 101]⟩, .string V] 28)) (w5a.heap.size + 1) (some ⟨w5a.heap.size, 0, none⟩) [edgeR j] := rdk_one (edgeR j) (by omega) (cell_new 0 rfl) (by rw [show (edgeR j).2 = List.replicate j 118 from rfl, ← HV.out]; exact cell_new 1 rfl)
                  have h2 := h2.on ((Kept.refl NoB _).alloc (.cells #[.string ⟨#[101, 100, 103, 101]⟩, .string V] 28))
                  obtain ⟨w6x, hww6x⟩ : ∃ w', w' = w5a.alloc (.cells #[.string ⟨#[101, 100, 103, 101]⟩, .string V] 28) := ⟨_, rfl⟩
                  have HZw6x : Hid (w6x.heap.size = w5a.heap.size + 1) := Lib.hid (by rw [hww6x]; simp)
                  rw [← hww6x] at hX hHeld ⊢
                  rw [← hww6x] at h2
                  clear hP hww6x
                  refine wpAnyH_ready (rs := [7]) (by kernel_rfl) (by simp) ?_
                  refine AllReadyH.cons (by rw [List.getElem?_toArray]; rfl) (fun K hK => ?_) AllReadyH.nil
                  refine step_kvs rfl (.tmp 57) (.tmp 61) rfl h2 rfl ⟨w5a.heap.size, 0, none⟩ 1 1 _ [edgeR j] rfl rfl hX (by omega) ?_
                  intro a7 c7 w7 h7 hk7
                  refine hK.out _ _ h7.kept (fun hHeld => ?_)
                  clear hK K
                  try simp only [Act.put, List.setIfInBounds_toArray, List.set_cons_zero, List.set_cons_succ]
                  refine wpAnyH_take (i := 8) (v := ?_) (by rw [List.getElem?_toArray]; rfl) (by kernel_rfl) (by kernel_rfl) (by kernel_rfl) (fun _ _ _ h => h) (Or.inl ⟨by rfl, ?hyq1_8⟩) (by assumption) ?restq1_8
                  case hyq1_8 => (intro w hSw; (try dsimp only at hSw); go_simp; (try with_reducible rfl))
                  try simp only [Act.put, List.setIfInBounds_toArray, List.set_cons_zero, List.set_cons_succ]
                  refine wpAnyH_done (by kernel_rfl) ?_ _
                  refine NoPanic.normal ?_
                  go_wp2
                  go_meet
                  exact ⟨a7, c7, by first | rfl | simp, Lib.hid (h7.re (by omega) (by simp))⟩
                · go_simp
                  have hP := hHeld
                  refine hK.out _ _ (hHeld.alloc _) (fun hHeld => ?_)
                  clear hK K
                  try simp only [Act.put, List.setIfInBounds_toArray, List.set_cons_zero, List.set_cons_succ]
                  have hX : RdK (w5a.alloc (.cells #[.string ⟨#[101, 100, 103, 101]⟩, .string V] 28)) (w5a.heap.size + 1) (some ⟨w5a.heap.size, 0, none⟩) [edgeR j] := rdk_one (edgeR j) (by omega) (cell_new 0 rfl) (by rw [show (edgeR j).2 = List.replicate j 118 from rfl, ← HV.out]; exact cell_new 1 rfl)
                  have hE := hE.on ((Kept.refl NoB _).alloc (.cells #[.string ⟨#[101, 100, 103, 101]⟩, .string V] 28))
                  obtain ⟨w6x, hww6x⟩ : ∃ w', w' = w5a.alloc (.cells #[.string ⟨#[101, 100, 103, 101]⟩, .string V] 28) := ⟨_, rfl⟩
                  have HZw6x : Hid (w6x.heap.size = w5a.heap.size + 1) := Lib.hid (by rw [hww6x]; simp)
                  rw [← hww6x] at hX hHeld ⊢
                  rw [← hww6x] at hE
                  clear hP hww6x
                  refine wpAnyH_ready (rs := [2]) (by kernel_rfl) (by simp) ?_
                  refine AllReadyH.cons (by rw [List.getElem?_toArray]; rfl) (fun K hK => ?_) AllReadyH.nil
                  refine step_kvs_none rfl (.tmp 55) (.tmp 56) rfl hE rfl rfl ?_
                  have h2 := hE
                  refine hK.out _ _ h2.kept (fun hHeld => ?_)
                  clear hK K
                  try simp only [Act.put, List.setIfInBounds_toArray, List.set_cons_zero, List.set_cons_succ]
                  refine wpAnyH_ready (rs := [7]) (by kernel_rfl) (by simp) ?_
                  refine AllReadyH.cons (by rw [List.getElem?_toArray]; rfl) (fun K hK => ?_) AllReadyH.nil
                  refine step_kvs rfl (.tmp 57) (.tmp 61) rfl h2 rfl ⟨w5a.heap.size, 0, none⟩ 1 1 _ [edgeR j] rfl rfl hX (by omega) ?_
                  intro a7 c7 w7 h7 hk7
                  refine hK.out _ _ h7.kept (fun hHeld => ?_)
                  clear hK K
                  try simp only [Act.put, List.setIfInBounds_toArray, List.set_cons_zero, List.set_cons_succ]
                  refine wpAnyH_take (i := 8) (v := ?_) (by rw [List.getElem?_toArray]; rfl) (by kernel_rfl) (by kernel_rfl) (by kernel_rfl) (fun _ _ _ h => h) (Or.inl ⟨by rfl, ?hyq2_8⟩) (by assumption) ?restq2_8
                  case hyq2_8 => (intro w hSw; (try dsimp only at hSw); go_simp; (try with_reducible rfl))
                  try simp only [Act.put, List.setIfInBounds_toArray, List.set_cons_zero, List.set_cons_succ]
                  refine wpAnyH_done (by kernel_rfl) ?_ _
                  refine NoPanic.normal ?_
                  go_wp2
                  go_meet
                  exact ⟨a7, c7, by first | rfl | simp, Lib.hid (h7.re (by omega) (by simp))⟩
              · go_simp
                have hP := hHeld
                refine hK.out _ _ (hHeld.alloc _) (fun hHeld => ?_)
                clear hK K
                try simp only [Act.put, List.setIfInBounds_toArray, List.set_cons_zero, List.set_cons_succ]
                have hX : RdK (w5d.alloc (.cells #[.string ⟨#[101, 100, 103, 101]⟩, .string V] 28)) (w5d.heap.size + 1) (some ⟨w5d.heap.size, 0, none⟩) [edgeR j] := rdk_one (edgeR j) (by omega) (cell_new 0 rfl) (by rw [show (edgeR j).2 = List.replicate j 118 from rfl, ← HV.out]; exact cell_new 1 rfl)
                obtain ⟨w6x, hww6x⟩ : ∃ w', w' = w5d.alloc (.cells #[.string ⟨#[101, 100, 103, 101]⟩, .string V] 28) := ⟨_, rfl⟩
                have HZw6x : Hid (w6x.heap.size = w5d.heap.size + 1) := Lib.hid (by rw [hww6x]; simp)
                rw [← hww6x] at hX hHeld ⊢
                clear hP hww6x
                refine wpAnyH_ready (rs := [0]) (by kernel_rfl) (by simp) ?_
                refine AllReadyH.cons (by rw [List.getElem?_toArray]; rfl) (fun K hK => ?_) AllReadyH.nil
                go_simp
                have hP := hHeld
                refine hK.out _ _ (hHeld.alloc _) (fun hHeld => ?_)
                clear hK K
                try simp only [Act.put, List.setIfInBounds_toArray, List.set_cons_zero, List.set_cons_succ]
                have hE : KvSt w5 (w6x.alloc (.cells #[] 28)) (some ⟨w6x.heap.size, 0, none⟩) 0 0 [] := kv_empty hP _ rfl
                obtain ⟨w5a, hww5a⟩ : ∃ w', w' = w6x.alloc (.cells #[] 28) := ⟨_, rfl⟩
                have HZw5a : Hid (w5a.heap.size = w6x.heap.size + 1) := Lib.hid (by rw [hww5a]; simp)
                rw [← hww5a] at hE hHeld ⊢
                have HWw5a := Lib.hid hww5a
                clear hP hww5a
                have hX := (hX.kept (by rw [HWw5a.out]; exact (Kept.refl NoB _).alloc _ : Kept NoB w6x w5a))
                refine wpAnyH_ready (rs := [2]) (by kernel_rfl) (by simp) ?_
                refine AllReadyH.cons (by rw [List.getElem?_toArray]; rfl) (fun K hK => ?_) AllReadyH.nil
                refine step_kvs_none rfl (.tmp 55) (.tmp 56) rfl hE rfl rfl ?_
                have h2 := hE
                refine hK.out _ _ h2.kept (fun hHeld => ?_)
                clear hK K
                try simp only [Act.put, List.setIfInBounds_toArray, List.set_cons_zero, List.set_cons_succ]
                refine wpAnyH_ready (rs := [7]) (by kernel_rfl) (by simp) ?_
                refine AllReadyH.cons (by rw [List.getElem?_toArray]; rfl) (fun K hK => ?_) AllReadyH.nil
                refine step_kvs rfl (.tmp 57) (.tmp 61) rfl h2 rfl ⟨w5d.heap.size, 0, none⟩ 1 1 _ [edgeR j] rfl rfl hX (by omega) ?_
                intro a7 c7 w7 h7 hk7
                refine hK.out _ _ h7.kept (fun hHeld => ?_)
                clear hK K
                try simp only [Act.put, List.setIfInBounds_toArray, List.set_cons_zero, List.set_cons_succ]
                refine wpAnyH_take (i := 8) (v := ?_) (by rw [List.getElem?_toArray]; rfl) (by kernel_rfl) (by kernel_rfl) (by kernel_rfl) (fun _ _ _ h => h) (Or.inl ⟨by rfl, ?hyq3_8⟩) (by assumption) ?restq3_8
                case hyq3_8 => (intro w hSw; (try dsimp only at hSw); go_simp; (try with_reducible rfl))
                try simp only [Act.put, List.setIfInBounds_toArray, List.set_cons_zero, List.set_cons_succ]
                refine wpAnyH_done (by kernel_rfl) ?_ _
                refine NoPanic.normal ?_
                go_wp2
                go_meet
                exact ⟨a7, c7, by first | rfl | simp, Lib.hid (h7.re (by omega) (by simp))⟩
            | some ad =>
              go_wp2_with fail
              refine wp_region_noPanic ?_
              refine wp_region_held_drew (S := fun W => Kept NoB w5 W) (by kernel_rfl) (Kept.drew (Kept.refl _ _)) (fun hHeld => ?_)
              obtain ⟨w5d, hw5d⟩ : ∃ x, x = w5.drew := ⟨_, rfl⟩
              rw [← hw5d] at hHeld ⊢
              clear hw5d
              refine wpAnyH_take (i := 1) (v := ?_) (by rw [List.getElem?_toArray]; rfl) (by kernel_rfl) (by kernel_rfl) (by kernel_rfl) (fun _ _ _ h => h) (Or.inl ⟨by rfl, ?hyq11_1⟩) (by assumption) ?restq11_1
              case hyq11_1 => (intro w hSw; (try dsimp only at hSw); go_simp; (try with_reducible rfl))
              try simp only [Act.put, List.setIfInBounds_toArray, List.set_cons_zero, List.set_cons_succ]
              refine wpAnyH_take (i := 3) (v := ?_) (by rw [List.getElem?_toArray]; rfl) (by kernel_rfl) (by kernel_rfl) (by kernel_rfl) (fun _ _ _ h => h) (Or.inl ⟨by rfl, ?hyq12_3⟩) (by assumption) ?restq12_3
              case hyq12_3 => (intro w hSw; (try dsimp only at hSw); go_simp; (try with_reducible rfl))
              try simp only [Act.put, List.setIfInBounds_toArray, List.set_cons_zero, List.set_cons_succ]
              refine wpAnyH_take (i := 4) (v := ?_) (by rw [List.getElem?_toArray]; rfl) (by kernel_rfl) (by kernel_rfl) (by kernel_rfl) (fun _ _ _ h => h) (Or.inl ⟨by rfl, ?hyq13_4⟩) (by assumption) ?restq13_4
              case hyq13_4 => (intro w hSw; (try dsimp only at hSw); go_simp; (try with_reducible rfl))
              try simp only [Act.put, List.setIfInBounds_toArray, List.set_cons_zero, List.set_cons_succ]
              refine wpAnyH_take (i := 5) (v := ?_) (by rw [List.getElem?_toArray]; rfl) (by kernel_rfl) (by kernel_rfl) (by kernel_rfl) (fun _ _ _ h => h) (Or.inl ⟨by rfl, ?hyq14_5⟩) (by assumption) ?restq14_5
              case hyq14_5 => (intro w hSw; (try dsimp only at hSw); go_simp; (try with_reducible rfl))
              try simp only [Act.put, List.setIfInBounds_toArray, List.set_cons_zero, List.set_cons_succ]
              refine wpAnyH_ready (rs := [0, 6]) (by kernel_rfl) (by simp) ?_
              refine AllReadyH.cons (by rw [List.getElem?_toArray]; rfl) (fun K hK => ?_) (AllReadyH.cons (by rw [List.getElem?_toArray]; rfl) (fun K hK => ?_) AllReadyH.nil)
              · go_simp
                have hP := hHeld
                refine hK.out _ _ (hHeld.alloc _) (fun hHeld => ?_)
                clear hK K
                try simp only [Act.put, List.setIfInBounds_toArray, List.set_cons_zero, List.set_cons_succ]
                have hE : KvSt w5 (w5d.alloc (.cells #[] 28)) (some ⟨w5d.heap.size, 0, none⟩) 0 0 [] := kv_empty hP _ rfl
                obtain ⟨w5a, hww5a⟩ : ∃ w', w' = w5d.alloc (.cells #[] 28) := ⟨_, rfl⟩
                have HZw5a : Hid (w5a.heap.size = w5d.heap.size + 1) := Lib.hid (by rw [hww5a]; simp)
                rw [← hww5a] at hE hHeld ⊢
                have HWw5a := Lib.hid hww5a
                clear hP hww5a
                refine wpAnyH_ready (rs := [2, 6]) (by kernel_rfl) (by simp) ?_
                refine AllReadyH.cons (by rw [List.getElem?_toArray]; rfl) (fun K hK => ?_) (AllReadyH.cons (by rw [List.getElem?_toArray]; rfl) (fun K hK => ?_) AllReadyH.nil)
                · refine step_kvs rfl (.tmp 55) (.tmp 56) rfl hE rfl ad n cap w.heap.size rs rfl HN.out.symm (HR.out.kept (HK.out.trans hHeld)) (by omega) ?_
                  intro a2 c2 w2x h2 hk2
                  refine hK.out _ _ h2.kept (fun hHeld => ?_)
                  clear hK K
                  try simp only [Act.put, List.setIfInBounds_toArray, List.set_cons_zero, List.set_cons_succ]
                  refine wpAnyH_ready (rs := [6]) (by kernel_rfl) (by simp) ?_
                  refine AllReadyH.cons (by rw [List.getElem?_toArray]; rfl) (fun K hK => ?_) AllReadyH.nil
                  go_simp
                  have hP := hHeld
                  refine hK.out _ _ (hHeld.alloc _) (fun hHeld => ?_)
                  clear hK K
                  try simp only [Act.put, List.setIfInBounds_toArray, List.set_cons_zero, List.set_cons_succ]
                  have hX : RdK (w2x.alloc (.cells #[.string ⟨#[101, 100, 103, 101]⟩, .string V] 28)) (w2x.heap.size + 1) (some ⟨w2x.heap.size, 0, none⟩) [edgeR j] := rdk_one (edgeR j) (by omega) (cell_new 0 rfl) (by rw [show (edgeR j).2 = List.replicate j 118 from rfl, ← HV.out]; exact cell_new 1 rfl)
                  have h2 := h2.on ((Kept.refl NoB _).alloc (.cells #[.string ⟨#[101, 100, 103, 101]⟩, .string V] 28))
                  obtain ⟨w6x, hww6x⟩ : ∃ w', w' = w2x.alloc (.cells #[.string ⟨#[101, 100, 103, 101]⟩, .string V] 28) := ⟨_, rfl⟩
                  have HZw6x : Hid (w6x.heap.size = w2x.heap.size + 1) := Lib.hid (by rw [hww6x]; simp)
                  rw [← hww6x] at hX hHeld ⊢
                  rw [← hww6x] at h2
                  clear hP hww6x
                  have h2 := h2.re (Nat.zero_add n) rfl
                  refine wpAnyH_ready (rs := [7]) (by kernel_rfl) (by simp) ?_
                  refine AllReadyH.cons (by rw [List.getElem?_toArray]; rfl) (fun K hK => ?_) AllReadyH.nil
                  refine step_kvs rfl (.tmp 57) (.tmp 61) rfl h2 rfl ⟨w2x.heap.size, 0, none⟩ 1 1 _ [edgeR j] rfl rfl hX (by omega) ?_
                  intro a7 c7 w7 h7 hk7
                  refine hK.out _ _ h7.kept (fun hHeld => ?_)
                  clear hK K
                  try simp only [Act.put, List.setIfInBounds_toArray, List.set_cons_zero, List.set_cons_succ]
                  refine wpAnyH_take (i := 8) (v := ?_) (by rw [List.getElem?_toArray]; rfl) (by kernel_rfl) (by kernel_rfl) (by kernel_rfl) (fun _ _ _ h => h) (Or.inl ⟨by rfl, ?hyq8_8⟩) (by assumption) ?restq8_8
                  case hyq8_8 => (intro w hSw; (try dsimp only at hSw); go_simp; (try with_reducible rfl))
                  try simp only [Act.put, List.setIfInBounds_toArray, List.set_cons_zero, List.set_cons_succ]
                  refine wpAnyH_done (by kernel_rfl) ?_ _
                  refine NoPanic.normal ?_
                  go_wp2
                  go_meet
                  exact ⟨a7, c7, by first | rfl | simp, Lib.hid (h7.re (by omega) (by simp))⟩
                · go_simp
                  have hP := hHeld
                  refine hK.out _ _ (hHeld.alloc _) (fun hHeld => ?_)
                  clear hK K
                  try simp only [Act.put, List.setIfInBounds_toArray, List.set_cons_zero, List.set_cons_succ]
                  have hX : RdK (w5a.alloc (.cells #[.string ⟨#[101, 100, 103, 101]⟩, .string V] 28)) (w5a.heap.size + 1) (some ⟨w5a.heap.size, 0, none⟩) [edgeR j] := rdk_one (edgeR j) (by omega) (cell_new 0 rfl) (by rw [show (edgeR j).2 = List.replicate j 118 from rfl, ← HV.out]; exact cell_new 1 rfl)
                  have hE := hE.on ((Kept.refl NoB _).alloc (.cells #[.string ⟨#[101, 100, 103, 101]⟩, .string V] 28))
                  obtain ⟨w6x, hww6x⟩ : ∃ w', w' = w5a.alloc (.cells #[.string ⟨#[101, 100, 103, 101]⟩, .string V] 28) := ⟨_, rfl⟩
                  have HZw6x : Hid (w6x.heap.size = w5a.heap.size + 1) := Lib.hid (by rw [hww6x]; simp)
                  rw [← hww6x] at hX hHeld ⊢
                  rw [← hww6x] at hE
                  clear hP hww6x
                  refine wpAnyH_ready (rs := [2]) (by kernel_rfl) (by simp) ?_
                  refine AllReadyH.cons (by rw [List.getElem?_toArray]; rfl) (fun K hK => ?_) AllReadyH.nil
                  refine step_kvs rfl (.tmp 55) (.tmp 56) rfl hE rfl ad n cap w.heap.size rs rfl HN.out.symm (HR.out.kept (HK.out.trans hHeld)) (by omega) ?_
                  intro a2 c2 w2x h2 hk2
                  have hX := rdk_on hX hk2 (by intro h; simp [OwnB, Value.ownBlock] at h; have h1 := HZw5a.out; omega)
                  refine hK.out _ _ h2.kept (fun hHeld => ?_)
                  clear hK K
                  try simp only [Act.put, List.setIfInBounds_toArray, List.set_cons_zero, List.set_cons_succ]
                  refine wpAnyH_ready (rs := [7]) (by kernel_rfl) (by simp) ?_
                  refine AllReadyH.cons (by rw [List.getElem?_toArray]; rfl) (fun K hK => ?_) AllReadyH.nil
                  refine step_kvs rfl (.tmp 57) (.tmp 61) rfl h2 rfl ⟨w5a.heap.size, 0, none⟩ 1 1 _ [edgeR j] rfl rfl hX (by omega) ?_
                  intro a7 c7 w7 h7 hk7
                  refine hK.out _ _ h7.kept (fun hHeld => ?_)
                  clear hK K
                  try simp only [Act.put, List.setIfInBounds_toArray, List.set_cons_zero, List.set_cons_succ]
                  refine wpAnyH_take (i := 8) (v := ?_) (by rw [List.getElem?_toArray]; rfl) (by kernel_rfl) (by kernel_rfl) (by kernel_rfl) (fun _ _ _ h => h) (Or.inl ⟨by rfl, ?hyq9_8⟩) (by assumption) ?restq9_8
                  case hyq9_8 => (intro w hSw; (try dsimp only at hSw); go_simp; (try with_reducible rfl))
                  try simp only [Act.put, List.setIfInBounds_toArray, List.set_cons_zero, List.set_cons_succ]
                  refine wpAnyH_done (by kernel_rfl) ?_ _
                  refine NoPanic.normal ?_
                  go_wp2
                  go_meet
                  exact ⟨a7, c7, by first | rfl | simp, Lib.hid (h7.re (by omega) (by simp))⟩
              · go_simp
                have hP := hHeld
                refine hK.out _ _ (hHeld.alloc _) (fun hHeld => ?_)
                clear hK K
                try simp only [Act.put, List.setIfInBounds_toArray, List.set_cons_zero, List.set_cons_succ]
                have hX : RdK (w5d.alloc (.cells #[.string ⟨#[101, 100, 103, 101]⟩, .string V] 28)) (w5d.heap.size + 1) (some ⟨w5d.heap.size, 0, none⟩) [edgeR j] := rdk_one (edgeR j) (by omega) (cell_new 0 rfl) (by rw [show (edgeR j).2 = List.replicate j 118 from rfl, ← HV.out]; exact cell_new 1 rfl)
                obtain ⟨w6x, hww6x⟩ : ∃ w', w' = w5d.alloc (.cells #[.string ⟨#[101, 100, 103, 101]⟩, .string V] 28) := ⟨_, rfl⟩
                have HZw6x : Hid (w6x.heap.size = w5d.heap.size + 1) := Lib.hid (by rw [hww6x]; simp)
                rw [← hww6x] at hX hHeld ⊢
                clear hP hww6x
                refine wpAnyH_ready (rs := [0]) (by kernel_rfl) (by simp) ?_
                refine AllReadyH.cons (by rw [List.getElem?_toArray]; rfl) (fun K hK => ?_) AllReadyH.nil
                go_simp
                have hP := hHeld
                refine hK.out _ _ (hHeld.alloc _) (fun hHeld => ?_)
                clear hK K
                try simp only [Act.put, List.setIfInBounds_toArray, List.set_cons_zero, List.set_cons_succ]
                have hE : KvSt w5 (w6x.alloc (.cells #[] 28)) (some ⟨w6x.heap.size, 0, none⟩) 0 0 [] := kv_empty hP _ rfl
                obtain ⟨w5a, hww5a⟩ : ∃ w', w' = w6x.alloc (.cells #[] 28) := ⟨_, rfl⟩
                have HZw5a : Hid (w5a.heap.size = w6x.heap.size + 1) := Lib.hid (by rw [hww5a]; simp)
                rw [← hww5a] at hE hHeld ⊢
                have HWw5a := Lib.hid hww5a
                clear hP hww5a
                have hX := (hX.kept (by rw [HWw5a.out]; exact (Kept.refl NoB _).alloc _ : Kept NoB w6x w5a))
                refine wpAnyH_ready (rs := [2]) (by kernel_rfl) (by simp) ?_
                refine AllReadyH.cons (by rw [List.getElem?_toArray]; rfl) (fun K hK => ?_) AllReadyH.nil
                refine step_kvs rfl (.tmp 55) (.tmp 56) rfl hE rfl ad n cap w.heap.size rs rfl HN.out.symm (HR.out.kept (HK.out.trans hHeld)) (by omega) ?_
                intro a2 c2 w2x h2 hk2
                have hX := rdk_on hX hk2 (by intro h; simp [OwnB, Value.ownBlock] at h; have h1 := HZw6x.out; omega)
                refine hK.out _ _ h2.kept (fun hHeld => ?_)
                clear hK K
                try simp only [Act.put, List.setIfInBounds_toArray, List.set_cons_zero, List.set_cons_succ]
                refine wpAnyH_ready (rs := [7]) (by kernel_rfl) (by simp) ?_
                refine AllReadyH.cons (by rw [List.getElem?_toArray]; rfl) (fun K hK => ?_) AllReadyH.nil
                refine step_kvs rfl (.tmp 57) (.tmp 61) rfl h2 rfl ⟨w5d.heap.size, 0, none⟩ 1 1 _ [edgeR j] rfl rfl hX (by omega) ?_
                intro a7 c7 w7 h7 hk7
                refine hK.out _ _ h7.kept (fun hHeld => ?_)
                clear hK K
                try simp only [Act.put, List.setIfInBounds_toArray, List.set_cons_zero, List.set_cons_succ]
                refine wpAnyH_take (i := 8) (v := ?_) (by rw [List.getElem?_toArray]; rfl) (by kernel_rfl) (by kernel_rfl) (by kernel_rfl) (fun _ _ _ h => h) (Or.inl ⟨by rfl, ?hyq10_8⟩) (by assumption) ?restq10_8
                case hyq10_8 => (intro w hSw; (try dsimp only at hSw); go_simp; (try with_reducible rfl))
                try simp only [Act.put, List.setIfInBounds_toArray, List.set_cons_zero, List.set_cons_succ]
                refine wpAnyH_done (by kernel_rfl) ?_ _
                refine NoPanic.normal ?_
                go_wp2
                go_meet
                exact ⟨a7, c7, by first | rfl | simp, Lib.hid (h7.re (by omega) (by simp))⟩
          case rest =>
          obtain ⟨a, c, rfl, HF5⟩ := hcut
          obtain ⟨F, hF⟩ : ∃ F, F = rs ++ [edgeR j] := ⟨_, rfl⟩
          rw [← hF] at HF5
          have hFl : F.length = n + 1 := by rw [hF, List.length_append, ← HN.out]; rfl
          have hFs : ∀ p ∈ F, p.1.length ≤ 300 ∧ p.2.length ≤ 1100 := fun p hp => by
            rw [hF] at hp
            rcases List.mem_append.1 hp with h | h
            · have := H300.out p h; omega
            · simp at h; subst h; simp [edgeR]; omega
          have hFe := enc_mid F (by omega) hFs
          have hFb := recs_mid F hFs
          have hEe : encS [edgeR j] = some (recsB [edgeR j]) := by
            rw [enc_mid [edgeR j] (by simp) (by intro p hp; simp at hp; subst hp; simp [edgeR]; omega)]
            rw [if_pos (by simp [edge_ok])]
          have hEb := recs_mid [edgeR j] (by intro p hp; simp at hp; subst hp; simp [edgeR]; omega)
          have hne1 : recsB F ≠ [] := by rw [hF]; exact recsB_ne rs (edgeR j)
          have hne2 : recsB [edgeR j] ≠ [] := recsB_ne [] (edgeR j)
          obtain ⟨Q, hQ⟩ : ∃ Q, Q = (encS F).getD [] := ⟨_, rfl⟩
          obtain ⟨P, hP⟩ : ∃ P, P = (encS F).isSome := ⟨_, rfl⟩
          obtain ⟨M, hM⟩ : ∃ M, M = if P = true then recsB F else recsB [edgeR j] := ⟨_, rfl⟩
          have hQP : (P = true ∧ Q = M ∧ Q ≠ []) ∨ (P = false ∧ Q = [] ∧ recsB [edgeR j] = M) := by
            rw [hFe] at hQ hP
            by_cases hx : F.all okR = true
            · rw [if_pos hx] at hQ hP
              have h1 : P = true := hP
              have h2 : Q = recsB F := hQ
              rw [h1, if_pos rfl] at hM
              exact .inl ⟨h1, by rw [h2, hM], by rw [h2]; exact hne1⟩
            · rw [if_neg hx] at hQ hP
              have h1 : P = false := hP
              have h2 : Q = [] := hQ
              rw [h1, if_neg (by decide)] at hM
              exact .inr ⟨h1, h2, hM.symm⟩
          have hMne : M ≠ [] := by rw [hM]; split <;> assumption
          have hMb : M.length ≤ 40000 := by
            rw [hM]
            split
            · omega
            · simp at hEb; omega
          have hcap := kv_cap2 HF5.out.own
          have hK5 := HK.out.trans HF5.out.kept
          have hEn := encode_any a (n + 1) c F wc hFl.symm HF5.out.reads (by intro p hp; have := hFs p hp; omega) hcap.1 hcap.2 (HT.out.keptNo hK5)
          have hPx := fun W (h : Kept NoB wc W) => rpax_any a (n + 1) c F W hFl.symm ((HF5.out.on h).reads) (by intro p hp; have := hFs p hp; omega) hcap.1 hcap.2
          rw [← hQ, ← hP] at hPx
          have hEu := fun e w' (h : EncR wc F e w') => encU h
          rw [← hQ, ← hP] at hEu
          obtain ⟨bX, offX, haX, hLast⟩ := rdk_last (by have := HF5.out.reads; rw [hF] at this; exact this) n HN.out
          subst haX
          have hcn : n < c := by omega
          have hcm9 : c ≤ maxLen := hcap.2
          have HEn := Lib.hid hEn; have HPx := Lib.hid hPx; have HEu := Lib.hid hEu; have HLast := Lib.hid hLast; have HEe := Lib.hid hEe; have HQP := Lib.hid hQP; have HMne := Lib.hid hMne; have HMb := Lib.hid hMb; have HK5 := Lib.hid hK5
          have hQS := str_empty2 Q
          have HQS := Lib.hid hQS
          clear hFl hFs hFe hFb hEe hEb hne1 hne2 hM hQP hMne hMb hcap hK5 hEn hPx hEu hLast hQ hP hQS hcv hF
          obtain ⟨S, hS⟩ : ∃ S, S = strB Q := ⟨_, rfl⟩
          have HS := Lib.hid hS
          rw [← hS] at HPx
          clear hS
          obtain ⟨nq, hnq⟩ : ∃ nq, nq = n + 1 := ⟨_, rfl⟩
          rw [← hnq] at HEn HPx HF5 ⊢
          have hnqi : (nq : Int) - 1 = (n : Int) := by omega
          have hnql : n < nq := by omega
          have hnqs : nq - n = 1 := by omega
          have hnqc : nq ≤ c := by omega
          clear hnq
          go_wp2_with fail
          refine HEn.out.mono ?_
          rintro e w7 he7
          obtain ⟨a7, c7, rfl, hb7⟩ := HEu.out _ _ he7
          have HB7 := Lib.hid hb7
          have HK7 := Lib.hid (HK5.out.trans hb7.kept)
          have hcp7 := hb7.cap
          have hcv7 := conv_reads (n := Q.length) (cap := c7) hb7.reads (by rw [nb_len]) (fun h => hcp7.2.2 h)
          rw [nb_str, ← HS.out] at hcv7
          obtain ⟨ql, hql⟩ : ∃ ql, ql = Q.length := ⟨_, rfl⟩
          rw [← hql] at hcv7 ⊢
          have HPx7 := Lib.hid (HPx.out w7 hb7.kept)
          have hcvK : ∀ W, Kept NoB w7 W → (convert 23 9 (.slice a7 ql c7)).run Tryz.prog W = .ok (.string S) W := fun W hW => by
            have h := conv_reads (n := Q.length) (cap := c7) (hb7.reads.keptNo hW) (by rw [nb_len]) (fun h => hcp7.2.2 h)
            rw [nb_str, ← HS.out, ← hql] at h
            exact h
          have HcvK := Lib.hid hcvK
          clear he7 hb7 hcp7 hcv7 hql hcvK
          go_wp2_with fail
          refine HPx7.out.mono ?_
          rintro e w8 ⟨rfl, hk8⟩
          have hcv8 := HcvK.out w8 hk8
          have hPP : (P == P) = true := by simp
          have hSS : (S.toList == S.toList) = true := by simp
          have HK8 := Lib.hid (HK7.out.trans hk8)
          have hRd8 := (HLast.out.kept HB7.out.kept).kept hk8
          have hOne := rpax_any (some ⟨bX, offX + n * 2, none⟩) 1 (c - n) [edgeR j] w8 rfl (hRd8.room (Nat.le_trans (HB7.out.kept).size hk8.size)) (by intro p hp; simp at hp; subst hp; simp [edgeR]; omega) (by omega) (by omega)
          rw [HEe.out] at hOne
          have hOne2 : Calls Tryz.prog 7 #[.slice (some ⟨bX, offX + n * 2, none⟩) 1 (c - n)] w8 fun e w' => e = .returned (.tuple #[.string (strB (recsB [edgeR j])), .bool true]) ∧ Kept NoB w8 w' := hOne
          have HOne := Lib.hid hOne2
          clear hk8 hRd8 hOne hOne2
          go_wp2_with fail
          refine HOne.out.mono ?_
          rintro e w9 ⟨rfl, hk9⟩
          have HK9 := Lib.hid (HK8.out.trans hk9)
          clear hk9 hcv8 hPP hSS
          obtain ⟨sb, hsb⟩ : ∃ sb, sb = S.toList.isEmpty := ⟨_, rfl⟩
          have hs1 : S.toList.isEmpty = sb := hsb.symm
          have hs2 : (S.toList == []) = sb := by rw [hsb]; cases S.toList <;> rfl
          have hs3 : decide (S.toList = []) = sb := by rw [hsb]; cases S.toList <;> simp
          have hs4 : (S.toList = []) = (sb = true) := by rw [hsb]; cases S.toList <;> simp
          have HSb := Lib.hid hsb
          clear hsb
          go_upto_if 92 with fail
          go_cut [17] from 93 to 93 (fun v17 wx => v17 = .string (strB M) ∧ w9 = wx)
          case first =>
            rcases HQP.out with ⟨h1, h2, h3⟩ | ⟨h1, h2, h3⟩
            · have hs : sb = false := by
                rw [HSb.out, HS.out, HQS.out.2]
                cases hq : Q with
                | nil => exact absurd hq h3
                | cons _ _ => rfl
              subst hs
              have hx : S = strB M := by rw [HS.out, h2]
              clear h1 h2 h3
              go_wp2
              go_meet
              exact ⟨by first | rfl | rw [hx], rfl⟩
            · have hs : sb = true := by rw [HSb.out, HS.out, HQS.out.2, h2]; rfl
              subst hs
              have hx : strB (recsB [edgeR j]) = strB M := by rw [h3]
              have HX := Lib.hid hx
              clear h1 h2 h3 hx
              go_wp2
              go_meet
              exact ⟨by rw [HX.out], rfl⟩
          case rest =>
          obtain ⟨rfl, rfl⟩ := hcut
          clear hs1 hs2 hs3 hs4
          obtain ⟨SM, hSM⟩ : ∃ SM, SM = strB M := ⟨_, rfl⟩
          rw [← hSM]
          obtain ⟨ml, hml⟩ : ∃ ml, ml = M.length := ⟨_, rfl⟩
          have hmlb : 1 ≤ ml ∧ ml ≤ 40000 := by
            have h1 := HMb.out
            have h2 := HMne.out
            cases hM : M with
            | nil => exact absurd hM h2
            | cons _ _ => rw [hM] at hml h1; simp at hml h1; omega
          have hSMz : SM.size = ml := by rw [hSM, strB_size, hml]
          have hnbl : (nb M).length = ml := by rw [nb_len, hml]
          have hCM := fun W => conv_mark W (nb M) (by omega) (nb_all M)
          rw [nb_str, ← hSM, hnbl] at hCM
          have HCM := Lib.hid hCM
          have HNbl := Lib.hid hnbl
          obtain ⟨cd, w3, hrun, hown, hk3⟩ := HCM.out w9
          obtain ⟨Gc, hGc⟩ : ∃ Gc, Gc = w9.heap.size := ⟨_, rfl⟩
          rw [← hGc] at hrun hown
          have hGw : w.heap.size ≤ Gc := by rw [hGc]; exact HK9.out.size
          obtain ⟨t, ht⟩ : ∃ t : Nat, (t : Int) = at0 % 65536 % (ml : Int) := ⟨(at0 % 65536 % (ml : Int)).toNat, Int.toNat_of_nonneg (Int.emod_nonneg _ (by omega))⟩
          have htl : t < ml := by have := Int.emod_lt_of_pos (at0 % 65536) (show (0 : Int) < ml by omega); omega
          have hma := mask65535 at0
          have hj2 : at0 % 65536 % (ml : Int) = (t : Int) := ht.symm
          have hj3 : (at0 % 65536).tmod (ml : Int) = (t : Int) := by rw [Int.tmod_eq_emod_of_nonneg (by omega)]; exact ht.symm
          have hown' : OwnM w3 (.slice (some ⟨Gc, 0, none⟩) (nb M).length cd) (nb M) := by rw [hnbl]; exact hown
          have hcz := hown'.cellAt t (by omega)
          generalize hz : (nb M).getD t 0 = z at hcz
          obtain ⟨x, hx⟩ : ∃ x, x = bits .xor .u8 z by0 := ⟨_, rfl⟩
          have hxr := xor_u8 z by0
          rw [← hx] at hxr
          have hx2 := hx.symm
          obtain ⟨hfz, hown4⟩ := hown'.set t (by omega) x
          have hck := own_capM hown'
          have hR4 : Reads (w3.setCell ⟨Gc, t, none⟩ (.int .u8 x)) (some ⟨Gc, 0, none⟩) ((nb M).set t x) := hown4.reads
          have hab : AllB ((nb M).set t x) := by
            intro v hv
            rcases List.mem_or_eq_of_mem_set hv with h | h
            · exact nb_all M v h
            · subst h; omega
          have hC2 : nb (un ((nb M).set t x)) = (nb M).set t x := nb_un hab
          obtain ⟨LC, hLC⟩ : ∃ LC, LC = un ((nb M).set t x) := ⟨_, rfl⟩
          rw [← hLC] at hC2
          rw [← hC2] at hR4
          have hLCl : LC.length = ml := by rw [← nb_len, hC2, List.length_set, hnbl]
          have HR4 := Lib.hid hR4; have HLCl := Lib.hid hLCl
          have HK4 := Lib.hid (Kept.setCell (S := NoB) (p := ⟨Gc, t, none⟩) (HK9.out.trans hk3) (.inr hGw) (.int .u8 x))
          have hcdb : ml ≤ cd := by rw [hnbl] at hck; exact hck.1
          clear hk3 hown hown' hown4 ht hx hz hxr hGc hab hC2 hLC hLCl hR4 hnbl hCM hml hSM hck
          go_upto_region 19 with fail
          clear hrun hcz hfz hma hj2 hj3 hx2
          generalize w3.setCell ⟨Gc, t, none⟩ (.int .u8 x) = w4 at HR4 HK4 ⊢
          go_wp2
          go_loopw [22, 23, 24, 25, 26, 27] (fun v22 v23 v24 v25 v26 v27 wr => ∃ i : Nat, i ≤ 4 ∧ v22 = .int .i64 (i : Int) ∧ Hid (Kept NoB w4 wr)) (fun v22 _ _ _ _ _ _ => 4 - (intOf v22).toNat)
          case atStart => exact ⟨0, by omega, rfl, Kept.refl _ _⟩
          case round =>
            obtain ⟨i2, hi4, rfl, HKr⟩ := hrel
            by_cases hlt : i2 < 4
            · obtain ⟨cd1, wA, hr1, hown1, hk1⟩ := HCM.out wr
              obtain ⟨cd2, wB, hr2, hown2, hk2⟩ := HCM.out wA
              have hmc := mask65535 cut0
              obtain ⟨m1, hm1⟩ : ∃ m1, m1 = ml + 1 := ⟨_, rfl⟩
              have hm1i : (ml : Int) + 1 = (m1 : Int) := by omega
              obtain ⟨kc, hkc⟩ : ∃ kc : Nat, (kc : Int) = cut0 % 65536 % (m1 : Int) := ⟨(cut0 % 65536 % (m1 : Int)).toNat, Int.toNat_of_nonneg (Int.emod_nonneg _ (by omega))⟩
              have hkl : kc < m1 := by have := Int.emod_lt_of_pos (cut0 % 65536) (show (0 : Int) < m1 by omega); omega
              have hj2 : cut0 % 65536 % (m1 : Int) = (kc : Int) := hkc.symm
              have hj3 : (cut0 % 65536).tmod (m1 : Int) = (kc : Int) := by rw [Int.tmod_eq_emod_of_nonneg (by omega)]; exact hkc.symm
              have hkm : kc ≤ ml := by omega
              have hcap2 : ml ≤ cd2 := by
                have h : OwnM wB (.slice (some ⟨wA.heap.size, 0, none⟩) (nb M).length cd2) (nb M) := by rw [HNbl.out]; exact hown2
                have := own_capM h
                rw [HNbl.out] at this
                exact this.1
              have hkcap : (kc : Int) ≤ (cd2 : Int) := by omega
              obtain ⟨GA, hGA⟩ : ∃ GA, GA = wr.heap.size := ⟨_, rfl⟩
              obtain ⟨GB, hGB⟩ : ∃ GB, GB = wA.heap.size := ⟨_, rfl⟩
              rw [← hGA] at hr1 hown1
              rw [← hGB] at hr2 hown2
              obtain ⟨ROW, hROW⟩ : ∃ R : Array Value, R = #[Value.slice bo bl cb, .slice (some ⟨Gc, 0, none⟩) ml cd, .slice (some ⟨GA, 0, none⟩) ml cd1, .slice (some ⟨GB, 0, none⟩) kc cd2] := ⟨_, rfl⟩
              have hkB : Kept NoB wr wB := hk1.trans hk2
              have hrow : ∃ (ay : Option Addr) (ny cy : Nat) (Ly : List UInt8), ROW[i2]? = some (.slice ay ny cy) ∧ Hid (Reads wB ay (nb Ly) ∧ ny = Ly.length ∧ (ay = none → cy = 0)) ∧ ny ≤ 50000 := by
                have hc4 : i2 = 0 ∨ i2 = 1 ∨ i2 = 2 ∨ i2 = 3 := by omega
                rcases hc4 with rfl | rfl | rfl | rfl
                · refine ⟨bo, bl, cb, un bs, by rw [hROW]; rfl, Lib.hid ⟨?_, ?_, HBn.out⟩, by omega⟩
                  · rw [nb_un HBb.out]; exact HRb.out.keptNo (HK4.out.trans (HKr.out.trans hkB))
                  · rw [HBl.out]; simp [un]
                · exact ⟨_, ml, cd, LC, by rw [hROW]; rfl, Lib.hid ⟨HR4.out.keptNo (HKr.out.trans hkB), HLCl.out.symm, fun h => by cases h⟩, by omega⟩
                · refine ⟨_, ml, cd1, M, by rw [hROW]; rfl, Lib.hid ⟨?_, by rw [← HNbl.out, nb_len], fun h => by cases h⟩, by omega⟩
                  have h : OwnM wA (.slice (some ⟨GA, 0, none⟩) (nb M).length cd1) (nb M) := by rw [HNbl.out]; exact hown1
                  exact h.reads.keptNo hk2
                · refine ⟨_, kc, cd2, M.take kc, by rw [hROW]; rfl, Lib.hid ⟨?_, ?_, fun h => by cases h⟩, by omega⟩
                  · have h : OwnM wB (.slice (some ⟨GB, 0, none⟩) (nb M).length cd2) (nb M) := by rw [HNbl.out]; exact hown2
                    have h2 := h.reads
                    refine ⟨(fun e => by cases e), (fun ad e i hi => ?_)⟩
                    have hi2 : i < kc := by rw [nb_len, List.length_take] at hi; omega
                    rw [h2.2 ad e i (by rw [HNbl.out]; omega)]
                    congr 2
                    simp [nb, List.getD, List.getElem?_take, hi2]
                  · rw [List.length_take, ← nb_len, HNbl.out]; omega
              obtain ⟨ay, ny, cy, Ly, hget, HY, hny⟩ := hrow
              have hcell : (wB.alloc (.cells ROW 23)).cell? ⟨wB.heap.size, i2, none⟩ = some (.slice ay ny cy) := by
                rw [cell_new i2 rfl]; exact hget
              have hkC : Kept NoB wB (wB.alloc (.cells ROW 23)) := (Kept.refl _ _).alloc _
              have hYC := HY.out.1.keptNo hkC
              have hKC := HK4.out.trans (HKr.out.trans (hkB.trans hkC))
              have hDe := decode_any ay ny cy Ly (wB.alloc (.cells ROW 23)) HY.out.2.1 hYC HY.out.2.2 (by unfold maxLen; omega) (HT.out.keptNo hKC) (HE.out.keptNo hKC)
              obtain ⟨YS, hYS⟩ : ∃ YS, YS = strB Ly := ⟨_, rfl⟩
              have hYl : Ly.length ≤ 1000000 := by have := HY.out.2.1; omega
              have hRp := fun W => readPax_any Ly W hYl
              rw [← hYS] at hRp
              have hcvY : ∀ W, Kept NoB (wB.alloc (.cells ROW 23)) W → (convert 23 9 (.slice ay ny cy)).run Tryz.prog W = .ok (.string YS) W := fun W hW => by
                have h := conv_reads (hYC.keptNo hW) (n := ny) (cap := cy) (by rw [nb_len]; exact HY.out.2.1) HY.out.2.2
                rw [nb_str, ← hYS] at h
                exact h
              have HDe := Lib.hid hDe; have HRp := Lib.hid hRp; have HcvY := Lib.hid hcvY; have HKC := Lib.hid (HKr.out.trans (hkB.trans hkC))
              have hii : (i2 : Int) < 4 := by omega
              rw [hROW] at hcell HDe HcvY HKC
              clear hDe hRp hcvY hKC hYC hkC hget hROW hown1 hown2 hk1 hk2 hkB hkc hGA hGB hm1 hYS hYl
              go_wp2_with fail
              refine HDe.out.mono ?_
              rintro e w5' hd
              have hk5 : Kept NoB (wB.alloc (.cells #[Value.slice bo bl cb, .slice (some ⟨Gc, 0, none⟩) ml cd, .slice (some ⟨GA, 0, none⟩) ml cd1, .slice (some ⟨GB, 0, none⟩) kc cd2] 23)) w5' := by
                rcases hd with ⟨_, _, _, _, _, _, h⟩ | ⟨_, _, h⟩
                · exact h.kept
                · exact h
              have hcv5 := HcvY.out w5' hk5
              have HK5' := Lib.hid (HKC.out.trans hk5)
              clear hcell hk5
              rcases hd with ⟨q1, a1, c1, hg1, hl1, rfl, hs1⟩ | ⟨hno1, rfl, hk1⟩
              · have HG1 := Lib.hid hg1; have HL1 := Lib.hid hl1; have HS1 := Lib.hid hs1
                clear hg1 hl1 hs1
                go_wp2_with fail
                refine (HRp.out _).mono ?_
                rintro e w6' (⟨q2, a2, c2, hg2, _, rfl, hs2⟩ | ⟨hno2, _⟩)
                rotate_left
                · rcases hno2 with h | h
                  · have := HL1.out; omega
                  · exact absurd HG1.out (h _)
                have hqq := (HG1.out.unique hg2 HL1.out).symm
                subst hqq
                have HK6' := Lib.hid (HK5'.out.trans hs2.kept)
                have hsame := same_any a1 q1.length c1 q1 a2 q1.length c2 q1 w6' rfl rfl ((HS1.out.on hs2.kept).reads) hs2.reads (by have h := recsB_count q1; rw [← HG1.out.1] at h; have := HL1.out; omega) (by have h := recsB_count q1; rw [← HG1.out.1] at h; have := HL1.out; omega)
                rw [show decide (q1 = q1) = true from decide_eq_true rfl] at hsame
                have HSame := Lib.hid hsame
                clear hcv5 hg2 hs2 hsame
                go_wp2_with fail
                refine HSame.out.mono ?_
                rintro e w7' ⟨rfl, hk7⟩
                have HK7' := Lib.hid (HK6'.out.trans hk7)
                clear hk7
                go_wp2
                go_roundw
                case rel => exact ⟨i2 + 1, by omega, by go_num, HK7'⟩
                case measure => simp [intOf]; omega
              · have HNo1 := Lib.hid hno1
                clear hno1
                go_wp2_with fail
                refine (HRp.out _).mono ?_
                rintro e w6' (⟨q2, a2, c2, hg2, hl2, rfl, hs2⟩ | ⟨hno2, rfl, hk2⟩)
                · rcases HNo1.out with h | h
                  · omega
                  · exact absurd hg2 (h _)
                have HK6' := Lib.hid (HK5'.out.trans hk2)
                have hsame := same_any none 0 0 [] none 0 0 [] w6' rfl rfl (fun i hi => by simp at hi) (fun i hi => by simp at hi) (by omega) (by omega)
                rw [show decide (([] : List KVb) = []) = true from rfl] at hsame
                have HSame := Lib.hid hsame
                clear hcv5 hno2 hk2 hsame
                go_wp2_with fail
                refine HSame.out.mono ?_
                rintro e w7' ⟨rfl, hk7⟩
                have HK7' := Lib.hid (HK6'.out.trans hk7)
                clear hk7
                go_wp2
                go_roundw
                case rel => exact ⟨i2 + 1, by omega, by go_num, HK7'⟩
                case measure => simp [intOf]; omega
            · have hii : ¬ (i2 : Int) < 4 := by omega
              have HKz := Lib.hid (HK4.out.trans HKr.out)
              go_wp2_with fail
              refine (HA.out _ HKz.out).mono ?_
              rintro e w6 ⟨rfl, hb6⟩
              have hfin := (HKz.out.trans hb6).belowNo (Below.refl _ _)
              go_wp2
              go_ret
              exact ⟨rfl, hfin⟩

theorem paxCodes_law (v0 v1 v2 v3 v4 v5 : Value) (w : World) (r0 : Arg w 22 v0) (r1 : Arg w 23 v1) (r2 : Arg w 3 v2) (r3 : Arg w 5 v3) (r4 : Arg w 3 v4) (r5 : Arg w 3 v5) (htab : Pow10 w) (herr : ErrVars w) :
    Calls Tryz.prog 3 #[v0, v1, v2, v3, v4, v5] w fun e w' => e = .returned (.bool true) ∧ Below w.heap.size w w' := by
  obtain ⟨ao, cap, rs, rfl, hrd, hlc, hcm, hnil, _⟩ := kvs_open r0
  obtain ⟨bo, cb, bs, rfl, hbc, hbm, hrb, hbb, hbn⟩ := r1.bytes Tryz.underlying23
  obtain ⟨a, rfl, _⟩ := r2.int Tryz.underlying3
  obtain ⟨y, rfl, hy⟩ := r3.int Tryz.underlying5
  obtain ⟨c, rfl, _⟩ := r4.int Tryz.underlying3
  obtain ⟨d, rfl, _⟩ := r5.int Tryz.underlying3
  exact paxCodes_walk ao rs.length cap rs bo cb bs a y c d w (u8_bd hy) rfl hrd hlc hcm hnil hrb hbb hbn hbc hbm htab herr
end Go.Proofs.YtclcgiochjibjaaGreatDoor
