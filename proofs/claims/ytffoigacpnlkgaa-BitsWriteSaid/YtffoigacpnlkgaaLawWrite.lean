/-
  BitsWrite: bits, and codes turned round, are put as the document says; what is told is a copy.
-/
import Derived.Test.YtffoigacpnlkgaaBoth
import Derived.Test.YtffoigacpnlkgaaLawBParts
namespace Go.Proofs.Ytffoigacpnlkgaa
open Go.RowKit
set_option linter.unusedVariables false
set_option linter.unusedSimpArgs false

/-- At the head of a round: both writers hold the same. -/
def WriteR (w : World) (A B k : Nat) (wr : World) : Prop :=
  ∃ aoa capa ba aob capb s, Two 84 52 w wr A aoa capa ba s B aob capb ba s ∧ s ≤ 40 * k

theorem own_nil_cap {w : World} {ao : Option Addr} {n cap : Nat} {xs : List Value} (h : w.ownsRow 0 5 1 (.slice ao n cap) n xs) : ao = none → cap = 0 := by
  rintro rfl
  rcases h.2 with ⟨h1, _⟩ | ⟨g, c, cur, h1, _⟩
  · simp at h1; exact h1.2
  · simp at h1

set_option maxRecDepth 100000 in
set_option maxHeartbeats 4000000 in
theorem bitsWrite_walk (ao : Option Addr) (cap len : Nat) (kd nn vv : Nat → Int) (w : World) (hm : len ≤ maxLen) (hops : OpsAt w ao len kd nn vv) (hao : 0 < len → ∃ b off, ao = some ⟨b, off, none⟩ ∧ b < w.heap.size)
    (hbd : ∀ i, (-9223372036854775808 ≤ kd i ∧ kd i ≤ 9223372036854775807) ∧ (-9223372036854775808 ≤ nn i ∧ nn i ≤ 9223372036854775807) ∧ 0 ≤ vv i ∧ vv i < 4294967296) :
    Calls Try.prog 6 #[.slice ao len cap] w fun e w' => e = .returned (.bool true) ∧ Below w.heap.size w w' := by
  unfold maxLen at hm
  obtain ⟨K, hK⟩ : ∃ K, K = min len 60 := ⟨_, rfl⟩
  have hK60 : K ≤ 60 := by omega
  obtain ⟨x, hx⟩ : ∃ x : Nat → Nat, ∀ i, x i = (vv i).toNat := ⟨_, fun _ => rfl⟩
  have HX := Lib.hid hx; have HK := Lib.hid hK; have HOps := Lib.hid hops; have HAo := Lib.hid hao; have HBd := Lib.hid hbd
  clear hx hK hops hao hbd
  go_enter Try.func6, Try.ntmps6
  go_wp2_with fail
  refine (neww_any _).mono ?_
  rintro e w1 ⟨A, rfl, hW, hWf, hk1⟩
  have HW1 := Lib.hid hW
  have HB1 := Lib.hid (hk1.belowNo (Below.refl _ _))
  have HWf := Lib.hid hWf
  clear hW hk1 hWf
  go_wp2_with fail
  refine (awake1 _).mono ?_
  rintro e w2 ⟨rfl, hb2⟩
  have hT2 : Two 84 52 w w2 A none 0 [] 0 w1.heap.size none 0 [] 0 := by
    have hk := Kept.ofBelow (Kept.refl NoB _) hb2
    have hk1 := Kept.ofBelow ((Kept.refl NoB w1).alloc _) hb2
    have hA := HW1.out.keptNo hk1
    have hAl := obj_lt HW1.out.1
    exact ⟨hA, ⟨hk.obj (heap_alloc_new _ _) (fun h => h), World.ownsRow_nil _ _ _ _, (by intro b hb; cases hb), by simp, by simp [num], by omega⟩, by omega, HWf.out, HB1.out.size,
      (by intro k hk; simp [Value.ownBlock] at hk), (by intro k hk; simp [Value.ownBlock] at hk), (by intro k hk; simp [Value.ownBlock] at hk), by decide, by decide, hk1.belowNo HB1.out⟩
  obtain ⟨B, hB⟩ : ∃ B, B = w1.heap.size := ⟨_, rfl⟩
  rw [← hB] at hT2 ⊢
  have HT2 := Lib.hid hT2
  clear hT2 hB hb2 HW1 HB1 HWf
  go_wp2
  go_loopw [5] (fun i wr => ∃ k : Nat, k ≤ K ∧ i = .int .i64 k ∧ WriteR w A B k wr) (fun i _ => K - (intOf i).toNat)
  case atStart => exact ⟨0, by omega, rfl, none, 0, [], none, 0, 0, HT2.out, by omega⟩
  case round =>
    obtain ⟨k, hk, rfl, aoa, capa, ba, aob, capb, s, hT, hs⟩ := hrel
    have HT := Lib.hid hT
    have hbel := hT.bel
    have HBel := Lib.hid hbel
    clear hT hbel HT2
    have hs24 : s ≤ 2400 := by omega
    by_cases hlt : k < K
    · have h1 : (k : Int) < len := by have := HK.out; omega
      have h2 : (k : Int) < 60 := by omega
      obtain ⟨b, off, hao, hbl⟩ := HAo.out (by omega)
      obtain ⟨c0, c1, c2⟩ := (HOps.out.below HBel.out).2 b off hao k (by omega)
      have hbk := HBd.out k
      have hao2 := hao
      subst hao2
      clear hao
      have e2 : vv k = ((x k : Nat) : Int) := by have := HX.out k; omega
      have hxk : x k < 4294967296 := by omega
      rw [e2] at c2
      generalize hN : nn k = N at c1 hbk
      generalize hD : kd k = D at c0 hbk
      generalize x k = v at c2 hxk
      have hbN := hbk.2.1; have hbD := hbk.1
      clear hN hD e2 hbk
      have HT3 : Hid (∀ o, Two 84 52 w (wr.alloc o) A aoa capa ba s B aob capb ba s) := fun o => HT.out.keptNo ((Kept.refl NoB wr).alloc o)
      have hcN : ∀ W, OpIn W wr.heap.size D N v → W.cell? ⟨wr.heap.size, 1, none⟩ = some (.int .i64 N) := fun W h => by simpa using obj_cell h 1
      have hcV : ∀ W, OpIn W wr.heap.size D N v → W.cell? ⟨wr.heap.size, 2, none⟩ = some (.int .u32 v) := fun W h => by simpa using obj_cell h 2
      have hOp3 : OpIn (wr.alloc (.cells #[.int .i64 D, .int .i64 N, .int .u32 v] 44 (0, 0))).drew wr.heap.size D N v := heap_alloc_new _ _
      go_wp2_with fail
      · go_region_held3 (fun W => OpIn W wr.heap.size D N v) (first | assumption)
          (first
            | (go_at_call 21; ((with_reducible refine ((HT3.out _).wentA v N hxk (by omega) _ ((Kept.refl NoB _).drew)).mono ?_); rintro e w4 ⟨rfl, aoa4, capa4, ba4, HT4, HN4, HO4⟩; have hop4 := HO4.out _ _ _ _ hOp3))
            | (go_at_call 32; ((with_reducible refine (HT4.out.wentB v N hxk (by omega) _ (Kept.refl NoB _)).mono ?_); rintro e w5 ⟨rfl, aob5, capb5, bb5, HT5, HN5, HO5⟩; have hop5 := HO5.out _ _ _ _ hop4)))
        have HT5 := Lib.hid (both_same HT5.out rfl (by rw [HN5.out, HN4.out]))
        generalize ba4 = ba5 at HT5
        generalize aoa4 = aoa5 at HT5
        generalize capa4 = capa5 at HT5
        have hs5 : s + cutN N ≤ 40 * (k + 1) := by have := cutN_le N; omega
        generalize s + cutN N = s5 at HT5 hs5
        clear hcN hcV hOp3 hop4 hop5 HN4 HN5 HO4 HO5 HT4
        go_wp2_with fail

        refine (wbytes_any _ _ _ _ _ _ HT5.out.a).mono ?_
        rintro e w6 ⟨ao6, cap6, rfl, ho6, hf6, hn6, hk6⟩
        have h06 : ao6 = none → cap6 = 0 := own_nil_cap ho6
        have hcA : ∀ W, Kept NoB w6 W → (convert 22 9 (.slice ao6 ba5.length cap6)).run Try.prog W = .ok (.string (strOfNums ba5)) W := fun W hk => conv_reads ((own_reads ho6 rfl).kept hk (fun _ _ h => h)) rfl h06
        have HT6 := Lib.hid (HT5.out.keptNo hk6)
        have h0b : aob5 = none → capb5 = 0 := own_nil_cap HT6.out.b.2.1
        have hcB : ∀ W, Kept NoB w6 W → (convert 22 9 (.slice aob5 ba5.length capb5)).run Try.prog W = .ok (.string (strOfNums ba5)) W := fun W hk => conv_reads ((own_reads HT6.out.b.2.1 rfl).kept hk (fun _ _ h => h)) rfl h0b
        have hc0 : ∀ W, Kept NoB w6 W → W.cell? ⟨B, 0, none⟩ = some (.slice aob5 ba5.length capb5) := fun W hk => by simpa using obj_cell (HT6.out.keptNo hk).b.1 0
        have hc1 : ∀ W, Kept NoB w6 W → W.cell? ⟨B, 1, none⟩ = some (.int .i64 s5) := fun W hk => by simpa using obj_cell (HT6.out.keptNo hk).b.1 1
        have HO6 := Lib.hid ho6; have HF6 := Lib.hid hf6; have HK6 := Lib.hid hk6
        clear ho6 hf6 hn6 hk6 h06 h0b
        have hk66 := Kept.refl NoB w6
        go_wp2_with fail
        go_region_held3 (fun W => Kept NoB w6 W) (first | assumption | exact Kept.drew (by assumption) | exact Kept.trans (by assumption) hkn)
          (first
            | (go_at_call 23; ((with_reducible refine (HT6.out.lenA _ (by assumption)).mono ?_); rintro e wn ⟨rfl, hkn⟩)))
        have hk6n : Kept NoB w6 wn := by assumption
        have hk5n := HK6.out.trans hk6n
        clear hcA hcB hc0 hc1 hk66
        have hb5 : ba5.length ≤ 500 := by have := HT5.out.a.2.2.2.1; omega
        by_cases hl0 : 0 < ba5.length
        · obtain ⟨g, rfl⟩ : ∃ g, ao6 = some ⟨g, 0, none⟩ := by
            rcases HO6.out.2 with ⟨_, hz⟩ | ⟨g, c, cur, hv, _⟩
            · omega
            · simp at hv; exact ⟨g, hv.1⟩
          have ho7 := hk6n.row HO6.out (fun k _ h => h)
          have hcz : wn.cell? ⟨g, 0, none⟩ = some (.int .u8 (ba5.getD 0 0)) := by
            have := ho7.cellAt 0 (by omega)
            rw [this]; simp [List.getD, hl0]
          have hfz : wn.frozen? ⟨g, 0, none⟩ = false := ho7.frozenAt 0
          have hzb := AllB.getD HT5.out.a.2.2.1 0
          have hg : w5.heap.size ≤ g := HF6.out g rfl
          generalize ba5.getD 0 0 = z at hcz hzb
          have HG := Lib.hid hg; have HZb := Lib.hid hzb
          clear ho7 hg hzb hk6n
          have HK5 := Lib.hid hk5n; clear hk5n
          have hl0i : (0 : Int) < ba5.length := by omega
          go_wp2
          go_roundw
          case rel => exact ⟨k + 1, by omega, by go_num, aoa5, capa5, ba5, aob5, capb5, s5, HT5.out.keptNo (Kept.setCell HK5.out (.inr HG.out) _), hs5⟩
          case measure => simp [intOf]; omega
        · have hl0i : ¬ (0 : Int) < ba5.length := by omega
          have HK5 := Lib.hid hk5n; clear hk5n hk6n
          go_wp2
          go_roundw
          case rel => exact ⟨k + 1, by omega, by go_num, aoa5, capa5, ba5, aob5, capb5, s5, HT5.out.keptNo HK5.out, hs5⟩
          case measure => simp [intOf]; omega
      · go_region_held3 (fun W => OpIn W wr.heap.size D N v) (first | assumption)
          (first
            | (go_at_call 33; ((with_reducible refine ((HT3.out _).codeA v N hxk (by omega) _ ((Kept.refl NoB _).drew)).mono ?_); rintro e w4 ⟨rfl, aoa4, capa4, ba4, HT4, HN4, HO4⟩; have hop4 := HO4.out _ _ _ _ hOp3))
            | (go_at_call 34; ((with_reducible refine (refRev_both v N _ hxk).mono ?_); rintro e w4b ⟨rfl, rfl⟩))
            | (go_at_call 32; ((with_reducible refine (HT4.out.wentB (rv v N) N (rv_lt v N) (by omega) _ (Kept.refl NoB _)).mono ?_); rintro e w5 ⟨rfl, aob5, capb5, bb5, HT5, HN5, HO5⟩; have hop5 := HO5.out _ _ _ _ hop4)))
        have HT5 := Lib.hid (both_same HT5.out rfl (by rw [HN5.out, HN4.out]))
        generalize ba4 = ba5 at HT5
        generalize aoa4 = aoa5 at HT5
        generalize capa4 = capa5 at HT5
        have hs5 : s + cutN N ≤ 40 * (k + 1) := by have := cutN_le N; omega
        generalize s + cutN N = s5 at HT5 hs5
        clear hcN hcV hOp3 hop4 hop5 HN4 HN5 HO4 HO5 HT4
        go_wp2_with fail

        refine (wbytes_any _ _ _ _ _ _ HT5.out.a).mono ?_
        rintro e w6 ⟨ao6, cap6, rfl, ho6, hf6, hn6, hk6⟩
        have h06 : ao6 = none → cap6 = 0 := own_nil_cap ho6
        have hcA : ∀ W, Kept NoB w6 W → (convert 22 9 (.slice ao6 ba5.length cap6)).run Try.prog W = .ok (.string (strOfNums ba5)) W := fun W hk => conv_reads ((own_reads ho6 rfl).kept hk (fun _ _ h => h)) rfl h06
        have HT6 := Lib.hid (HT5.out.keptNo hk6)
        have h0b : aob5 = none → capb5 = 0 := own_nil_cap HT6.out.b.2.1
        have hcB : ∀ W, Kept NoB w6 W → (convert 22 9 (.slice aob5 ba5.length capb5)).run Try.prog W = .ok (.string (strOfNums ba5)) W := fun W hk => conv_reads ((own_reads HT6.out.b.2.1 rfl).kept hk (fun _ _ h => h)) rfl h0b
        have hc0 : ∀ W, Kept NoB w6 W → W.cell? ⟨B, 0, none⟩ = some (.slice aob5 ba5.length capb5) := fun W hk => by simpa using obj_cell (HT6.out.keptNo hk).b.1 0
        have hc1 : ∀ W, Kept NoB w6 W → W.cell? ⟨B, 1, none⟩ = some (.int .i64 s5) := fun W hk => by simpa using obj_cell (HT6.out.keptNo hk).b.1 1
        have HO6 := Lib.hid ho6; have HF6 := Lib.hid hf6; have HK6 := Lib.hid hk6
        clear ho6 hf6 hn6 hk6 h06 h0b
        have hk66 := Kept.refl NoB w6
        go_wp2_with fail
        go_region_held3 (fun W => Kept NoB w6 W) (first | assumption | exact Kept.drew (by assumption) | exact Kept.trans (by assumption) hkn)
          (first
            | (go_at_call 23; ((with_reducible refine (HT6.out.lenA _ (by assumption)).mono ?_); rintro e wn ⟨rfl, hkn⟩)))
        have hk6n : Kept NoB w6 wn := by assumption
        have hk5n := HK6.out.trans hk6n
        clear hcA hcB hc0 hc1 hk66
        have hb5 : ba5.length ≤ 500 := by have := HT5.out.a.2.2.2.1; omega
        by_cases hl0 : 0 < ba5.length
        · obtain ⟨g, rfl⟩ : ∃ g, ao6 = some ⟨g, 0, none⟩ := by
            rcases HO6.out.2 with ⟨_, hz⟩ | ⟨g, c, cur, hv, _⟩
            · omega
            · simp at hv; exact ⟨g, hv.1⟩
          have ho7 := hk6n.row HO6.out (fun k _ h => h)
          have hcz : wn.cell? ⟨g, 0, none⟩ = some (.int .u8 (ba5.getD 0 0)) := by
            have := ho7.cellAt 0 (by omega)
            rw [this]; simp [List.getD, hl0]
          have hfz : wn.frozen? ⟨g, 0, none⟩ = false := ho7.frozenAt 0
          have hzb := AllB.getD HT5.out.a.2.2.1 0
          have hg : w5.heap.size ≤ g := HF6.out g rfl
          generalize ba5.getD 0 0 = z at hcz hzb
          have HG := Lib.hid hg; have HZb := Lib.hid hzb
          clear ho7 hg hzb hk6n
          have HK5 := Lib.hid hk5n; clear hk5n
          have hl0i : (0 : Int) < ba5.length := by omega
          go_wp2
          go_roundw
          case rel => exact ⟨k + 1, by omega, by go_num, aoa5, capa5, ba5, aob5, capb5, s5, HT5.out.keptNo (Kept.setCell HK5.out (.inr HG.out) _), hs5⟩
          case measure => simp [intOf]; omega
        · have hl0i : ¬ (0 : Int) < ba5.length := by omega
          have HK5 := Lib.hid hk5n; clear hk5n hk6n
          go_wp2
          go_roundw
          case rel => exact ⟨k + 1, by omega, by go_num, aoa5, capa5, ba5, aob5, capb5, s5, HT5.out.keptNo HK5.out, hs5⟩
          case measure => simp [intOf]; omega
      · refine ((HT3.out _).alignA (by omega) _ (Kept.refl NoB _)).mono ?_
        rintro e w4 ⟨rfl, HT4⟩
        clear hcN hcV hOp3
        go_wp2_with fail
        refine (HT4.out.alignB (by omega) _ (Kept.refl NoB _)).mono ?_
        rintro e w5 ⟨rfl, aob5, capb5, bb5, HT5, HN5⟩
        have HT5 := Lib.hid (both_same HT5.out rfl HN5.out)
        generalize ba = ba5 at HT5
        generalize aoa = aoa5 at HT5
        generalize capa = capa5 at HT5
        have hs5 : up8 s ≤ 40 * (k + 1) := by unfold up8; omega
        generalize up8 s = s5 at HT5 hs5
        clear HN5 HT4
        go_wp2_with fail

        refine (wbytes_any _ _ _ _ _ _ HT5.out.a).mono ?_
        rintro e w6 ⟨ao6, cap6, rfl, ho6, hf6, hn6, hk6⟩
        have h06 : ao6 = none → cap6 = 0 := own_nil_cap ho6
        have hcA : ∀ W, Kept NoB w6 W → (convert 22 9 (.slice ao6 ba5.length cap6)).run Try.prog W = .ok (.string (strOfNums ba5)) W := fun W hk => conv_reads ((own_reads ho6 rfl).kept hk (fun _ _ h => h)) rfl h06
        have HT6 := Lib.hid (HT5.out.keptNo hk6)
        have h0b : aob5 = none → capb5 = 0 := own_nil_cap HT6.out.b.2.1
        have hcB : ∀ W, Kept NoB w6 W → (convert 22 9 (.slice aob5 ba5.length capb5)).run Try.prog W = .ok (.string (strOfNums ba5)) W := fun W hk => conv_reads ((own_reads HT6.out.b.2.1 rfl).kept hk (fun _ _ h => h)) rfl h0b
        have hc0 : ∀ W, Kept NoB w6 W → W.cell? ⟨B, 0, none⟩ = some (.slice aob5 ba5.length capb5) := fun W hk => by simpa using obj_cell (HT6.out.keptNo hk).b.1 0
        have hc1 : ∀ W, Kept NoB w6 W → W.cell? ⟨B, 1, none⟩ = some (.int .i64 s5) := fun W hk => by simpa using obj_cell (HT6.out.keptNo hk).b.1 1
        have HO6 := Lib.hid ho6; have HF6 := Lib.hid hf6; have HK6 := Lib.hid hk6
        clear ho6 hf6 hn6 hk6 h06 h0b
        have hk66 := Kept.refl NoB w6
        go_wp2_with fail
        go_region_held3 (fun W => Kept NoB w6 W) (first | assumption | exact Kept.drew (by assumption) | exact Kept.trans (by assumption) hkn)
          (first
            | (go_at_call 23; ((with_reducible refine (HT6.out.lenA _ (by assumption)).mono ?_); rintro e wn ⟨rfl, hkn⟩)))
        have hk6n : Kept NoB w6 wn := by assumption
        have hk5n := HK6.out.trans hk6n
        clear hcA hcB hc0 hc1 hk66
        have hb5 : ba5.length ≤ 500 := by have := HT5.out.a.2.2.2.1; omega
        by_cases hl0 : 0 < ba5.length
        · obtain ⟨g, rfl⟩ : ∃ g, ao6 = some ⟨g, 0, none⟩ := by
            rcases HO6.out.2 with ⟨_, hz⟩ | ⟨g, c, cur, hv, _⟩
            · omega
            · simp at hv; exact ⟨g, hv.1⟩
          have ho7 := hk6n.row HO6.out (fun k _ h => h)
          have hcz : wn.cell? ⟨g, 0, none⟩ = some (.int .u8 (ba5.getD 0 0)) := by
            have := ho7.cellAt 0 (by omega)
            rw [this]; simp [List.getD, hl0]
          have hfz : wn.frozen? ⟨g, 0, none⟩ = false := ho7.frozenAt 0
          have hzb := AllB.getD HT5.out.a.2.2.1 0
          have hg : w5.heap.size ≤ g := HF6.out g rfl
          generalize ba5.getD 0 0 = z at hcz hzb
          have HG := Lib.hid hg; have HZb := Lib.hid hzb
          clear ho7 hg hzb hk6n
          have HK5 := Lib.hid hk5n; clear hk5n
          have hl0i : (0 : Int) < ba5.length := by omega
          go_wp2
          go_roundw
          case rel => exact ⟨k + 1, by omega, by go_num, aoa5, capa5, ba5, aob5, capb5, s5, HT5.out.keptNo (Kept.setCell HK5.out (.inr HG.out) _), hs5⟩
          case measure => simp [intOf]; omega
        · have hl0i : ¬ (0 : Int) < ba5.length := by omega
          have HK5 := Lib.hid hk5n; clear hk5n hk6n
          go_wp2
          go_roundw
          case rel => exact ⟨k + 1, by omega, by go_num, aoa5, capa5, ba5, aob5, capb5, s5, HT5.out.keptNo HK5.out, hs5⟩
          case measure => simp [intOf]; omega
    · have g0 : ¬ ((k : Int) < len) ∨ ((k : Int) < len ∧ ¬ (k : Int) < 60) := by have := HK.out; omega
      have h0b : aob = none → capb = 0 := own_nil_cap HT.out.b.2.1
      have hcB : ∀ W, Kept NoB wr W → (convert 22 9 (.slice aob ba.length capb)).run Try.prog W = .ok (.string (strOfNums ba)) W := fun W hk => conv_reads ((own_reads HT.out.b.2.1 rfl).kept hk (fun _ _ h => h)) rfl h0b
      have hc0 : ∀ W, Kept NoB wr W → W.cell? ⟨B, 0, none⟩ = some (.slice aob ba.length capb) := fun W hk => by simpa using obj_cell (HT.out.keptNo hk).b.1 0
      have HcB := Lib.hid hcB; have Hc0 := Lib.hid hc0; clear hcB hc0 h0b
      rcases g0 with g1 | ⟨g1, g2⟩
      all_goals
        go_wp2_with fail
        have hcB := HcB.out
        have hc0 := Hc0.out
        refine wp_region_noPanic ?_
        refine wp_region_held_drew (S := fun W => Kept NoB wr W) (by kernel_rfl) ((Kept.refl NoB wr).drew) (fun hHeld => ?_)
        refine wpAnyH_take (i := 0) (v := ?_) (by rw [List.getElem?_toArray]; rfl) (by kernel_rfl) (by kernel_rfl) (by kernel_rfl) (fun _ _ _ h => h) (Or.inl ⟨by rfl, ?_⟩) (by assumption) ?_
        rotate_left
        · (intro w hSw; (try dsimp only at hSw); go_simp; (try with_reducible rfl))
        try simp only [Act.put, List.setIfInBounds_toArray, List.set_cons_zero, List.set_cons_succ]
        refine wpAnyH_take (i := 3) (v := ?_) (by rw [List.getElem?_toArray]; rfl) (by kernel_rfl) (by kernel_rfl) (by kernel_rfl) (fun _ _ _ h => h) (Or.inl ⟨by rfl, ?_⟩) (by assumption) ?_
        rotate_left
        · (intro w hSw; (try dsimp only at hSw); go_simp; (try with_reducible rfl))
        try simp only [Act.put, List.setIfInBounds_toArray, List.set_cons_zero, List.set_cons_succ]
        refine wpAnyH_take (i := 4) (v := ?_) (by rw [List.getElem?_toArray]; rfl) (by kernel_rfl) (by kernel_rfl) (by kernel_rfl) (fun _ _ _ h => h) (Or.inl ⟨by rfl, ?_⟩) (by assumption) ?_
        rotate_left
        · (intro w hSw; (try dsimp only at hSw); go_simp; (try with_reducible rfl))
        try simp only [Act.put, List.setIfInBounds_toArray, List.set_cons_zero, List.set_cons_succ]
        refine wpAnyH_take (i := 5) (v := ?_) (by rw [List.getElem?_toArray]; rfl) (by kernel_rfl) (by kernel_rfl) (by kernel_rfl) (fun _ _ _ h => h) (Or.inl ⟨by rfl, ?_⟩) (by assumption) ?_
        rotate_left
        · (intro w hSw; (try dsimp only at hSw); go_simp; (try with_reducible rfl))
        try simp only [Act.put, List.setIfInBounds_toArray, List.set_cons_zero, List.set_cons_succ]
        refine wpAnyH_take (i := 6) (v := ?_) (by rw [List.getElem?_toArray]; rfl) (by kernel_rfl) (by kernel_rfl) (by kernel_rfl) (fun _ _ _ h => h) (Or.inl ⟨by rfl, ?_⟩) (by assumption) ?_
        rotate_left
        · (intro w hSw; (try dsimp only at hSw); go_simp; (try with_reducible rfl))
        try simp only [Act.put, List.setIfInBounds_toArray, List.set_cons_zero, List.set_cons_succ]
        refine wpAnyH_take (i := 7) (v := ?_) (by rw [List.getElem?_toArray]; rfl) (by kernel_rfl) (by kernel_rfl) (by kernel_rfl) (fun _ _ _ h => h) (Or.inl ⟨by rfl, ?_⟩) (by assumption) ?_
        rotate_left
        · (intro w hSw; (try dsimp only at hSw); go_simp; (try with_reducible rfl))
        try simp only [Act.put, List.setIfInBounds_toArray, List.set_cons_zero, List.set_cons_succ]
        clear hcB hc0
        refine wpAnyH_ready (rs := [1]) (by kernel_rfl) (by simp) ?_
        refine AllReadyH.cons (by rw [List.getElem?_toArray]; rfl) (fun K hK => ?_) AllReadyH.nil
        go_simp
        go_at_call 22
        (with_reducible refine (HT.out.bytesA _ hHeld).mono ?_)
        rintro e w2 ⟨ao2, cap2, rfl, Hr2, H02, Hc2, hk2⟩
        clear Hc2
        go_wp2_with fail
        have hk3 := hHeld.trans hk2
        refine hK.out _ _ hk3 (fun hHeld2 => ?_)
        clear hK K hHeld hHeld2 hk2
        try simp only [Act.put, List.setIfInBounds_toArray, List.set_cons_zero, List.set_cons_succ]
        refine wpAnyH_mono (S' := fun W => Kept NoB w2 W) (fun _ h => hk3.trans h) ?_
        have hHeld := Kept.refl NoB w2
        have hcA : ∀ W, Kept NoB w2 W → (convert 22 9 (.slice ao2 ba.length cap2)).run Try.prog W = .ok (.string (strOfNums ba)) W := fun W hk => conv_reads (Hr2.out.kept hk (fun _ _ h => h)) rfl H02.out
        refine wpAnyH_take (i := 2) (v := ?_) (by rw [List.getElem?_toArray]; rfl) (by kernel_rfl) (by kernel_rfl) (by kernel_rfl) (fun _ _ _ h => h) (Or.inl ⟨by rfl, ?_⟩) (by assumption) ?_
        rotate_left
        · (intro w hSw; (try dsimp only at hSw); go_simp; (try with_reducible rfl))
        try simp only [Act.put, List.setIfInBounds_toArray, List.set_cons_zero, List.set_cons_succ]
        refine wpAnyH_take (i := 8) (v := ?_) (by rw [List.getElem?_toArray]; rfl) (by kernel_rfl) (by kernel_rfl) (by kernel_rfl) (fun _ _ _ h => h) (Or.inl ⟨by rfl, ?_⟩) (by assumption) ?_
        rotate_left
        · (intro w hSw; (try dsimp only at hSw); go_simp; (try with_reducible rfl))
        try simp only [Act.put, List.setIfInBounds_toArray, List.set_cons_zero, List.set_cons_succ]
        refine wpAnyH_take (i := 9) (v := ?_) (by rw [List.getElem?_toArray]; rfl) (by kernel_rfl) (by kernel_rfl) (by kernel_rfl) (fun _ _ _ h => h) (Or.inl ⟨by rfl, ?_⟩) (by assumption) ?_
        rotate_left
        · (intro w hSw; (try dsimp only at hSw); go_simp; (try with_reducible rfl))
        try simp only [Act.put, List.setIfInBounds_toArray, List.set_cons_zero, List.set_cons_succ]
        clear hcA
        refine wpAnyH_done (by kernel_rfl) ?_ _
        refine NoPanic.normal ?_
        go_wp2
        go_ret
        exact ⟨rfl, hk3.belowNo HBel.out⟩

theorem bitsWrite_law (v0 : Value) (w : World) (r0 : Arg w 39 v0) : Calls Try.prog 6 #[v0] w fun e w' => e = .returned (.bool true) ∧ Below w.heap.size w w' := by
  obtain ⟨ao, len, cap, kd, nn, vv, rfl, hm, ho, ha, hb⟩ := ops_open r0
  exact bitsWrite_walk ao cap len kd nn vv w hm ho ha hb
end Go.Proofs.Ytffoigacpnlkgaa
