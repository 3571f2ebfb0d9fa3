/-
  FeedSinks: a sink takes bytes up to its bound, in whatever parts; what has one in it does so, too, and counts.
-/
import Derived.Test.YtffoigacpnlkgaaSinks
import Derived.Test.YtffoigacpnlkgaaLawFeedJoin
namespace Go.Proofs.Ytffoigacpnlkgaa
open Go.RowKit
set_option linter.unusedVariables false
set_option linter.unusedSimpArgs false

theorem parts_cell {W : World} {po : Option Addr} {ps : List (List Int)} (h : Parts W po ps) (i : Nat) (hi : i < ps.length) :
    ∃ b off, po = some ⟨b, off, none⟩ ∧ ∃ ao cap, W.cell? ⟨b, off + i, none⟩ = some (.slice ao (ps.getD i []).length cap) ∧ Reads W ao (ps.getD i []) ∧ (ps.getD i []).length ≤ cap ∧ cap ≤ maxLen ∧ (ao = none → cap = 0) := by
  rcases h with h | ⟨b, off, h1, h2, h3⟩
  · rw [h] at hi; simp at hi
  · exact ⟨b, off, h1, h3 i hi⟩

theorem wpAnyH_mono2 {P : Program} {md : Region.Mode} {ops : Array Oper} {Q : Exit → Act → World → Prop} {S S' : World → Prop} (h : ∀ w, S' w → S w) :
    ∀ {fuel : Nat} {listed : Array Bool} {a : Act} {w : World}, wpAnyH P md ops Q S' fuel listed a w → wpAnyH P md ops Q S fuel listed a w := by
  intro fuel
  induction fuel with
  | zero => intro _ _ _ hh; exact hh
  | succ n ih => intro listed a w hh; exact ⟨hh.1, fun i hi => wpOp_mono (fun a w hw => ⟨h _ hw.1, ih hw.2⟩) (hh.2 i hi)⟩
theorem str_extract3 (bs : List Int) (a n : Nat) : (strOfNums bs).extract a (a + n) = strOfNums ((bs.drop a).take n) := by
  apply ByteArray.ext
  apply Array.ext'
  rw [strOfNums_data]
  simp [strOfNums_data, List.map_take, List.map_drop]

set_option maxRecDepth 100000 in
set_option maxHeartbeats 4000000 in
theorem feedSinks_walk (z : Int) (m : Nat) (ao : Option Addr) (cap len : Nat) (ps : List (List Int)) (w : World) (hz1 : z ≤ 9223372036854775807) (hz2 : -9223372036854775808 ≤ z) (hmz : (m : Int) = if z < 0 then 0 else z) (hlen : ps.length = len) (hp : Parts w ao ps) (hall : AllP ps) (hm : len ≤ maxLen) :
    Calls Try.prog 14 #[.int .i64 z, .slice ao len cap] w fun e w' => e = .returned (.bool true) ∧ Below w.heap.size w w' := by
  unfold maxLen at hm
  have hml : m ≤ 9223372036854775807 := by split at hmz <;> omega
  have HMz := Lib.hid hmz
  have HLen := Lib.hid hlen; have HP := Lib.hid hp; have HAll := Lib.hid hall
  clear hlen hp hall hmz
  go_enter Try.func14, Try.ntmps14
  go_wp2_with fail
  refine (newk_any _ z m HMz.out hml).mono ?_
  rintro e w1 ⟨K, rfl, hK, hKe, hk1⟩
  have HK := Lib.hid hK; have HB1 := Lib.hid (hk1.belowNo (Below.refl _ _)); have HK1 := Lib.hid hk1
  clear hK hKe hk1
  go_wp2_with fail
  refine (newc_any _ z m HMz.out hml).mono ?_
  rintro e w2 ⟨C, rfl, hC, hk2⟩
  have hT : Snks w w2 K none 0 [] C none 0 [] m 0 := by
    have h1 := hC.snk
    have h2 := obj_lt HK.out.obj
    have h3 := h1.low
    refine ⟨⟨_, HK.out.keptNo hk2⟩, ⟨{ h1 with low := Nat.le_trans HK1.out.size h1.low, fr := (by intro k hk; simp [Value.ownBlock] at hk) }, hC.nl⟩, by omega, (by intro k hk; simp [Value.ownBlock] at hk), hk2.belowNo HB1.out⟩
  have HT := Lib.hid hT
  clear hT hC hk2 HK HB1 HK1
  by_cases h30 : (30 : Int) < len
  · go_wp2_with fail
    refine (awake3 _).mono ?_
    rintro e w3 ⟨rfl, hb3⟩
    have hb4 := HT.out.bel.trans (hb3.mono HT.out.bel.size)
    go_wp2
    go_ret
    exact ⟨rfl, hb4⟩
  · have e0 : (⟨#[]⟩ : ByteArray) = strOfNums [] := rfl
    go_wp2
    go_loopw [8, 9, 10] (fun al wr i wx => ∃ (j n : Nat) (bs : List Int) (ak : Option Addr) (ck : Nat) (ac : Option Addr) (cc : Nat), j ≤ len + 1 ∧ n ≤ j ∧ bs.length ≤ 100 * j ∧ i = .int .i64 j ∧ wr = .int .i64 n ∧ al = .string (strOfNums bs) ∧ Snks w wx K ak ck bs C ac cc bs m n) (fun _ _ i _ => len + 2 - (intOf i).toNat)
    case atStart => exact ⟨0, 0, [], none, 0, none, 0, by omega, by omega, by simp, rfl, rfl, rfl, HT.out⟩
    case round =>
      obtain ⟨j, n, bs, ak, ck, ac, cc, hj, hnj, hbl, rfl, rfl, rfl, hS⟩ := hrel
      have HS := Lib.hid hS; clear hS
      clear e0
      by_cases hlt : (j : Int) + 1 < len
      · obtain ⟨b, off, rfl, pa, pc, d0, hrp, hpl, hpm, hpn⟩ := parts_cell HP.out j (by have := HLen.out; omega)
        obtain ⟨b', off', hbo, qa, qc, d1, hrq, hql, hqm, hqn⟩ := parts_cell HP.out (j + 1) (by have := HLen.out; omega)
        simp only [Option.some.injEq, Addr.mk.injEq, and_true] at hbo
        obtain ⟨rfl, rfl⟩ := hbo
        have hpall := HAll.out.getD j
        have hqall := HAll.out.getD (j + 1)
        generalize ps.getD j [] = p at d0 hrp hpl hpall
        generalize ps.getD (j + 1) [] = q at d1 hrq hql hqall
        obtain ⟨j1, hj1⟩ : ∃ j1, j1 = j + 1 := ⟨_, rfl⟩
        rw [← hj1] at d1
        have hjj : (j : Int) + 1 = j1 := by omega
        have hjw : IntKind.i64.wrap (j1 : Int) = j1 := IntWalk.i64_in _ (by omega)
        have hj1l : (j1 : Int) < len := by omega
        have hjl : (j : Int) < len := by omega
        have hj0 : (0 : Int) ≤ j := by omega
        have hj10 : (0 : Int) ≤ j1 := by omega
        have hcl0 : ∀ W, Kept NoB wr W → W.cell? ⟨b, off + j, none⟩ = some (.slice pa p.length pc) := fun W hk => ((hk.belowNo HS.out.bel).cell (p := ⟨b, off + j, none⟩) (World.block_lt_of_cell? w _ d0)).trans d0
        have hcl1 : ∀ W, Kept NoB wr W → W.cell? ⟨b, off + j1, none⟩ = some (.slice qa q.length qc) := fun W hk => ((hk.belowNo HS.out.bel).cell (p := ⟨b, off + j1, none⟩) (World.block_lt_of_cell? w _ d1)).trans d1
        have d0 := hcl0 wr (Kept.refl _ _)
        have d1 := hcl1 wr (Kept.refl _ _)
        have HJ1 := Lib.hid hj1; have HRp := Lib.hid hrp; have HRq := Lib.hid hrq; have HPn := Lib.hid hpn; have HQn := Lib.hid hqn; have HPa := Lib.hid hpall; have HQa := Lib.hid hqall
        have HC0 := Lib.hid hcl0; have HC1 := Lib.hid hcl1
        clear hj1 hrp hrq hpn hqn hpall hqall hcl0 hcl1
        have hpmi : pc ≤ 9223372036854775807 := by unfold maxLen at hpm; omega
        have hqmi : qc ≤ 9223372036854775807 := by unfold maxLen at hqm; omega
        have hcase : ((100 : Int) < p.length) ∨ (¬ (100 : Int) < p.length ∧ (100 : Int) < q.length) ∨ (¬ (100 : Int) < p.length ∧ ¬ (100 : Int) < q.length) := by omega
        rcases hcase with g1 | ⟨g1, g2⟩ | ⟨g1, g2⟩
        · go_wp2_with fail
          refine (awake3 _).mono ?_
          rintro e w3 ⟨rfl, hb3⟩
          have hb4 := HS.out.bel.trans (hb3.mono HS.out.bel.size)
          go_wp2
          go_ret
          exact ⟨rfl, hb4⟩
        · go_wp2_with fail
          refine (awake3 _).mono ?_
          rintro e w3 ⟨rfl, hb3⟩
          have hb4 := HS.out.bel.trans (hb3.mono HS.out.bel.size)
          go_wp2
          go_ret
          exact ⟨rfl, hb4⟩
        · have hSk := HS.out.k
          obtain ⟨csk, hSk⟩ := hSk
          have hbm := hSk.bl
          have hsz : (strOfNums bs).size = bs.length := strOfNums_size bs
          obtain ⟨x, hx⟩ : ∃ x : Nat, (x : Int) = if (m : Int) - bs.length < (p.length : Int) + q.length then (m : Int) - bs.length else (p.length : Int) + q.length := ⟨(if (m : Int) - bs.length < (p.length : Int) + q.length then (m : Int) - bs.length else (p.length : Int) + q.length).toNat, Int.toNat_of_nonneg (by split <;> omega)⟩
          obtain ⟨hf1, hf2, hf3⟩ := fill_two bs m p q hbm x hx
          have HX := Lib.hid hx; have HF1 := Lib.hid hf1; have HF2 := Lib.hid hf2
          clear hSk hx hf1 hf2
          go_upto_region 11 with fail
          go_cut [11] from 61 to 78 (fun s wx => s = .int .i64 x ∧ ∃ nd, wx = wr.drewN nd)
          case first =>
            have hmm := HMz.out
            go_quiet (fail)
            go_wp2
            all_goals go_meet
            all_goals exact ⟨by congr 1; (have hx := HX.out; split at hmm <;> split at hx <;> omega), _, rfl⟩
          case rest =>
          obtain ⟨rfl, nd, hw⟩ := hcut
          have hkc : Kept NoB wr wc := by rw [hw]; exact (Kept.refl _ _).drewN _
          have HSc := Lib.hid (HS.out.keptNo hkc); have HKc := Lib.hid hkc
          clear hw hkc d0 d1
          have hc0 : ∀ W, Kept NoB wc W → W.cell? ⟨b, off + j, none⟩ = some (.slice pa p.length pc) := fun W hk => HC0.out W (HKc.out.trans hk)
          have hc1 : ∀ W, Kept NoB wc W → W.cell? ⟨b, off + j1, none⟩ = some (.slice qa q.length qc) := fun W hk => HC1.out W (HKc.out.trans hk)
          have hv0 : ∀ W, Kept NoB wc W → (convert 22 9 (.slice pa p.length pc)).run Try.prog W = .ok (.string (strOfNums p)) W := fun W hk => conv_reads (HRp.out.below (hk.belowNo HSc.out.bel)) rfl HPn.out
          have hv1 : ∀ W, Kept NoB wc W → (convert 22 9 (.slice qa q.length qc)).run Try.prog W = .ok (.string (strOfNums q)) W := fun W hk => conv_reads (HRq.out.below (hk.belowNo HSc.out.bel)) rfl HQn.out
          have hpq := str_append p q
          have hs1 : (strOfNums p).size + (strOfNums q).size ≤ 9223372036854775807 := by rw [strOfNums_size, strOfNums_size]; omega
          have hxs : (x : Int) ≤ (strOfNums (p ++ q)).size := by rw [strOfNums_size, List.length_append]; omega
          have hex : (strOfNums (p ++ q)).extract 0 x = strOfNums ((p ++ q).take x) := by
            have := str_extract3 (p ++ q) 0 x
            rw [Nat.zero_add, List.drop_zero] at this
            exact this
          have hall2 := str_append bs ((p ++ q).take x)
          have hs2 : (strOfNums bs).size + (strOfNums ((p ++ q).take x)).size ≤ 9223372036854775807 := by rw [strOfNums_size, strOfNums_size, List.length_take, List.length_append]; omega
          rw [← HF1.out] at hall2
          obtain ⟨fs, hfs⟩ : ∃ fs, fs = fill bs m [p, q] := ⟨_, rfl⟩
          rw [← hfs] at hall2 HF1 HF2
          have HFs := Lib.hid hfs
          have HSz := Lib.hid hsz
          clear hfs hsz
          generalize strOfNums p = sp at hv0 hpq hs1
          generalize strOfNums q = sq at hv1 hpq hs1
          generalize strOfNums (p ++ q) = spq at hpq hex hxs
          generalize strOfNums ((p ++ q).take x) = tx at hex hall2 hs2
          obtain ⟨sb, hsb⟩ : ∃ sb, sb = strOfNums bs := ⟨_, rfl⟩
          obtain ⟨sf, hsf⟩ : ∃ sf, sf = strOfNums fs := ⟨_, rfl⟩
          rw [← hsb] at hall2 hs2 HSz ⊢
          rw [← hsf] at hall2
          have HSb := Lib.hid hsb; have HSf := Lib.hid hsf
          clear hsb hsf
          have hx0 : (0 : Int) ≤ x := by omega
          have hs1n : ¬ 9223372036854775807 < sp.size + sq.size := by omega
          have hs2n : ¬ 9223372036854775807 < sb.size + tx.size := by omega
          have had1 := fun W => run_string_add_sum (P := Try.prog) W sp sq hs1
          have had2 := fun W => run_string_add_sum (P := Try.prog) W sb tx hs2
          rw [hpq] at had1
          rw [hall2] at had2
          go_wp2_with fail
          go_region_held3 (fun W => Kept NoB wc W) (first | assumption | exact Kept.drew (Kept.refl _ _) | exact Kept.drew (by assumption)) (fail)
          clear hc0 hc1 hv0 hv1 hpq hs1 hxs hex hall2 hs2 hs1n hs2n had1 had2
          obtain ⟨n', hn'⟩ : ∃ n' : Nat, n' = if x = 0 then n else n + 1 := ⟨_, rfl⟩
          have HN' := Lib.hid hn'; clear hn'
          have hkd : Kept NoB wc wc.drew := (Kept.refl _ _).drew
          have HSd := Lib.hid (HSc.out.keptNo hkd); have HKd := Lib.hid (HKc.out.trans hkd)
          clear hkd
          have hnn : (n : Int) ≤ 1000 := by omega
          go_upto_if 96 with fail
          generalize wc.drew = wd at HSd HKd ⊢
          go_cut [9] from 95 to 98 (fun s wx => s = .int .i64 n' ∧ wd = wx)
          case first =>
            by_cases h0 : x = 0
            · have hn' := HN'.out
              rw [if_pos h0] at hn'
              have hx' : ¬ (0 : Int) < x := by omega
              clear h0
              go_wp2
              go_meet
              exact ⟨by rw [hn'], rfl⟩
            · have hn' := HN'.out
              rw [if_neg h0] at hn'
              have hx' : (0 : Int) < x := by omega
              go_wp2
              go_meet
              exact ⟨by rw [hn']; congr 1, rfl⟩
          case rest =>
          obtain ⟨rfl, hw⟩ := hcut
          subst hw
          have hld0 : ∀ W, Below w.heap.size w W → W.cell? ⟨b, off + j, none⟩ = some (.slice pa p.length pc) := fun W hk => (hk.cell (p := ⟨b, off + j, none⟩) (World.block_lt_of_cell? w _ d0)).trans d0
          have hld1 : ∀ W, Below w.heap.size w W → W.cell? ⟨b, off + j1, none⟩ = some (.slice qa q.length qc) := fun W hk => (hk.cell (p := ⟨b, off + j1, none⟩) (World.block_lt_of_cell? w _ d1)).trans d1
          have hnil : ∀ W : World, (nilAhead 212 73 (.pointer (some ⟨C, 0, none⟩)) "Write").run Try.prog W = .ok (some false) W := fun W => by kernel_rfl
          have hmW : ∀ W : World, (method 212 73 (.pointer (some ⟨C, 0, none⟩)) "Write").run Try.prog W = .ok (76, .pointer (some ⟨C, 0, none⟩)) W := fun W => by kernel_rfl
          have hmB : ∀ W : World, (method 212 73 (.pointer (some ⟨C, 0, none⟩)) "Bytes").run Try.prog W = .ok (50, .pointer (some ⟨C, 0, none⟩)) W := fun W => by kernel_rfl
          have hmL : ∀ W : World, (method 212 73 (.pointer (some ⟨C, 0, none⟩)) "Left").run Try.prog W = .ok (53, .pointer (some ⟨C, 0, none⟩)) W := fun W => by kernel_rfl
          have hFx : (x : Int) = ((fill bs m [p, q]).length : Int) - bs.length := by rw [← HFs.out]; exact HF2.out.symm
          have hpt : p.length ≤ pc ∧ pc ≤ maxLen ∧ (pa = none → pc = 0) := ⟨hpl, hpm, HPn.out⟩
          have hqt : q.length ≤ qc ∧ qc ≤ maxLen ∧ (qa = none → qc = 0) := ⟨hql, hqm, HQn.out⟩
          have hb4 : bs.length + p.length + q.length ≤ 1000000 := by omega
          have HPt := Lib.hid hpt; have HQt := Lib.hid hqt; have HFx := Lib.hid hFx
          have hwk := fun W h1 h2 h3 => HSd.out.writeK (r := wd.heap.size) (Nat.le_refl _) HRp.out HRq.out HPa.out HQa.out hpt hqt hb4 hFx W h1 h2 h3
          have HWk := Lib.hid hwk
          clear hpt hqt hFx hwk d0 d1 HC0 HC1 HSc HKc HKd HS hpl hpm hql hqm
          go_wp2_with fail
          dsimp only [List.append]
          refine wp_region_noPanic ?_
          refine wp_region_held_drew (S := fun W => Below w.heap.size w W) (by kernel_rfl) (HSd.out.bel.drew) (fun hHeld => ?_)
          refine wpAnyH_take (i := 0) (v := ?_) (by rw [List.getElem?_toArray]; rfl) (by kernel_rfl) (by kernel_rfl) (by kernel_rfl) (fun _ _ _ h => h) (Or.inl ⟨by rfl, ?_⟩) (by assumption) ?_
          rotate_left
          · (intro w hSw; (try dsimp only at hSw); go_simp; (try with_reducible rfl))
          try simp only [Act.put, List.setIfInBounds_toArray, List.set_cons_zero, List.set_cons_succ]
          refine wpAnyH_take (i := 1) (v := ?_) (by rw [List.getElem?_toArray]; rfl) (by kernel_rfl) (by kernel_rfl) (by kernel_rfl) (fun _ _ _ h => h) (Or.inl ⟨by rfl, ?_⟩) (by assumption) ?_
          rotate_left
          · (intro w hSw; (try dsimp only at hSw); go_simp; (try with_reducible rfl))
          try simp only [Act.put, List.setIfInBounds_toArray, List.set_cons_zero, List.set_cons_succ]
          refine wpAnyH_take (i := 2) (v := ?_) (by rw [List.getElem?_toArray]; rfl) (by kernel_rfl) (by kernel_rfl) (by kernel_rfl) (fun _ _ _ h => h) (Or.inl ⟨by rfl, ?_⟩) (by assumption) ?_
          rotate_left
          · (intro w hSw; (try dsimp only at hSw); go_simp; (try with_reducible rfl))
          try simp only [Act.put, List.setIfInBounds_toArray, List.set_cons_zero, List.set_cons_succ]
          refine wpAnyH_take (i := 3) (v := ?_) (by rw [List.getElem?_toArray]; rfl) (by kernel_rfl) (by kernel_rfl) (by kernel_rfl) (fun _ _ _ h => h) (Or.inl ⟨by rfl, ?_⟩) (by assumption) ?_
          rotate_left
          · (intro w hSw; (try dsimp only at hSw); go_simp; (try with_reducible rfl))
          try simp only [Act.put, List.setIfInBounds_toArray, List.set_cons_zero, List.set_cons_succ]
          refine wpAnyH_take (i := 4) (v := ?_) (by rw [List.getElem?_toArray]; rfl) (by kernel_rfl) (by kernel_rfl) (by kernel_rfl) (fun _ _ _ h => h) (Or.inl ⟨by rfl, ?_⟩) (by assumption) ?_
          rotate_left
          · (intro w hSw; (try dsimp only at hSw); go_simp; (try with_reducible rfl))
          try simp only [Act.put, List.setIfInBounds_toArray, List.set_cons_zero, List.set_cons_succ]
          refine wpAnyH_take (i := 5) (v := ?_) (by rw [List.getElem?_toArray]; rfl) (by kernel_rfl) (by kernel_rfl) (by kernel_rfl) (fun _ _ _ h => h) (Or.inl ⟨by rfl, ?_⟩) (by assumption) ?_
          rotate_left
          · (intro w hSw; (try dsimp only at hSw); go_simp; (try with_reducible rfl))
          try simp only [Act.put, List.setIfInBounds_toArray, List.set_cons_zero, List.set_cons_succ]
          refine wpAnyH_take (i := 6) (v := ?_) (by rw [List.getElem?_toArray]; rfl) (by kernel_rfl) (by kernel_rfl) (by kernel_rfl) (fun _ _ _ h => h) (Or.inl ⟨by rfl, ?_⟩) (by assumption) ?_
          rotate_left
          · (intro w hSw; (try dsimp only at hSw); go_simp; (try with_reducible rfl))
          try simp only [Act.put, List.setIfInBounds_toArray, List.set_cons_zero, List.set_cons_succ]
          refine wpAnyH_take (i := 7) (v := ?_) (by rw [List.getElem?_toArray]; rfl) (by kernel_rfl) (by kernel_rfl) (by kernel_rfl) (fun _ _ _ h => h) (Or.inl ⟨by rfl, ?_⟩) (by assumption) ?_
          rotate_left
          · (intro w hSw; (try dsimp only at hSw); go_simp; (try with_reducible rfl))
          try simp only [Act.put, List.setIfInBounds_toArray, List.set_cons_zero, List.set_cons_succ]
          refine wpAnyH_take (i := 8) (v := ?_) (by rw [List.getElem?_toArray]; rfl) (by kernel_rfl) (by kernel_rfl) (by kernel_rfl) (fun _ _ _ h => h) (Or.inl ⟨by rfl, ?_⟩) (by assumption) ?_
          rotate_left
          · (intro w hSw; (try dsimp only at hSw); go_simp; (try with_reducible rfl))
          try simp only [Act.put, List.setIfInBounds_toArray, List.set_cons_zero, List.set_cons_succ]
          refine wpAnyH_take (i := 9) (v := ?_) (by rw [List.getElem?_toArray]; rfl) (by kernel_rfl) (by kernel_rfl) (by kernel_rfl) (fun _ _ _ h => h) (Or.inl ⟨by rfl, ?_⟩) (by assumption) ?_
          rotate_left
          · (intro w hSw; (try dsimp only at hSw); go_simp; (try with_reducible rfl))
          try simp only [Act.put, List.setIfInBounds_toArray, List.set_cons_zero, List.set_cons_succ]
          refine wpAnyH_take (i := 12) (v := ?_) (by rw [List.getElem?_toArray]; rfl) (by kernel_rfl) (by kernel_rfl) (by kernel_rfl) (fun _ _ _ h => h) (Or.inl ⟨by rfl, ?_⟩) (by assumption) ?_
          rotate_left
          · (intro w hSw; (try dsimp only at hSw); go_simp; (try with_reducible rfl))
          try simp only [Act.put, List.setIfInBounds_toArray, List.set_cons_zero, List.set_cons_succ]
          refine wpAnyH_ready (rs := [10]) (by kernel_rfl) (by simp) ?_
          refine AllReadyH.cons (by rw [List.getElem?_toArray]; rfl) (fun K hK => ?_) AllReadyH.nil
          go_simp
          refine hK.out _ _ (hHeld.alloc hHeld.size _) (fun hHeld2 => ?_)
          clear hK K hHeld
          try simp only [Act.put, List.setIfInBounds_toArray, List.set_cons_zero, List.set_cons_succ]
          refine wpAnyH_ready (rs := [11]) (by kernel_rfl) (by simp) ?_
          refine AllReadyH.cons (by rw [List.getElem?_toArray]; rfl) (fun K hK => ?_) AllReadyH.nil
          go_simp
          go_at_call 49
          (with_reducible refine (HWk.out _ ((Kept.refl NoB wd).alloc _).drew ?_ ?_).mono ?_)
          · exact cell_new 0 rfl
          · exact cell_new 1 rfl
          rintro e w3 ⟨rfl, ak3, ck3, HS3⟩
          have hb5 : n < 1000000 := by omega
          have hwc := fun W h1 h2 h3 => HS3.out.writeC hb5 (r := w3.heap.size) (Nat.le_refl _) HRp.out HRq.out HPa.out HQa.out HPt.out HQt.out hb4 HFx.out HN'.out W h1 h2 h3
          have HWc := Lib.hid hwc; clear hwc hb5
          go_wp2_with fail
          refine hK.out _ _ HS3.out.bel (fun hHeld => ?_)
          clear hK K hHeld2
          try simp only [Act.put, List.setIfInBounds_toArray, List.set_cons_zero, List.set_cons_succ]
          refine wpAnyH_take (i := 13) (v := ?_) (by rw [List.getElem?_toArray]; rfl) (by kernel_rfl) (by kernel_rfl) (by kernel_rfl) (fun _ _ _ h => h) (Or.inl ⟨by rfl, ?_⟩) (by assumption) ?_
          rotate_left
          · (intro w hSw; (try dsimp only at hSw); go_simp; (try with_reducible rfl))
          try simp only [Act.put, List.setIfInBounds_toArray, List.set_cons_zero, List.set_cons_succ]
          refine wpAnyH_take (i := 14) (v := ?_) (by rw [List.getElem?_toArray]; rfl) (by kernel_rfl) (by kernel_rfl) (by kernel_rfl) (fun _ _ _ h => h) (Or.inl ⟨by rfl, ?_⟩) (by assumption) ?_
          rotate_left
          · (intro w hSw; (try dsimp only at hSw); go_simp; (try with_reducible rfl))
          try simp only [Act.put, List.setIfInBounds_toArray, List.set_cons_zero, List.set_cons_succ]
          refine wpAnyH_take (i := 15) (v := ?_) (by rw [List.getElem?_toArray]; rfl) (by kernel_rfl) (by kernel_rfl) (by kernel_rfl) (fun _ _ _ h => h) (Or.inl ⟨by rfl, ?_⟩) (by assumption) ?_
          rotate_left
          · (intro w hSw; (try dsimp only at hSw); go_simp; (try with_reducible rfl))
          try simp only [Act.put, List.setIfInBounds_toArray, List.set_cons_zero, List.set_cons_succ]
          refine wpAnyH_take (i := 16) (v := ?_) (by rw [List.getElem?_toArray]; rfl) (by kernel_rfl) (by kernel_rfl) (by kernel_rfl) (fun _ _ _ h => h) (Or.inl ⟨by rfl, ?_⟩) (by assumption) ?_
          rotate_left
          · (intro w hSw; (try dsimp only at hSw); go_simp; (try with_reducible rfl))
          try simp only [Act.put, List.setIfInBounds_toArray, List.set_cons_zero, List.set_cons_succ]
          refine wpAnyH_take (i := 17) (v := ?_) (by rw [List.getElem?_toArray]; rfl) (by kernel_rfl) (by kernel_rfl) (by kernel_rfl) (fun _ _ _ h => h) (Or.inl ⟨by rfl, ?_⟩) (by assumption) ?_
          rotate_left
          · (intro w hSw; (try dsimp only at hSw); go_simp; (try with_reducible rfl))
          try simp only [Act.put, List.setIfInBounds_toArray, List.set_cons_zero, List.set_cons_succ]
          refine wpAnyH_take (i := 18) (v := ?_) (by rw [List.getElem?_toArray]; rfl) (by kernel_rfl) (by kernel_rfl) (by kernel_rfl) (fun _ _ _ h => h) (Or.inl ⟨by rfl, ?_⟩) (by assumption) ?_
          rotate_left
          · (intro w hSw; (try dsimp only at hSw); go_simp; (try with_reducible rfl))
          try simp only [Act.put, List.setIfInBounds_toArray, List.set_cons_zero, List.set_cons_succ]
          refine wpAnyH_take (i := 19) (v := ?_) (by rw [List.getElem?_toArray]; rfl) (by kernel_rfl) (by kernel_rfl) (by kernel_rfl) (fun _ _ _ h => h) (Or.inl ⟨by rfl, ?_⟩) (by assumption) ?_
          rotate_left
          · (intro w hSw; (try dsimp only at hSw); go_simp; (try with_reducible rfl))
          try simp only [Act.put, List.setIfInBounds_toArray, List.set_cons_zero, List.set_cons_succ]
          refine wpAnyH_take (i := 20) (v := ?_) (by rw [List.getElem?_toArray]; rfl) (by kernel_rfl) (by kernel_rfl) (by kernel_rfl) (fun _ _ _ h => h) (Or.inl ⟨by rfl, ?_⟩) (by assumption) ?_
          rotate_left
          · (intro w hSw; (try dsimp only at hSw); go_simp; (try with_reducible rfl))
          try simp only [Act.put, List.setIfInBounds_toArray, List.set_cons_zero, List.set_cons_succ]
          refine wpAnyH_take (i := 21) (v := ?_) (by rw [List.getElem?_toArray]; rfl) (by kernel_rfl) (by kernel_rfl) (by kernel_rfl) (fun _ _ _ h => h) (Or.inl ⟨by rfl, ?_⟩) (by assumption) ?_
          rotate_left
          · (intro w hSw; (try dsimp only at hSw); go_simp; (try with_reducible rfl))
          try simp only [Act.put, List.setIfInBounds_toArray, List.set_cons_zero, List.set_cons_succ]
          refine wpAnyH_take (i := 22) (v := ?_) (by rw [List.getElem?_toArray]; rfl) (by kernel_rfl) (by kernel_rfl) (by kernel_rfl) (fun _ _ _ h => h) (Or.inl ⟨by rfl, ?_⟩) (by assumption) ?_
          rotate_left
          · (intro w hSw; (try dsimp only at hSw); go_simp; (try with_reducible rfl))
          try simp only [Act.put, List.setIfInBounds_toArray, List.set_cons_zero, List.set_cons_succ]
          refine wpAnyH_take (i := 23) (v := ?_) (by rw [List.getElem?_toArray]; rfl) (by kernel_rfl) (by kernel_rfl) (by kernel_rfl) (fun _ _ _ h => h) (Or.inl ⟨by rfl, ?_⟩) (by assumption) ?_
          rotate_left
          · (intro w hSw; (try dsimp only at hSw); go_simp; (try with_reducible rfl))
          try simp only [Act.put, List.setIfInBounds_toArray, List.set_cons_zero, List.set_cons_succ]
          refine wpAnyH_take (i := 24) (v := ?_) (by rw [List.getElem?_toArray]; rfl) (by kernel_rfl) (by kernel_rfl) (by kernel_rfl) (fun _ _ _ h => h) (Or.inl ⟨by rfl, ?_⟩) (by assumption) ?_
          rotate_left
          · (intro w hSw; (try dsimp only at hSw); go_simp; (try with_reducible rfl))
          try simp only [Act.put, List.setIfInBounds_toArray, List.set_cons_zero, List.set_cons_succ]
          refine wpAnyH_take (i := 26) (v := ?_) (by rw [List.getElem?_toArray]; rfl) (by kernel_rfl) (by kernel_rfl) (by kernel_rfl) (fun _ _ _ h => h) (Or.inl ⟨by rfl, ?_⟩) (by assumption) ?_
          rotate_left
          · (intro w hSw; (try dsimp only at hSw); go_simp; (try with_reducible rfl))
          try simp only [Act.put, List.setIfInBounds_toArray, List.set_cons_zero, List.set_cons_succ]
          refine wpAnyH_take (i := 27) (v := ?_) (by rw [List.getElem?_toArray]; rfl) (by kernel_rfl) (by kernel_rfl) (by kernel_rfl) (fun _ _ _ h => h) (Or.inl ⟨by rfl, ?_⟩) (by assumption) ?_
          rotate_left
          · (intro w hSw; (try dsimp only at hSw); go_simp; (try with_reducible rfl))
          try simp only [Act.put, List.setIfInBounds_toArray, List.set_cons_zero, List.set_cons_succ]
          refine wpAnyH_take (i := 28) (v := ?_) (by rw [List.getElem?_toArray]; rfl) (by kernel_rfl) (by kernel_rfl) (by kernel_rfl) (fun _ _ _ h => h) (Or.inl ⟨by rfl, ?_⟩) (by assumption) ?_
          rotate_left
          · (intro w hSw; (try dsimp only at hSw); go_simp; (try with_reducible rfl))
          try simp only [Act.put, List.setIfInBounds_toArray, List.set_cons_zero, List.set_cons_succ]
          refine wpAnyH_take (i := 30) (v := ?_) (by rw [List.getElem?_toArray]; rfl) (by kernel_rfl) (by kernel_rfl) (by kernel_rfl) (fun _ _ _ h => h) (Or.inl ⟨by rfl, ?_⟩) (by assumption) ?_
          rotate_left
          · (intro w hSw; (try dsimp only at hSw); go_simp; (try with_reducible rfl))
          try simp only [Act.put, List.setIfInBounds_toArray, List.set_cons_zero, List.set_cons_succ]
          refine wpAnyH_ready (rs := [25]) (by kernel_rfl) (by simp) ?_
          refine AllReadyH.cons (by rw [List.getElem?_toArray]; rfl) (fun K hK => ?_) AllReadyH.nil
          go_simp
          refine hK.out _ _ (hHeld.alloc hHeld.size _) (fun hHeld2 => ?_)
          clear hK K hHeld
          try simp only [Act.put, List.setIfInBounds_toArray, List.set_cons_zero, List.set_cons_succ]
          refine wpAnyH_ready (rs := [29]) (by kernel_rfl) (by simp) ?_
          refine AllReadyH.cons (by rw [List.getElem?_toArray]; rfl) (fun K hK => ?_) AllReadyH.nil
          go_simp
          go_at_call 76
          (with_reducible refine (HWc.out _ ((Kept.refl NoB w3).alloc _) ?_ ?_).mono ?_)
          · exact cell_new 0 rfl
          · exact cell_new 1 rfl
          rintro e w4 ⟨rfl, ac4, cc4, HS4⟩
          go_wp2_with fail
          refine hK.out _ _ HS4.out.bel (fun hHeld => ?_)
          clear hK K hHeld2 hnil hmW hld0 hld1
          try simp only [Act.put, List.setIfInBounds_toArray, List.set_cons_zero, List.set_cons_succ]
          have HT4 : Hid (Snks w w4 K ak3 ck3 fs C ac4 cc4 fs m n') := by rw [HFs.out]; exact HS4.out
          have hmm : (if z < 0 then (0 : Int) else z) = (m : Int) := HMz.out.symm
          obtain ⟨csk4, hsk4⟩ := HT4.out.k
          have hfm : fs.length ≤ m := hsk4.bl
          have hsfz : sf.size = fs.length := by rw [HSf.out, strOfNums_size]
          obtain ⟨r, hr⟩ : ∃ r : Nat, (r : Int) = (m : Int) - fs.length := ⟨m - fs.length, by omega⟩
          have hmr : (m : Int) - fs.length = r := hr.symm
          have hrw : IntKind.i64.wrap (r : Int) = r := IntWalk.i64_in _ (by omega)
          have HR := Lib.hid hr
          clear hr hsk4 HS4 HS3 HSd
          refine wpAnyH_take (i := 31) (v := ?_) (by rw [List.getElem?_toArray]; rfl) (by kernel_rfl) (by kernel_rfl) (by kernel_rfl) (fun _ _ _ h => h) (Or.inl ⟨by rfl, ?_⟩) (by assumption) ?_
          rotate_left
          · (intro w hSw; (try dsimp only at hSw); go_simp; (try with_reducible rfl))
          try simp only [Act.put, List.setIfInBounds_toArray, List.set_cons_zero, List.set_cons_succ]
          refine wpAnyH_take (i := 32) (v := ?_) (by rw [List.getElem?_toArray]; rfl) (by kernel_rfl) (by kernel_rfl) (by kernel_rfl) (fun _ _ _ h => h) (Or.inl ⟨by rfl, ?_⟩) (by assumption) ?_
          rotate_left
          · (intro w hSw; (try dsimp only at hSw); go_simp; (try with_reducible rfl))
          try simp only [Act.put, List.setIfInBounds_toArray, List.set_cons_zero, List.set_cons_succ]
          refine wpAnyH_take (i := 33) (v := ?_) (by rw [List.getElem?_toArray]; rfl) (by kernel_rfl) (by kernel_rfl) (by kernel_rfl) (fun _ _ _ h => h) (Or.inl ⟨by rfl, ?_⟩) (by assumption) ?_
          rotate_left
          · (intro w hSw; (try dsimp only at hSw); go_simp; (try with_reducible rfl))
          try simp only [Act.put, List.setIfInBounds_toArray, List.set_cons_zero, List.set_cons_succ]
          refine wpAnyH_take (i := 34) (v := ?_) (by rw [List.getElem?_toArray]; rfl) (by kernel_rfl) (by kernel_rfl) (by kernel_rfl) (fun _ _ _ h => h) (Or.inl ⟨by rfl, ?_⟩) (by assumption) ?_
          rotate_left
          · (intro w hSw; (try dsimp only at hSw); go_simp; (try with_reducible rfl))
          try simp only [Act.put, List.setIfInBounds_toArray, List.set_cons_zero, List.set_cons_succ]
          refine wpAnyH_take (i := 37) (v := ?_) (by rw [List.getElem?_toArray]; rfl) (by kernel_rfl) (by kernel_rfl) (by kernel_rfl) (fun _ _ _ h => h) (Or.inl ⟨by rfl, ?_⟩) (by assumption) ?_
          rotate_left
          · (intro w hSw; (try dsimp only at hSw); go_simp; (try with_reducible rfl))
          try simp only [Act.put, List.setIfInBounds_toArray, List.set_cons_zero, List.set_cons_succ]
          refine wpAnyH_ready (rs := [35]) (by kernel_rfl) (by simp) ?_
          refine AllReadyH.cons (by rw [List.getElem?_toArray]; rfl) (fun K hK => ?_) AllReadyH.nil
          go_simp
          go_at_call 50
          (with_reducible refine (sbytes_any _ (HT4.out.k.choose_spec)).mono ?_)
          rintro e w5 ⟨a5, c5, rfl, hr5, h05, hc5, hk5⟩
          have HT5 := Lib.hid (HT4.out.keptNo hk5)
          have hb5 := hk5.belowNo HT4.out.bel
          clear hc5 hk5
          go_wp2_with fail
          refine hK.out _ _ hb5 (fun hHeld2 => ?_)
          clear hK K hHeld hHeld2
          try simp only [Act.put, List.setIfInBounds_toArray, List.set_cons_zero, List.set_cons_succ]
          refine wpAnyH_mono2 (S' := fun W => Kept NoB w5 W) (fun _ h => h.belowNo hb5) ?_
          have hHeld := Kept.refl NoB w5
          have hcA : ∀ W, Kept NoB w5 W → (convert 22 9 (.slice a5 fs.length c5)).run Try.prog W = .ok (.string sf) W := fun W hk => by rw [HSf.out]; exact conv_reads (hr5.out.kept hk (fun _ _ h => h)) rfl h05.out
          refine wpAnyH_take (i := 36) (v := ?_) (by rw [List.getElem?_toArray]; rfl) (by kernel_rfl) (by kernel_rfl) (by kernel_rfl) (fun _ _ _ h => h) (Or.inl ⟨by rfl, ?_⟩) (by assumption) ?_
          rotate_left
          · (intro w hSw; (try dsimp only at hSw); go_simp; (try with_reducible rfl))
          try simp only [Act.put, List.setIfInBounds_toArray, List.set_cons_zero, List.set_cons_succ]
          refine wpAnyH_take (i := 38) (v := ?_) (by rw [List.getElem?_toArray]; rfl) (by kernel_rfl) (by kernel_rfl) (by kernel_rfl) (fun _ _ _ h => h) (Or.inl ⟨by rfl, ?_⟩) (by assumption) ?_
          rotate_left
          · (intro w hSw; (try dsimp only at hSw); go_simp; (try with_reducible rfl))
          try simp only [Act.put, List.setIfInBounds_toArray, List.set_cons_zero, List.set_cons_succ]
          refine wpAnyH_take (i := 39) (v := ?_) (by rw [List.getElem?_toArray]; rfl) (by kernel_rfl) (by kernel_rfl) (by kernel_rfl) (fun _ _ _ h => h) (Or.inl ⟨by rfl, ?_⟩) (by assumption) ?_
          rotate_left
          · (intro w hSw; (try dsimp only at hSw); go_simp; (try with_reducible rfl))
          try simp only [Act.put, List.setIfInBounds_toArray, List.set_cons_zero, List.set_cons_succ]
          refine wpAnyH_take (i := 40) (v := ?_) (by rw [List.getElem?_toArray]; rfl) (by kernel_rfl) (by kernel_rfl) (by kernel_rfl) (fun _ _ _ h => h) (Or.inl ⟨by rfl, ?_⟩) (by assumption) ?_
          rotate_left
          · (intro w hSw; (try dsimp only at hSw); go_simp; (try with_reducible rfl))
          try simp only [Act.put, List.setIfInBounds_toArray, List.set_cons_zero, List.set_cons_succ]
          refine wpAnyH_take (i := 41) (v := ?_) (by rw [List.getElem?_toArray]; rfl) (by kernel_rfl) (by kernel_rfl) (by kernel_rfl) (fun _ _ _ h => h) (Or.inl ⟨by rfl, ?_⟩) (by assumption) ?_
          rotate_left
          · (intro w hSw; (try dsimp only at hSw); go_simp; (try with_reducible rfl))
          try simp only [Act.put, List.setIfInBounds_toArray, List.set_cons_zero, List.set_cons_succ]
          refine wpAnyH_take (i := 44) (v := ?_) (by rw [List.getElem?_toArray]; rfl) (by kernel_rfl) (by kernel_rfl) (by kernel_rfl) (fun _ _ _ h => h) (Or.inl ⟨by rfl, ?_⟩) (by assumption) ?_
          rotate_left
          · (intro w hSw; (try dsimp only at hSw); go_simp; (try with_reducible rfl))
          try simp only [Act.put, List.setIfInBounds_toArray, List.set_cons_zero, List.set_cons_succ]
          clear hcA
          refine wpAnyH_ready (rs := [42]) (by kernel_rfl) (by simp) ?_
          refine AllReadyH.cons (by rw [List.getElem?_toArray]; rfl) (fun K hK => ?_) AllReadyH.nil
          go_simp
          go_at_call 50
          (with_reducible refine (sbytes_any _ (HT5.out.keptNo hHeld).c.snk).mono ?_)
          rintro e w6 ⟨a6, c6, rfl, hr6, h06, hc6, hk6⟩
          have HT6 := Lib.hid (HT5.out.keptNo (hHeld.trans hk6))
          have hk56 := hHeld.trans hk6
          clear hc6 hk6
          go_wp2_with fail
          refine hK.out _ _ hk56 (fun hHeld2 => ?_)
          clear hK K hHeld hHeld2
          try simp only [Act.put, List.setIfInBounds_toArray, List.set_cons_zero, List.set_cons_succ]
          refine wpAnyH_mono2 (S' := fun W => Kept NoB w6 W) (fun _ h => hk56.trans h) ?_
          have hHeld := Kept.refl NoB w6
          have hcA : ∀ W, Kept NoB w6 W → (convert 22 9 (.slice a6 fs.length c6)).run Try.prog W = .ok (.string sf) W := fun W hk => by rw [HSf.out]; exact conv_reads (hr6.out.kept hk (fun _ _ h => h)) rfl h06.out
          refine wpAnyH_take (i := 43) (v := ?_) (by rw [List.getElem?_toArray]; rfl) (by kernel_rfl) (by kernel_rfl) (by kernel_rfl) (fun _ _ _ h => h) (Or.inl ⟨by rfl, ?_⟩) (by assumption) ?_
          rotate_left
          · (intro w hSw; (try dsimp only at hSw); go_simp; (try with_reducible rfl))
          try simp only [Act.put, List.setIfInBounds_toArray, List.set_cons_zero, List.set_cons_succ]
          refine wpAnyH_take (i := 45) (v := ?_) (by rw [List.getElem?_toArray]; rfl) (by kernel_rfl) (by kernel_rfl) (by kernel_rfl) (fun _ _ _ h => h) (Or.inl ⟨by rfl, ?_⟩) (by assumption) ?_
          rotate_left
          · (intro w hSw; (try dsimp only at hSw); go_simp; (try with_reducible rfl))
          try simp only [Act.put, List.setIfInBounds_toArray, List.set_cons_zero, List.set_cons_succ]
          refine wpAnyH_take (i := 46) (v := ?_) (by rw [List.getElem?_toArray]; rfl) (by kernel_rfl) (by kernel_rfl) (by kernel_rfl) (fun _ _ _ h => h) (Or.inl ⟨by rfl, ?_⟩) (by assumption) ?_
          rotate_left
          · (intro w hSw; (try dsimp only at hSw); go_simp; (try with_reducible rfl))
          try simp only [Act.put, List.setIfInBounds_toArray, List.set_cons_zero, List.set_cons_succ]
          refine wpAnyH_take (i := 47) (v := ?_) (by rw [List.getElem?_toArray]; rfl) (by kernel_rfl) (by kernel_rfl) (by kernel_rfl) (fun _ _ _ h => h) (Or.inl ⟨by rfl, ?_⟩) (by assumption) ?_
          rotate_left
          · (intro w hSw; (try dsimp only at hSw); go_simp; (try with_reducible rfl))
          try simp only [Act.put, List.setIfInBounds_toArray, List.set_cons_zero, List.set_cons_succ]
          refine wpAnyH_take (i := 48) (v := ?_) (by rw [List.getElem?_toArray]; rfl) (by kernel_rfl) (by kernel_rfl) (by kernel_rfl) (fun _ _ _ h => h) (Or.inl ⟨by rfl, ?_⟩) (by assumption) ?_
          rotate_left
          · (intro w hSw; (try dsimp only at hSw); go_simp; (try with_reducible rfl))
          try simp only [Act.put, List.setIfInBounds_toArray, List.set_cons_zero, List.set_cons_succ]
          refine wpAnyH_take (i := 50) (v := ?_) (by rw [List.getElem?_toArray]; rfl) (by kernel_rfl) (by kernel_rfl) (by kernel_rfl) (fun _ _ _ h => h) (Or.inl ⟨by rfl, ?_⟩) (by assumption) ?_
          rotate_left
          · (intro w hSw; (try dsimp only at hSw); go_simp; (try with_reducible rfl))
          try simp only [Act.put, List.setIfInBounds_toArray, List.set_cons_zero, List.set_cons_succ]
          refine wpAnyH_take (i := 51) (v := ?_) (by rw [List.getElem?_toArray]; rfl) (by kernel_rfl) (by kernel_rfl) (by kernel_rfl) (fun _ _ _ h => h) (Or.inl ⟨by rfl, ?_⟩) (by assumption) ?_
          rotate_left
          · (intro w hSw; (try dsimp only at hSw); go_simp; (try with_reducible rfl))
          try simp only [Act.put, List.setIfInBounds_toArray, List.set_cons_zero, List.set_cons_succ]
          clear hcA
          refine wpAnyH_ready (rs := [49]) (by kernel_rfl) (by simp) ?_
          refine AllReadyH.cons (by rw [List.getElem?_toArray]; rfl) (fun K hK => ?_) AllReadyH.nil
          go_simp
          go_at_call 51
          (with_reducible refine (slen_any _ ((HT6.out.keptNo hHeld).k.choose_spec)).mono ?_)
          rintro e w7 ⟨rfl, hk7⟩
          have hk67 := hHeld.trans hk7
          clear hk7
          go_wp2_with fail
          refine hK.out _ _ hk67 (fun hHeld2 => ?_)
          clear hK K hHeld
          try simp only [Act.put, List.setIfInBounds_toArray, List.set_cons_zero, List.set_cons_succ]
          refine wpAnyH_take (i := 52) (v := ?_) (by rw [List.getElem?_toArray]; rfl) (by kernel_rfl) (by kernel_rfl) (by kernel_rfl) (fun _ _ _ h => h) (Or.inl ⟨by rfl, ?_⟩) (by assumption) ?_
          rotate_left
          · (intro w hSw; (try dsimp only at hSw); go_simp; (try with_reducible rfl))
          try simp only [Act.put, List.setIfInBounds_toArray, List.set_cons_zero, List.set_cons_succ]
          refine wpAnyH_take (i := 53) (v := ?_) (by rw [List.getElem?_toArray]; rfl) (by kernel_rfl) (by kernel_rfl) (by kernel_rfl) (fun _ _ _ h => h) (Or.inl ⟨by rfl, ?_⟩) (by assumption) ?_
          rotate_left
          · (intro w hSw; (try dsimp only at hSw); go_simp; (try with_reducible rfl))
          try simp only [Act.put, List.setIfInBounds_toArray, List.set_cons_zero, List.set_cons_succ]
          refine wpAnyH_take (i := 54) (v := ?_) (by rw [List.getElem?_toArray]; rfl) (by kernel_rfl) (by kernel_rfl) (by kernel_rfl) (fun _ _ _ h => h) (Or.inl ⟨by rfl, ?_⟩) (by assumption) ?_
          rotate_left
          · (intro w hSw; (try dsimp only at hSw); go_simp; (try with_reducible rfl))
          try simp only [Act.put, List.setIfInBounds_toArray, List.set_cons_zero, List.set_cons_succ]
          refine wpAnyH_take (i := 55) (v := ?_) (by rw [List.getElem?_toArray]; rfl) (by kernel_rfl) (by kernel_rfl) (by kernel_rfl) (fun _ _ _ h => h) (Or.inl ⟨by rfl, ?_⟩) (by assumption) ?_
          rotate_left
          · (intro w hSw; (try dsimp only at hSw); go_simp; (try with_reducible rfl))
          try simp only [Act.put, List.setIfInBounds_toArray, List.set_cons_zero, List.set_cons_succ]
          refine wpAnyH_take (i := 57) (v := ?_) (by rw [List.getElem?_toArray]; rfl) (by kernel_rfl) (by kernel_rfl) (by kernel_rfl) (fun _ _ _ h => h) (Or.inl ⟨by rfl, ?_⟩) (by assumption) ?_
          rotate_left
          · (intro w hSw; (try dsimp only at hSw); go_simp; (try with_reducible rfl))
          try simp only [Act.put, List.setIfInBounds_toArray, List.set_cons_zero, List.set_cons_succ]
          refine wpAnyH_take (i := 58) (v := ?_) (by rw [List.getElem?_toArray]; rfl) (by kernel_rfl) (by kernel_rfl) (by kernel_rfl) (fun _ _ _ h => h) (Or.inl ⟨by rfl, ?_⟩) (by assumption) ?_
          rotate_left
          · (intro w hSw; (try dsimp only at hSw); go_simp; (try with_reducible rfl))
          try simp only [Act.put, List.setIfInBounds_toArray, List.set_cons_zero, List.set_cons_succ]
          refine wpAnyH_take (i := 59) (v := ?_) (by rw [List.getElem?_toArray]; rfl) (by kernel_rfl) (by kernel_rfl) (by kernel_rfl) (fun _ _ _ h => h) (Or.inl ⟨by rfl, ?_⟩) (by assumption) ?_
          rotate_left
          · (intro w hSw; (try dsimp only at hSw); go_simp; (try with_reducible rfl))
          try simp only [Act.put, List.setIfInBounds_toArray, List.set_cons_zero, List.set_cons_succ]
          refine wpAnyH_take (i := 60) (v := ?_) (by rw [List.getElem?_toArray]; rfl) (by kernel_rfl) (by kernel_rfl) (by kernel_rfl) (fun _ _ _ h => h) (Or.inl ⟨by rfl, ?_⟩) (by assumption) ?_
          rotate_left
          · (intro w hSw; (try dsimp only at hSw); go_simp; (try with_reducible rfl))
          try simp only [Act.put, List.setIfInBounds_toArray, List.set_cons_zero, List.set_cons_succ]
          refine wpAnyH_take (i := 61) (v := ?_) (by rw [List.getElem?_toArray]; rfl) (by kernel_rfl) (by kernel_rfl) (by kernel_rfl) (fun _ _ _ h => h) (Or.inl ⟨by rfl, ?_⟩) (by assumption) ?_
          rotate_left
          · (intro w hSw; (try dsimp only at hSw); go_simp; (try with_reducible rfl))
          try simp only [Act.put, List.setIfInBounds_toArray, List.set_cons_zero, List.set_cons_succ]
          refine wpAnyH_ready (rs := [56]) (by kernel_rfl) (by simp) ?_
          refine AllReadyH.cons (by rw [List.getElem?_toArray]; rfl) (fun K hK => ?_) AllReadyH.nil
          go_simp
          go_at_call 53
          (with_reducible refine (sleft_any _ (HT6.out.keptNo hHeld2).c.snk r HR.out).mono ?_)
          rintro e w8 ⟨rfl, hk8⟩
          have hk68 := hHeld2.trans hk8
          clear hk8
          go_wp2_with fail
          refine hK.out _ _ hk68 (fun hHeld => ?_)
          clear hK K hHeld2
          try simp only [Act.put, List.setIfInBounds_toArray, List.set_cons_zero, List.set_cons_succ]
          refine wpAnyH_take (i := 62) (v := ?_) (by rw [List.getElem?_toArray]; rfl) (by kernel_rfl) (by kernel_rfl) (by kernel_rfl) (fun _ _ _ h => h) (Or.inl ⟨by rfl, ?_⟩) (by assumption) ?_
          rotate_left
          · (intro w hSw; (try dsimp only at hSw); go_simp; (try with_reducible rfl))
          try simp only [Act.put, List.setIfInBounds_toArray, List.set_cons_zero, List.set_cons_succ]
          refine wpAnyH_take (i := 63) (v := ?_) (by rw [List.getElem?_toArray]; rfl) (by kernel_rfl) (by kernel_rfl) (by kernel_rfl) (fun _ _ _ h => h) (Or.inl ⟨by rfl, ?_⟩) (by assumption) ?_
          rotate_left
          · (intro w hSw; (try dsimp only at hSw); go_simp; (try with_reducible rfl))
          try simp only [Act.put, List.setIfInBounds_toArray, List.set_cons_zero, List.set_cons_succ]
          refine wpAnyH_take (i := 64) (v := ?_) (by rw [List.getElem?_toArray]; rfl) (by kernel_rfl) (by kernel_rfl) (by kernel_rfl) (fun _ _ _ h => h) (Or.inl ⟨by rfl, ?_⟩) (by assumption) ?_
          rotate_left
          · (intro w hSw; (try dsimp only at hSw); go_simp; (try with_reducible rfl))
          try simp only [Act.put, List.setIfInBounds_toArray, List.set_cons_zero, List.set_cons_succ]
          refine wpAnyH_take (i := 65) (v := ?_) (by rw [List.getElem?_toArray]; rfl) (by kernel_rfl) (by kernel_rfl) (by kernel_rfl) (fun _ _ _ h => h) (Or.inl ⟨by rfl, ?_⟩) (by assumption) ?_
          rotate_left
          · (intro w hSw; (try dsimp only at hSw); go_simp; (try with_reducible rfl))
          try simp only [Act.put, List.setIfInBounds_toArray, List.set_cons_zero, List.set_cons_succ]
          refine wpAnyH_take (i := 67) (v := ?_) (by rw [List.getElem?_toArray]; rfl) (by kernel_rfl) (by kernel_rfl) (by kernel_rfl) (fun _ _ _ h => h) (Or.inl ⟨by rfl, ?_⟩) (by assumption) ?_
          rotate_left
          · (intro w hSw; (try dsimp only at hSw); go_simp; (try with_reducible rfl))
          try simp only [Act.put, List.setIfInBounds_toArray, List.set_cons_zero, List.set_cons_succ]
          refine wpAnyH_ready (rs := [66]) (by kernel_rfl) (by simp) ?_
          refine AllReadyH.cons (by rw [List.getElem?_toArray]; rfl) (fun K hK => ?_) AllReadyH.nil
          go_simp
          go_at_call 52
          (with_reducible refine (cwrites_any _ (HT6.out.keptNo hHeld).c).mono ?_)
          rintro e w9 ⟨rfl, hk9⟩
          have hk69 := hHeld.trans hk9
          clear hk9
          go_wp2_with fail
          refine hK.out _ _ hk69 (fun hHeld2 => ?_)
          clear hK K hHeld
          try simp only [Act.put, List.setIfInBounds_toArray, List.set_cons_zero, List.set_cons_succ]
          refine wpAnyH_take (i := 68) (v := ?_) (by rw [List.getElem?_toArray]; rfl) (by kernel_rfl) (by kernel_rfl) (by kernel_rfl) (fun _ _ _ h => h) (Or.inl ⟨by rfl, ?_⟩) (by assumption) ?_
          rotate_left
          · (intro w hSw; (try dsimp only at hSw); go_simp; (try with_reducible rfl))
          try simp only [Act.put, List.setIfInBounds_toArray, List.set_cons_zero, List.set_cons_succ]
          refine wpAnyH_take (i := 69) (v := ?_) (by rw [List.getElem?_toArray]; rfl) (by kernel_rfl) (by kernel_rfl) (by kernel_rfl) (fun _ _ _ h => h) (Or.inl ⟨by rfl, ?_⟩) (by assumption) ?_
          rotate_left
          · (intro w hSw; (try dsimp only at hSw); go_simp; (try with_reducible rfl))
          try simp only [Act.put, List.setIfInBounds_toArray, List.set_cons_zero, List.set_cons_succ]
          refine wpAnyH_done (by kernel_rfl) ?_ _
          refine NoPanic.normal ?_
          have HT9 := Lib.hid (HT6.out.keptNo hHeld2)
          clear hk56 hk67 hk68 hk69 hHeld2 HT4 HT5 HT6 hmB hmL
          go_wp2
          have hj1 := HJ1.out
          have hF2 := HF2.out
          have hN := HN'.out
          exact ⟨⟨j + 2, n', fs, ak3, ck3, ac4, cc4, by omega, by split at hN <;> omega, by omega, by go_num, rfl, by rw [HSf.out], HT9.out⟩, by simp [intOf]; omega⟩
      · obtain ⟨csk, hSk⟩ := HS.out.k
        have hbm := hSk.bl
        have hw0 : Hid (Calls Try.prog 49 #[.pointer (some ⟨K, 0, none⟩), .slice none 0 0] wr fun e w' => e = .returned (.int .i64 0) ∧ ∃ ak' ck' cs', Hid (Snk w' 94 cs' K w.heap.size ak' ck' bs m) ∧ Hid (Below w.heap.size w w')) := by
          refine (swrite_any wr hSk none 0 0 [] rfl (by intro y hy; cases hy) (fun _ _ => .inl rfl) (by simp; have := hSk.sm; omega) (by decide)).mono ?_
          rintro e w' ⟨rfl, cs', ak', ck', hS', _, _, hK', _⟩
          rw [fill_nil _ _ hSk.bl] at hS' ⊢
          refine ⟨by rw [Int.sub_self], ak', ck', cs', hS', hK'.below HS.out.bel ?_⟩
          intro k e
          rcases e with e | e
          · unfold OneB at e; have := hSk.low; omega
          · exact hSk.fr k e
        clear hSk
        have hmm : (if z < 0 then (0 : Int) else z) = (m : Int) := HMz.out.symm
        have hsz : (strOfNums bs).size = bs.length := strOfNums_size bs
        obtain ⟨r, hr⟩ : ∃ r : Nat, (r : Int) = (m : Int) - bs.length := ⟨m - bs.length, by omega⟩
        have hmr : (m : Int) - bs.length = r := hr.symm
        have HR := Lib.hid hr
        clear hr
        go_wp2_with fail
        refine hw0.out.mono ?_
        rintro e w3 ⟨rfl, ak3, ck3, cs3, HS3, HB3⟩
        go_wp2_with fail
        refine (sleft_any _ HS3.out r HR.out).mono ?_
        rintro e w4 ⟨rfl, hk4⟩
        have HB4 := Lib.hid (hk4.belowNo HB3.out)
        clear hk4
        go_wp2_with fail
        refine (awake3 _).mono ?_
        rintro e w5 ⟨rfl, hb5⟩
        have hb6 := HB4.out.trans (hb5.mono HB4.out.size)
        clear hmm hsz hmr
        go_wp2
        go_ret
        exact ⟨rfl, hb6⟩

theorem feedSinks_law (v0 v1 : Value) (w : World) (r0 : Arg w 3 v0) (r1 : Arg w 59 v1) : Calls Try.prog 14 #[v0, v1] w fun e w' => e = .returned (.bool true) ∧ Below w.heap.size w w' := by
  obtain ⟨z, rfl, hz⟩ := r0.int Try.underlying3
  obtain ⟨ao, cap, ps, rfl, hp, hall, hm⟩ := parts_open r1
  have hb := i64_bd hz
  exact feedSinks_walk z (if z < 0 then 0 else z).toNat ao cap _ ps w hb.2 hb.1 (Int.toNat_of_nonneg (by split <;> omega)) rfl hp hall hm
end Go.Proofs.Ytffoigacpnlkgaa
