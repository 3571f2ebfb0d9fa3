/-
  The document's SameInts, more, Flat.
-/
import Derived.Test.YtjdhjlfckalkoaaFlat
import Derived.Deep.CutBlock
namespace Go.Proofs.Ytjdhjlfckalkoaa
open Go.RowKit
set_option linter.unusedVariables false
set_option linter.unusedSimpArgs false

theorem drop_getDz (bs : List Int) (j : Nat) (hj : j < bs.length) : bs.drop j = bs.getD j 0 :: bs.drop (j + 1) := by
  rw [List.drop_eq_getElem_cons hj]; simp [List.getD, hj]
set_option maxHeartbeats 1000000 in
theorem sameInts_any (a : Option Addr) (c : Nat) (xs : List Int) (b : Option Addr) (d : Nat) (ys : List Int) (A B : Nat) (w : World) (hx : RdI w A a xs) (hy : RdI w B b ys) (hm : xs.length ≤ 1000000) :
    Calls Try.prog 8 #[.slice a xs.length c, .slice b ys.length d] w fun e w' => e = .returned (.bool (decide (xs = ys))) ∧ Kept NoB w w' := by
  have HX := Lib.hid hx; have HY := Lib.hid hy
  clear hx hy
  by_cases hlen : xs.length = ys.length
  · obtain ⟨n, hn⟩ : ∃ n, n = xs.length := ⟨_, rfl⟩
    have hn2 : ys.length = n := by omega
    have HN := Lib.hid hn; have HN2 := Lib.hid hn2
    have hm2 : n ≤ 1000000 := by omega
    rw [← hn, hn2]
    clear hn hn2 hlen
    go_enter Try.func8, Try.ntmps8
    go_wp2
    go_loopw [5] (fun v5 wr => ∃ j : Nat, v5 = .int .i64 (j : Int) ∧ j ≤ n ∧ Hid (Kept NoB w wr) ∧ Hid ((xs = ys) ↔ (xs.drop j = ys.drop j))) (fun v5 _ => n - (intOf v5).toNat)
    case atStart => exact ⟨0, rfl, by omega, Kept.refl _ _, (by rw [List.drop_zero, List.drop_zero]; exact Iff.rfl)⟩
    case round =>
      obtain ⟨j, rfl, hj, HK, HI⟩ := hrel
      by_cases hlt : (j : Int) < n
      · obtain ⟨g, off, rfl, hgl, hc0⟩ := HX.out j (by have := HN.out; omega)
        obtain ⟨g2, off2, rfl, hgl2, hc1⟩ := HY.out j (by have := HN2.out; omega)
        have hc0' := HK.out.cell hc0
        have hc1' := HK.out.cell hc1
        have hi := HI.out
        rw [drop_getDz xs j (by have := HN.out; omega), drop_getDz ys j (by have := HN2.out; omega)] at hi
        obtain ⟨x, hx⟩ : ∃ x, xs.getD j 0 = x := ⟨_, rfl⟩
        obtain ⟨y, hy⟩ : ∃ y, ys.getD j 0 = y := ⟨_, rfl⟩
        rw [hx] at hc0' hi
        rw [hy] at hc1' hi
        clear hx hy hc0 hc1 hgl hgl2
        by_cases hxy : x = y
        · subst hxy
          have HI2 : Hid ((xs = ys) ↔ (xs.drop (j + 1) = ys.drop (j + 1))) := hi.trans ⟨fun h => by injection h, fun h => by rw [h]⟩
          have hd : (x != x) = false := by simp
          clear hi
          go_upto_region 6 with fail
          go_quiet (fail)
          go_wp2
          go_roundw
          case rel => exact ⟨j + 1, by go_num, by omega, HK.out.drewN _, HI2⟩
          case measure => simp [intOf]; omega
        · have hne : ¬ xs = ys := fun h => hxy (by have := hi.1 h; injection this)
          have hd : (x != y) = true := by simp; exact hxy
          clear hi hxy
          have HNe := Lib.hid hne
          clear hne
          go_upto_region 6 with fail
          go_quiet (fail)
          go_wp2
          go_ret
          exact ⟨by rw [decide_eq_false HNe.out]; rfl, HK.out.drewN _⟩
      · have he : xs = ys := by
          have hi := HI.out
          rw [List.drop_of_length_le (by have := HN.out; omega), List.drop_of_length_le (by have := HN2.out; omega)] at hi
          exact hi.2 rfl
        have HE := Lib.hid he
        clear he
        go_wp2
        go_ret
        exact ⟨by rw [decide_eq_true HE.out]; rfl, HK.out⟩
  · have hne : ¬ xs = ys := fun h => hlen (by rw [h])
    have HNe := Lib.hid hne
    have g1 : ((xs.length : Int) != (ys.length : Int)) = true := bne_iff_ne.2 (by omega)
    clear hne hlen
    go_enter Try.func8, Try.ntmps8
    go_wp2
    go_ret
    exact ⟨by rw [decide_eq_false HNe.out]; rfl, Kept.refl _ _⟩

set_option maxRecDepth 20000 in
set_option maxHeartbeats 1000000 in
theorem more_any (a : Option Addr) (c : Nat) (l : List Int) (A : Nat) (s x : Int) (w : World) (hr : RdI w A a l) (hm : l.length ≤ 1000) (hlc : l.length ≤ c) :
    Calls Try.prog 16 #[.slice a l.length c, .agg #[.int .i64 s, .int .i64 x]] w fun e w' =>
      (okRun l s x ∧ ∃ a' c', e = .returned (.tuple #[.slice a' (moreL l s x).length c', .bool true]) ∧ OwnI w' a' c' (moreL l s x) ∧ Kept NoB w w' ∧ (∀ k, (Value.slice a' (moreL l s x).length c').ownBlock = some k → w.heap.size ≤ k)) ∨
      (¬ okRun l s x ∧ e = .returned (.tuple #[.slice none 0 0, .bool false]) ∧ Kept NoB w w') := by
  have HR := Lib.hid hr
  obtain ⟨len, hlen⟩ : ∃ len, len = l.length := ⟨_, rfl⟩
  have HLe := Lib.hid hlen
  have hkb : Kept NoB w (w.alloc (.cells #[.int .i64 s, .int .i64 x] 32)) := (Kept.refl _ _).alloc _
  have HKb := Lib.hid hkb
  have c0 : (w.alloc (.cells #[.int .i64 s, .int .i64 x] 32)).cell? ⟨w.heap.size, 0, none⟩ = some (.int .i64 s) := cell_new 0 rfl
  have c1 : (w.alloc (.cells #[.int .i64 s, .int .i64 x] 32)).cell? ⟨w.heap.size, 1, none⟩ = some (.int .i64 x) := cell_new 1 rfl
  have hlm : len ≤ 1000 := by omega
  have hlc2 : len ≤ c := by omega
  obtain ⟨i0, hi, hz0, hz1, hz2⟩ := info_parts infoI
  rw [← hlen]
  clear hr hkb hlen hm hlc
  go_enter Try.func16, Try.ntmps16
  go_upto_block 0 with fail
  generalize w.alloc (.cells #[.int .i64 s, .int .i64 x] 32) = w1 at c0 c1 HKb ⊢
  obtain ⟨bk, hbk⟩ : ∃ bk, bk = w.heap.size := ⟨_, rfl⟩
  rw [← hbk] at c0 c1 ⊢
  have HBk := Lib.hid hbk
  clear hbk
  go_cut [6, 7, 8] from 11 to 42 (fun v6 v7 v8 wx => w1 = wx ∧ v6 = .int .i64 (valS l s) ∧ v7 = .int .i64 (spanL s : Int) ∧ v8 = .int .i64 (spanM s) ∧ Hid (0 ≤ s ∧ s ≤ 18 ∧ (s = 16 → l ≠ [])))
  case first =>
    have hc : (0 ≤ s ∧ s ≤ 15) ∨ s = 16 ∨ s = 17 ∨ s = 18 ∨ s < 0 ∨ 18 < s := by omega
    rcases hc with h | h | h | h | h | h
    · have e1 : valS l s = s := by unfold valS; rw [if_neg (by omega), if_neg (by omega)]
      have e2 : spanL s = 1 := by unfold spanL; rw [if_neg (by omega), if_neg (by omega), if_neg (by omega)]
      have e3 : spanM s = 0 := by unfold spanM; rw [if_neg (by omega), if_neg (by omega), if_neg (by omega)]
      have E1 := Lib.hid e1; have E2 := Lib.hid e2; have E3 := Lib.hid e3
      clear e1 e2 e3
      go_wp2
      go_meet
      exact ⟨rfl, by rw [E1.out], by rw [E2.out]; rfl, by rw [E3.out], by omega, by omega, fun h => by omega⟩
    · subst h
      by_cases hl0 : l = []
      · have hno : ¬ okRun l 16 x := fun h' => h'.2.2.2.2 rfl hl0
        have HNo := Lib.hid hno
        have hlen0 : len = 0 := by rw [HLe.out, hl0]; rfl
        subst hlen0
        clear hno hl0 HLe
        go_wp2
        go_ret2
        exact .inr ⟨HNo.out, rfl, HKb.out⟩
      · have hlpos : 0 < len := by rw [HLe.out]; exact List.length_pos_iff.2 hl0
        obtain ⟨q, hq⟩ : ∃ q : Nat, q = len - 1 := ⟨_, rfl⟩
        obtain ⟨g, off, rfl, hgl, hcq⟩ := HR.out q (by have := HLe.out; omega)
        have hq1000 : q ≤ 1000 := by omega
        have hv : valS l 16 = l.getD q 0 := by unfold valS; rw [if_pos rfl, hq, HLe.out]
        generalize l.getD q 0 = z at hcq hv
        have hcq2 := HKb.out.cell hcq
        have hqi : (len : Int) - 1 = (q : Int) := by omega
        have hql : q < len := by omega
        have HV := Lib.hid hv; have HL0 := Lib.hid hl0
        clear hv hl0 hcq hq
        go_wp2
        go_meet
        exact ⟨rfl, by rw [HV.out], rfl, rfl, by omega, by omega, fun _ => HL0.out⟩
    · subst h
      go_wp2
      go_meet
      exact ⟨rfl, rfl, rfl, rfl, by omega, by omega, fun h => by omega⟩
    · subst h
      go_wp2
      go_meet
      exact ⟨rfl, rfl, rfl, rfl, by omega, by omega, fun h => by omega⟩
    · have hno : ¬ okRun l s x := fun h' => by have := h'.1; omega
      have HNo := Lib.hid hno
      have g1 : (s == 16) = false := by simp; omega
      have g2 : (s == 17) = false := by simp; omega
      have g3 : (s == 18) = false := by simp; omega
      clear hno
      go_wp2
      go_ret2
      exact .inr ⟨HNo.out, rfl, HKb.out⟩
    · have hno : ¬ okRun l s x := fun h' => by have := h'.2.1; omega
      have HNo := Lib.hid hno
      have g1 : (s == 16) = false := by simp; omega
      have g2 : (s == 17) = false := by simp; omega
      have g3 : (s == 18) = false := by simp; omega
      have g4 : ¬ s ≤ 15 := by omega
      clear hno
      go_wp2
      go_ret2
      exact .inr ⟨HNo.out, rfl, HKb.out⟩
  case rest =>
  obtain ⟨rfl, rfl, rfl, rfl, HS⟩ := hcut
  obtain ⟨M, hM⟩ : ∃ M, spanM s = M := ⟨_, rfl⟩
  obtain ⟨val, hV⟩ : ∃ v, valS l s = v := ⟨_, rfl⟩
  have HM := Lib.hid hM; have HV := Lib.hid hV
  rw [hM, hV]
  clear hM hV c0
  by_cases hx : 0 ≤ x ∧ x ≤ M
  · obtain ⟨k, rfl⟩ : ∃ k : Nat, x = (k : Int) := ⟨x.toNat, by omega⟩
    have hok : okRun l s (k : Int) := ⟨HS.out.1, HS.out.2.1, hx.1, by rw [HM.out]; exact hx.2, HS.out.2.2⟩
    have hM127 : spanM s ≤ 127 := by unfold spanM; split <;> (try split) <;> (try split) <;> omega
    have hL11 : 1 ≤ spanL s ∧ spanL s ≤ 11 := by unfold spanL; split <;> (try split) <;> (try split) <;> omega
    have hk127 : k ≤ 127 := by have := HM.out; omega
    have hmore : moreL l s (k : Int) = l ++ List.replicate (spanL s + k) val := by unfold moreL; rw [HV.out]; rfl
    have hnx : ¬ (k : Int) < 0 := by omega
    have hMk : ¬ M < (k : Int) := by omega
    obtain ⟨L, hL⟩ : ∃ L, spanL s = L := ⟨_, rfl⟩
    rw [hL] at hmore hL11 ⊢
    have HOk := Lib.hid hok; have HMore := Lib.hid hmore
    clear hok hmore hM127 hx hL
    go_upto_region 15 with fail
    go_cut [9] from 52 to 54 (fun v9 wx => ∃ a2 c2, v9 = .slice a2 len c2 ∧ Hid (wx.ownsRow 0 3 1 (.slice a2 len c2) len (l.map (.int .i64))) ∧ Hid (Kept NoB w1 wx) ∧ Hid (∀ q, (Value.slice a2 len c2).ownBlock = some q → w1.heap.size ≤ q))
    case first =>
      cases a with
      | none =>
        have hl0 : l = [] := by
          cases l with
          | nil => rfl
          | cons z r => obtain ⟨g, off, h, _⟩ := HR.out 0 (by simp); cases h
        have hlen0 : len = 0 := by rw [HLe.out, hl0]; rfl
        have hrow := World.ownsRow_made (base := 0) (e := 3) (size := 1) w1 #[] 0 (Nat.zero_le _) (Nat.zero_le _) rfl
        have HRow := Lib.hid hrow
        have HLe0 := Lib.hid hl0
        subst hlen0
        clear hrow hl0
        have hkA : Kept NoB w1 (w1.alloc (.cells #[] 3)) := (Kept.refl _ _).alloc _
        have HKA := Lib.hid hkA
        clear hkA
        go_wp2
        go_meet
        refine ⟨some ⟨w1.heap.size, 0, none⟩, 0, rfl, ?_, HKA, fun q hq => ?_⟩
        · rw [HLe0.out]; exact HRow.out
        · simp [Value.ownBlock] at hq; omega
      | some ad =>
        have hrow := World.ownsRow_made (base := 0) (e := 3) (size := 1) w1 #[] 0 (Nat.zero_le _) (Nat.zero_le _) rfl
        have hc2 : ∀ j u, (l.map (Value.int .i64))[j]? = some u → (w1.alloc (.cells #[] 3)).cell? (ad.add j) = some u := by
          intro j u hj
          have hjl : j < l.length := by have := (List.getElem?_eq_some_iff.1 hj).1; simpa using this
          obtain ⟨g, off, e, _, hc⟩ := HR.out j hjl
          cases e
          rw [addr_add]
          refine Lib.cell?_alloc_some _ ?_
          rw [HKb.out.cell hc]
          have e : (l.map (Value.int .i64))[j]? = some (Value.int .i64 (l.getD j 0)) := by simp [List.getD, List.getElem?_eq_getElem hjl]
          rw [e] at hj
          exact hj
        have hc3 : ∀ u ∈ l.map (Value.int .i64), u.oneCell' = true := by intro u hu; obtain ⟨y, _, rfl⟩ := List.mem_map.1 hu; rfl
        have HRow := Lib.hid hrow; have HC2 := Lib.hid hc2; have HC3 := Lib.hid hc3
        clear hrow hc2 hc3
        go_wp2_with (at_builtin; refine wpList_app _ rfl _ _ 22 rfl 3 i0 (.int .i64 0) 1 8 Try.underlying22 hi hz0 hz1 hz2 rfl (by decide) _ 0 [] rfl HRow.out ad len c (l.map (.int .i64)) rfl ?c1 HC2.out HC3.out ?c4 ?c5 ?_)
        case c1 => simp [HLe.out]
        case c4 => unfold maxLen; omega
        case c5 => omega
        intro v' w2 hown hgrow hnew
        obtain ⟨a2, c2, rfl⟩ := own_shape hown
        have hk2 : Kept NoB w1 w2 := ((Kept.refl NoB w1).alloc _).grown hgrow (by intro j hj e; simp [Value.ownBlock] at e; omega)
        have hf2 : ∀ q, (Value.slice a2 len c2).ownBlock = some q → w1.heap.size ≤ q := by
          intro q hq
          rcases hnew q (by first | exact hq | (rw [Nat.zero_add]; exact hq)) with h | h
          · simp [Value.ownBlock] at h; omega
          · have : (w1.alloc (.cells #[] 3)).heap.size = w1.heap.size + 1 := by simp
            omega
        try rw [Nat.zero_add] at hown
        try rw [List.nil_append] at hown
        have HO2 := Lib.hid hown; have HK2 := Lib.hid hk2; have HF2 := Lib.hid hf2
        clear hown hk2 hf2 hgrow hnew
        go_wp2
        go_meet
        exact ⟨a2, c2, by first | rfl | rw [Nat.zero_add], HO2, HK2, HF2⟩
    case rest =>
    obtain ⟨a2, c2, rfl, HO, HK, HF⟩ := hcut
    obtain ⟨T, hT⟩ : ∃ T, T = L + k := ⟨_, rfl⟩
    have hsum : (L : Int) + (k : Int) = (T : Int) := by omega
    have hT200 : T ≤ 200 := by omega
    have HT := Lib.hid hT
    clear hT
    go_wp2
    go_loopw [9, 10] (fun v9 v10 wr => ∃ (a3 : Option Addr) (c3 j : Nat), v9 = .slice a3 (len + j) c3 ∧ v10 = .int .i64 (j : Int) ∧ j ≤ T ∧ Hid (wr.ownsRow 0 3 1 (.slice a3 (len + j) c3) (len + j) ((l ++ List.replicate j val).map (.int .i64))) ∧ Hid (Kept NoB w1 wr) ∧ Hid (∀ q, (Value.slice a3 (len + j) c3).ownBlock = some q → w1.heap.size ≤ q)) (fun _ v10 _ => T - (intOf v10).toNat)
    case atStart => exact ⟨a2, c2, 0, rfl, rfl, by omega, (by rw [List.replicate_zero, List.append_nil]; exact HO.out), HK.out, HF.out⟩
    case round =>
      clear HO HK HF
      obtain ⟨a3, c3, j, rfl, rfl, hj, HO, HK, HF⟩ := hrel
      have hc1 := HK.out.cell c1
      by_cases hlt : (j : Int) < T
      · obtain ⟨m, hm⟩ : ∃ m, m = len + j := ⟨_, rfl⟩
        have hm2 : m ≤ 2000 := by omega
        have HM2 := Lib.hid hm
        rw [← hm] at HO HF ⊢
        obtain ⟨X, hX⟩ : ∃ X, X = (l ++ List.replicate j val).map (Value.int .i64) := ⟨_, rfl⟩
        rw [← hX] at HO
        have HXe := Lib.hid hX
        clear hX
        have hrow2 := HO.out.alloc (.cells #[.int .i64 val] 3)
        have HRow2 := Lib.hid hrow2
        clear hrow2 hm
        go_wp2_with (at_builtin; refine wpList_app _ rfl _ _ 22 rfl 3 i0 (.int .i64 0) 1 8 Try.underlying22 hi hz0 hz1 hz2 rfl (by decide) _ m X rfl HRow2.out ⟨wr.heap.size, 0, none⟩ 1 1 [.int .i64 val] rfl rfl (cell_one_new _ _ _) ?d2 ?d3 ?d4 ?_)
        case d2 => first | rfl | (intro u hu; simp at hu; subst hu; rfl)
        case d3 => unfold maxLen; omega
        case d4 => omega
        intro v' w2 hown' hgrow hnew
        obtain ⟨a4, c4, rfl⟩ := own_shape hown'
        have hmap : X ++ [.int .i64 val] = (l ++ List.replicate (j + 1) val).map (Value.int .i64) := by
          rw [HXe.out, List.replicate_succ', ← List.append_assoc, List.map_append (l₁ := l ++ List.replicate j val)]; rfl
        rw [hmap] at hown'
        have hk2 : Kept NoB w1 w2 := (HK.out.alloc _).grown hgrow (by
          intro q hq e
          have := HF.out q e
          omega)
        have hf2 : ∀ q, (Value.slice a4 (m + 1) c4).ownBlock = some q → w1.heap.size ≤ q := by
          intro q hq
          rcases hnew q hq with h | h
          · exact HF.out q h
          · have := HK.out.size; omega
        have HO2 := Lib.hid hown'; have HK2 := Lib.hid hk2; have HF2 := Lib.hid hf2
        clear hown' hk2 hf2 hgrow hnew hmap
        go_wp2
        go_roundw
        case rel =>
          refine ⟨a4, c4, j + 1, ?_, by go_num, by omega, ?_, HK2, ?_⟩
          · rw [HM2.out]; rfl
          · have := HO2.out; rw [HM2.out] at this; exact this
          · have := HF2.out; rw [HM2.out] at this; exact this
        case measure => simp [intOf]; omega
      · have hjT : j = T := by omega
        subst hjT
        have hlen : (moreL l s (k : Int)).length = len + j := by rw [HMore.out, List.length_append, List.length_replicate, ← HT.out, ← HLe.out]
        have HLn := Lib.hid hlen
        clear hlen
        go_wp2
        go_ret2
        refine .inl ⟨HOk.out, a3, c3, ?_, ?_, HKb.out.trans HK.out, ?_⟩
        · rw [HLn.out]; rfl
        · unfold OwnI
          rw [HLn.out, HMore.out, ← HT.out]
          exact HO.out
        · intro q hq
          have := HF.out q (by rw [← HLn.out]; exact hq)
          have := HKb.out.size
          omega
  · have hno : ¬ okRun l s x := fun h' => hx ⟨h'.2.2.1, by have := h'.2.2.2.1; rw [HM.out] at this; exact this⟩
    have HNo := Lib.hid hno
    have hc : x < 0 ∨ (¬ x < 0 ∧ M < x) := by omega
    clear hno hx
    rcases hc with h | ⟨h1, h2⟩
    all_goals
      go_wp2
      go_ret2
      exact .inr ⟨HNo.out, rfl, HKb.out⟩
end Go.Proofs.Ytjdhjlfckalkoaa
