/-
  lens: Flat.
  The document's SameInts, more, Flat.
  The document's Flat.
  Numbers appended onto an own row, in a plain region; apart from the texts on least costs.
-/
import Derived.Test.YtpdlkmacdmnamaaMb15
import Derived.Deep.CutBlock
namespace Go.Proofs.Ytpdlkmacdmnamaa
open Go.RowKit
set_option linter.unusedVariables false
set_option linter.unusedSimpArgs false

/-- A slice of runs reads as rs; its block is below B. -/
def RdRn (w : World) (B : Nat) (ao : Option Addr) (rs : List (Int × Int)) : Prop :=
  ∀ i, i < rs.length → ∃ g off, ao = some ⟨g, off, none⟩ ∧ g < B ∧ w.cell? ⟨g, off + i * 2, none⟩ = some (.int .i64 (rs.getD i (0, 0)).1) ∧ w.cell? ⟨g, off + i * 2 + 1, none⟩ = some (.int .i64 (rs.getD i (0, 0)).2)
theorem RdRn.kept {S : Nat → Prop} {w w' : World} {B : Nat} {ao : Option Addr} {rs : List (Int × Int)} (h : RdRn w B ao rs) (hk : Kept S w w') (hs : ∀ k, k < B → ¬ S k) : RdRn w' B ao rs := by
  intro i hi
  obtain ⟨g, off, h1, h2, h3, h4⟩ := h i hi
  exact ⟨g, off, h1, h2, (World.cell?_of_block (hk.block _ (World.block_lt_of_cell? w _ h3) (hs g h2))).trans h3, (World.cell?_of_block (hk.block _ (World.block_lt_of_cell? w _ h4) (hs g h2))).trans h4⟩
theorem drop_getDP (rs : List (Int × Int)) (j : Nat) (hj : j < rs.length) : rs.drop j = rs.getD j (0, 0) :: rs.drop (j + 1) := by
  rw [List.drop_eq_getElem_cons hj]; simp [List.getD, hj]
/-- A row of numbers told, with an error. -/
def FlatP (w : World) (s : List Int × Int) (e : Ending) (w' : World) : Prop :=
  ∃ ao cap, e = .returned (.tuple #[.slice ao s.1.length cap, .int .i64 s.2]) ∧ OwnI w' ao cap s.1 ∧ Kept NoB w w' ∧ (∀ k, (Value.slice ao s.1.length cap).ownBlock = some k → w.heap.size ≤ k)
theorem FlatP.none {w w' : World} {s : List Int × Int} {x : Int} (h : s = ([], x)) (hk : Kept NoB w w') : FlatP w s (.returned (.tuple #[.slice none 0 0, .int .i64 x])) w' := by
  subst h
  exact ⟨Option.none, 0, rfl, World.ownsRow_nil _ _ _ _, hk, fun k hk => by simp [Value.ownBlock] at hk⟩

set_option maxRecDepth 20000 in
set_option maxHeartbeats 2000000 in
theorem flat_any (n : Int) (ao : Option Addr) (cap : Nat) (rs : List (Int × Int)) (w : World) (hr : RdRn w w.heap.size ao rs) (hm : rs.length ≤ 1000000) :
    Calls Try.prog 19 #[.int .i64 n, .slice ao rs.length cap] w (FlatP w (flatS n rs)) := by
  have HR := Lib.hid hr
  clear hr
  by_cases hb : n < 0 ∨ 320 < n
  · have hf : flatS n rs = ([], 1) := if_pos hb
    have HF := Lib.hid hf
    have hc : n < 0 ∨ (¬ n < 0 ∧ 320 < n) := by omega
    clear hf hb
    rcases hc with h | ⟨h1, h2⟩
    all_goals
      go_enter Try.func19, Try.ntmps19
      go_wp2
      go_ret2
      exact FlatP.none HF.out (Kept.refl _ _)
  · have hn : 0 ≤ n ∧ n ≤ 320 := by omega
    have hf : flatS n rs = match runAll n [] rs with | some l => if (l.length : Int) = n then (l, 0) else ([], 6) | none => ([], 6) := if_neg hb
    obtain ⟨R, hR⟩ : ∃ R, R = runAll n [] rs := ⟨_, rfl⟩
    rw [← hR] at hf
    have HF := Lib.hid hf; have HRe := Lib.hid hR
    clear hf hR hb
    have hn1 := hn.1
    have hn2 := hn.2
    go_enter Try.func19, Try.ntmps19
    go_wp2
    go_loopw [6, 18] (fun v6 v18 wr => ∃ (l : List Int) (a : Option Addr) (c j : Nat), v6 = .slice a l.length c ∧ v18 = .int .i64 (j : Int) ∧ j ≤ rs.length ∧ Hid ((l.length : Int) ≤ n) ∧ Hid (OwnI wr a c l) ∧ Hid (Kept NoB w wr) ∧ Hid (∀ k, (Value.slice a l.length c).ownBlock = some k → w.heap.size ≤ k) ∧ Hid (runAll n l (rs.drop j) = R)) (fun _ v18 _ => rs.length - (intOf v18).toNat)
    case atStart => exact ⟨[], none, 0, 0, rfl, rfl, by omega, (by exact hn1 : ((([] : List Int).length : Nat) : Int) ≤ n), World.ownsRow_nil _ _ _ _, Kept.refl _ _, (fun k hk => by simp [Value.ownBlock] at hk), (by rw [List.drop_zero]; exact HRe.out.symm)⟩
    case round =>
      obtain ⟨l, a, c, j, rfl, rfl, hj, HL, HO, HK, HFr, HX⟩ := hrel
      by_cases hlt : (j : Int) < rs.length
      · obtain ⟨g, off, rfl, hgl, hc0, hc1⟩ := HR.out j (by omega)
        have hc0' := HK.out.cell hc0
        have hc1' := HK.out.cell hc1
        have hd := HX.out
        rw [drop_getDP rs j (by omega)] at hd
        obtain ⟨⟨s, x⟩, hsx⟩ : ∃ p : Int × Int, p = rs.getD j (0, 0) := ⟨_, rfl⟩
        rw [← hsx] at hd hc0' hc1'
        simp only at hc0' hc1'
        unfold runAll at hd
        have HD := Lib.hid hd
        clear hd hsx hc0 hc1 hgl
        have hkA : Kept NoB w (wr.alloc (.cells #[.int .i64 s, .int .i64 x] 54)) := HK.out.alloc _
        have hkW : Kept NoB wr (wr.alloc (.cells #[.int .i64 s, .int .i64 x] 54)) := (Kept.refl _ _).alloc _
        have hext := extended_any a c l s x n (wr.alloc (.cells #[.int .i64 s, .int .i64 x] 54)) (hkW.row HO.out (fun _ _ h => h)) (by omega) HL.out
        have hsz : wr.heap.size ≤ (wr.alloc (.cells #[.int .i64 s, .int .i64 x] 54)).heap.size := hkW.size
        have HExt := Lib.hid hext; have HKA := Lib.hid hkA; have HSz := Lib.hid hsz
        clear hext hkA hkW hsz
        go_wp2_with fail
        refine HExt.out.mono ?_
        rintro e w2 (⟨hok, hfit, a2, c2, rfl, ho2, hk2, hf2⟩ | ⟨hno, rfl, hk2⟩)
        · have hd := HD.out
          rw [if_pos ⟨hok, hfit⟩] at hd
          have HX2 := Lib.hid hd; have HO2 := Lib.hid ho2; have HL2 := Lib.hid hfit
          have hk3 : Kept NoB w w2 := HKA.out.trans' hk2 (fun k hk e => absurd hk (by have := HFr.out k e; omega))
          have hf3 : ∀ k, (Value.slice a2 (moreL l s x).length c2).ownBlock = some k → w.heap.size ≤ k := fun k hk => by
            rcases hf2 k hk with h | h
            · exact HFr.out k h
            · have := HKA.out.size; omega
          have HK3 := Lib.hid hk3; have HF3 := Lib.hid hf3
          clear hd ho2 hfit hk2 hf2 hk3 hf3 hok
          go_wp2
          go_roundw
          case rel => exact ⟨moreL l s x, a2, c2, j + 1, rfl, by go_num, by omega, HL2, HO2, HK3, HF3, HX2⟩
          case measure => simp [intOf]; omega
        · have hd := HD.out
          rw [if_neg hno] at hd
          have hf := HF.out
          rw [← hd] at hf
          have HF2 := Lib.hid hf
          have HK2 := Lib.hid (HKA.out.trans hk2)
          clear hd hf hk2 hno
          go_wp2
          go_ret2
          exact FlatP.none HF2.out HK2.out
      · have hjl : rs.drop j = [] := List.drop_of_length_le (by omega)
        have hd := HX.out
        rw [hjl] at hd
        have hR : R = some l := hd.symm
        have hf := HF.out
        rw [hR] at hf
        have HF2 := Lib.hid hf
        clear hjl hd hR hf
        obtain ⟨len, hlen⟩ : ∃ len, len = l.length := ⟨_, rfl⟩
        have HLn := Lib.hid hlen
        rw [← hlen]
        clear hlen
        by_cases heq : (len : Int) = n
        · have hf := HF2.out
          have hx : flatS n rs = (l, 0) := by rw [hf]; exact if_pos (by rw [← HLn.out]; exact heq)
          have HX2 := Lib.hid hx
          have g1 : ((len : Int) != n) = false := by simp; exact heq
          clear hf hx heq
          go_wp2
          go_ret2
          rw [HX2.out]
          exact ⟨a, c, by rw [HLn.out]; rfl, HO.out, HK.out, HFr.out⟩
        · have hf := HF2.out
          have hx : flatS n rs = ([], 6) := by rw [hf]; exact if_neg (by rw [← HLn.out]; exact heq)
          have HX2 := Lib.hid hx
          have g1 : ((len : Int) != n) = true := by simp; exact heq
          clear hf hx heq
          go_wp2
          go_ret2
          exact FlatP.none HX2.out HK.out
end Go.Proofs.Ytpdlkmacdmnamaa

namespace Go.Proofs.Ytpdlkmacdmnamaa
open Go.RowKit
set_option linter.unusedVariables false
set_option linter.unusedSimpArgs false

theorem drop_getDz (bs : List Int) (j : Nat) (hj : j < bs.length) : bs.drop j = bs.getD j 0 :: bs.drop (j + 1) := by
  rw [List.drop_eq_getElem_cons hj]; simp [List.getD, hj]
set_option maxHeartbeats 1000000 in
theorem sameInts_dr (a : Option Addr) (c : Nat) (xs : List Int) (b : Option Addr) (d : Nat) (ys : List Int) (A B : Nat) (w : World) (hx : RdI w A a xs) (hy : RdI w B b ys) (hm : xs.length ≤ 1000000) :
    Calls Try.prog 13 #[.slice a xs.length c, .slice b ys.length d] w fun e w' => e = .returned (.bool (decide (xs = ys))) ∧ ∃ m, w' = w.drewN m := by
  have HX := Lib.hid hx; have HY := Lib.hid hy
  clear hx hy
  by_cases hlen : xs.length = ys.length
  · obtain ⟨n, hn⟩ : ∃ n, n = xs.length := ⟨_, rfl⟩
    have hn2 : ys.length = n := by omega
    have HN := Lib.hid hn; have HN2 := Lib.hid hn2
    have hm2 : n ≤ 1000000 := by omega
    rw [← hn, hn2]
    clear hn hn2 hlen
    go_enter Try.func13, Try.ntmps13
    go_wp2
    go_loopw [5] (fun v5 wr => ∃ j : Nat, v5 = .int .i64 (j : Int) ∧ j ≤ n ∧ Hid (∃ m, wr = w.drewN m) ∧ Hid ((xs = ys) ↔ (xs.drop j = ys.drop j))) (fun v5 _ => n - (intOf v5).toNat)
    case atStart => exact ⟨0, rfl, by omega, Lib.hid ⟨0, rfl⟩, (by rw [List.drop_zero, List.drop_zero]; exact Iff.rfl)⟩
    case round =>
      obtain ⟨j, rfl, hj, HM, HI⟩ := hrel
      have HK := Lib.hid (show Kept NoB w wr by obtain ⟨m, hm⟩ := HM.out; rw [hm]; exact (Kept.refl NoB w).drewN m)
      have HM2 : Hid (∀ n, ∃ m, wr.drewN n = w.drewN m) := Lib.hid (fun n => by obtain ⟨m, hm⟩ := HM.out; exact ⟨m + n, by rw [hm, World.drewN_drewN]⟩)
      by_cases hlt : (j : Int) < n
      · obtain ⟨g, off, rfl, hgl, hc0⟩ := HX.out j (by have := HN.out; omega)
        obtain ⟨g2, off2, rfl, hgl2, hc1⟩ := HY.out j (by have := HN2.out; omega)
        have hc0' := HK.out.cell hc0
        have hc1' := HK.out.cell hc1
        have hi := HI.out
        rw [drop_getDz xs j (by have := HN.out; omega), drop_getDz ys j (by have := HN2.out; omega)] at hi
        obtain ⟨x, hx⟩ : ∃ x, xs.getD j 0 = x := ⟨_, rfl⟩
        obtain ⟨y, hy⟩ : ∃ y, ys.getD j 0 = y := ⟨_, rfl⟩
        rw [hx] at hc0' hi
        rw [hy] at hc1' hi
        clear hx hy hc0 hc1 hgl hgl2
        by_cases hxy : x = y
        · subst hxy
          have HI2 : Hid ((xs = ys) ↔ (xs.drop (j + 1) = ys.drop (j + 1))) := hi.trans ⟨fun h => by injection h, fun h => by rw [h]⟩
          have hd : (x != x) = false := by simp
          clear hi
          go_upto_region 6 with fail
          go_quiet (fail)
          go_wp2
          go_roundw
          case rel => exact ⟨j + 1, by go_num, by omega, Lib.hid (HM2.out _), HI2⟩
          case measure => simp [intOf]; omega
        · have hne : ¬ xs = ys := fun h => hxy (by have := hi.1 h; injection this)
          have hd : (x != y) = true := by simp; exact hxy
          clear hi hxy
          have HNe := Lib.hid hne
          clear hne
          go_upto_region 6 with fail
          go_quiet (fail)
          go_wp2
          go_ret
          exact ⟨by rw [decide_eq_false HNe.out]; rfl, HM2.out _⟩
      · have he : xs = ys := by
          have hi := HI.out
          rw [List.drop_of_length_le (by have := HN.out; omega), List.drop_of_length_le (by have := HN2.out; omega)] at hi
          exact hi.2 rfl
        have HE := Lib.hid he
        clear he
        go_wp2
        go_ret
        exact ⟨by rw [decide_eq_true HE.out]; rfl, HM.out⟩
  · have hne : ¬ xs = ys := fun h => hlen (by rw [h])
    have HNe := Lib.hid hne
    have g1 : ((xs.length : Int) != (ys.length : Int)) = true := bne_iff_ne.2 (by omega)
    clear hne hlen
    go_enter Try.func13, Try.ntmps13
    go_wp2
    go_ret
    exact ⟨by rw [decide_eq_false HNe.out]; rfl, ⟨0, rfl⟩⟩

theorem sameInts_any (a : Option Addr) (c : Nat) (xs : List Int) (b : Option Addr) (d : Nat) (ys : List Int) (A B : Nat) (w : World) (hx : RdI w A a xs) (hy : RdI w B b ys) (hm : xs.length ≤ 1000000) :
    Calls Try.prog 13 #[.slice a xs.length c, .slice b ys.length d] w fun e w' => e = .returned (.bool (decide (xs = ys))) ∧ Kept NoB w w' :=
  (sameInts_dr a c xs b d ys A B w hx hy hm).mono (by rintro e w' ⟨h1, m, rfl⟩; exact ⟨h1, (Kept.refl NoB w).drewN m⟩)

set_option maxRecDepth 20000 in
set_option maxHeartbeats 1000000 in
theorem more_any (a : Option Addr) (c : Nat) (l : List Int) (A : Nat) (s x : Int) (w : World) (hr : RdI w A a l) (hm : l.length ≤ 1000) (hlc : l.length ≤ c) :
    Calls Try.prog 36 #[.slice a l.length c, .agg #[.int .i64 s, .int .i64 x]] w fun e w' =>
      (okRun l s x ∧ ∃ a' c', e = .returned (.tuple #[.slice a' (moreL l s x).length c', .bool true]) ∧ OwnI w' a' c' (moreL l s x) ∧ Kept NoB w w' ∧ (∀ k, (Value.slice a' (moreL l s x).length c').ownBlock = some k → w.heap.size ≤ k)) ∨
      (¬ okRun l s x ∧ e = .returned (.tuple #[.slice none 0 0, .bool false]) ∧ Kept NoB w w') := by
  have HR := Lib.hid hr
  obtain ⟨len, hlen⟩ : ∃ len, len = l.length := ⟨_, rfl⟩
  have HLe := Lib.hid hlen
  have hkb : Kept NoB w (w.alloc (.cells #[.int .i64 s, .int .i64 x] 54)) := (Kept.refl _ _).alloc _
  have HKb := Lib.hid hkb
  have c0 : (w.alloc (.cells #[.int .i64 s, .int .i64 x] 54)).cell? ⟨w.heap.size, 0, none⟩ = some (.int .i64 s) := cell_new 0 rfl
  have c1 : (w.alloc (.cells #[.int .i64 s, .int .i64 x] 54)).cell? ⟨w.heap.size, 1, none⟩ = some (.int .i64 x) := cell_new 1 rfl
  have hlm : len ≤ 1000 := by omega
  have hlc2 : len ≤ c := by omega
  obtain ⟨i0, hi, hz0, hz1, hz2⟩ := info_parts infoI
  rw [← hlen]
  clear hr hkb hlen hm hlc
  go_enter Try.func36, Try.ntmps36
  go_upto_block 0 with fail
  generalize w.alloc (.cells #[.int .i64 s, .int .i64 x] 54) = w1 at c0 c1 HKb ⊢
  obtain ⟨bk, hbk⟩ : ∃ bk, bk = w.heap.size := ⟨_, rfl⟩
  rw [← hbk] at c0 c1 ⊢
  have HBk := Lib.hid hbk
  clear hbk
  go_cut [6, 7, 8] from 11 to 42 (fun v6 v7 v8 wx => w1 = wx ∧ v6 = .int .i64 (valS l s) ∧ v7 = .int .i64 (spanL s : Int) ∧ v8 = .int .i64 (spanM s) ∧ Hid (0 ≤ s ∧ s ≤ 18 ∧ (s = 16 → l ≠ [])))
  case first =>
    have hc : (0 ≤ s ∧ s ≤ 15) ∨ s = 16 ∨ s = 17 ∨ s = 18 ∨ s < 0 ∨ 18 < s := by omega
    rcases hc with h | h | h | h | h | h
    · have e1 : valS l s = s := by unfold valS; rw [if_neg (by omega), if_neg (by omega)]
      have e2 : spanL s = 1 := by unfold spanL; rw [if_neg (by omega), if_neg (by omega), if_neg (by omega)]
      have e3 : spanM s = 0 := by unfold spanM; rw [if_neg (by omega), if_neg (by omega), if_neg (by omega)]
      have E1 := Lib.hid e1; have E2 := Lib.hid e2; have E3 := Lib.hid e3
      clear e1 e2 e3
      go_wp2
      go_meet
      exact ⟨rfl, by rw [E1.out], by rw [E2.out]; rfl, by rw [E3.out], by omega, by omega, fun h => by omega⟩
    · subst h
      by_cases hl0 : l = []
      · have hno : ¬ okRun l 16 x := fun h' => h'.2.2.2.2 rfl hl0
        have HNo := Lib.hid hno
        have hlen0 : len = 0 := by rw [HLe.out, hl0]; rfl
        subst hlen0
        clear hno hl0 HLe
        go_wp2
        go_ret2
        exact .inr ⟨HNo.out, rfl, HKb.out⟩
      · have hlpos : 0 < len := by rw [HLe.out]; exact List.length_pos_iff.2 hl0
        obtain ⟨q, hq⟩ : ∃ q : Nat, q = len - 1 := ⟨_, rfl⟩
        obtain ⟨g, off, rfl, hgl, hcq⟩ := HR.out q (by have := HLe.out; omega)
        have hq1000 : q ≤ 1000 := by omega
        have hv : valS l 16 = l.getD q 0 := by unfold valS; rw [if_pos rfl, hq, HLe.out]
        generalize l.getD q 0 = z at hcq hv
        have hcq2 := HKb.out.cell hcq
        have hqi : (len : Int) - 1 = (q : Int) := by omega
        have hql : q < len := by omega
        have HV := Lib.hid hv; have HL0 := Lib.hid hl0
        clear hv hl0 hcq hq
        go_wp2
        go_meet
        exact ⟨rfl, by rw [HV.out], rfl, rfl, by omega, by omega, fun _ => HL0.out⟩
    · subst h
      go_wp2
      go_meet
      exact ⟨rfl, rfl, rfl, rfl, by omega, by omega, fun h => by omega⟩
    · subst h
      go_wp2
      go_meet
      exact ⟨rfl, rfl, rfl, rfl, by omega, by omega, fun h => by omega⟩
    · have hno : ¬ okRun l s x := fun h' => by have := h'.1; omega
      have HNo := Lib.hid hno
      have g1 : (s == 16) = false := by simp; omega
      have g2 : (s == 17) = false := by simp; omega
      have g3 : (s == 18) = false := by simp; omega
      clear hno
      go_wp2
      go_ret2
      exact .inr ⟨HNo.out, rfl, HKb.out⟩
    · have hno : ¬ okRun l s x := fun h' => by have := h'.2.1; omega
      have HNo := Lib.hid hno
      have g1 : (s == 16) = false := by simp; omega
      have g2 : (s == 17) = false := by simp; omega
      have g3 : (s == 18) = false := by simp; omega
      have g4 : ¬ s ≤ 15 := by omega
      clear hno
      go_wp2
      go_ret2
      exact .inr ⟨HNo.out, rfl, HKb.out⟩
  case rest =>
  obtain ⟨rfl, rfl, rfl, rfl, HS⟩ := hcut
  obtain ⟨M, hM⟩ : ∃ M, spanM s = M := ⟨_, rfl⟩
  obtain ⟨val, hV⟩ : ∃ v, valS l s = v := ⟨_, rfl⟩
  have HM := Lib.hid hM; have HV := Lib.hid hV
  rw [hM, hV]
  clear hM hV c0
  by_cases hx : 0 ≤ x ∧ x ≤ M
  · obtain ⟨k, rfl⟩ : ∃ k : Nat, x = (k : Int) := ⟨x.toNat, by omega⟩
    have hok : okRun l s (k : Int) := ⟨HS.out.1, HS.out.2.1, hx.1, by rw [HM.out]; exact hx.2, HS.out.2.2⟩
    have hM127 : spanM s ≤ 127 := by unfold spanM; split <;> (try split) <;> (try split) <;> omega
    have hL11 : 1 ≤ spanL s ∧ spanL s ≤ 11 := by unfold spanL; split <;> (try split) <;> (try split) <;> omega
    have hk127 : k ≤ 127 := by have := HM.out; omega
    have hmore : moreL l s (k : Int) = l ++ List.replicate (spanL s + k) val := by unfold moreL; rw [HV.out]; rfl
    have hnx : ¬ (k : Int) < 0 := by omega
    have hMk : ¬ M < (k : Int) := by omega
    obtain ⟨L, hL⟩ : ∃ L, spanL s = L := ⟨_, rfl⟩
    rw [hL] at hmore hL11 ⊢
    have HOk := Lib.hid hok; have HMore := Lib.hid hmore
    clear hok hmore hM127 hx hL
    go_upto_region 15 with fail
    go_cut [9] from 52 to 54 (fun v9 wx => ∃ a2 c2, v9 = .slice a2 len c2 ∧ Hid (wx.ownsRow 0 3 1 (.slice a2 len c2) len (l.map (.int .i64))) ∧ Hid (Kept NoB w1 wx) ∧ Hid (∀ q, (Value.slice a2 len c2).ownBlock = some q → w1.heap.size ≤ q))
    case first =>
      cases a with
      | none =>
        have hl0 : l = [] := by
          cases l with
          | nil => rfl
          | cons z r => obtain ⟨g, off, h, _⟩ := HR.out 0 (by simp); cases h
        have hlen0 : len = 0 := by rw [HLe.out, hl0]; rfl
        have hrow := World.ownsRow_made (base := 0) (e := 3) (size := 1) w1 #[] 0 (Nat.zero_le _) (Nat.zero_le _) rfl
        have HRow := Lib.hid hrow
        have HLe0 := Lib.hid hl0
        subst hlen0
        clear hrow hl0
        have hkA : Kept NoB w1 (w1.alloc (.cells #[] 3)) := (Kept.refl _ _).alloc _
        have HKA := Lib.hid hkA
        clear hkA
        go_wp2
        go_meet
        refine ⟨some ⟨w1.heap.size, 0, none⟩, 0, rfl, ?_, HKA, fun q hq => ?_⟩
        · rw [HLe0.out]; exact HRow.out
        · simp [Value.ownBlock] at hq; omega
      | some ad =>
        have hrow := World.ownsRow_made (base := 0) (e := 3) (size := 1) w1 #[] 0 (Nat.zero_le _) (Nat.zero_le _) rfl
        have hc2 : ∀ j u, (l.map (Value.int .i64))[j]? = some u → (w1.alloc (.cells #[] 3)).cell? (ad.add j) = some u := by
          intro j u hj
          have hjl : j < l.length := by have := (List.getElem?_eq_some_iff.1 hj).1; simpa using this
          obtain ⟨g, off, e, _, hc⟩ := HR.out j hjl
          cases e
          rw [addr_add]
          refine Lib.cell?_alloc_some _ ?_
          rw [HKb.out.cell hc]
          have e : (l.map (Value.int .i64))[j]? = some (Value.int .i64 (l.getD j 0)) := by simp [List.getD, List.getElem?_eq_getElem hjl]
          rw [e] at hj
          exact hj
        have hc3 : ∀ u ∈ l.map (Value.int .i64), u.oneCell' = true := by intro u hu; obtain ⟨y, _, rfl⟩ := List.mem_map.1 hu; rfl
        have HRow := Lib.hid hrow; have HC2 := Lib.hid hc2; have HC3 := Lib.hid hc3
        clear hrow hc2 hc3
        go_wp2_with (at_builtin; refine wpList_app _ rfl _ _ 23 rfl 3 i0 (.int .i64 0) 1 8 Try.underlying23 hi hz0 hz1 hz2 rfl (by decide) _ 0 [] rfl HRow.out ad len c (l.map (.int .i64)) rfl ?c1 HC2.out HC3.out ?c4 ?c5 ?_)
        case c1 => simp [HLe.out]
        case c4 => unfold maxLen; omega
        case c5 => omega
        intro v' w2 hown hgrow hnew
        obtain ⟨a2, c2, rfl⟩ := own_shape hown
        have hk2 : Kept NoB w1 w2 := ((Kept.refl NoB w1).alloc _).grown hgrow (by intro j hj e; simp [Value.ownBlock] at e; omega)
        have hf2 : ∀ q, (Value.slice a2 len c2).ownBlock = some q → w1.heap.size ≤ q := by
          intro q hq
          rcases hnew q (by first | exact hq | (rw [Nat.zero_add]; exact hq)) with h | h
          · simp [Value.ownBlock] at h; omega
          · have : (w1.alloc (.cells #[] 3)).heap.size = w1.heap.size + 1 := by simp
            omega
        try rw [Nat.zero_add] at hown
        try rw [List.nil_append] at hown
        have HO2 := Lib.hid hown; have HK2 := Lib.hid hk2; have HF2 := Lib.hid hf2
        clear hown hk2 hf2 hgrow hnew
        go_wp2
        go_meet
        exact ⟨a2, c2, by first | rfl | rw [Nat.zero_add], HO2, HK2, HF2⟩
    case rest =>
    obtain ⟨a2, c2, rfl, HO, HK, HF⟩ := hcut
    obtain ⟨T, hT⟩ : ∃ T, T = L + k := ⟨_, rfl⟩
    have hsum : (L : Int) + (k : Int) = (T : Int) := by omega
    have hT200 : T ≤ 200 := by omega
    have HT := Lib.hid hT
    clear hT
    go_wp2
    go_loopw [9, 10] (fun v9 v10 wr => ∃ (a3 : Option Addr) (c3 j : Nat), v9 = .slice a3 (len + j) c3 ∧ v10 = .int .i64 (j : Int) ∧ j ≤ T ∧ Hid (wr.ownsRow 0 3 1 (.slice a3 (len + j) c3) (len + j) ((l ++ List.replicate j val).map (.int .i64))) ∧ Hid (Kept NoB w1 wr) ∧ Hid (∀ q, (Value.slice a3 (len + j) c3).ownBlock = some q → w1.heap.size ≤ q)) (fun _ v10 _ => T - (intOf v10).toNat)
    case atStart => exact ⟨a2, c2, 0, rfl, rfl, by omega, (by rw [List.replicate_zero, List.append_nil]; exact HO.out), HK.out, HF.out⟩
    case round =>
      clear HO HK HF
      obtain ⟨a3, c3, j, rfl, rfl, hj, HO, HK, HF⟩ := hrel
      have hc1 := HK.out.cell c1
      by_cases hlt : (j : Int) < T
      · obtain ⟨m, hm⟩ : ∃ m, m = len + j := ⟨_, rfl⟩
        have hm2 : m ≤ 2000 := by omega
        have HM2 := Lib.hid hm
        rw [← hm] at HO HF ⊢
        obtain ⟨X, hX⟩ : ∃ X, X = (l ++ List.replicate j val).map (Value.int .i64) := ⟨_, rfl⟩
        rw [← hX] at HO
        have HXe := Lib.hid hX
        clear hX
        have hrow2 := HO.out.alloc (.cells #[.int .i64 val] 3)
        have HRow2 := Lib.hid hrow2
        clear hrow2 hm
        go_wp2_with (at_builtin; refine wpList_app _ rfl _ _ 23 rfl 3 i0 (.int .i64 0) 1 8 Try.underlying23 hi hz0 hz1 hz2 rfl (by decide) _ m X rfl HRow2.out ⟨wr.heap.size, 0, none⟩ 1 1 [.int .i64 val] rfl rfl (cell_one_new _ _ _) ?d2 ?d3 ?d4 ?_)
        case d2 => first | rfl | (intro u hu; simp at hu; subst hu; rfl)
        case d3 => unfold maxLen; omega
        case d4 => omega
        intro v' w2 hown' hgrow hnew
        obtain ⟨a4, c4, rfl⟩ := own_shape hown'
        have hmap : X ++ [.int .i64 val] = (l ++ List.replicate (j + 1) val).map (Value.int .i64) := by
          rw [HXe.out, List.replicate_succ', ← List.append_assoc, List.map_append (l₁ := l ++ List.replicate j val)]; rfl
        rw [hmap] at hown'
        have hk2 : Kept NoB w1 w2 := (HK.out.alloc _).grown hgrow (by
          intro q hq e
          have := HF.out q e
          omega)
        have hf2 : ∀ q, (Value.slice a4 (m + 1) c4).ownBlock = some q → w1.heap.size ≤ q := by
          intro q hq
          rcases hnew q hq with h | h
          · exact HF.out q h
          · have := HK.out.size; omega
        have HO2 := Lib.hid hown'; have HK2 := Lib.hid hk2; have HF2 := Lib.hid hf2
        clear hown' hk2 hf2 hgrow hnew hmap
        go_wp2
        go_roundw
        case rel =>
          refine ⟨a4, c4, j + 1, ?_, by go_num, by omega, ?_, HK2, ?_⟩
          · rw [HM2.out]; rfl
          · have := HO2.out; rw [HM2.out] at this; exact this
          · have := HF2.out; rw [HM2.out] at this; exact this
        case measure => simp [intOf]; omega
      · have hjT : j = T := by omega
        subst hjT
        have hlen : (moreL l s (k : Int)).length = len + j := by rw [HMore.out, List.length_append, List.length_replicate, ← HT.out, ← HLe.out]
        have HLn := Lib.hid hlen
        clear hlen
        go_wp2
        go_ret2
        refine .inl ⟨HOk.out, a3, c3, ?_, ?_, HKb.out.trans HK.out, ?_⟩
        · rw [HLn.out]; rfl
        · unfold OwnI
          rw [HLn.out, HMore.out, ← HT.out]
          exact HO.out
        · intro q hq
          have := HF.out q (by rw [← HLn.out]; exact hq)
          have := HKb.out.size
          omega
  · have hno : ¬ okRun l s x := fun h' => hx ⟨h'.2.2.1, by have := h'.2.2.2.1; rw [HM.out] at this; exact this⟩
    have HNo := Lib.hid hno
    have hc : x < 0 ∨ (¬ x < 0 ∧ M < x) := by omega
    clear hno hx
    rcases hc with h | ⟨h1, h2⟩
    all_goals
      go_wp2
      go_ret2
      exact .inr ⟨HNo.out, rfl, HKb.out⟩
end Go.Proofs.Ytpdlkmacdmnamaa

namespace Go.Proofs.Ytpdlkmacdmnamaa
open Go.RowKit
set_option linter.unusedVariables false
set_option linter.unusedSimpArgs false

theorem own_readsI {w : World} {base n cap : Nat} {ao : Option Addr} {zs : List Int} (h : w.ownsRow base 3 1 (.slice ao n cap) n (zs.map (.int .i64))) (hn : zs.length = n) : RdI w w.heap.size ao zs := by
  intro i hi
  rcases h.2 with ⟨_, hz⟩ | ⟨g, c, cur, hv, _⟩
  · omega
  · simp at hv
    obtain ⟨rfl, rfl⟩ := hv
    have hc : w.cell? ⟨g, i, none⟩ = some (.int .i64 (zs.getD i 0)) := by
      rw [h.cellAt i (by omega)]; simp [List.getD, hi]
    exact ⟨g, 0, rfl, World.block_lt_of_cell? w _ hc, by rw [Nat.zero_add]; exact hc⟩
theorem OwnI.reads {w : World} {a : Option Addr} {c : Nat} {l : List Int} (h : OwnI w a c l) : RdI w w.heap.size a l := own_readsI h rfl
theorem OwnI.capOk {w : World} {a : Option Addr} {c : Nat} {l : List Int} (h : OwnI w a c l) : l.length ≤ c := (own_cap h).1

theorem lit_readsI {w : World} {cs : Array Value} (zs : List Int) (hc : cs.toList = zs.map (.int .i64)) : RdI (w.alloc (.cells cs 3)) (w.alloc (.cells cs 3)).heap.size (some ⟨w.heap.size, 0, none⟩) zs := by
  intro i hi
  refine ⟨w.heap.size, 0, rfl, by simp, ?_⟩
  rw [Nat.zero_add, cell_new i rfl, ← Array.getElem?_toList, hc]
  simp [List.getD, hi]
theorem orders_any (w : World) : (Calls Try.prog 20 #[] w fun e w' => ∃ a c, e = .returned (.slice a 19 c) ∧ RdI w' w'.heap.size a [16, 17, 18, 0, 8, 7, 9, 6, 10, 5, 11, 4, 12, 3, 13, 2, 14, 1, 15] ∧ Kept NoB w w') ∧
    (Calls Try.prog 21 #[] w fun e w' => ∃ a c, e = .returned (.slice a 19 c) ∧ RdI w' w'.heap.size a [16, 17, 18, 0, 8, 7, 9, 6, 10, 5, 11, 4, 12, 3, 13, 2, 14, 1, 15] ∧ Kept NoB w w') := by
  constructor
  · go_enter Try.func20, Try.ntmps20
    go_wp2
    go_ret
    exact ⟨some ⟨w.heap.size, 0, none⟩, 19, rfl, lit_readsI _ rfl, (Kept.refl _ _).alloc _⟩
  · go_enter Try.func21, Try.ntmps21
    go_wp2
    go_ret
    exact ⟨some ⟨w.heap.size, 0, none⟩, 19, rfl, lit_readsI _ rfl, (Kept.refl _ _).alloc _⟩

set_option maxRecDepth 20000 in
set_option maxHeartbeats 1000000 in
/-- awake of layer 8. -/
theorem awake8 (w : World) : Calls Try.prog 5 #[] w fun e w' => e = .returned (.bool true) ∧ Below w.heap.size w w' := by
  have hr1 : RdRn (w.alloc (.cells #[.int .i64 5, .int .i64 0, .int .i64 16, .int .i64 0] 54)) (w.alloc (.cells #[.int .i64 5, .int .i64 0, .int .i64 16, .int .i64 0] 54)).heap.size (some ⟨w.heap.size, 0, none⟩) [(5, 0), (16, 0)] := by
    intro i hi
    have hc : i = 0 ∨ i = 1 := by simp at hi; omega
    rcases hc with rfl | rfl
    · exact ⟨w.heap.size, 0, rfl, by simp, cell_new 0 rfl, cell_new 1 rfl⟩
    · exact ⟨w.heap.size, 0, rfl, by simp, cell_new 2 rfl, cell_new 3 rfl⟩
  have h1 := flat_any 4 (some ⟨w.heap.size, 0, none⟩) 2 [(5, 0), (16, 0)] _ hr1 (by decide)
  have e1 : flatS 4 [(5, 0), (16, 0)] = ([5, 5, 5, 5], 0) := by decide +kernel
  rw [e1] at h1
  have H1 := Lib.hid h1
  have hkA : Kept NoB w (w.alloc (.cells #[.int .i64 5, .int .i64 0, .int .i64 16, .int .i64 0] 54)) := (Kept.refl _ _).alloc _
  have HKA := Lib.hid hkA
  clear hr1 h1 e1 hkA
  go_enter Try.func5, Try.ntmps5
  go_wp2_with fail
  refine H1.out.mono ?_
  rintro e w1 ⟨a1, c1, rfl, ho1, hk1, hf1⟩
  have HO1 := Lib.hid ho1; have HK1 := Lib.hid (HKA.out.trans hk1)
  clear ho1 hk1 hf1 HKA H1
  have hr2 : RdRn (w1.alloc (.cells #[.int .i64 16, .int .i64 0] 54)) (w1.alloc (.cells #[.int .i64 16, .int .i64 0] 54)).heap.size (some ⟨w1.heap.size, 0, none⟩) [(16, 0)] := by
    intro i hi
    have hc : i = 0 := by simp at hi; omega
    subst hc
    exact ⟨w1.heap.size, 0, rfl, by simp, cell_new 0 rfl, cell_new 1 rfl⟩
  have h2 := flat_any 3 (some ⟨w1.heap.size, 0, none⟩) 1 [(16, 0)] _ hr2 (by decide)
  have e2 : flatS 3 [(16, 0)] = ([], 6) := by decide +kernel
  rw [e2] at h2
  have H2 := Lib.hid h2
  have HKB := Lib.hid ((Kept.refl NoB w1).alloc (.cells #[.int .i64 16, .int .i64 0] 54))
  clear hr2 h2 e2
  go_wp2_with fail
  refine H2.out.mono ?_
  rintro e w2 ⟨a2, c2, rfl, ho2, hk2, hf2⟩
  have hk12 := HKB.out.trans hk2
  have HR1 := Lib.hid (HO1.out.reads.keptNo hk12)
  have HK2 := Lib.hid (HK1.out.trans hk12)
  clear ho2 hk2 hf2 hk12 HKB H2 HO1 HK1
  have HOr := Lib.hid (fun w => orders_any w)
  go_wp2_with fail
  refine (HOr.out _).1.mono ?_
  rintro e w3 ⟨a3, c3, rfl, hr3, hk3⟩
  have HR3 := Lib.hid hr3; have HR13 := Lib.hid (HR1.out.keptNo hk3); have HK3 := Lib.hid (HK2.out.trans hk3)
  clear hr3 hk3 HR1 HK2
  have hs1 := sameInts_any a1 c1 [5, 5, 5, 5] (some ⟨w3.heap.size, 0, none⟩) 4 [5, 5, 5, 5] _ _ (w3.alloc (.cells #[.int .i64 5, .int .i64 5, .int .i64 5, .int .i64 5] 3)) (HR13.out.keptNo ((Kept.refl _ _).alloc _)) (lit_readsI _ rfl) (by decide)
  rw [decide_eq_true rfl] at hs1
  have HS1 := Lib.hid hs1
  have HKC := Lib.hid ((Kept.refl NoB w3).alloc (.cells #[.int .i64 5, .int .i64 5, .int .i64 5, .int .i64 5] 3))
  clear hs1
  go_wp2_with fail
  refine HS1.out.mono ?_
  rintro e w4 ⟨rfl, hk4⟩
  have HR34 := Lib.hid (HR3.out.keptNo (HKC.out.trans hk4)); have HK4 := Lib.hid (HK3.out.trans (HKC.out.trans hk4))
  clear hk4 HR3 HK3 HS1 HR13 HKC
  go_wp2_with fail
  refine (HOr.out _).2.mono ?_
  rintro e w5 ⟨a5, c5, rfl, hr5, hk5⟩
  have hs2 := sameInts_any a3 c3 [16, 17, 18, 0, 8, 7, 9, 6, 10, 5, 11, 4, 12, 3, 13, 2, 14, 1, 15] a5 c5 [16, 17, 18, 0, 8, 7, 9, 6, 10, 5, 11, 4, 12, 3, 13, 2, 14, 1, 15] _ _ w5 (HR34.out.keptNo hk5) hr5 (by decide)
  rw [decide_eq_true rfl] at hs2
  have HS2 := Lib.hid hs2
  have HK5 := Lib.hid (HK4.out.trans hk5)
  clear hs2 hr5 hk5 HR34 HK4 HOr
  go_wp2_with fail
  refine HS2.out.mono ?_
  rintro e w6 ⟨rfl, hk6⟩
  have hfin := (HK5.out.trans hk6).belowNo (Below.refl _ _)
  go_wp2
  go_ret
  exact ⟨rfl, hfin⟩
end Go.Proofs.Ytpdlkmacdmnamaa

namespace Go.Proofs.Ytpdlkmacdmnamaa
open Go.RowKit
set_option linter.unusedVariables false
set_option linter.unusedSimpArgs false

theorem emp_sa {w0 w : World} (hk : Kept NoB w0 w) (k : Nat) (he : k = w.heap.size) : IntSt w0 (w.alloc (.cells #[] 3)) (some ⟨k, 0, none⟩) 0 0 [] := by
  subst he; exact ⟨rfl, World.ownsRow_lit w #[] 0 (Nat.zero_le _) (Nat.zero_le _) rfl, hk.alloc _, fun k e => by have := hk.size; simp [Value.ownBlock] at e; omega⟩
theorem IntSt.onK {w0 w1 w2 : World} {a : Option Addr} {l c : Nat} {zs : List Int} (h : IntSt w0 w1 a l c zs) (k : Kept NoB w1 w2) : IntSt w0 w2 a l c zs :=
  ⟨h.len, k.row h.own (fun _ _ h => h), h.kept.trans k, h.fresh⟩
/-- Numbers appended to an own row, in a region in its own order. -/
theorem wpList_intsA {ops : Array Oper} {rest : List Oper} {o : Oper} {a : Act} {w : World} {Q : Exit → Act → World → Prop} (hgd : o.guard = none) (s x : Operand)
    (ho : o.op = .call { callee := .builtin .append, args := #[s, x], argTypes := #[23, 23] })
    {w0 : World} {a1 : Option Addr} {l1 c1 : Nat} {zs : List Int} (hS : IntSt w0 w a1 l1 c1 zs) (hs : a.eval s = .slice a1 l1 c1)
    (ad : Addr) (m c : Nat) (news : List Int) (hx : a.eval x = .slice (some ad) m c) (hl : news.length = m) (hnews : ∀ j u, (news.map (Value.int .i64))[j]? = some u → w.cell? (ad.add j) = some u) (h63 : l1 + m ≤ 100000)
    (h : ∀ a2 c2 w', IntSt w0 w' a2 (l1 + m) c2 (zs ++ news) → Kept (OwnB (Value.slice a1 l1 c1)) w w' → wpList Try.prog ops Q rest (a.put o.dst (.slice a2 (l1 + m) c2)) w') : wpList Try.prog ops Q (o :: rest) a w := by
  obtain ⟨i0, hi, hz0, hz1, hz2⟩ := info_parts infoI
  refine wpList_app w hgd s x 23 ho 3 i0 (.int .i64 0) 1 8 (by kernel_rfl) hi hz0 hz1 hz2 rfl (by decide) _ l1 (zs.map (.int .i64)) hs hS.own ad m c (news.map (.int .i64)) hx (by rw [List.length_map, hl, Nat.mul_one]) hnews (fun u hu => by obtain ⟨y, _, rfl⟩ := List.mem_map.1 hu; rfl) (by unfold maxLen; omega) (by omega) ?_
  intro v' w' h2 h3 h4
  obtain ⟨a2, c2, rfl⟩ := own_shape2 h2
  refine h _ _ _ ⟨by rw [List.length_append, hS.len, hl], by rw [List.map_append]; exact h2, hS.kept.grown h3 (fun k hk e => by have := hS.fresh k e; omega), ?_⟩ ?_
  intro k hk
  rcases h4 k hk with h | h
  · exact hS.fresh k h
  · have := hS.kept.size; omega
  · exact (Kept.refl _ w).grown h3 (fun k hk e => e)
theorem IntSt.allocA {w0 w : World} {a : Option Addr} {l c : Nat} {zs : List Int} (h : IntSt w0 w a l c zs) (o : Obj) : IntSt w0 (w.alloc o) a l c zs :=
  ⟨h.len, (Kept.refl NoB w).alloc o |>.row h.own (fun _ _ h => h), h.kept.alloc o, h.fresh⟩
end Go.Proofs.Ytpdlkmacdmnamaa
