/-
  deflate.Dynamic and dynamicBits: which block, and how many bits it has.
  deflate.extraBits: the bits that stand behind the codes.
  deflate.Stored of bytes that are there; of none nothing is asked.
  A row of numbers, and a copy of it; a source of bytes in pieces.
  A source of bytes in pieces: NewSource, At, size, Next.
-/
import Derived.Test.YtfmjfgmbjdhogaaGreatDoorMs26
import Derived.Deep.DeepCutAuto
import Derived.Deep.RegionHeld3
import Derived.BigRegion
namespace Go.Proofs.YtfmjfgmbjdhogaaGreatDoor
open Go.RowKit
set_option linter.unusedVariables false
set_option linter.unusedSimpArgs false
set_option maxRecDepth 20000

theorem BestL.det {least : Nat} {ws zs zs2 : List Int} (h : BestL least ws zs) (h2 : BestL least ws zs2) : zs = zs2 := by
  obtain ⟨lv, n, hs, ht, rfl⟩ := h
  obtain ⟨lv2, n2, hs2, ht2, rfl⟩ := h2
  have el : lv = lv2 := srtP_eq hs hs2
  subst el
  have en : n = n2 := by
    apply Classical.byContradiction
    intro hne
    have h1 := ht.lo; have h3 := ht2.lo; have h4 := ht.hi; have h5 := ht2.hi
    rcases Nat.lt_or_gt_of_ne hne with hlt | hlt
    · rcases ht2.top with h | h
      · omega
      · exact h (ht.tail (n2 - 1) (by omega) (by omega))
    · rcases ht.top with h | h
      · omega
      · exact h (ht2.tail (n - 1) (by omega) (by omega))
  rw [en]
/-- What Dynamic leaves, and that there is one such block alone. -/
def DynF (w : World) (R : Nat) (ao : Option Addr) (cap : Nat) (bs : List Int) (s : Nat) (last : Bool) (ts : List Tk) (e : Ending) (w' : World) : Prop :=
  ∃ lit dist code told rs ws ao' cap' bs', e = .returned (.int .i64 0) ∧ BestL 257 (tally ts).1 lit ∧ BestL 1 (tally ts).2 dist ∧ CodeW code told rs (lit ++ dist) ∧ HeadF code told rs (lit ++ dist) ∧ TokWs lit dist ts ws ∧
    WroteP w R (.slice ao bs.length cap) bs s ([(lastN last, 1), (2, 2)] ++ (headW lit dist code told rs ++ (ws ++ [wordZ lit 256]))) w' ao' cap' bs'
set_option maxHeartbeats 8000000 in
theorem dynamic_f (w : World) (R : Nat) (ao : Option Addr) (cap : Nat) (bs : List Int) (s : Nat) (last : Bool) (ta : Option Addr) (tc : Nat) (ts : List Tk)
    (h : Wtr w R ao cap bs s) (hss : s ≤ 900000) (hr : Toks w ta ts) (hsep : ts ≠ [] → ∀ a, ta = some a → a.block ≠ R ∧ (Value.slice ao bs.length cap).ownBlock ≠ some a.block) (htl : ts.length ≤ 900000) (hwf : AllT ts) (hok : allOkB ts = true) :
    Calls Tryz.prog 94 #[.pointer (some ⟨R, 0, none⟩), .bool last, .slice ta ts.length tc] w (DynF w R ao cap bs s last ts) := by
  have HA := Lib.hid (allOk_any ta tc ts w hr (by unfold maxLen; omega))
  have hto := lensOk_tally ts (by omega)
  have hb := tally_b2 ts
  have H := Lib.hid h; have HR := Lib.hid hr; have HSep := Lib.hid hsep; have HTl := Lib.hid htl; have HTo := Lib.hid hto; have HBt := Lib.hid hb; have HWf := Lib.hid hwf; have HOk := Lib.hid hok
  rw [hok] at HA
  clear h hr hsep hwf hok htl hto hb
  go_enter Tryz.func94, Tryz.ntmps94
  go_wp2_with fail
  refine HA.out.mono ?_
  rintro e w1 ⟨rfl, hk1⟩
  have HK1 := Lib.hid hk1
  have HCn := Lib.hid (counts_any2 ta tc ts w1 (HR.out.keptNo hk1) (by have := HTl.out; omega) HWf.out)
  clear hk1 HA
  go_wp2_with fail
  refine HCn.out.mono ?_
  rintro e w2 ⟨G, K, rfl, hT⟩
  have HBs := Lib.hid (bestLens_yes (some ⟨G, 0, none⟩) 286 (tally ts).1 (some ⟨K, 0, none⟩) 30 (tally ts).2 _ w2 (hT.a.reads HBt.out.1) (hT.b.reads HBt.out.2.1) HBt.out.1 HBt.out.2.1 HTo.out.1 HTo.out.2)
  have HK2 := Lib.hid (HK1.out.trans hT.k)
  clear hT HCn HK1
  go_wp2_with fail
  refine HBs.out.mono ?_
  rintro e w3 ⟨a1, c1, a2, c2, lit, dist, rfl, hb1, hb2, ho1, ho2, hk3⟩
  have hK3 := HK2.out.trans hk3
  have hhead := best_head (by have := HTl.out; omega) hb1 hb2
  have HHd := Lib.hid hhead
  have HTs := Lib.hid (best_toks (by have := HTl.out; omega) HWf.out HOk.out hb1 hb2)
  have HB1 := Lib.hid hb1; have HB2 := Lib.hid hb2; have HO1 := Lib.hid ho1; have HO2 := Lib.hid ho2; have HK3 := Lib.hid hK3
  have HW3 := Lib.hid (H.out.keptNo hK3)
  have hp := putType_any w3 R ao cap bs s 2 last HW3.out (by decide) (by omega)
  rw [show ((2 : Nat) : Int) = 2 from rfl] at hp
  have HP := Lib.hid hp
  clear hb1 hb2 ho1 ho2 hk3 hK3 hhead hp HBs HK2
  go_wp2_with fail
  refine HP.out.mono ?_
  rintro e w4 ⟨a4, c4, b4, rfl, hW⟩
  have hO1 := HO1.out.kept hW.2.2.1 (fun g e => HO1.out.off HW3.out g e)
  have hO2 := HO2.out.kept hW.2.2.1 (fun g e => HO2.out.off HW3.out g e)
  have HLw := Lib.hid (lensWrite_f a1 c1 lit a2 c2 dist _ R a4 c4 b4 _ w4 hO1.reads hO2.reads hW.1 HHd.out.2.2.2 (by simp only [wdN]; omega))
  have HW := Lib.hid (hW.base HK3.out)
  have HO1b := Lib.hid hO1; have HO2b := Lib.hid hO2
  clear hW hO1 hO2 HP
  go_wp2_with fail
  refine HLw.out.mono ?_
  rintro e w5 ⟨a5, c5, b5, code, told, rs, rfl, hcw, hhf, hW5⟩
  have HHf := Lib.hid hhf
  clear hhf
  have hO1 := HO1b.out.kept hW5.2.2.1 (fun g e => HO1b.out.off HW.out.1 g e)
  have hO2 := HO2b.out.kept hW5.2.2.1 (fun g e => HO2b.out.off HW.out.1 g e)
  have hW5b := HW.out.app hW5
  have HCw := Lib.hid hcw
  have hr5 : Toks w5 ta ts := fun j hj => by
    obtain ⟨b, off, rfl, x0, x1, x2⟩ := HR.out j hj
    have hs := HSep.out (fun e => by rw [e] at hj; simp at hj) _ rfl
    have hb : ¬ OrB (OneB R) (OwnB (.slice ao bs.length cap)) b := fun e => e.elim (fun e => hs.1 e) (fun e => hs.2 e)
    have hc : ∀ (o : Nat) (v : Value), w.cell? ⟨b, o, none⟩ = some v → w5.cell? ⟨b, o, none⟩ = some v := fun o v hv => (World.cell?_of_block (hW5b.2.2.1.block _ (World.block_lt_of_cell? w _ hv) hb)).trans hv
    exact ⟨b, off, rfl, hc _ _ x0, hc _ _ x1, hc _ _ x2⟩
  have hwd := headW_few hcw HHd.out.2.2.2
  have hput := putTokens_yes w5 R a5 c5 b5 _ (fun k => k ≠ R ∧ (Value.slice a5 b5.length c5).ownBlock ≠ some k) a1 c1 lit a2 c2 dist ta tc ts hW5b.1 (by rw [wdN_append]; simp only [wdN]; omega)
    (hO1.rdG (fun g e => by have := hO1.off hW5b.1 g e; exact ⟨fun h => this (.inl h), fun h => this (.inr h)⟩)) (hO2.rdG (fun g e => by have := hO2.off hW5b.1 g e; exact ⟨fun h => this (.inl h), fun h => this (.inr h)⟩))
    (fun k hk => hk) HHd.out.1 HHd.out.2.1 HHd.out.2.2.1 hr5
    (fun hne a ha => by
      have hs := HSep.out hne a ha
      refine ⟨hs.1, fun e => ?_⟩
      rcases hW5b.2.2.2 _ e with h | h
      · exact hs.2 h
      · have hj : 0 < ts.length := by cases ts with
          | nil => exact absurd rfl hne
          | cons _ _ => simp
        obtain ⟨b, off, hta, x0, _⟩ := HR.out 0 hj
        rw [ha] at hta
        cases hta
        have := World.block_lt_of_cell? w _ x0
        simp only at this h
        omega)
    (by have := HTl.out; omega) HTs.out
  have HPut := Lib.hid hput
  have HW5 := Lib.hid hW5b
  clear hput hW5 hW5b hr5 hO1 hO2 hcw HLw HO1b HO2b hwd
  go_wp2_with fail
  refine HPut.out.mono ?_
  rintro e w6 ⟨ws, a6, c6, b6, rfl, hws, hW6⟩
  have HWs := Lib.hid hws
  have hW7 := HW5.out.app hW6
  rw [List.append_assoc] at hW7
  have HW7 := Lib.hid hW7
  clear hws hW6 hW7 HPut
  go_wp2
  go_ret
  exact ⟨lit, dist, code, told, rs, ws, a6, c6, b6, rfl, HB1.out, HB2.out, HCw.out, HHf.out, HWs.out, HW7.out⟩
theorem cost_le : ∀ (A Z : List Int) (a b : Int), 0 ≤ a → 0 ≤ b → Small a A → Small b Z → 0 ≤ costL A Z ∧ costL A Z ≤ a * b * A.length
  | [], Z, a, b, ha, hb, _, _ => by cases Z <;> simp [costL]
  | x :: A, [], a, b, ha, hb, _, _ => by
    have := Int.mul_nonneg (Int.mul_nonneg ha hb) (Int.natCast_nonneg (x :: A).length)
    simp only [costL]; exact ⟨Int.le_refl _, this⟩
  | x :: A, z :: Z, a, b, ha, hb, h1, h2 => by
    have h3 := cost_le A Z a b ha hb (fun y hy => h1 y (List.mem_cons_of_mem _ hy)) (fun y hy => h2 y (List.mem_cons_of_mem _ hy))
    have hx := h1 x (List.mem_cons_self ..); have hz := h2 z (List.mem_cons_self ..)
    have h4 := Int.mul_nonneg hx.1 hz.1
    have h5 : x * z ≤ a * b := Int.mul_le_mul hx.2 hz.2 hz.1 ha
    rw [costL, List.length_cons, Int.natCast_add, Int.mul_add]
    simp only [Int.natCast_one, Int.mul_one]
    omega
set_option maxHeartbeats 4000000 in
theorem dynBits_any (w : World) (G H : Nat) (ts : List Tk) (hG : RdI w w.heap.size (some ⟨G, 0, none⟩) (tally ts).1) (hH : RdI w w.heap.size (some ⟨H, 0, none⟩) (tally ts).2) (htl : ts.length ≤ 900000) :
    Calls Tryz.prog 93 #[.slice (some ⟨G, 0, none⟩) 286 286, .slice (some ⟨H, 0, none⟩) 30 30] w fun e w' => ∃ lit dist code told rs, ∃ N : Nat, BestL 257 (tally ts).1 lit ∧ BestL 1 (tally ts).2 dist ∧ CodeW code told rs (lit ++ dist) ∧ HeadF code told rs (lit ++ dist) ∧
      e = .returned (.int .i64 (N : Int)) ∧ (N : Int) = 3 + (wdN (headW lit dist code told rs) : Int) + costL (tally ts).1 lit + costL (tally ts).2 dist ∧ N ≤ 20000000000 ∧ Kept NoB w w' := by
  have hto := lensOk_tally ts (by omega)
  have hb := tally_b2 ts
  have HBs := Lib.hid (bestLens_yes (some ⟨G, 0, none⟩) 286 (tally ts).1 (some ⟨H, 0, none⟩) 30 (tally ts).2 _ w hG hH hb.1 hb.2.1 hto.1 hto.2)
  have HG := Lib.hid hG; have HH := Lib.hid hH; have HTo := Lib.hid hto; have HBt := Lib.hid hb; have HTl := Lib.hid htl
  clear hG hH hto hb htl
  go_enter Tryz.func93, Tryz.ntmps93
  go_wp2_with fail
  refine HBs.out.mono ?_
  rintro e w1 ⟨a1, c1, a2, c2, lit, dist, rfl, hb1, hb2, ho1, ho2, hk1⟩
  have HB1 := Lib.hid hb1; have HB2 := Lib.hid hb2; have HO1 := Lib.hid ho1; have HO2 := Lib.hid ho2; have HK1 := Lib.hid hk1
  have HHd := Lib.hid (best_head (by have := HTl.out; omega) hb1 hb2)
  clear hb1 hb2 ho1 ho2 hk1 HBs
  go_wp2_with fail
  refine (neww_any _).mono ?_
  rintro e w2 ⟨A, rfl, hW, hAf, hk2⟩
  have HW2 := Lib.hid hW; have HAf : Hid (w1.heap.size ≤ A) := Lib.hid hAf
  have hO1 := HO1.out.kept hk2 (fun _ _ h => h)
  have hO2 := HO2.out.kept hk2 (fun _ _ h => h)
  have HLw := Lib.hid (lensWrite_f a1 c1 lit a2 c2 dist _ A none 0 [] 0 w2 hO1.reads hO2.reads hW HHd.out.2.2.2 (by omega))
  have HO1b := Lib.hid hO1; have HO2b := Lib.hid hO2; have HK2 := Lib.hid (HK1.out.trans hk2)
  clear hW hAf hk2 hO1 hO2 HO1 HO2
  go_wp2_with fail
  refine HLw.out.mono ?_
  rintro e w3 ⟨a3, c3, b3, code, told, rs, rfl, hcw, hhf, hW3⟩
  have hO1 := HO1b.out.kept hW3.2.2.1 (fun g e => HO1b.out.off HW2.out g e)
  have hO2 := HO2b.out.kept hW3.2.2.1 (fun g e => HO2b.out.off HW2.out g e)
  have hAw : w.heap.size ≤ A := Nat.le_trans HK1.out.size HAf.out
  have hkw3 : Kept NoB w w3 := HK2.out.transO hW3.2.2.1 (fun i hi e => by
    rcases e with e | e
    · unfold OneB at e; omega
    · unfold OwnB at e; simp [Value.ownBlock] at e)
  have hhw := headW_few hcw HHd.out.2.2.2
  obtain ⟨hn, hnq⟩ : ∃ hn, hn = wdN (headW lit dist code told rs) := ⟨_, rfl⟩
  have hW3s : Wtr w3 A a3 c3 b3 hn := by have := hW3.1; rwa [Nat.zero_add, ← hnq] at this
  rw [← hnq] at hhw
  have c1' := cost_le (tally ts).1 lit 1000000 15 (by decide) (by decide) HTo.out.1.small HHd.out.1.2.1
  have c2' := cost_le (tally ts).2 dist 1000000 15 (by decide) (by decide) HTo.out.2.small HHd.out.2.1.2.1
  rw [HBt.out.1] at c1'
  rw [HBt.out.2.1] at c2'
  obtain ⟨k1, hk1⟩ : ∃ k1 : Nat, costL (tally ts).1 lit = (k1 : Int) := ⟨(costL (tally ts).1 lit).toNat, by omega⟩
  obtain ⟨k2, hk2⟩ : ∃ k2 : Nat, costL (tally ts).2 dist = (k2 : Int) := ⟨(costL (tally ts).2 dist).toNat, by omega⟩
  rw [hk1] at c1'
  rw [hk2] at c2'
  have HC1 : Hid (∀ W, Kept NoB w3 W → Calls Tryz.prog 92 #[.slice (some ⟨G, 0, none⟩) 286 286, .slice a1 lit.length c1] W fun e w' => e = .returned (.int .i64 (k1 : Int)) ∧ Kept NoB W w') := Lib.hid fun W hk => by
    have h := cost_calls (some ⟨G, 0, none⟩) a1 286 c1 _ _ (tally ts).1 lit W (HG.out.keptNo (hkw3.trans hk)) (hO1.reads.keptNo hk) (fun z hz => by have := HTo.out.1.small z hz; omega) (fun z hz => by have := HHd.out.1.2.1 z hz; omega) (by rw [HBt.out.1]; omega) (by have := HHd.out.1.1; omega)
    rw [HBt.out.1, hk1] at h
    exact h
  have HC2 : Hid (∀ W, Kept NoB w3 W → Calls Tryz.prog 92 #[.slice (some ⟨H, 0, none⟩) 30 30, .slice a2 dist.length c2] W fun e w' => e = .returned (.int .i64 (k2 : Int)) ∧ Kept NoB W w') := Lib.hid fun W hk => by
    have h := cost_calls (some ⟨H, 0, none⟩) a2 30 c2 _ _ (tally ts).2 dist W (HH.out.keptNo (hkw3.trans hk)) (hO2.reads.keptNo hk) (fun z hz => by have := HTo.out.2.small z hz; omega) (fun z hz => by have := HHd.out.2.1.2.1 z hz; omega) (by rw [HBt.out.2.1]; omega) (by have := HHd.out.2.1.1; omega)
    rw [HBt.out.2.1, hk2] at h
    exact h
  have HCw := Lib.hid hcw; have HHf := Lib.hid hhf; have HW3 := Lib.hid hW3s; have HKw3 := Lib.hid hkw3; have Hk1 := Lib.hid hk1; have Hk2 := Lib.hid hk2; have HNq := Lib.hid hnq
  clear hcw hhf hW3 hW3s hO1 hO2 hAw hkw3 hk1 hk2 hnq HLw
  go_wp2_with fail
  refine (wlen_any _ _ _ _ _ _ HW3.out).mono ?_
  rintro e w4 ⟨rfl, hk4⟩
  have HK4 := Lib.hid hk4
  clear hk4
  go_wp2_with fail
  refine (HC1.out _ HK4.out).mono ?_
  rintro e w5 ⟨rfl, hk5⟩
  have HK5 := Lib.hid (HK4.out.trans hk5)
  clear hk5
  go_wp2_with fail
  refine (HC2.out _ HK5.out).mono ?_
  rintro e w6 ⟨rfl, hk6⟩
  have HK6 := Lib.hid (HKw3.out.trans (HK5.out.trans hk6))
  clear hk6
  go_wp2
  go_ret
  refine ⟨lit, dist, code, told, rs, 3 + hn + k1 + k2, HB1.out, HB2.out, HCw.out, HHf.out, ?_, ?_, by omega, HK6.out⟩
  · congr 2
  · rw [Hk1.out, Hk2.out, ← HNq.out]; omega
end Go.Proofs.YtfmjfgmbjdhogaaGreatDoor

namespace Go.Proofs.YtfmjfgmbjdhogaaGreatDoor
open Go.RowKit
set_option linter.unusedVariables false
set_option linter.unusedSimpArgs false
set_option maxRecDepth 20000

theorem symLen_low (k : Nat) (w : World) (hk : k < 257) : Calls Tryz.prog 121 #[.int .i64 (k : Int)] w fun e w' => e = .returned (.tuple #[.int .i64 0, .int .i64 0, .bool false]) ∧ w = w' := by
  have h1 : (k : Int) < 257 := by omega
  go_enter Tryz.func121, Tryz.ntmps121
  go_wp2
  go_ret3
  exact ⟨rfl, rfl⟩
/-- The bits behind a length's symbol. -/
def exL (k : Nat) : Nat := if k < 257 then 0 else if k < 285 then le4 (k - 257) else 0
def exLs : List Int := (List.range 286).map fun k => (exL k : Int)
def exDs : List Int := (List.range 30).map fun k => (de k : Int)
theorem exLs_at {k : Nat} (h : k < 286) : exLs.getD k 0 = (exL k : Int) := by unfold exLs; simp [List.getD, h]
theorem exDs_at {k : Nat} (h : k < 30) : exDs.getD k 0 = (de k : Int) := by unfold exDs; simp [List.getD, h]
theorem exLs_len : exLs.length = 286 := by simp [exLs]
theorem exDs_len : exDs.length = 30 := by simp [exDs]
theorem exL_le {k : Nat} : exL k ≤ 5 := by
  unfold exL
  split
  · omega
  · split
    · have := (lb_top (k - 257) (by omega)).2.2.2; omega
    · omega
theorem symLen_ex (k : Nat) (w : World) (hk : k < 286) : Calls Tryz.prog 121 #[.int .i64 (k : Int)] w fun e w' => ∃ (b : Int) (o : Bool), e = .returned (.tuple #[.int .i64 b, .int .i64 ((exL k : Nat) : Int), .bool o]) ∧ w = w' := by
  by_cases h1 : k < 257
  · refine (symLen_low k w h1).mono ?_
    rintro e w' ⟨rfl, rfl⟩
    exact ⟨0, false, by unfold exL; rw [if_pos h1]; rfl, rfl⟩
  · by_cases h2 : k < 285
    · have h := symLen_any (k - 257) w (by omega)
      rw [show 257 + (k - 257) = k by omega] at h
      refine h.mono ?_
      rintro e w' ⟨rfl, rfl⟩
      exact ⟨_, true, by unfold exL; rw [if_neg h1, if_pos h2], rfl⟩
    · obtain rfl : k = 285 := by omega
      refine (symLen_last w).mono ?_
      rintro e w' ⟨rfl, rfl⟩
      exact ⟨258, true, rfl, rfl⟩
theorem extraT_eq {t : Tk} (hw : t.wf) (hok : t.ok = true) : litSy t < 286 ∧ (t.l ≠ 0 → distSy t < 30) ∧ (extraT t : Int) = exLs.getD (litSy t) 0 + (if t.l = 0 then 0 else exDs.getD (distSy t) 0) := by
  rcases tok_shape hw hok with ⟨c, hc, rfl⟩ | ⟨j, u, hj, hu, rfl⟩ | ⟨i, v, j, u, hi, hv, hlv, hj, hu, rfl⟩
  · have hs : litSy ⟨0, 0, (c : Int)⟩ = c := by simp [litSy]
    rw [hs]
    refine ⟨by omega, fun h => absurd rfl h, ?_⟩
    rw [exLs_at (by omega)]
    have he : exL c = 0 := by unfold exL; rw [if_pos (by omega)]
    rw [he]
    rfl
  · obtain ⟨e1, e2, e3, e4, e5⟩ := sy_long hj hu
    have h2 : ¬ (258 : Int) = 0 := by decide
    rw [e1, e4]
    refine ⟨by decide, fun _ => hj, ?_⟩
    rw [exLs_at (by omega), exDs_at hj]
    unfold extraT
    rw [e3, e4]
    have he : exL 285 = 0 := by unfold exL; rw [if_neg (by omega), if_neg (by omega)]
    rw [he]
    simp only [if_neg h2]
    omega
  · have h3 := lb_top i hi
    obtain ⟨e1, e2, e3, e4, e5⟩ := sy_copy hi hv hlv hj hu
    have h2 : ¬ ((lb i + v : Nat) : Int) = 0 := by omega
    rw [e1, e4]
    refine ⟨by omega, fun _ => hj, ?_⟩
    rw [exLs_at (by omega), exDs_at hj]
    unfold extraT
    rw [e3, e4]
    have he : exL (257 + i) = le4 i := by unfold exL; rw [if_neg (by omega), if_pos (by omega), show 257 + i - 257 = i by omega]
    rw [he]
    simp only [if_neg h2]
    omega
theorem fold_extra : ∀ (ts : List Tk), AllT ts → (∀ t ∈ ts, t.ok = true) → ∀ (p : List Int × List Int) (n : Nat), CntB p n →
    costL (ts.foldl tally1 p).1 exLs + costL (ts.foldl tally1 p).2 exDs = costL p.1 exLs + costL p.2 exDs + (extraS ts : Int)
  | [], _, _, p, n, hp => by simp [extraS]
  | t :: r, hw, hok, p, n, hp => by
    have h1 := fold_extra r (fun x hx => hw x (List.mem_cons_of_mem _ hx)) (fun x hx => hok x (List.mem_cons_of_mem _ hx)) (tally1 p t) (n + 1) (hp.one t)
    have ho := hok t (List.mem_cons_self ..)
    obtain ⟨h2, h3, h4⟩ := extraT_eq (hw t (List.mem_cons_self ..)) ho
    rw [List.foldl_cons, extraS, h1]
    have h5 : costL (tally1 p t).1 exLs = costL p.1 exLs + exLs.getD (litSy t) 0 := by
      unfold tally1; rw [if_pos ho]; exact cost_inc _ _ _ (by rw [hp.1]; exact h2)
    have h6 : costL (tally1 p t).2 exDs = costL p.2 exDs + (if t.l = 0 then 0 else exDs.getD (distSy t) 0) := by
      unfold tally1; rw [if_pos ho]; simp only
      by_cases hl : t.l = 0
      · rw [if_pos hl, if_pos hl]; omega
      · rw [if_neg hl, if_neg hl]; exact cost_inc _ _ _ (by rw [hp.2.1]; exact h3 hl)
    rw [h5, h6]
    omega
theorem extra_tally {ts : List Tk} (hw : AllT ts) (hok : allOkB ts = true) : costL (tally ts).1 exLs + costL (tally ts).2 exDs = (extraS ts : Int) := by
  have h := fold_extra ts hw (fun t ht => allOkB_mem hok t ht) tally0 0 tally0_b
  have h2 : costL tally0.1 exLs = 0 := by
    have e : tally0.1 = incAt (List.replicate 286 0) 256 := by
      unfold tally0 incAt
      simp only
      have e0 : (List.replicate 286 (0 : Int)).getD 256 0 = 0 := by
        rw [List.getD, List.getElem?_replicate, if_pos (by omega)]; rfl
      rw [e0]; rfl
    rw [e, cost_inc _ _ _ (by rw [List.length_replicate]; omega), cost_rep0, exLs_at (by omega)]
    unfold exL; rw [if_pos (by omega)]; rfl
  have h3 : costL tally0.2 exDs = 0 := cost_rep0 30 exDs
  rw [h2, h3] at h
  unfold tally
  omega
theorem exLs_small : Small 13 exLs := fun z hz => by
  unfold exLs at hz
  obtain ⟨k, hk, rfl⟩ := List.mem_map.1 hz
  have := exL_le (k := k)
  omega
theorem exDs_small : Small 13 exDs := fun z hz => by
  unfold exDs at hz
  obtain ⟨k, hk, rfl⟩ := List.mem_map.1 hz
  have := (db_top k (List.mem_range.1 hk)).2.2
  omega
set_option maxHeartbeats 4000000 in
theorem extraBits_any (w : World) (G H : Nat) (xs ys : List Int) (hG : RdI w w.heap.size (some ⟨G, 0, none⟩) xs) (hH : RdI w w.heap.size (some ⟨H, 0, none⟩) ys) (hx : xs.length = 286) (hy : ys.length = 30) (sx : Small 1000000 xs) (sy : Small 1000000 ys) :
    Calls Tryz.prog 91 #[.slice (some ⟨G, 0, none⟩) 286 286, .slice (some ⟨H, 0, none⟩) 30 30] w fun e w' => ∃ X : Nat, e = .returned (.int .i64 (X : Int)) ∧ (X : Int) = costL xs exLs + costL ys exDs ∧ X ≤ 5000000000 ∧ w = w' := by
  have c1 := cost_le xs exLs 1000000 13 (by decide) (by decide) sx exLs_small
  have c2 := cost_le ys exDs 1000000 13 (by decide) (by decide) sy exDs_small
  rw [hx] at c1
  rw [hy] at c2
  obtain ⟨T1, hT1⟩ : ∃ T : Nat, costL xs exLs = (T : Int) := ⟨(costL xs exLs).toNat, by omega⟩
  obtain ⟨T2, hT2⟩ : ∃ T : Nat, costL ys exDs = (T : Int) := ⟨(costL ys exDs).toNat, by omega⟩
  rw [hT1] at c1
  rw [hT2] at c2
  have b1 : T1 ≤ 3800000000 := by omega
  have b2 : T2 ≤ 400000000 := by omega
  have HG := Lib.hid hG; have HH := Lib.hid hH; have HX := Lib.hid hx; have HY := Lib.hid hy; have HSx := Lib.hid sx; have HSy := Lib.hid sy; have HT1 := Lib.hid hT1; have HT2 := Lib.hid hT2
  have HD1 : Hid (∀ j, 0 ≤ costL (xs.drop j) (exLs.drop j)) := Lib.hid fun j => (cost_le _ _ 1000000 13 (by decide) (by decide) (fun z hz => sx z (List.mem_of_mem_drop hz)) (fun z hz => exLs_small z (List.mem_of_mem_drop hz))).1
  have HD2 : Hid (∀ j, 0 ≤ costL (ys.drop j) (exDs.drop j)) := Lib.hid fun j => (cost_le _ _ 1000000 13 (by decide) (by decide) (fun z hz => sy z (List.mem_of_mem_drop hz)) (fun z hz => exDs_small z (List.mem_of_mem_drop hz))).1
  clear hG hH hx hy sx sy hT1 hT2 c1 c2
  go_enter Tryz.func91, Tryz.ntmps91
  go_wp2_with fail
  go_loopw [18, 5, 6, 7, 8, 9, 10] (fun iv sv _a _b _c _d _e wr => ∃ (j S : Nat), j ≤ 286 ∧ iv = .int .i64 (j : Int) ∧ sv = .int .i64 (S : Int) ∧ Hid ((S : Int) + costL (xs.drop j) (exLs.drop j) = (T1 : Int)) ∧ w = wr) (fun iv _ _ _ _ _ _ _ => 286 - (intOf iv).toNat)
  case atStart => exact ⟨0, 0, by omega, rfl, rfl, Lib.hid (by rw [List.drop_zero, List.drop_zero, HT1.out]; omega), rfl⟩
  case round =>
    obtain ⟨j, S, hj, rfl, rfl, HS, rfl⟩ := hrel
    by_cases hlt : (j : Int) < 286
    · have hj2 : j < 286 := by omega
      obtain ⟨g, o, e, _, hc⟩ := HG.out j (by rw [HX.out]; exact hj2)
      cases e
      have hst := cost_step xs exLs j (by rw [HX.out]; exact hj2) (by rw [exLs_len]; exact hj2)
      have hs := HS.out
      rw [hst, exLs_at hj2] at hs
      have hz := HSx.out.getD j (by rw [HX.out]; exact hj2)
      obtain ⟨z, hzq⟩ : ∃ z : Nat, xs.getD j 0 = (z : Int) := ⟨(xs.getD j 0).toNat, by omega⟩
      rw [hzq] at hs hz hc
      have hx5 := exL_le (k := j)
      have hd := HD1.out (j + 1)
      have HSy := Lib.hid (symLen_ex j w hj2)
      obtain ⟨y, hyq⟩ : ∃ y, y = exL j := ⟨_, rfl⟩
      rw [← hyq] at hs hx5 HSy
      obtain ⟨P, hP⟩ : ∃ P : Nat, P = z * y := ⟨_, rfl⟩
      have hPi : (z : Int) * (y : Int) = (P : Int) := by rw [hP]; exact (Int.natCast_mul z y).symm
      rw [hPi] at hs
      have hPT : S + P ≤ T1 := by omega
      have hmul : IntKind.i64.wrap ((z : Int) * (y : Int)) = (P : Int) := by rw [hPi]; exact IntWalk.i64_in _ (by omega)
      have HS2 : Hid (((S + P : Nat) : Int) + costL (xs.drop (j + 1)) (exLs.drop (j + 1)) = (T1 : Int)) := Lib.hid (by omega)
      rw [Nat.zero_add] at hc
      clear hst hs hz hzq hd hyq hP hPi HS hx5
      go_wp2_with fail
      refine HSy.out.mono ?_
      rintro e w5 ⟨bb, oo, rfl, rfl⟩
      go_wp2
      go_roundw
      case rel => exact ⟨j + 1, S + P, by omega, by go_num, by go_num, HS2, trivial⟩
      case measure => simp [intOf]; omega
    · have hj3 : j = 286 := by omega
      subst hj3
      have hS1 : S = T1 := by
        have hs := HS.out
        have he : costL (xs.drop 286) (exLs.drop 286) = 0 := by rw [List.drop_of_length_le (by rw [HX.out]; omega)]; simp [costL]
        rw [he] at hs; omega
      subst hS1
      clear HS
      go_wp2_with fail
      go_loopw [37, 5, 11, 12, 13, 14, 15] (fun iv sv _a _b _c _d _e wr => ∃ (j S2 : Nat), j ≤ 30 ∧ iv = .int .i64 (j : Int) ∧ sv = .int .i64 ((S + S2 : Nat) : Int) ∧ Hid ((S2 : Int) + costL (ys.drop j) (exDs.drop j) = (T2 : Int)) ∧ w = wr) (fun iv _ _ _ _ _ _ _ => 30 - (intOf iv).toNat)
      case atStart => exact ⟨0, 0, by omega, rfl, rfl, Lib.hid (by rw [List.drop_zero, List.drop_zero, HT2.out]; omega), rfl⟩
      case round =>
        obtain ⟨j, S2, hj2', rfl, rfl, HS, rfl⟩ := hrel
        by_cases hlt3 : (j : Int) < 30
        · have hj3 : j < 30 := by omega
          obtain ⟨g, o, e, _, hc⟩ := HH.out j (by rw [HY.out]; exact hj3)
          cases e
          have hst := cost_step ys exDs j (by rw [HY.out]; exact hj3) (by rw [exDs_len]; exact hj3)
          have hs := HS.out
          rw [hst, exDs_at hj3] at hs
          have hz := HSy.out.getD j (by rw [HY.out]; exact hj3)
          obtain ⟨z, hzq⟩ : ∃ z : Nat, ys.getD j 0 = (z : Int) := ⟨(ys.getD j 0).toNat, by omega⟩
          rw [hzq] at hs hz hc
          have hd13 := (db_top j hj3).2.2
          have hd := HD2.out (j + 1)
          have HSd := Lib.hid (symDist_any j w hj3)
          obtain ⟨y, hyq⟩ : ∃ y, y = de j := ⟨_, rfl⟩
          rw [← hyq] at hs hd13 HSd
          obtain ⟨P, hP⟩ : ∃ P : Nat, P = z * y := ⟨_, rfl⟩
          have hPi : (z : Int) * (y : Int) = (P : Int) := by rw [hP]; exact (Int.natCast_mul z y).symm
          rw [hPi] at hs
          have hPT : S2 + P ≤ T2 := by omega
          have hmul : IntKind.i64.wrap ((z : Int) * (y : Int)) = (P : Int) := by rw [hPi]; exact IntWalk.i64_in _ (by omega)
          have HS2 : Hid (((S2 + P : Nat) : Int) + costL (ys.drop (j + 1)) (exDs.drop (j + 1)) = (T2 : Int)) := Lib.hid (by omega)
          rw [Nat.zero_add] at hc
          clear hst hs hz hzq hd hyq hP hPi HS hd13
          go_wp2_with fail
          refine HSd.out.mono ?_
          rintro e w5 ⟨rfl, rfl⟩
          go_wp2
          go_roundw
          case rel => exact ⟨j + 1, S2 + P, by omega, by go_num, by go_num, HS2, trivial⟩
          case measure => simp [intOf]; omega
        · have hj3 : j = 30 := by omega
          subst hj3
          have hS2 : S2 = T2 := by
            have hs := HS.out
            have he : costL (ys.drop 30) (exDs.drop 30) = 0 := by rw [List.drop_of_length_le (by rw [HY.out]; omega)]; simp [costL]
            rw [he] at hs; omega
          subst hS2
          clear HS
          go_wp2
          go_ret
          exact ⟨S + S2, rfl, by rw [HT1.out, HT2.out]; omega, by omega, rfl⟩
end Go.Proofs.YtfmjfgmbjdhogaaGreatDoor

namespace Go.Proofs.YtfmjfgmbjdhogaaGreatDoor
open Go.RowKit
set_option linter.unusedVariables false
set_option linter.unusedSimpArgs false
set_option maxRecDepth 20000

set_option maxHeartbeats 8000000 in
theorem stored_yes2 (w : World) (R : Nat) (ao : Option Addr) (cap : Nat) (bs : List Int) (s : Nat) (last : Bool) (ba : Option Addr) (bc : Nat) (b : List Int) (h : Wtr w R ao cap bs s) (hs : s ≤ 700000000000) (hr : Reads w ba b) (hb : AllB b) (hl : b.length ≤ 65535)
    (hsep : b ≠ [] → ∀ a, ba = some a → a.block ≠ R ∧ (Value.slice ao bs.length cap).ownBlock ≠ some a.block) :
    Calls Tryz.prog 50 #[.pointer (some ⟨R, 0, none⟩), .slice ba b.length bc, .bool last] w fun e w' => ∃ ao' cap' bs', e = .returned (.int .i64 0) ∧ WroteP w R (.slice ao bs.length cap) bs s (storedW last (up8 (s + 3) - (s + 3)) b) w' ao' cap' bs' := by
  have HT := Lib.hid (putType_any w R ao cap bs s 0 last h (by decide) (by omega))
  have HRd : Hid (∀ W, Kept (OrB (OneB R) (OwnB (.slice ao bs.length cap))) w W → Reads W ba b) := Lib.hid fun W hk => by
    by_cases hne : b = []
    · subst hne; exact ⟨fun _ => rfl, fun a ha i hi => absurd hi (by simp)⟩
    · exact hr.kept hk (fun a ha e => by
        rcases e with e | e
        · exact (hsep hne a ha).1 e
        · exact (hsep hne a ha).2 e)
  have HBs : Hid (∀ j, j < b.length → ∃ (g off z : Nat), ba = some ⟨g, off, none⟩ ∧ b.getD j 0 = (z : Int) ∧ z < 256) := Lib.hid fun j hj => by
    obtain ⟨g, off, hba, _, _⟩ := hr.at (by omega)
    have := AllB.getD hb j
    exact ⟨g, off, (b.getD j 0).toNat, hba, by omega, by omega⟩
  obtain ⟨L, hL⟩ : ∃ L, L = b.length := ⟨_, rfl⟩
  have HL := Lib.hid hL
  have hLl : L ≤ 65535 := by rw [hL]; exact hl
  have hw32 : IntKind.u32.wrap (L : Int) = (L : Int) := IntWalk.u32_in _ (by omega)
  obtain ⟨Z, hZ⟩ : ∃ Z, Z = 4294967295 - L := ⟨_, rfl⟩
  have hx1 : bits .xor .u32 IntKind.u32.max (L : Int) = (Z : Int) := by rw [hZ]; exact not32 L (by omega)
  have hx2 : bits .xor .u32 (if IntKind.u32.signed = true then -1 else IntKind.u32.max) (L : Int) = (Z : Int) := hx1
  have hZb : Z < 4294967296 := by omega
  have hZ16 : Z % 2 ^ 16 = 65535 - L := by omega
  have HZ16 := Lib.hid hZ16
  rw [← hL]
  clear h hr hb hl hsep hL hZ hZ16
  go_enter Tryz.func50, Tryz.ntmps50
  go_wp2_with fail
  refine HT.out.mono ?_
  rintro e w1 ⟨a1, c1, b1, rfl, hW1⟩
  have HA := Lib.hid (walign_any w1 R a1 c1 b1 _ hW1.size (by simp only [wdN]; omega))
  have HW1 := Lib.hid hW1
  clear hW1 HT
  go_wp2_with fail
  refine HA.out.mono ?_
  rintro e w2 ⟨rfl, hw2, hk2⟩
  have hW2 := HW1.out.align hw2 hk2
  have hsz := hW2.size
  have hup : up8 (s + 3) - (s + 3) ≤ 7 := by unfold up8; omega
  have HP3 := put_any w2 R a1 c1 b1 _ L 16 hsz (by omega) (by decide) (by simp only [wdN, wdN_append, Nat.add_zero]; unfold up8; omega)
  rw [show L % 2 ^ 16 = L by omega] at HP3
  have HP3 := Lib.hid HP3; have HW2 := Lib.hid hW2
  clear hw2 hk2 hW2 hsz HA
  go_wp2_with fail
  refine HP3.out.mono ?_
  intro e w3 hp3
  obtain ⟨a3, c3, b3, rfl, hW3⟩ := HW2.out.put hp3
  have hsz := hW3.size
  have HP4 := put_any w3 R a3 c3 b3 _ Z 16 hsz hZb (by decide) (by simp only [wdN, wdN_append, Nat.add_zero]; unfold up8; omega)
  rw [HZ16.out] at HP4
  have HP4 := Lib.hid HP4; have HW3 := Lib.hid hW3
  clear hp3 hW3 hsz HP3
  go_wp2_with fail
  refine HP4.out.mono ?_
  intro e w4 hp4
  obtain ⟨a4, c4, b4, rfl, hW4⟩ := HW3.out.put hp4
  have HW4 := Lib.hid hW4
  clear hp4 hW4 HP4
  go_wp2_with fail
  go_loopw [9, 30] (fun _x i wr => ∃ (j : Nat) (ao' : Option Addr) (cap' : Nat) (bs' : List Int), j ≤ L ∧ i = .int .i64 (j : Int) ∧ Hid (WroteP w R (.slice ao bs.length cap) bs s ([(lastN last, 1), (0, 2), (0, up8 (s + 3) - (s + 3)), (L, 16), (65535 - L, 16)] ++ bytesW (b.take j)) wr ao' cap' bs')) (fun _ i _ => L - (intOf i).toNat)
  case atStart => exact ⟨0, a4, c4, b4, by omega, rfl, Lib.hid (by simpa [bytesW, wdN] using HW4.out)⟩
  case round =>
    obtain ⟨j, ao', cap', bs', hj, rfl, HW⟩ := hrel
    by_cases hlt : (j : Int) < (L : Int)
    · obtain ⟨g, off, z, rfl, hz, hz256⟩ := HBs.out j (by have := HL.out; omega)
      have hc := (HRd.out wr HW.out.2.2.1).2 _ rfl j (by have := HL.out; omega)
      rw [hz, addr_add] at hc
      have HSn := Lib.hid (bytesW_snoc b j (by have := HL.out; omega) z hz)
      have hwz : IntKind.u32.wrap (z : Int) = (z : Int) := IntWalk.u32_in _ (by omega)
      have hbw := bytesW_wd (b.take j)
      have hbl : (b.take j).length ≤ 65535 := by rw [List.length_take]; omega
      have HP := put_any wr R ao' cap' bs' _ z 8 HW.out.size (by omega) (by decide) (by rw [wdN_append]; simp only [wdN, Nat.add_zero]; omega)
      rw [show z % 2 ^ 8 = z by omega] at HP
      have HP := Lib.hid HP
      clear hz hbw hbl
      go_wp2_with fail
      refine HP.out.mono ?_
      intro e w5 hp5
      obtain ⟨a5, c5, b5, rfl, hW5⟩ := HW.out.put hp5
      rw [List.append_assoc, ← HSn.out] at hW5
      have HW5 := Lib.hid hW5
      clear hW5 hp5 HP hc
      go_wp2
      go_roundw
      case rel => exact ⟨j + 1, a5, c5, b5, by omega, by go_num, HW5⟩
      case measure => simp [intOf]; omega
    · obtain rfl : j = L := by omega
      go_wp2
      go_ret
      refine ⟨rfl, ao', cap', bs', ?_⟩
      have h := HW.out
      rw [List.take_of_length_le (by rw [← HL.out]; exact Nat.le_refl _)] at h
      unfold storedW
      rw [← HL.out]
      exact h
end Go.Proofs.YtfmjfgmbjdhogaaGreatDoor

namespace Go.Proofs.YtfmjfgmbjdhogaaGreatDoor
open Go.RowKit
set_option linter.unusedVariables false

end Go.Proofs.YtfmjfgmbjdhogaaGreatDoor

namespace Go.Proofs.YtfmjfgmbjdhogaaGreatDoor
open Go.RowKit
set_option linter.unusedVariables false
set_option linter.unusedSimpArgs false

end Go.Proofs.YtfmjfgmbjdhogaaGreatDoor
