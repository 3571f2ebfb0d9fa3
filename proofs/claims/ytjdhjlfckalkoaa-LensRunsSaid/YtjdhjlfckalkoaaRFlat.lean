/-
  The document's Flat.
-/
import Derived.Test.YtjdhjlfckalkoaaSame
namespace Go.Proofs.Ytjdhjlfckalkoaa
open Go.RowKit
set_option linter.unusedVariables false
set_option linter.unusedSimpArgs false

theorem own_readsI {w : World} {base n cap : Nat} {ao : Option Addr} {zs : List Int} (h : w.ownsRow base 3 1 (.slice ao n cap) n (zs.map (.int .i64))) (hn : zs.length = n) : RdI w w.heap.size ao zs := by
  intro i hi
  rcases h.2 with ⟨_, hz⟩ | ⟨g, c, cur, hv, _⟩
  · omega
  · simp at hv
    obtain ⟨rfl, rfl⟩ := hv
    have hc : w.cell? ⟨g, i, none⟩ = some (.int .i64 (zs.getD i 0)) := by
      rw [h.cellAt i (by omega)]; simp [List.getD, hi]
    exact ⟨g, 0, rfl, World.block_lt_of_cell? w _ hc, by rw [Nat.zero_add]; exact hc⟩
theorem OwnI.reads {w : World} {a : Option Addr} {c : Nat} {l : List Int} (h : OwnI w a c l) : RdI w w.heap.size a l := own_readsI h rfl
theorem OwnI.capOk {w : World} {a : Option Addr} {c : Nat} {l : List Int} (h : OwnI w a c l) : l.length ≤ c := (own_cap h).1

set_option maxRecDepth 20000 in
set_option maxHeartbeats 2000000 in
theorem rflat_any (n : Int) (ao : Option Addr) (cap : Nat) (rs : List (Int × Int)) (w : World) (hr : RdRn w w.heap.size ao rs) (hm : rs.length ≤ 1000000) :
    Calls Try.prog 10 #[.int .i64 n, .slice ao rs.length cap] w (FlatP w (flatS n rs)) := by
  have HR := Lib.hid hr
  clear hr
  by_cases hb : n < 0 ∨ 320 < n
  · have hf : flatS n rs = ([], 1) := if_pos hb
    have HF := Lib.hid hf
    have hc : n < 0 ∨ (¬ n < 0 ∧ 320 < n) := by omega
    clear hf hb
    rcases hc with h | ⟨h1, h2⟩
    all_goals
      go_enter Try.func10, Try.ntmps10
      go_wp2
      go_ret2
      exact FlatP.none HF.out (Kept.refl _ _)
  · have hn : 0 ≤ n ∧ n ≤ 320 := by omega
    have hf : flatS n rs = match runAll n [] rs with | some l => if (l.length : Int) = n then (l, 0) else ([], 6) | none => ([], 6) := if_neg hb
    obtain ⟨R, hR⟩ : ∃ R, R = runAll n [] rs := ⟨_, rfl⟩
    rw [← hR] at hf
    have HF := Lib.hid hf; have HRe := Lib.hid hR
    clear hf hR hb
    have hn1 := hn.1
    have hn2 := hn.2
    go_enter Try.func10, Try.ntmps10
    go_wp2
    go_loopw [6, 7, 8, 9] (fun v6 v7 v8 v9 wr => ∃ (l : List Int) (a : Option Addr) (c j : Nat), v6 = .slice a l.length c ∧ v7 = .int .i64 (j : Int) ∧ j ≤ rs.length ∧ Hid ((l.length : Int) ≤ n) ∧ Hid (OwnI wr a c l) ∧ Hid (Kept NoB w wr) ∧ Hid (∀ k, (Value.slice a l.length c).ownBlock = some k → w.heap.size ≤ k) ∧ Hid (runAll n l (rs.drop j) = R)) (fun _ v7 _ _ _ => rs.length - (intOf v7).toNat)
    case atStart => exact ⟨[], none, 0, 0, rfl, rfl, by omega, (by exact hn1 : ((([] : List Int).length : Nat) : Int) ≤ n), World.ownsRow_nil _ _ _ _, Kept.refl _ _, (fun k hk => by simp [Value.ownBlock] at hk), (by rw [List.drop_zero]; exact HRe.out.symm)⟩
    case round =>
      obtain ⟨l, a, c, j, rfl, rfl, hj, HL, HO, HK, HFr, HX⟩ := hrel
      by_cases hlt : (j : Int) < rs.length
      · obtain ⟨g, off, rfl, hgl, hc0, hc1⟩ := HR.out j (by omega)
        have hc0' := HK.out.cell hc0
        have hc1' := HK.out.cell hc1
        have hd := HX.out
        rw [drop_getDP rs j (by omega)] at hd
        obtain ⟨⟨s, x⟩, hsx⟩ : ∃ p : Int × Int, p = rs.getD j (0, 0) := ⟨_, rfl⟩
        rw [← hsx] at hd hc0' hc1'
        simp only at hc0' hc1'
        unfold runAll at hd
        have HD := Lib.hid hd
        clear hd hsx hc0 hc1 hgl
        have hmo := more_any a c l wr.heap.size s x wr HO.out.reads (by have := HL.out; omega) HO.out.capOk
        have HMo := Lib.hid hmo
        clear hmo
        go_wp2_with fail
        refine HMo.out.mono ?_
        rintro e w2 (⟨hok, a2, c2, rfl, ho2, hk2, hf2⟩ | ⟨hno, rfl, hk2⟩)
        · have hk3 : Kept NoB w w2 := HK.out.trans hk2
          have hf3 : ∀ k, (Value.slice a2 (moreL l s x).length c2).ownBlock = some k → w.heap.size ≤ k := fun k hk => by
            have := hf2 k hk
            have := HK.out.size
            omega
          have HK3 := Lib.hid hk3; have HF3 := Lib.hid hf3; have HO2 := Lib.hid ho2
          clear hk3 hf3 ho2 hk2 hf2
          have hml := moreL_len l s x
          by_cases hfit : ((moreL l s x).length : Int) ≤ n
          · have hd := HD.out
            rw [if_pos ⟨hok, hfit⟩] at hd
            have HX2 := Lib.hid hd; have HL2 := Lib.hid hfit
            have hfit2 : ¬ n < ((moreL l s x).length : Int) := by omega
            obtain ⟨q, hq⟩ : ∃ q, q = moreL l s x := ⟨_, rfl⟩
            rw [← hq] at HX2 HL2 HO2 HF3 hfit2 ⊢
            clear hd hfit hok hml hq
            go_wp2
            go_roundw
            case rel => exact ⟨q, a2, c2, j + 1, rfl, by go_num, by omega, HL2, HO2, HK3, HF3, HX2⟩
            case measure => simp [intOf]; omega
          · have hd := HD.out
            rw [if_neg (fun h => hfit h.2)] at hd
            have hf := HF.out
            rw [← hd] at hf
            have HF2 := Lib.hid hf
            have hfit2 : n < ((moreL l s x).length : Int) := by omega
            obtain ⟨q, hq⟩ : ∃ q, q = moreL l s x := ⟨_, rfl⟩
            rw [← hq] at hfit2 ⊢
            clear hd hf hfit hok hml hq
            go_wp2
            go_ret2
            exact FlatP.none HF2.out HK3.out
        · have hd := HD.out
          rw [if_neg (fun h => hno h.1)] at hd
          have hf := HF.out
          rw [← hd] at hf
          have HF2 := Lib.hid hf
          have HK2 := Lib.hid (HK.out.trans hk2)
          clear hd hf hk2 hno
          go_wp2
          go_ret2
          exact FlatP.none HF2.out HK2.out
      · have hjl : rs.drop j = [] := List.drop_of_length_le (by omega)
        have hd := HX.out
        rw [hjl] at hd
        have hR : R = some l := hd.symm
        have hf := HF.out
        rw [hR] at hf
        have HF2 := Lib.hid hf
        clear hjl hd hR hf
        obtain ⟨len, hlen⟩ : ∃ len, len = l.length := ⟨_, rfl⟩
        have HLn := Lib.hid hlen
        rw [← hlen]
        clear hlen
        by_cases heq : (len : Int) = n
        · have hf := HF2.out
          have hx : flatS n rs = (l, 0) := by rw [hf]; exact if_pos (by rw [← HLn.out]; exact heq)
          have HX2 := Lib.hid hx
          have g1 : ((len : Int) != n) = false := by simp; exact heq
          clear hf hx heq
          go_wp2
          go_ret2
          rw [HX2.out]
          exact ⟨a, c, by rw [HLn.out]; rfl, HO.out, HK.out, HFr.out⟩
        · have hf := HF2.out
          have hx : flatS n rs = ([], 6) := by rw [hf]; exact if_neg (by rw [← HLn.out]; exact heq)
          have HX2 := Lib.hid hx
          have g1 : ((len : Int) != n) = true := by simp; exact heq
          clear hf hx heq
          go_wp2
          go_ret2
          exact FlatP.none HX2.out HK.out

theorem lit_readsI {w : World} {cs : Array Value} (zs : List Int) (hc : cs.toList = zs.map (.int .i64)) : RdI (w.alloc (.cells cs 3)) (w.alloc (.cells cs 3)).heap.size (some ⟨w.heap.size, 0, none⟩) zs := by
  intro i hi
  refine ⟨w.heap.size, 0, rfl, by simp, ?_⟩
  rw [Nat.zero_add, cell_new i rfl, ← Array.getElem?_toList, hc]
  simp [List.getD, hi]
theorem orders_any (w : World) : (Calls Try.prog 14 #[] w fun e w' => ∃ a c, e = .returned (.slice a 19 c) ∧ RdI w' w'.heap.size a [16, 17, 18, 0, 8, 7, 9, 6, 10, 5, 11, 4, 12, 3, 13, 2, 14, 1, 15] ∧ Kept NoB w w') ∧
    (Calls Try.prog 15 #[] w fun e w' => ∃ a c, e = .returned (.slice a 19 c) ∧ RdI w' w'.heap.size a [16, 17, 18, 0, 8, 7, 9, 6, 10, 5, 11, 4, 12, 3, 13, 2, 14, 1, 15] ∧ Kept NoB w w') := by
  constructor
  · go_enter Try.func14, Try.ntmps14
    go_wp2
    go_ret
    exact ⟨some ⟨w.heap.size, 0, none⟩, 19, rfl, lit_readsI _ rfl, (Kept.refl _ _).alloc _⟩
  · go_enter Try.func15, Try.ntmps15
    go_wp2
    go_ret
    exact ⟨some ⟨w.heap.size, 0, none⟩, 19, rfl, lit_readsI _ rfl, (Kept.refl _ _).alloc _⟩
theorem RdI.keptNo {w w' : World} {B : Nat} {a : Option Addr} {zs : List Int} (h : RdI w B a zs) (hk : Kept NoB w w') : RdI w' B a zs := h.kept hk (fun _ _ h => h)

set_option maxRecDepth 20000 in
set_option maxHeartbeats 1000000 in
/-- awake of layer 8. -/
theorem awake8 (w : World) : Calls Try.prog 9 #[] w fun e w' => e = .returned (.bool true) ∧ Below w.heap.size w w' := by
  have hr1 : RdRn (w.alloc (.cells #[.int .i64 5, .int .i64 0, .int .i64 16, .int .i64 0] 32)) (w.alloc (.cells #[.int .i64 5, .int .i64 0, .int .i64 16, .int .i64 0] 32)).heap.size (some ⟨w.heap.size, 0, none⟩) [(5, 0), (16, 0)] := by
    intro i hi
    have hc : i = 0 ∨ i = 1 := by simp at hi; omega
    rcases hc with rfl | rfl
    · exact ⟨w.heap.size, 0, rfl, by simp, cell_new 0 rfl, cell_new 1 rfl⟩
    · exact ⟨w.heap.size, 0, rfl, by simp, cell_new 2 rfl, cell_new 3 rfl⟩
  have h1 := flat_any 4 (some ⟨w.heap.size, 0, none⟩) 2 [(5, 0), (16, 0)] _ hr1 (by decide)
  have e1 : flatS 4 [(5, 0), (16, 0)] = ([5, 5, 5, 5], 0) := by decide +kernel
  rw [e1] at h1
  have H1 := Lib.hid h1
  have hkA : Kept NoB w (w.alloc (.cells #[.int .i64 5, .int .i64 0, .int .i64 16, .int .i64 0] 32)) := (Kept.refl _ _).alloc _
  have HKA := Lib.hid hkA
  clear hr1 h1 e1 hkA
  go_enter Try.func9, Try.ntmps9
  go_wp2_with fail
  refine H1.out.mono ?_
  rintro e w1 ⟨a1, c1, rfl, ho1, hk1, hf1⟩
  have HO1 := Lib.hid ho1; have HK1 := Lib.hid (HKA.out.trans hk1)
  clear ho1 hk1 hf1 HKA H1
  have hr2 : RdRn (w1.alloc (.cells #[.int .i64 16, .int .i64 0] 32)) (w1.alloc (.cells #[.int .i64 16, .int .i64 0] 32)).heap.size (some ⟨w1.heap.size, 0, none⟩) [(16, 0)] := by
    intro i hi
    have hc : i = 0 := by simp at hi; omega
    subst hc
    exact ⟨w1.heap.size, 0, rfl, by simp, cell_new 0 rfl, cell_new 1 rfl⟩
  have h2 := flat_any 3 (some ⟨w1.heap.size, 0, none⟩) 1 [(16, 0)] _ hr2 (by decide)
  have e2 : flatS 3 [(16, 0)] = ([], 6) := by decide +kernel
  rw [e2] at h2
  have H2 := Lib.hid h2
  have HKB := Lib.hid ((Kept.refl NoB w1).alloc (.cells #[.int .i64 16, .int .i64 0] 32))
  clear hr2 h2 e2
  go_wp2_with fail
  refine H2.out.mono ?_
  rintro e w2 ⟨a2, c2, rfl, ho2, hk2, hf2⟩
  have hk12 := HKB.out.trans hk2
  have HR1 := Lib.hid (HO1.out.reads.keptNo hk12)
  have HK2 := Lib.hid (HK1.out.trans hk12)
  clear ho2 hk2 hf2 hk12 HKB H2 HO1 HK1
  have HOr := Lib.hid (fun w => orders_any w)
  go_wp2_with fail
  refine (HOr.out _).1.mono ?_
  rintro e w3 ⟨a3, c3, rfl, hr3, hk3⟩
  have HR3 := Lib.hid hr3; have HR13 := Lib.hid (HR1.out.keptNo hk3); have HK3 := Lib.hid (HK2.out.trans hk3)
  clear hr3 hk3 HR1 HK2
  have hs1 := sameInts_any a1 c1 [5, 5, 5, 5] (some ⟨w3.heap.size, 0, none⟩) 4 [5, 5, 5, 5] _ _ (w3.alloc (.cells #[.int .i64 5, .int .i64 5, .int .i64 5, .int .i64 5] 3)) (HR13.out.keptNo ((Kept.refl _ _).alloc _)) (lit_readsI _ rfl) (by decide)
  rw [decide_eq_true rfl] at hs1
  have HS1 := Lib.hid hs1
  have HKC := Lib.hid ((Kept.refl NoB w3).alloc (.cells #[.int .i64 5, .int .i64 5, .int .i64 5, .int .i64 5] 3))
  clear hs1
  go_wp2_with fail
  refine HS1.out.mono ?_
  rintro e w4 ⟨rfl, hk4⟩
  have HR34 := Lib.hid (HR3.out.keptNo (HKC.out.trans hk4)); have HK4 := Lib.hid (HK3.out.trans (HKC.out.trans hk4))
  clear hk4 HR3 HK3 HS1 HR13 HKC
  go_wp2_with fail
  refine (HOr.out _).2.mono ?_
  rintro e w5 ⟨a5, c5, rfl, hr5, hk5⟩
  have hs2 := sameInts_any a3 c3 [16, 17, 18, 0, 8, 7, 9, 6, 10, 5, 11, 4, 12, 3, 13, 2, 14, 1, 15] a5 c5 [16, 17, 18, 0, 8, 7, 9, 6, 10, 5, 11, 4, 12, 3, 13, 2, 14, 1, 15] _ _ w5 (HR34.out.keptNo hk5) hr5 (by decide)
  rw [decide_eq_true rfl] at hs2
  have HS2 := Lib.hid hs2
  have HK5 := Lib.hid (HK4.out.trans hk5)
  clear hs2 hr5 hk5 HR34 HK4 HOr
  go_wp2_with fail
  refine HS2.out.mono ?_
  rintro e w6 ⟨rfl, hk6⟩
  have hfin := (HK5.out.trans hk6).belowNo (Below.refl _ _)
  go_wp2
  go_ret
  exact ⟨rfl, hfin⟩
end Go.Proofs.Ytjdhjlfckalkoaa
