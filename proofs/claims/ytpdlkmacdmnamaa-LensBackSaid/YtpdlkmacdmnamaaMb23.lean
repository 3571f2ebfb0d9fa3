/-
  lens.writeRuns: runs are put by a code.
  The weights of runs, and the code that they have, on paper.
  slices.Concat of two rows of numbers.
-/
import Derived.Test.YtpdlkmacdmnamaaMb22
import Derived.Lib.AppendZerosOnto
namespace Go.Proofs.Ytpdlkmacdmnamaa
open Go.RowKit
set_option linter.unusedVariables false
set_option linter.unusedSimpArgs false

/-- One put more behind what was written. -/
theorem WroteP.put {w w1 w2 : World} {R : Nat} {v0 : Value} {bs bs1 : List Int} {s x n : Nat} {ps : List (Nat × Nat)} {ao1 : Option Addr} {cap1 : Nat} {e : Ending} (h : WroteP w R v0 bs s ps w1 ao1 cap1 bs1) (h2 : PutP w1 R (.slice ao1 bs1.length cap1) bs1 (s + wdN ps) x n e w2) :
    ∃ ao2 cap2 bs2, e = .returned (.bool true) ∧ WroteP w R v0 bs s (ps ++ [(x, n)]) w2 ao2 cap2 bs2 := by
  obtain ⟨hw1, hw2, hw3, hw4⟩ := h
  obtain ⟨ao2, cap2, bs2, rfl, p1, p2, p3, p4⟩ := h2
  refine ⟨ao2, cap2, bs2, rfl, ?_, ?_, ?_, ?_⟩
  · rw [wdN_append]
    simp only [wdN, Nat.add_zero]
    rw [← Nat.add_assoc]
    exact p1
  · rw [putsN_append]
    simp only [putsN, Nat.zero_mul, Nat.add_zero]
    rw [p2, hw2, Nat.add_mul, Nat.add_assoc, Nat.pow_add, Nat.mul_assoc, Nat.mul_comm (2 ^ wdN _) (2 ^ s)]
  · refine hw3.transO p3 ?_
    intro j hj e
    rcases e with e | e
    · exact .inl e
    · rcases hw4 j e with h | h
      · exact .inr h
      · omega
  · intro k hk'
    rcases p4 k hk' with h | h
    · exact hw4 k h
    · have := hw3.size; omega
theorem WroteP.nil {w : World} {R : Nat} {ao : Option Addr} {cap : Nat} {bs : List Int} {s : Nat} (h : Wtr w R ao cap bs s) : WroteP w R (.slice ao bs.length cap) bs s [] w ao cap bs :=
  ⟨h, by simp [putsN], Kept.refl _ _, fun k hk => .inl hk⟩
theorem WroteP.keptNo {w w1 w2 : World} {R : Nat} {v0 : Value} {bs bs1 : List Int} {s : Nat} {ps : List (Nat × Nat)} {ao1 : Option Addr} {cap1 : Nat} (h : WroteP w R v0 bs s ps w1 ao1 cap1 bs1) (hk : Kept NoB w1 w2) : WroteP w R v0 bs s ps w2 ao1 cap1 bs1 :=
  ⟨h.1.keptNo hk, h.2.1, h.2.2.1.transO hk (fun i hi h => h.elim), h.2.2.2⟩
theorem WroteP.app {w w1 w2 : World} {R : Nat} {v0 : Value} {bs bs1 bs2 : List Int} {s : Nat} {ps qs : List (Nat × Nat)} {ao1 ao2 : Option Addr} {cap1 cap2 : Nat} (h : WroteP w R v0 bs s ps w1 ao1 cap1 bs1) (h2 : WroteP w1 R (.slice ao1 bs1.length cap1) bs1 (s + wdN ps) qs w2 ao2 cap2 bs2) : WroteP w R v0 bs s (ps ++ qs) w2 ao2 cap2 bs2 := by
  obtain ⟨hw1, hw2, hw3, hw4⟩ := h
  obtain ⟨p1, p2, p3, p4⟩ := h2
  refine ⟨?_, ?_, ?_, ?_⟩
  · rw [wdN_append, ← Nat.add_assoc]
    exact p1
  · rw [putsN_append, p2, hw2, Nat.add_mul, Nat.add_assoc, Nat.pow_add, Nat.mul_assoc, Nat.mul_comm (2 ^ wdN _) (2 ^ s)]
  · refine hw3.transO p3 ?_
    intro j hj e
    rcases e with e | e
    · exact .inl e
    · rcases hw4 j e with h | h
      · exact .inr h
      · omega
  · intro k hk'
    rcases p4 k hk' with h | h
    · exact hw4 k h
    · have := hw3.size; omega
/-- Runs that lie in blocks of S. -/
def RdRnG (w : World) (S : Nat → Prop) (ao : Option Addr) (rs : List (Int × Int)) : Prop :=
  ∀ i, i < rs.length → ∃ g off, ao = some ⟨g, off, none⟩ ∧ S g ∧ w.cell? ⟨g, off + i * 2, none⟩ = some (.int .i64 (rs.getD i (0, 0)).1) ∧ w.cell? ⟨g, off + i * 2 + 1, none⟩ = some (.int .i64 (rs.getD i (0, 0)).2)
theorem RdRnG.kept {S T : Nat → Prop} {w w' : World} {ao : Option Addr} {rs : List (Int × Int)} (h : RdRnG w S ao rs) (hk : Kept T w w') (hs : ∀ k, S k → ¬ T k) : RdRnG w' S ao rs := fun i hi => by
  obtain ⟨g, o, h1, h2, h3, h4⟩ := h i hi
  exact ⟨g, o, h1, h2, (World.cell?_of_block (hk.block _ (World.block_lt_of_cell? w _ h3) (hs g h2))).trans h3, (World.cell?_of_block (hk.block _ (World.block_lt_of_cell? w _ h4) (hs g h2))).trans h4⟩
theorem wdN_leR (code : List Int) (hs : Small 15 code) : ∀ rs : List (Int × Int), wdN (wordsR code rs) ≤ 22 * rs.length
  | [] => by simp [wordsR, wdN]
  | y :: r => by
    have ih := wdN_leR code hs r
    rw [wordsR_cons, wdN, wdN, List.length_cons]
    have h1 := spanB_le y.1
    have h2 : (wordZ code y.1).2 ≤ 15 := by
      unfold wordZ
      by_cases h : y.1.toNat < code.length
      · have := hs.getD y.1.toNat h
        omega
      · simp [List.getD, List.getElem?_eq_none (Nat.le_of_not_lt h)]
    omega
theorem spanM_lt (s x : Int) (h : 0 ≤ x ∧ x ≤ spanM s) : x.toNat < 2 ^ spanB s := by
  unfold spanM at h
  unfold spanB
  split at h
  · rename_i e; rw [if_pos e]; omega
  · rename_i e; rw [if_neg e]
    split at h
    · rename_i e; rw [if_pos e]; omega
    · rename_i e; rw [if_neg e]
      split at h
      · rename_i e; rw [if_pos e]; omega
      · rename_i e; rw [if_neg e]; omega
set_option maxRecDepth 20000 in
set_option maxHeartbeats 8000000 in
theorem writeRuns_any (code : List Int) (a : Option Addr) (c : Nat) (rs : List (Int × Int)) (ra : Option Addr) (rc : Nat) (S : Nat → Prop) (R : Nat) (ao : Option Addr) (cap : Nat) (bs : List Int) (s : Nat) (w : World)
    (hx : RdG w S a code) (hy : RdRnG w S ra rs) (hw : Wtr w R ao cap bs s) (hSR : ¬ S R) (hSo : ∀ k, (Value.slice ao bs.length cap).ownBlock = some k → ¬ S k) (hs : Small 15 code) (hl : code.length ≤ 320) (hok : refS code = 0)
    (hrs : ∀ y ∈ rs, HasC code y.1 ∧ 0 ≤ y.2 ∧ y.2 ≤ spanM y.1) (hrl : rs.length ≤ 1000) (hss : s ≤ 1100000) :
    Calls Try.prog 28 #[.pointer (some ⟨R, 0, none⟩), .slice a code.length c, .slice ra rs.length rc] w fun e w' => ∃ ao' cap' bs', e = .returned (.int .i64 0) ∧ WroteP w R (.slice ao bs.length cap) bs s (wordsR code rs) w' ao' cap' bs' := by
  have HCd := Lib.hid (codes_calls a c _ code w hx.room hs hl hok)
  have HX := Lib.hid hx; have HY := Lib.hid hy; have HW := Lib.hid hw; have HSo := Lib.hid hSo; have HS := Lib.hid hs; have HRs := Lib.hid hrs; have HOk := Lib.hid hok; have HSR := Lib.hid hSR
  obtain ⟨n, hn⟩ : ∃ n, n = code.length := ⟨_, rfl⟩
  have HN := Lib.hid hn
  have hn320 : n ≤ 320 := by omega
  obtain ⟨m, hm⟩ : ∃ m, m = rs.length := ⟨_, rfl⟩
  have HM := Lib.hid hm
  have hm1000 : m ≤ 1000 := by omega
  rw [← hn] at HCd
  rw [← hn, ← hm]
  clear hx hy hw hSo hs hrs hok hn hm hl hrl hSR
  go_enter Try.func28, Try.ntmps28
  go_wp2_with fail
  refine HCd.out.mono ?_
  intro e w2 hp
  obtain ⟨a4, c4, rfl, ho4, hr4, hk⟩ := codes_read2 hp
  have hne4 : ∀ g, a4 = some ⟨g, 0, none⟩ → g ≠ R ∧ (∀ k, (Value.slice ao bs.length cap).ownBlock = some k → k ≠ g) := by
    rintro g rfl
    have h1 := row_ne ho4 (hk.obj HW.out.1 (fun h => h)) (by decide) g rfl
    refine ⟨h1, fun k hk' e => ?_⟩
    subst e
    rcases ho4.2 with ⟨hv, _⟩ | ⟨g', cc, cur, hv, _, hgg, _⟩
    · simp at hv
    · simp at hv
      obtain ⟨rfl, rfl⟩ := hv
      exact row_ne (hk.row HW.out.2.1 (fun _ _ h => h)) hgg (by decide) _ hk' rfl
  have hcl : (codesL code).length = n := by unfold codesL; rw [codesP_len]; exact HN.out.symm
  rw [hcl] at hr4 ⊢
  have HNe := Lib.hid hne4
  have HR4 := Lib.hid hr4; have HK2 := Lib.hid hk
  clear hp hr4 hk hcl HCd ho4 hne4
  go_wp2
  go_loopw [23, 10, 11, 12] (fun v23 _ _ _ wr => ∃ (i : Nat) (ao' : Option Addr) (cap' : Nat) (bs' : List Int), v23 = .int .i64 (i : Int) ∧ i ≤ m ∧ Hid (WroteP w2 R (.slice ao bs.length cap) bs s (wordsR code (rs.take i)) wr ao' cap' bs')) (fun v23 _ _ _ _ => m - (intOf v23).toNat)
  case atStart => exact ⟨0, ao, cap, bs, rfl, by omega, Lib.hid (WroteP.nil (HW.out.keptNo HK2.out))⟩
  case round =>
    obtain ⟨i, ao', cap', bs', rfl, him, HWr⟩ := hrel
    by_cases hlt2 : (i : Int) < m
    · have hil : i < rs.length := by have := HM.out; omega
      have hdis : ∀ j, S j → ¬ (OrB (OneB R) (OwnB (.slice ao bs.length cap))) j := by
        intro j hj e
        rcases e with e | e
        · unfold OneB at e; exact HSR.out (e ▸ hj)
        · exact HSo.out j e hj
      have hw3 := HWr.out.2.2.1
      obtain ⟨g1, o1, rfl, _, x0, x0'⟩ := ((HY.out.kept HK2.out (fun _ _ h => h)).kept hw3 hdis) i hil
      have htk : rs.take (i + 1) = rs.take i ++ [rs.getD i (0, 0)] := by
        rw [List.take_succ_eq_append_getElem hil]; simp [List.getD, hil]
      have hmem : rs.getD i (0, 0) ∈ rs := by
        have : rs.getD i (0, 0) = rs[i] := by simp [List.getD, hil]
        rw [this]; exact List.getElem_mem hil
      obtain ⟨⟨k, hzk, hkl, hk0⟩, hxx⟩ := HRs.out _ hmem
      obtain ⟨y, hy⟩ : ∃ y, y = rs.getD i (0, 0) := ⟨_, rfl⟩
      rw [← hy] at x0 x0' htk hzk hxx
      obtain ⟨sy, x⟩ := y
      simp only at x0 x0' hzk hxx
      subst hzk
      have hxl := spanM_lt _ _ hxx
      obtain ⟨xn, rfl⟩ : ∃ xn : Nat, x = (xn : Int) := ⟨x.toNat, by omega⟩
      rw [Int.toNat_natCast] at hxl
      obtain ⟨b, hb⟩ : ∃ b, b = spanB (k : Int) := ⟨_, rfl⟩
      have hb7 : b ≤ 7 := by rw [hb]; exact spanB_le _
      have hx128 : xn < 128 := Nat.lt_of_lt_of_le (hb ▸ hxl) (Nat.pow_le_pow_right (n := 2) (by decide) hb7)
      obtain ⟨g2, o2, rfl, _, x1⟩ := ((HX.out.kept HK2.out (fun _ _ h => h)).kept hw3 hdis) k hkl
      obtain ⟨g4, rfl, y0⟩ := HR4.out k (by have := HN.out; omega)
      rw [codesL_get _ _ hkl] at y0
      obtain ⟨hg4R, hg4o⟩ := HNe.out g4 rfl
      have y1 := (World.cell?_of_block (hw3.block _ (World.block_lt_of_cell? w2 _ y0) (fun e => by
        rcases e with e | e
        · exact hg4R e
        · exact hg4o _ e rfl))).trans y0
      have hbk := HS.out.getD k hkl
      obtain ⟨lk, hlk⟩ : ∃ lk : Nat, code.getD k 0 = (lk : Int) := ⟨(code.getD k 0).toNat, by omega⟩
      have hcb := codeAt_bd code (by rw [← HN.out]; exact hn320) HS.out k hkl
      obtain ⟨ck, hck⟩ : ∃ ck : Nat, codeAt code k = (ck : Int) := ⟨(codeAt code k).toNat, by omega⟩
      have hword : wordZ code (k : Int) = (revN lk ck, lk) := by
        unfold wordZ; rw [Int.toNat_natCast, hlk, hck, Int.toNat_natCast, Int.toNat_natCast]
      have hwd : wdN (wordsR code (rs.take i)) ≤ 22 * i := by
        have h1 := wdN_leR code HS.out (rs.take i)
        rw [List.length_take] at h1
        have : min i rs.length ≤ i := Nat.min_le_left _ _
        omega
      rw [hlk] at x1 hbk hk0
      rw [hck] at y1 hcb
      have hcall : ∀ W, Kept NoB wr W → Calls Try.prog 51 #[.pointer (some ⟨R, 0, none⟩), .int .u32 (ck : Int), .int .i64 (lk : Int)] W fun e w' => e = .returned (.bool true) ∧ ∃ ao2 cap2 bs2, WroteP w2 R (.slice ao bs.length cap) bs s (wordsR code (rs.take i) ++ [wordZ code (k : Int)]) w' ao2 cap2 bs2 ∧ Kept (OrB (OneB R) (OwnB (.slice ao' bs'.length cap'))) W w' := by
        intro W hk
        have hW := HWr.out.keptNo hk
        have hcl := code_calls W R ao' cap' bs' _ ck lk hW.1 (by omega) (by omega) (by omega) (by omega)
        refine hcl.mono ?_
        intro e w' hp
        have hp2 := hp
        obtain ⟨_, _, _, _, _, _, hkk, _⟩ := hp2
        obtain ⟨ao2, cap2, bs2, rfl, h⟩ := hW.put hp
        exact ⟨rfl, ao2, cap2, bs2, by rw [hword]; exact h, hkk⟩
      have hRlt := obj_lt HWr.out.1.1
      have hAlt : ∀ k, (Value.slice ao' bs'.length cap').ownBlock = some k → k < wr.heap.size := own_lt HWr.out.1.2.1
      have HCall := Lib.hid hcall
      have kn : (k : Int) < n := by have := HN.out; omega
      have HXl := Lib.hid hxl; have HB := Lib.hid hb; have HTk := Lib.hid htk; have HWd := Lib.hid hwd
      have hlk15 : lk ≤ 15 := by omega
      have hword2 : (wordZ code (k : Int)).2 = lk := by rw [hword]
      have HWord := Lib.hid hword2
      clear hcall hword hwd hw3 hck hlk hg4R hg4o y0 hdis hmem hy htk hxx hxl hb HWr hword2
      obtain ⟨H, hH⟩ : ∃ H, H = wr.heap.size := ⟨_, rfl⟩
      have hkA : Kept NoB wr (wr.alloc (.cells #[.int .i64 (k : Int), .int .i64 (xn : Int)] 54)) := (Kept.refl _ _).alloc _
      have hc0 : (wr.alloc (.cells #[.int .i64 (k : Int), .int .i64 (xn : Int)] 54)).cell? ⟨H, 0, none⟩ = some (.int .i64 (k : Int)) := by rw [hH]; exact cell_new 0 rfl
      have hc1 : (wr.alloc (.cells #[.int .i64 (k : Int), .int .i64 (xn : Int)] 54)).cell? ⟨H, 1, none⟩ = some (.int .i64 (xn : Int)) := by rw [hH]; exact cell_new 1 rfl
      have x1' : ∀ W, Kept NoB wr W → W.cell? ⟨g2, o2 + k, none⟩ = some (.int .i64 (lk : Int)) := fun W h => h.cell x1
      have y1' : ∀ W, Kept NoB wr W → W.cell? ⟨g4, k, none⟩ = some (.int .u32 (ck : Int)) := fun W h => h.cell y1
      go_upto_region 7 with fail
      rw [← hH]
      obtain ⟨w3, hw3⟩ : ∃ w3, w3 = wr.alloc (.cells #[.int .i64 (k : Int), .int .i64 (xn : Int)] 54) := ⟨_, rfl⟩
      rw [← hw3] at hc0 hc1 hkA ⊢
      have HkA := Lib.hid hkA
      have x2 : ∀ W, Kept NoB w3 W → W.cell? ⟨g2, o2 + k, none⟩ = some (.int .i64 (lk : Int)) := fun W h => x1' W (HkA.out.trans h)
      have y2 : ∀ W, Kept NoB w3 W → W.cell? ⟨g4, k, none⟩ = some (.int .u32 (ck : Int)) := fun W h => y1' W (HkA.out.trans h)
      have c2 : ∀ W, Kept NoB w3 W → W.cell? ⟨H, 0, none⟩ = some (.int .i64 (k : Int)) := fun W h => h.cell hc0
      have HC1 : Hid (∀ W, Kept NoB w3 W → W.cell? ⟨H, 1, none⟩ = some (.int .i64 (xn : Int))) := Lib.hid (fun W h => h.cell hc1)
      have HCl : Hid (∀ W, Kept NoB w3 W → Calls Try.prog 51 #[.pointer (some ⟨R, 0, none⟩), .int .u32 (ck : Int), .int .i64 (lk : Int)] W fun e w' => e = .returned (.bool true) ∧ ∃ ao2 cap2 bs2, WroteP w2 R (.slice ao bs.length cap) bs s (wordsR code (rs.take i) ++ [wordZ code (k : Int)]) w' ao2 cap2 bs2 ∧ Hid (w'.cell? ⟨H, 1, none⟩ = some (.int .i64 (xn : Int)))) := Lib.hid (fun W h => by
        have hH1 := HC1.out W h
        refine (HCall.out W (HkA.out.trans h)).mono ?_
        rintro e w' ⟨rfl, ao2, cap2, bs2, h1, h2⟩
        refine ⟨rfl, ao2, cap2, bs2, h1, (World.cell?_of_block (h2.block _ (World.block_lt_of_cell? W _ hH1) (fun e => ?_))).trans hH1⟩
        rcases e with e | e
        · unfold OneB at e; have e : H = R := e; omega
        · have := hAlt H e; omega)
      have hk0 := Kept.refl NoB w3
      clear hkA hw3 x1 y1 x1' y1' hc1 hH
      go_wp2_with fail
      with_reducible refine (span_any (k : Int) _).mono ?_
      rintro e w4 ⟨rfl, rfl⟩
      rw [← HB.out]
      go_upto_region 8 with fail
      go_region_with (go_at_call 51; ((with_reducible refine (HCl.out _ ?_).mono ?_); (exact ((Kept.refl NoB w3).drewN _)); rintro e wn ⟨rfl, ao2, cap2, bs2, hwn, hcn⟩; have HWn := Lib.hid hwn; have HCn := Lib.hid hcn; clear hwn hcn))
      all_goals
        have cx := HCn.out.out
        have u1 : IntKind.u32.wrap (xn : Int) = (xn : Int) := IntWalk.u32_in _ (by omega)
        have hput := put_any wn R ao2 cap2 bs2 _ xn b HWn.out.1 (by omega) (by omega) (by rw [wdN_append]; have := HWd.out; have := HWord.out; simp only [wdN]; omega)
        rw [Nat.mod_eq_of_lt (HB.out ▸ HXl.out)] at hput
        have HPut := Lib.hid hput
        clear hput
        go_wp2_with fail
        with_reducible refine HPut.out.mono ?_
        intro e w7 hp7
        obtain ⟨ao7, cap7, bs7, rfl, hw7⟩ := HWn.out.put hp7
        have hw8 : WroteP w2 R (.slice ao bs.length cap) bs s (wordsR code (rs.take (i + 1))) w7 ao7 cap7 bs7 := by
          rw [HTk.out, wordsR_snoc]
          have e : (wordZ code (k : Int), ()) = (wordZ code (k : Int), ()) := rfl
          simpa [HB.out] using hw7
        have HW8 := Lib.hid hw8
        clear hp7 hw7 hw8 HPut cx
        go_wp2
        go_roundw
        case rel => exact ⟨i + 1, ao7, cap7, bs7, by go_num, by omega, HW8⟩
        case measure => simp [intOf]; omega
    · have hmi : i = m := by omega
      subst hmi
      have hF : WroteP w R (.slice ao bs.length cap) bs s (wordsR code rs) wr ao' cap' bs' := by
        obtain ⟨h1, h2, h3, h4⟩ := HWr.out
        rw [List.take_of_length_le (by rw [← HM.out]; exact Nat.le_refl _)] at h1 h2
        exact ⟨h1, h2, (HK2.out.mono (fun _ _ h => h.elim)).trans h3, fun k hk => by
          rcases h4 k hk with h | h
          · exact .inl h
          · have := HK2.out.size; exact .inr (by omega)⟩
      have HF := Lib.hid hF
      clear hF
      go_wp2
      go_ret
      exact ⟨rfl, ao', cap', bs', HF.out⟩
end Go.Proofs.Ytpdlkmacdmnamaa

namespace Go.Proofs.Ytpdlkmacdmnamaa
open Go.RowKit
set_option linter.unusedVariables false
set_option linter.unusedSimpArgs false

/-- How often each symbol stands. -/
def cntR : List (Int × Int) → List Int → List Int
  | [], W => W
  | y :: r, W => cntR r (W.set y.1.toNat (W.getD y.1.toNat 0 + 1))
theorem cntR_snoc : ∀ (rs : List (Int × Int)) (y : Int × Int) (W : List Int), cntR (rs ++ [y]) W = (cntR rs W).set y.1.toNat ((cntR rs W).getD y.1.toNat 0 + 1)
  | [], y, W => rfl
  | z :: r, y, W => by rw [List.cons_append, cntR, cntR, cntR_snoc r y]
theorem cntR_len : ∀ (rs : List (Int × Int)) (W : List Int), (cntR rs W).length = W.length
  | [], W => rfl
  | z :: r, W => by rw [cntR, cntR_len r, List.length_set]
def cnt19 (rs : List (Int × Int)) : List Int := cntR rs (List.replicate 19 0)
theorem cnt19_len (rs : List (Int × Int)) : (cnt19 rs).length = 19 := by unfold cnt19; rw [cntR_len, List.length_replicate]
theorem cnt19_snoc (rs : List (Int × Int)) (y : Int × Int) : cnt19 (rs ++ [y]) = (cnt19 rs).set y.1.toNat ((cnt19 rs).getD y.1.toNat 0 + 1) := cntR_snoc _ _ _
theorem cntR_mono : ∀ (rs : List (Int × Int)) (W : List Int) (j : Nat), W.getD j 0 ≤ (cntR rs W).getD j 0
  | [], W, j => Int.le_refl _
  | z :: r, W, j => by
    rw [cntR]
    refine Int.le_trans ?_ (cntR_mono r _ j)
    by_cases h : z.1.toNat < W.length
    · rw [getD_setH _ _ _ _ h]; split
      · rename_i e; rw [e]; omega
      · exact Int.le_refl _
    · rw [List.set_eq_of_length_le (by omega)]; exact Int.le_refl _
theorem cntR_pos : ∀ (rs : List (Int × Int)) (W : List Int), (∀ j, 0 ≤ W.getD j 0) → ∀ y ∈ rs, y.1.toNat < W.length → 0 < (cntR rs W).getD y.1.toNat 0
  | [], W, h0, y, hy, hl => absurd hy (by simp)
  | z :: r, W, h0, y, hy, hl => by
    have h0' : ∀ j, 0 ≤ (W.set z.1.toNat (W.getD z.1.toNat 0 + 1)).getD j 0 := fun j => by
      by_cases h : z.1.toNat < W.length
      · rw [getD_setH _ _ _ _ h]; split
        · have := h0 z.1.toNat; omega
        · exact h0 j
      · rw [List.set_eq_of_length_le (by omega)]; exact h0 j
    rw [cntR]
    rcases List.mem_cons.1 hy with e | h
    · subst e
      have := cntR_mono r (W.set y.1.toNat (W.getD y.1.toNat 0 + 1)) y.1.toNat
      rw [getD_setH _ _ _ _ hl, if_pos rfl] at this
      have := h0 y.1.toNat
      omega
    · exact cntR_pos r _ h0' y h (by rw [List.length_set]; exact hl)
theorem cntR_small : ∀ (rs : List (Int × Int)) (W : List Int) (m : Int), Small m W → Small (m + rs.length) (cntR rs W)
  | [], W, m, h => by simpa [cntR] using h
  | z :: r, W, m, h => by
    rw [cntR]
    have hw : Small (m + 1) (W.set z.1.toNat (W.getD z.1.toNat 0 + 1)) := fun b hb => by
      rcases List.mem_or_eq_of_mem_set hb with h1 | h1
      · have := h b h1; omega
      · by_cases hl : z.1.toNat < W.length
        · have e : W.getD z.1.toNat 0 = W[z.1.toNat] := by simp [List.getD, hl]
          have := h _ (List.getElem_mem hl)
          rw [h1, e]; omega
        · have e : W.getD z.1.toNat 0 = 0 := by simp [List.getD, List.getElem?_eq_none (Nat.le_of_not_lt hl)]
          rw [List.set_eq_of_length_le (by omega)] at hb
          have := h b hb; omega
    have := cntR_small r _ (m + 1) hw
    rw [List.length_cons]
    have e : m + 1 + (r.length : Int) = m + ((r.length + 1 : Nat) : Int) := by push_cast; omega
    rw [← e]; exact this
theorem cnt19_small (rs : List (Int × Int)) : Small rs.length (cnt19 rs) := by
  have := cntR_small rs (List.replicate 19 0) 0 (fun b hb => by rw [List.eq_of_mem_replicate hb]; decide)
  rw [Int.zero_add] at this
  exact this
theorem cnt19_pos (rs : List (Int × Int)) (y : Int × Int) (hy : y ∈ rs) (h : y.1.toNat < 19) : 0 < (cnt19 rs).getD y.1.toNat 0 :=
  cntR_pos rs _ (fun j => by rw [rep0]; exact Int.le_refl _) y hy (by rw [List.length_replicate]; exact h)
/-- What runs that are told are. -/
theorem runAll_ok (n : Int) : ∀ (rs : List (Int × Int)) (l F : List Int), runAll n l rs = some F → ∀ y ∈ rs, 0 ≤ y.1 ∧ y.1 ≤ 18 ∧ 0 ≤ y.2 ∧ y.2 ≤ spanM y.1
  | [], l, F, h, y, hy => absurd hy (by simp)
  | (s, x) :: r, l, F, h, y, hy => by
    rw [runAll] at h
    split at h
    · rename_i hok
      rcases List.mem_cons.1 hy with e | hm
      · subst e; exact ⟨hok.1.1, hok.1.2.1, hok.1.2.2.1, hok.1.2.2.2.1⟩
      · exact runAll_ok n r _ F h y hm
    · cases h
theorem ref_lens7 (ws : List Int) (lv : List Lf) (hok : LensOkP ws 7) (hs : SrtP lv (leavesL 0 ws)) : refS (lensOf lv ws.length 7) = 0 := by
  have hF := lensF ws 7 lv hok hs
  have e15 : (7 : Int).toNat = 7 := rfl
  rw [e15] at hF
  unfold refS
  rw [if_neg]
  by_cases n0 : lv.length = 0
  · have e : lensOf lv ws.length 7 = List.replicate ws.length 0 := by unfold lensOf; rw [if_pos n0]
    rw [e]
    unfold kindS
    rw [if_pos (by rw [count_rep0]; simp)]
    omega
  · by_cases n1 : lv.length = 1
    · have e : lensOf lv ws.length 7 = (List.replicate ws.length 0).set (lv.getD 0 (0, 0)).1.toNat 1 := by unfold lensOf; rw [if_neg n0, if_pos n1]
      have hm : lv.getD 0 (0, 0) ∈ lv := getD_mem lv 0 (by omega)
      obtain ⟨_, q, hq, hql⟩ := leaf_place hok.small hs _ hm
      have hc := count_set ws.length q hql
      rw [e, hq, Int.toNat_natCast]
      unfold kindS
      rw [List.length_set, List.length_replicate, if_neg (by omega), if_pos ⟨by omega, hc.2⟩]
      omega
    · have hk := hF.kraft
      rw [if_neg n0, if_neg n1] at hk
      unfold kindS
      rw [hk]
      split
      · omega
      · split
        · omega
        · simp

/-- The code of weights, one of them above nought, by seven bits. -/
theorem code_of (A : List Int) (lv : List Lf) (hok : LensOkP A 7) (hs : SrtP lv (leavesL 0 A)) (p : Nat) (hp : p < A.length) (h0 : 0 < A.getD p 0) :
    (lensOf lv A.length 7).length = A.length ∧ Small 7 (lensOf lv A.length 7) ∧ fullB (lensOf lv A.length 7) = true ∧ ∀ q, q < A.length → (0 < A.getD q 0 ↔ 0 < (lensOf lv A.length 7).getD q 0) := by
  have hF := lensF A 7 lv hok hs
  have e7 : (7 : Int).toNat = 7 := rfl
  have hr := ref_lens7 A lv hok hs
  rw [e7] at hF
  obtain ⟨Z, hZ⟩ : ∃ Z, Z = lensOf lv A.length 7 := ⟨_, rfl⟩
  rw [← hZ] at hF hr ⊢
  have hsm : Small 7 Z := fun z hz => by
    obtain ⟨q, hq, e⟩ := List.mem_iff_getElem.1 hz
    have h := hF.bd q (by rw [← hF.len]; exact hq)
    have e2 : Z.getD q 0 = z := by simp [List.getD, hq, e]
    rw [e2] at h
    omega
  refine ⟨hF.len, hsm, ?_, hF.pos⟩
  have hz := (hF.pos p hp).1 h0
  have hzl : p < Z.length := by rw [hF.len]; exact hp
  have hn1 : kindS Z ≠ 1 := by
    unfold kindS
    have hc : Z.length ≠ Z.count 0 := fun e => by
      have hall := List.count_eq_length.1 e.symm
      have e2 : Z.getD p 0 = Z[p] := by simp [List.getD, hzl]
      have := hall _ (List.getElem_mem hzl)
      rw [e2, ← this] at hz
      omega
    rw [if_neg hc]
    split
    · decide
    · split
      · decide
      · split <;> decide
  unfold fullB kindA
  have hlen := hok.len
  rw [if_pos ⟨by rw [hF.len]; exact hlen, small7_15 hsm⟩]
  unfold refS at hr
  rcases kindS_of Z with k | k | k | k | k <;> simp [k] at hr hn1 ⊢
end Go.Proofs.Ytpdlkmacdmnamaa

namespace Go.Proofs.Ytpdlkmacdmnamaa
open Go.RowKit
set_option linter.unusedVariables false
set_option linter.unusedSimpArgs false

set_option maxRecDepth 20000 in
set_option maxHeartbeats 2000000 in
theorem grow_nil (n : Nat) (w : World) (hn : 1 ≤ n ∧ n ≤ 100000) :
    Calls Try.prog 46 #[.slice none 0 0, .int .i64 (n : Int)] w fun e w' => ∃ c, e = .returned (.slice (some ⟨w.heap.size, 0, none⟩) 0 c) ∧ IntSt w w' (some ⟨w.heap.size, 0, none⟩) 0 c [] := by
  obtain ⟨i0, hi, hz0, hz1, hz2⟩ := info_parts infoI
  have h1 : ¬ ((n : Int) < 0) := by omega
  have h2 : (0 : Int) < (n : Int) := by omega
  have hold : (Builtin.firstCells i0.size 0 (.slice none 0 0)).run Try.prog w.drew = .ok #[] w.drew := run_firstCells_none w.drew i0.size 0 0 0
  have hrz : ∀ ty, (Builtin.append_ #[23, 3] ty #[.slice none 0 0, .int .i64 (n : Int)]).run Try.prog w =
      .ok (.slice (some ⟨w.heap.size, 0, none⟩) n (grownCap w n 0 3)) (w.drew.alloc (.cells (([] : List Value).toArray ++ Builtin.zeroCells (Value.int .i64 0).cells n ++ Builtin.zeroCells (Value.int .i64 0).cells (grownCap w n 0 3 - n)) 3)) := fun ty => by
    have h := Lib.run_append_grow_zeros w 23 3 ty 3 i0 (.int .i64 0) .i64 .i64 Try.underlying23 rfl hi hz0 none 0 0 [] hold n (by omega) (by rw [hz1]; omega) (by omega) (by omega)
      (by rw [hz2]; omega)
      (by rw [Nat.zero_add]; exact growslice_fits (by omega) (by rw [hz2]; omega))
    rw [Nat.zero_add] at h
    exact h
  have hGn : n ≤ grownCap w n 0 3 := grownCap_ge w _ _ _
  have hGm : grownCap w n 0 3 ≤ maxLen := grownCap_le_maxLen w n 0 3 (by unfold maxLen; omega)
  obtain ⟨G, hG⟩ : ∃ G, G = grownCap w n 0 3 := ⟨_, rfl⟩
  rw [← hG] at hrz hGn hGm
  have hcz : ∀ k, (Builtin.zeroCells (Value.int .i64 0).cells k).size = k := fun k => by simp [Builtin.zeroCells, Value.cells]
  obtain ⟨cs, hcs⟩ : ∃ cs : Array Value, cs = ([] : List Value).toArray ++ Builtin.zeroCells (Value.int .i64 0).cells n ++ Builtin.zeroCells (Value.int .i64 0).cells (G - n) := ⟨_, rfl⟩
  have hsz : cs.size = G := by rw [hcs]; simp [hcz]; omega
  rw [← hcs] at hrz
  have hst : IntSt w (w.drew.alloc (.cells cs 3)) (some ⟨w.heap.size, 0, none⟩) 0 G [] := ⟨rfl, ⟨rfl, .inr ⟨w.heap.size, G, cs, rfl, Nat.zero_le _, by simpa using heap_alloc_new w.drew (.cells cs 3), Nat.zero_le _, hGm, by rw [hsz, Nat.mul_one], by simp⟩⟩, (Kept.drew (Kept.refl NoB w)).alloc _, fun k hk => by simp [Value.ownBlock] at hk; omega⟩
  have HSt := Lib.hid hst
  have g63 : (G : Int) ≤ 9223372036854775807 := by unfold maxLen at hGm; omega
  clear hold hG hcs hsz hst hGm hcz
  go_enter Try.func46, Try.ntmps46
  go_wp2_with (at_builtin; refine Lib.wpList_append_run _ rfl _ _ _ _ rfl _ _ rfl rfl _ _ (hrz _) ?_)
  all_goals (go_ret; exact ⟨G, rfl, HSt.out⟩)
set_option maxRecDepth 20000 in
set_option maxHeartbeats 4000000 in
theorem concat_any (H : Nat) (p1 : Addr) (c1 : Nat) (xs : List Int) (p2 : Addr) (c2 B : Nat) (ys : List Int) (w : World) (h0 : w.cell? ⟨H, 0, none⟩ = some (.slice (some p1) xs.length c1)) (h1 : w.cell? ⟨H, 1, none⟩ = some (.slice (some p2) ys.length c2))
    (hx : RdI w B (some p1) xs) (hy : RdI w B (some p2) ys) (hxl : 1 ≤ xs.length ∧ xs.length ≤ 1000) (hyl : ys.length ≤ 1000) :
    Calls Try.prog 26 #[.slice (some ⟨H, 0, none⟩) 2 2] w fun e w' => ∃ a c, e = .returned (.slice a (xs.length + ys.length) c) ∧ IntSt w w' a (xs.length + ys.length) c (xs ++ ys) := by
  have on : ∀ {w : World} {ad : Addr} {B : Nat} {zs : List Int}, RdI w B (some ad) zs → ∀ W, Kept NoB w W → ∀ j u, (zs.map (Value.int .i64))[j]? = some u → W.cell? (ad.add j) = some u := by
    intro w ad B zs hr W hk j u hu
    have hj : j < zs.length := by have := (List.getElem?_eq_some_iff.1 hu).1; simpa using this
    obtain ⟨g, off, he, _, hc⟩ := hr j hj
    cases he
    rw [addr_add, hk.cell hc, ← hu]
    simp [List.getD, hj]
  have hX := on hx; have hY := on hy
  obtain ⟨n, hn⟩ : ∃ n, n = xs.length := ⟨_, rfl⟩
  obtain ⟨m, hm⟩ : ∃ m, m = ys.length := ⟨_, rfl⟩
  rw [← hn] at h0 hxl ⊢
  rw [← hm] at h1 hyl ⊢
  have hC0 : ∀ W, Kept NoB w W → W.cell? ⟨H, 0, none⟩ = some (.slice (some p1) n c1) := fun W hk => hk.cell h0
  have hC1 : ∀ W, Kept NoB w W → W.cell? ⟨H, 1, none⟩ = some (.slice (some p2) m c2) := fun W hk => hk.cell h1
  have HC0 := Lib.hid hC0; have HC1 := Lib.hid hC1; have HX := Lib.hid hX; have HY := Lib.hid hY; have HN := Lib.hid hn; have HM := Lib.hid hm
  have hn1 := hxl.1
  have hn2 := hxl.2
  clear on hX hY hx hy hn hm hC0 hC1 hxl
  go_enter Try.func26, Try.ntmps26
  go_wp2_with fail
  go_loopw [11, 3, 5] (fun v11 v3 _ wr => ∃ i : Nat, v11 = .int .i64 (i : Int) ∧ i ≤ 2 ∧ v3 = .int .i64 ((if i = 0 then 0 else if i = 1 then n else n + m : Nat) : Int) ∧ w = wr) (fun v11 _ _ _ => 2 - (intOf v11).toNat)
  case atStart => exact ⟨0, rfl, by omega, rfl, rfl⟩
  case round =>
    obtain ⟨i, rfl, hi2, rfl, rfl⟩ := hrel
    rcases (show i = 0 ∨ i = 1 ∨ i = 2 by omega) with rfl | rfl | rfl
    · have hg0 : ¬ ((0 : Int) + (n : Int) < 0) := by omega
      have hg1 : ¬ ((n : Int) < 0) := by omega
      go_wp2
      go_roundw
      case rel => exact ⟨1, rfl, by omega, by simp⟩
      case measure => simp [intOf]
    · have hg1 : ¬ ((n : Int) + (m : Int) < 0) := by omega
      have hg2 : IntKind.i64.wrap ((n : Int) + (m : Int)) = ((n + m : Nat) : Int) := by rw [IntWalk.i64_in _ (by omega)]; omega
      have hg3 : ¬ (((n + m : Nat) : Int) < 0) := by omega
      go_wp2
      go_roundw
      case rel => exact ⟨2, rfl, by omega, by simp⟩
      case measure => simp [intOf]
    · obtain ⟨k, hk⟩ : ∃ k, k = n + m := ⟨_, rfl⟩
      rw [if_neg (by decide), if_neg (by decide), ← hk]
      have hgc := grow_nil k w (by omega)
      have HGc := Lib.hid hgc; have HK := Lib.hid hk
      clear hgc hk
      go_wp2_with fail
      with_reducible refine HGc.out.mono ?_
      rintro e w1 ⟨c, rfl, hst⟩
      obtain ⟨G, hG⟩ : ∃ G, G = w.heap.size := ⟨_, rfl⟩
      rw [← hG] at hst ⊢
      have HSt := Lib.hid hst
      clear hst hG HGc
      go_wp2_with fail
      go_loopw [27, 6, 8] (fun v27 v6 _ w2 => ∃ (i : Nat) (a : Option Addr) (c : Nat), v27 = .int .i64 (i : Int) ∧ i ≤ 2 ∧ v6 = .slice a (if i = 0 then 0 else if i = 1 then n else n + m) c ∧ Hid (IntSt w w2 a (if i = 0 then 0 else if i = 1 then n else n + m) c (if i = 0 then [] else if i = 1 then xs else xs ++ ys))) (fun v27 _ _ _ => 2 - (intOf v27).toNat)
      case atStart => exact ⟨0, _, c, rfl, by omega, rfl, HSt⟩
      case round =>
        clear HSt
        obtain ⟨i, a, c, rfl, hi2, rfl, HS⟩ := hrel
        rcases (show i = 0 ∨ i = 1 ∨ i = 2 by omega) with rfl | rfl | rfl
        · have hs := HS.out
          rw [if_pos rfl, if_pos rfl] at hs
          have x0 := HC0.out wr hs.kept
          have hx := HX.out wr hs.kept
          have HS0 := Lib.hid hs; have HXx := Lib.hid hx
          clear hs HS hx
          rw [if_pos rfl]
          go_wp2_with (at_builtin; refine wpList_intsA rfl _ _ rfl HS0.out rfl p1 n c1 xs rfl HN.out.symm HXx.out (by omega) ?_)
          intro a2 c3 w3 hs3 hk3
          have HS3 := Lib.hid hs3
          clear hs3 hk3
          go_wp2
          go_roundw
          case rel => exact ⟨1, a2, c3, rfl, by omega, rfl, HS3⟩
          case measure => simp [intOf]
        · have hs := HS.out
          rw [if_neg (by decide), if_pos rfl, if_neg (by decide), if_pos rfl] at hs
          have x0 := HC1.out wr hs.kept
          have hx := HY.out wr hs.kept
          have HS0 := Lib.hid hs; have HXx := Lib.hid hx
          clear hs HS hx
          rw [if_neg (by decide), if_pos rfl]
          go_wp2_with (at_builtin; refine wpList_intsA rfl _ _ rfl HS0.out rfl p2 m c2 ys rfl HM.out.symm HXx.out (by omega) ?_)
          intro a2 c3 w3 hs3 hk3
          have HS3 := Lib.hid hs3
          clear hs3 hk3
          go_wp2
          go_roundw
          case rel => exact ⟨2, a2, c3, rfl, by omega, rfl, HS3⟩
          case measure => simp [intOf]
        · have hs := HS.out
          rw [if_neg (by decide), if_neg (by decide), if_neg (by decide), if_neg (by decide)] at hs
          rw [if_neg (by decide), if_neg (by decide)]
          have HS0 := Lib.hid hs
          clear hs HS
          go_wp2
          go_ret
          exact ⟨a, c, rfl, HS0.out⟩
end Go.Proofs.Ytpdlkmacdmnamaa
