/-
  lens.writeRuns: runs are put by a code.
  deflate: putType, Stored.
  deflate: allOk, putTokens.
-/
import Derived.Test.YtdpegahcgaicnaaGreatDoorMh20
namespace Go.Proofs.YtdpegahcgaicnaaGreatDoor
open Go.RowKit
set_option linter.unusedVariables false
set_option linter.unusedSimpArgs false

/-- One put more behind what was written. -/
theorem WroteP.put {w w1 w2 : World} {R : Nat} {v0 : Value} {bs bs1 : List Int} {s x n : Nat} {ps : List (Nat × Nat)} {ao1 : Option Addr} {cap1 : Nat} {e : Ending} (h : WroteP w R v0 bs s ps w1 ao1 cap1 bs1) (h2 : PutP w1 R (.slice ao1 bs1.length cap1) bs1 (s + wdN ps) x n e w2) :
    ∃ ao2 cap2 bs2, e = .returned (.bool true) ∧ WroteP w R v0 bs s (ps ++ [(x, n)]) w2 ao2 cap2 bs2 := by
  obtain ⟨hw1, hw2, hw3, hw4⟩ := h
  obtain ⟨ao2, cap2, bs2, rfl, p1, p2, p3, p4⟩ := h2
  refine ⟨ao2, cap2, bs2, rfl, ?_, ?_, ?_, ?_⟩
  · rw [wdN_append]
    simp only [wdN, Nat.add_zero]
    rw [← Nat.add_assoc]
    exact p1
  · rw [putsN_append]
    simp only [putsN, Nat.zero_mul, Nat.add_zero]
    rw [p2, hw2, Nat.add_mul, Nat.add_assoc, Nat.pow_add, Nat.mul_assoc, Nat.mul_comm (2 ^ wdN _) (2 ^ s)]
  · refine hw3.transO p3 ?_
    intro j hj e
    rcases e with e | e
    · exact .inl e
    · rcases hw4 j e with h | h
      · exact .inr h
      · omega
  · intro k hk'
    rcases p4 k hk' with h | h
    · exact hw4 k h
    · have := hw3.size; omega
theorem WroteP.nil {w : World} {R : Nat} {ao : Option Addr} {cap : Nat} {bs : List Int} {s : Nat} (h : Wtr w R ao cap bs s) : WroteP w R (.slice ao bs.length cap) bs s [] w ao cap bs :=
  ⟨h, by simp [putsN], Kept.refl _ _, fun k hk => .inl hk⟩
theorem WroteP.keptNo {w w1 w2 : World} {R : Nat} {v0 : Value} {bs bs1 : List Int} {s : Nat} {ps : List (Nat × Nat)} {ao1 : Option Addr} {cap1 : Nat} (h : WroteP w R v0 bs s ps w1 ao1 cap1 bs1) (hk : Kept NoB w1 w2) : WroteP w R v0 bs s ps w2 ao1 cap1 bs1 :=
  ⟨h.1.keptNo hk, h.2.1, h.2.2.1.transO hk (fun i hi h => h.elim), h.2.2.2⟩
theorem WroteP.app {w w1 w2 : World} {R : Nat} {v0 : Value} {bs bs1 bs2 : List Int} {s : Nat} {ps qs : List (Nat × Nat)} {ao1 ao2 : Option Addr} {cap1 cap2 : Nat} (h : WroteP w R v0 bs s ps w1 ao1 cap1 bs1) (h2 : WroteP w1 R (.slice ao1 bs1.length cap1) bs1 (s + wdN ps) qs w2 ao2 cap2 bs2) : WroteP w R v0 bs s (ps ++ qs) w2 ao2 cap2 bs2 := by
  obtain ⟨hw1, hw2, hw3, hw4⟩ := h
  obtain ⟨p1, p2, p3, p4⟩ := h2
  refine ⟨?_, ?_, ?_, ?_⟩
  · rw [wdN_append, ← Nat.add_assoc]
    exact p1
  · rw [putsN_append, p2, hw2, Nat.add_mul, Nat.add_assoc, Nat.pow_add, Nat.mul_assoc, Nat.mul_comm (2 ^ wdN _) (2 ^ s)]
  · refine hw3.transO p3 ?_
    intro j hj e
    rcases e with e | e
    · exact .inl e
    · rcases hw4 j e with h | h
      · exact .inr h
      · omega
  · intro k hk'
    rcases p4 k hk' with h | h
    · exact hw4 k h
    · have := hw3.size; omega
/-- Runs that lie in blocks of S. -/
def RdRnG (w : World) (S : Nat → Prop) (ao : Option Addr) (rs : List (Int × Int)) : Prop :=
  ∀ i, i < rs.length → ∃ g off, ao = some ⟨g, off, none⟩ ∧ S g ∧ w.cell? ⟨g, off + i * 2, none⟩ = some (.int .i64 (rs.getD i (0, 0)).1) ∧ w.cell? ⟨g, off + i * 2 + 1, none⟩ = some (.int .i64 (rs.getD i (0, 0)).2)
theorem RdRnG.kept {S T : Nat → Prop} {w w' : World} {ao : Option Addr} {rs : List (Int × Int)} (h : RdRnG w S ao rs) (hk : Kept T w w') (hs : ∀ k, S k → ¬ T k) : RdRnG w' S ao rs := fun i hi => by
  obtain ⟨g, o, h1, h2, h3, h4⟩ := h i hi
  exact ⟨g, o, h1, h2, (World.cell?_of_block (hk.block _ (World.block_lt_of_cell? w _ h3) (hs g h2))).trans h3, (World.cell?_of_block (hk.block _ (World.block_lt_of_cell? w _ h4) (hs g h2))).trans h4⟩
theorem wdN_leR (code : List Int) (hs : Small 15 code) : ∀ rs : List (Int × Int), wdN (wordsR code rs) ≤ 22 * rs.length
  | [] => by simp [wordsR, wdN]
  | y :: r => by
    have ih := wdN_leR code hs r
    rw [wordsR_cons, wdN, wdN, List.length_cons]
    have h1 := spanB_le y.1
    have h2 : (wordZ code y.1).2 ≤ 15 := by
      unfold wordZ
      by_cases h : y.1.toNat < code.length
      · have := hs.getD y.1.toNat h
        omega
      · simp [List.getD, List.getElem?_eq_none (Nat.le_of_not_lt h)]
    omega
theorem spanM_lt (s x : Int) (h : 0 ≤ x ∧ x ≤ spanM s) : x.toNat < 2 ^ spanB s := by
  unfold spanM at h
  unfold spanB
  split at h
  · rename_i e; rw [if_pos e]; omega
  · rename_i e; rw [if_neg e]
    split at h
    · rename_i e; rw [if_pos e]; omega
    · rename_i e; rw [if_neg e]
      split at h
      · rename_i e; rw [if_pos e]; omega
      · rename_i e; rw [if_neg e]; omega
set_option maxRecDepth 20000 in
set_option maxHeartbeats 8000000 in
theorem writeRuns_any (code : List Int) (a : Option Addr) (c : Nat) (rs : List (Int × Int)) (ra : Option Addr) (rc : Nat) (S : Nat → Prop) (R : Nat) (ao : Option Addr) (cap : Nat) (bs : List Int) (s : Nat) (w : World)
    (hx : RdG w S a code) (hy : RdRnG w S ra rs) (hw : Wtr w R ao cap bs s) (hSR : ¬ S R) (hSo : ∀ k, (Value.slice ao bs.length cap).ownBlock = some k → ¬ S k) (hs : Small 15 code) (hl : code.length ≤ 320) (hok : refS code = 0)
    (hrs : ∀ y ∈ rs, HasC code y.1 ∧ 0 ≤ y.2 ∧ y.2 ≤ spanM y.1) (hrl : rs.length ≤ 1000) (hss : s ≤ 1100000) :
    Calls Tryz.prog 77 #[.pointer (some ⟨R, 0, none⟩), .slice a code.length c, .slice ra rs.length rc] w fun e w' => ∃ ao' cap' bs', e = .returned (.int .i64 0) ∧ WroteP w R (.slice ao bs.length cap) bs s (wordsR code rs) w' ao' cap' bs' := by
  have HCd := Lib.hid (codes_calls a c _ code w hx.room hs hl hok)
  have HX := Lib.hid hx; have HY := Lib.hid hy; have HW := Lib.hid hw; have HSo := Lib.hid hSo; have HS := Lib.hid hs; have HRs := Lib.hid hrs; have HOk := Lib.hid hok; have HSR := Lib.hid hSR
  obtain ⟨n, hn⟩ : ∃ n, n = code.length := ⟨_, rfl⟩
  have HN := Lib.hid hn
  have hn320 : n ≤ 320 := by omega
  obtain ⟨m, hm⟩ : ∃ m, m = rs.length := ⟨_, rfl⟩
  have HM := Lib.hid hm
  have hm1000 : m ≤ 1000 := by omega
  rw [← hn] at HCd
  rw [← hn, ← hm]
  clear hx hy hw hSo hs hrs hok hn hm hl hrl hSR
  go_enter Tryz.func77, Tryz.ntmps77
  go_wp2_with fail
  refine HCd.out.mono ?_
  intro e w2 hp
  obtain ⟨a4, c4, rfl, ho4, hr4, hk⟩ := codes_read2 hp
  have hne4 : ∀ g, a4 = some ⟨g, 0, none⟩ → g ≠ R ∧ (∀ k, (Value.slice ao bs.length cap).ownBlock = some k → k ≠ g) := by
    rintro g rfl
    have h1 := row_ne ho4 (hk.obj HW.out.1 (fun h => h)) (by decide) g rfl
    refine ⟨h1, fun k hk' e => ?_⟩
    subst e
    rcases ho4.2 with ⟨hv, _⟩ | ⟨g', cc, cur, hv, _, hgg, _⟩
    · simp at hv
    · simp at hv
      obtain ⟨rfl, rfl⟩ := hv
      exact row_ne (hk.row HW.out.2.1 (fun _ _ h => h)) hgg (by decide) _ hk' rfl
  have hcl : (codesL code).length = n := by unfold codesL; rw [codesP_len]; exact HN.out.symm
  rw [hcl] at hr4 ⊢
  have HNe := Lib.hid hne4
  have HR4 := Lib.hid hr4; have HK2 := Lib.hid hk
  clear hp hr4 hk hcl HCd ho4 hne4
  go_wp2
  go_loopw [23, 10, 11, 12] (fun v23 _ _ _ wr => ∃ (i : Nat) (ao' : Option Addr) (cap' : Nat) (bs' : List Int), v23 = .int .i64 (i : Int) ∧ i ≤ m ∧ Hid (WroteP w2 R (.slice ao bs.length cap) bs s (wordsR code (rs.take i)) wr ao' cap' bs')) (fun v23 _ _ _ _ => m - (intOf v23).toNat)
  case atStart => exact ⟨0, ao, cap, bs, rfl, by omega, Lib.hid (WroteP.nil (HW.out.keptNo HK2.out))⟩
  case round =>
    obtain ⟨i, ao', cap', bs', rfl, him, HWr⟩ := hrel
    by_cases hlt2 : (i : Int) < m
    · have hil : i < rs.length := by have := HM.out; omega
      have hdis : ∀ j, S j → ¬ (OrB (OneB R) (OwnB (.slice ao bs.length cap))) j := by
        intro j hj e
        rcases e with e | e
        · unfold OneB at e; exact HSR.out (e ▸ hj)
        · exact HSo.out j e hj
      have hw3 := HWr.out.2.2.1
      obtain ⟨g1, o1, rfl, _, x0, x0'⟩ := ((HY.out.kept HK2.out (fun _ _ h => h)).kept hw3 hdis) i hil
      have htk : rs.take (i + 1) = rs.take i ++ [rs.getD i (0, 0)] := by
        rw [List.take_succ_eq_append_getElem hil]; simp [List.getD, hil]
      have hmem : rs.getD i (0, 0) ∈ rs := by
        have : rs.getD i (0, 0) = rs[i] := by simp [List.getD, hil]
        rw [this]; exact List.getElem_mem hil
      obtain ⟨⟨k, hzk, hkl, hk0⟩, hxx⟩ := HRs.out _ hmem
      obtain ⟨y, hy⟩ : ∃ y, y = rs.getD i (0, 0) := ⟨_, rfl⟩
      rw [← hy] at x0 x0' htk hzk hxx
      obtain ⟨sy, x⟩ := y
      simp only at x0 x0' hzk hxx
      subst hzk
      have hxl := spanM_lt _ _ hxx
      obtain ⟨xn, rfl⟩ : ∃ xn : Nat, x = (xn : Int) := ⟨x.toNat, by omega⟩
      rw [Int.toNat_natCast] at hxl
      obtain ⟨b, hb⟩ : ∃ b, b = spanB (k : Int) := ⟨_, rfl⟩
      have hb7 : b ≤ 7 := by rw [hb]; exact spanB_le _
      have hx128 : xn < 128 := Nat.lt_of_lt_of_le (hb ▸ hxl) (Nat.pow_le_pow_right (n := 2) (by decide) hb7)
      obtain ⟨g2, o2, rfl, _, x1⟩ := ((HX.out.kept HK2.out (fun _ _ h => h)).kept hw3 hdis) k hkl
      obtain ⟨g4, rfl, y0⟩ := HR4.out k (by have := HN.out; omega)
      rw [codesL_get _ _ hkl] at y0
      obtain ⟨hg4R, hg4o⟩ := HNe.out g4 rfl
      have y1 := (World.cell?_of_block (hw3.block _ (World.block_lt_of_cell? w2 _ y0) (fun e => by
        rcases e with e | e
        · exact hg4R e
        · exact hg4o _ e rfl))).trans y0
      have hbk := HS.out.getD k hkl
      obtain ⟨lk, hlk⟩ : ∃ lk : Nat, code.getD k 0 = (lk : Int) := ⟨(code.getD k 0).toNat, by omega⟩
      have hcb := codeAt_bd code (by rw [← HN.out]; exact hn320) HS.out k hkl
      obtain ⟨ck, hck⟩ : ∃ ck : Nat, codeAt code k = (ck : Int) := ⟨(codeAt code k).toNat, by omega⟩
      have hword : wordZ code (k : Int) = (revN lk ck, lk) := by
        unfold wordZ; rw [Int.toNat_natCast, hlk, hck, Int.toNat_natCast, Int.toNat_natCast]
      have hwd : wdN (wordsR code (rs.take i)) ≤ 22 * i := by
        have h1 := wdN_leR code HS.out (rs.take i)
        rw [List.length_take] at h1
        have : min i rs.length ≤ i := Nat.min_le_left _ _
        omega
      rw [hlk] at x1 hbk hk0
      rw [hck] at y1 hcb
      have hcall : ∀ W, Kept NoB wr W → Calls Tryz.prog 70 #[.pointer (some ⟨R, 0, none⟩), .int .u32 (ck : Int), .int .i64 (lk : Int)] W fun e w' => e = .returned (.bool true) ∧ ∃ ao2 cap2 bs2, WroteP w2 R (.slice ao bs.length cap) bs s (wordsR code (rs.take i) ++ [wordZ code (k : Int)]) w' ao2 cap2 bs2 ∧ Kept (OrB (OneB R) (OwnB (.slice ao' bs'.length cap'))) W w' := by
        intro W hk
        have hW := HWr.out.keptNo hk
        have hcl := code_calls W R ao' cap' bs' _ ck lk hW.1 (by omega) (by omega) (by omega) (by omega)
        refine hcl.mono ?_
        intro e w' hp
        have hp2 := hp
        obtain ⟨_, _, _, _, _, _, hkk, _⟩ := hp2
        obtain ⟨ao2, cap2, bs2, rfl, h⟩ := hW.put hp
        exact ⟨rfl, ao2, cap2, bs2, by rw [hword]; exact h, hkk⟩
      have hRlt := obj_lt HWr.out.1.1
      have hAlt : ∀ k, (Value.slice ao' bs'.length cap').ownBlock = some k → k < wr.heap.size := own_lt HWr.out.1.2.1
      have HCall := Lib.hid hcall
      have kn : (k : Int) < n := by have := HN.out; omega
      have HXl := Lib.hid hxl; have HB := Lib.hid hb; have HTk := Lib.hid htk; have HWd := Lib.hid hwd
      have hlk15 : lk ≤ 15 := by omega
      have hword2 : (wordZ code (k : Int)).2 = lk := by rw [hword]
      have HWord := Lib.hid hword2
      clear hcall hword hwd hw3 hck hlk hg4R hg4o y0 hdis hmem hy htk hxx hxl hb HWr hword2
      obtain ⟨H, hH⟩ : ∃ H, H = wr.heap.size := ⟨_, rfl⟩
      have hkA : Kept NoB wr (wr.alloc (.cells #[.int .i64 (k : Int), .int .i64 (xn : Int)] 106)) := (Kept.refl _ _).alloc _
      have hc0 : (wr.alloc (.cells #[.int .i64 (k : Int), .int .i64 (xn : Int)] 106)).cell? ⟨H, 0, none⟩ = some (.int .i64 (k : Int)) := by rw [hH]; exact cell_new 0 rfl
      have hc1 : (wr.alloc (.cells #[.int .i64 (k : Int), .int .i64 (xn : Int)] 106)).cell? ⟨H, 1, none⟩ = some (.int .i64 (xn : Int)) := by rw [hH]; exact cell_new 1 rfl
      have x1' : ∀ W, Kept NoB wr W → W.cell? ⟨g2, o2 + k, none⟩ = some (.int .i64 (lk : Int)) := fun W h => h.cell x1
      have y1' : ∀ W, Kept NoB wr W → W.cell? ⟨g4, k, none⟩ = some (.int .u32 (ck : Int)) := fun W h => h.cell y1
      go_upto_region 7 with fail
      rw [← hH]
      obtain ⟨w3, hw3⟩ : ∃ w3, w3 = wr.alloc (.cells #[.int .i64 (k : Int), .int .i64 (xn : Int)] 106) := ⟨_, rfl⟩
      rw [← hw3] at hc0 hc1 hkA ⊢
      have HkA := Lib.hid hkA
      have x2 : ∀ W, Kept NoB w3 W → W.cell? ⟨g2, o2 + k, none⟩ = some (.int .i64 (lk : Int)) := fun W h => x1' W (HkA.out.trans h)
      have y2 : ∀ W, Kept NoB w3 W → W.cell? ⟨g4, k, none⟩ = some (.int .u32 (ck : Int)) := fun W h => y1' W (HkA.out.trans h)
      have c2 : ∀ W, Kept NoB w3 W → W.cell? ⟨H, 0, none⟩ = some (.int .i64 (k : Int)) := fun W h => h.cell hc0
      have HC1 : Hid (∀ W, Kept NoB w3 W → W.cell? ⟨H, 1, none⟩ = some (.int .i64 (xn : Int))) := Lib.hid (fun W h => h.cell hc1)
      have HCl : Hid (∀ W, Kept NoB w3 W → Calls Tryz.prog 70 #[.pointer (some ⟨R, 0, none⟩), .int .u32 (ck : Int), .int .i64 (lk : Int)] W fun e w' => e = .returned (.bool true) ∧ ∃ ao2 cap2 bs2, WroteP w2 R (.slice ao bs.length cap) bs s (wordsR code (rs.take i) ++ [wordZ code (k : Int)]) w' ao2 cap2 bs2 ∧ Hid (w'.cell? ⟨H, 1, none⟩ = some (.int .i64 (xn : Int)))) := Lib.hid (fun W h => by
        have hH1 := HC1.out W h
        refine (HCall.out W (HkA.out.trans h)).mono ?_
        rintro e w' ⟨rfl, ao2, cap2, bs2, h1, h2⟩
        refine ⟨rfl, ao2, cap2, bs2, h1, (World.cell?_of_block (h2.block _ (World.block_lt_of_cell? W _ hH1) (fun e => ?_))).trans hH1⟩
        rcases e with e | e
        · unfold OneB at e; have e : H = R := e; omega
        · have := hAlt H e; omega)
      have hk0 := Kept.refl NoB w3
      clear hkA hw3 x1 y1 x1' y1' hc1 hH
      go_wp2_with fail
      with_reducible refine (span_any (k : Int) _).mono ?_
      rintro e w4 ⟨rfl, rfl⟩
      rw [← HB.out]
      go_upto_region 8 with fail
      go_region_with (go_at_call 70; ((with_reducible refine (HCl.out _ ?_).mono ?_); (exact ((Kept.refl NoB w3).drewN _)); rintro e wn ⟨rfl, ao2, cap2, bs2, hwn, hcn⟩; have HWn := Lib.hid hwn; have HCn := Lib.hid hcn; clear hwn hcn))
      all_goals
        have cx := HCn.out.out
        have u1 : IntKind.u32.wrap (xn : Int) = (xn : Int) := IntWalk.u32_in _ (by omega)
        have hput := put_any wn R ao2 cap2 bs2 _ xn b HWn.out.1 (by omega) (by omega) (by rw [wdN_append]; have := HWd.out; have := HWord.out; simp only [wdN]; omega)
        rw [Nat.mod_eq_of_lt (HB.out ▸ HXl.out)] at hput
        have HPut := Lib.hid hput
        clear hput
        go_wp2_with fail
        with_reducible refine HPut.out.mono ?_
        intro e w7 hp7
        obtain ⟨ao7, cap7, bs7, rfl, hw7⟩ := HWn.out.put hp7
        have hw8 : WroteP w2 R (.slice ao bs.length cap) bs s (wordsR code (rs.take (i + 1))) w7 ao7 cap7 bs7 := by
          rw [HTk.out, wordsR_snoc]
          have e : (wordZ code (k : Int), ()) = (wordZ code (k : Int), ()) := rfl
          simpa [HB.out] using hw7
        have HW8 := Lib.hid hw8
        clear hp7 hw7 hw8 HPut cx
        go_wp2
        go_roundw
        case rel => exact ⟨i + 1, ao7, cap7, bs7, by go_num, by omega, HW8⟩
        case measure => simp [intOf]; omega
    · have hmi : i = m := by omega
      subst hmi
      have hF : WroteP w R (.slice ao bs.length cap) bs s (wordsR code rs) wr ao' cap' bs' := by
        obtain ⟨h1, h2, h3, h4⟩ := HWr.out
        rw [List.take_of_length_le (by rw [← HM.out]; exact Nat.le_refl _)] at h1 h2
        exact ⟨h1, h2, (HK2.out.mono (fun _ _ h => h.elim)).trans h3, fun k hk => by
          rcases h4 k hk with h | h
          · exact .inl h
          · have := HK2.out.size; exact .inr (by omega)⟩
      have HF := Lib.hid hF
      clear hF
      go_wp2
      go_ret
      exact ⟨rfl, ao', cap', bs', HF.out⟩
end Go.Proofs.YtdpegahcgaicnaaGreatDoor

namespace Go.Proofs.YtdpegahcgaicnaaGreatDoor
open Go.RowKit
set_option linter.unusedVariables false
set_option linter.unusedSimpArgs false

theorem not32 (x : Nat) (h : x < 4294967296) : bits .xor .u32 IntKind.u32.max (x : Int) = ((4294967295 - x : Nat) : Int) := by
  show IntKind.u32.wrap ((BitVec.ofInt 32 IntKind.u32.max ^^^ BitVec.ofInt 32 (x : Int)).toNat : Int) = _
  have h1 : (BitVec.ofInt 32 (x : Int)).toNat = x := by rw [BitVec.ofInt_natCast, BitVec.toNat_ofNat]; exact Nat.mod_eq_of_lt (by omega)
  have e : BitVec.ofInt 32 IntKind.u32.max = BitVec.allOnes 32 := by decide
  rw [e, ← BitVec.not_def, BitVec.toNat_not, h1, IntKind.wrap_u32']
  omega
/-- Behind noughts up to a byte's end. -/
theorem WroteP.align {w w1 w2 : World} {R : Nat} {v0 : Value} {bs bs1 : List Int} {s : Nat} {ps : List (Nat × Nat)} {ao1 : Option Addr} {cap1 : Nat} (h : WroteP w R v0 bs s ps w1 ao1 cap1 bs1) (hw : Wtr w2 R ao1 cap1 bs1 (up8 (s + wdN ps))) (hk : Kept (OneB R) w1 w2) :
    WroteP w R v0 bs s (ps ++ [(0, up8 (s + wdN ps) - (s + wdN ps))]) w2 ao1 cap1 bs1 := by
  obtain ⟨h1, h2, h3, h4⟩ := h
  have hu : s + wdN ps ≤ up8 (s + wdN ps) := by unfold up8; omega
  refine ⟨?_, ?_, h3.transO hk (fun i _ e => .inl e), h4⟩
  · rw [wdN_append]
    simp only [wdN, Nat.add_zero]
    rw [show s + (wdN ps + (up8 (s + wdN ps) - (s + wdN ps))) = up8 (s + wdN ps) by omega]
    exact hw
  · rw [putsN_append, h2]
    simp [putsN]
theorem WroteP.size {w w1 : World} {R : Nat} {v0 : Value} {bs bs1 : List Int} {s : Nat} {ps : List (Nat × Nat)} {ao1 : Option Addr} {cap1 : Nat} (h : WroteP w R v0 bs s ps w1 ao1 cap1 bs1) : Wtr w1 R ao1 cap1 bs1 (s + wdN ps) := h.1
set_option maxRecDepth 20000 in
set_option maxHeartbeats 4000000 in
theorem putType_any (w : World) (R : Nat) (ao : Option Addr) (cap : Nat) (bs : List Int) (s k : Nat) (last : Bool) (h : Wtr w R ao cap bs s) (hk : k < 4) (hs : s ≤ 800000000000) :
    Calls Tryz.prog 34 #[.pointer (some ⟨R, 0, none⟩), .int .u32 (k : Int), .bool last] w fun e w' => ∃ ao' cap' bs', e = .returned (.tuple #[]) ∧ WroteP w R (.slice ao bs.length cap) bs s [(lastN last, 1), (k, 2)] w' ao' cap' bs' := by
  have hl := lastN_lt last
  obtain ⟨b, hb⟩ : ∃ b, b = lastN last := ⟨_, rfl⟩
  have HP1 := put_any w R ao cap bs s b 1 h (by omega) (by decide) (by omega)
  rw [show b % 2 ^ 1 = b by omega] at HP1
  have HP := Lib.hid HP1
  have H0 := Lib.hid (WroteP.nil h)
  have HB := Lib.hid hb
  rw [← hb]
  clear h HP1 hl
  have hgo : ∀ e w1, PutP w R (.slice ao bs.length cap) bs s b 1 e w1 → ∃ ao2 cap2 bs2, e = .returned (.bool true) ∧ WroteP w R (.slice ao bs.length cap) bs s ([] ++ [(b, 1)]) w1 ao2 cap2 bs2 := fun e w1 hp => H0.out.put (by simpa [wdN] using hp)
  have HGo := Lib.hid hgo
  clear hgo
  cases last with
  | false =>
    have hb0 : b = 0 := hb
    subst hb0
    clear hb
    go_enter Tryz.func34, Tryz.ntmps34
    go_wp2_with fail
    refine HP.out.mono ?_
    intro e w1 hp
    obtain ⟨a2, c2, b2, rfl, hW⟩ := HGo.out e w1 hp
    have HP2 := put_any w1 R a2 c2 b2 _ k 2 hW.size (by omega) (by decide) (by simp only [List.nil_append, wdN]; omega)
    rw [show k % 2 ^ 2 = k by omega] at HP2
    have HP2 := Lib.hid HP2; have HW := Lib.hid hW
    clear hW hp
    go_wp2_with fail
    refine HP2.out.mono ?_
    intro e w2 hp2
    obtain ⟨a3, c3, b3, rfl, hW3⟩ := HW.out.put hp2
    have HW3 := Lib.hid hW3
    clear hW3 hp2
    go_wp2
    refine bodyPost_end (results_none rfl _ _ _) rfl ?_
    exact ⟨a3, c3, b3, rfl, HW3.out⟩
  | true =>
    have hb1 : b = 1 := hb
    subst hb1
    clear hb
    go_enter Tryz.func34, Tryz.ntmps34
    go_wp2_with fail
    refine HP.out.mono ?_
    intro e w1 hp
    obtain ⟨a2, c2, b2, rfl, hW⟩ := HGo.out e w1 hp
    have HP2 := put_any w1 R a2 c2 b2 _ k 2 hW.size (by omega) (by decide) (by simp only [List.nil_append, wdN]; omega)
    rw [show k % 2 ^ 2 = k by omega] at HP2
    have HP2 := Lib.hid HP2; have HW := Lib.hid hW
    clear hW hp
    go_wp2_with fail
    refine HP2.out.mono ?_
    intro e w2 hp2
    obtain ⟨a3, c3, b3, rfl, hW3⟩ := HW.out.put hp2
    have HW3 := Lib.hid hW3
    clear hW3 hp2
    go_wp2
    refine bodyPost_end (results_none rfl _ _ _) rfl ?_
    exact ⟨a3, c3, b3, rfl, HW3.out⟩
theorem bytesW_snoc (b : List Int) (j : Nat) (h : j < b.length) (z : Nat) (hz : b.getD j 0 = (z : Int)) : bytesW (b.take (j + 1)) = bytesW (b.take j) ++ [(z, 8)] := by
  unfold bytesW
  rw [List.take_add_one, List.getElem?_eq_getElem h]
  simp only [List.getD, List.getElem?_eq_getElem h, Option.getD_some] at hz
  simp [hz]
set_option maxRecDepth 20000 in
set_option maxHeartbeats 8000000 in
theorem stored_yes (w : World) (R : Nat) (ao : Option Addr) (cap : Nat) (bs : List Int) (s : Nat) (last : Bool) (ba : Option Addr) (bc : Nat) (b : List Int) (h : Wtr w R ao cap bs s) (hs : s ≤ 700000000000) (hr : Reads w ba b) (hb : AllB b) (hl : b.length ≤ 65535)
    (hsep : ∀ a, ba = some a → a.block ≠ R ∧ (Value.slice ao bs.length cap).ownBlock ≠ some a.block) :
    Calls Tryz.prog 12 #[.pointer (some ⟨R, 0, none⟩), .slice ba b.length bc, .bool last] w fun e w' => ∃ ao' cap' bs', e = .returned (.int .i64 0) ∧ WroteP w R (.slice ao bs.length cap) bs s (storedW last (up8 (s + 3) - (s + 3)) b) w' ao' cap' bs' := by
  have HT := Lib.hid (putType_any w R ao cap bs s 0 last h (by decide) (by omega))
  have HRd : Hid (∀ W, Kept (OrB (OneB R) (OwnB (.slice ao bs.length cap))) w W → Reads W ba b) := Lib.hid fun W hk => hr.kept hk (fun a ha e => by
    rcases e with e | e
    · exact (hsep a ha).1 e
    · exact (hsep a ha).2 e)
  have HBs : Hid (∀ j, j < b.length → ∃ (g off z : Nat), ba = some ⟨g, off, none⟩ ∧ b.getD j 0 = (z : Int) ∧ z < 256) := Lib.hid fun j hj => by
    obtain ⟨g, off, hba, _, _⟩ := hr.at (by omega)
    have := AllB.getD hb j
    exact ⟨g, off, (b.getD j 0).toNat, hba, by omega, by omega⟩
  obtain ⟨L, hL⟩ : ∃ L, L = b.length := ⟨_, rfl⟩
  have HL := Lib.hid hL
  have hLl : L ≤ 65535 := by rw [hL]; exact hl
  have hw32 : IntKind.u32.wrap (L : Int) = (L : Int) := IntWalk.u32_in _ (by omega)
  obtain ⟨Z, hZ⟩ : ∃ Z, Z = 4294967295 - L := ⟨_, rfl⟩
  have hx1 : bits .xor .u32 IntKind.u32.max (L : Int) = (Z : Int) := by rw [hZ]; exact not32 L (by omega)
  have hx2 : bits .xor .u32 (if IntKind.u32.signed = true then -1 else IntKind.u32.max) (L : Int) = (Z : Int) := hx1
  have hZb : Z < 4294967296 := by omega
  have hZ16 : Z % 2 ^ 16 = 65535 - L := by omega
  have HZ16 := Lib.hid hZ16
  rw [← hL]
  clear h hr hb hl hsep hL hZ hZ16
  go_enter Tryz.func12, Tryz.ntmps12
  go_wp2_with fail
  refine HT.out.mono ?_
  rintro e w1 ⟨a1, c1, b1, rfl, hW1⟩
  have HA := Lib.hid (walign_any w1 R a1 c1 b1 _ hW1.size (by simp only [wdN]; omega))
  have HW1 := Lib.hid hW1
  clear hW1 HT
  go_wp2_with fail
  refine HA.out.mono ?_
  rintro e w2 ⟨rfl, hw2, hk2⟩
  have hW2 := HW1.out.align hw2 hk2
  have hsz := hW2.size
  have hup : up8 (s + 3) - (s + 3) ≤ 7 := by unfold up8; omega
  have HP3 := put_any w2 R a1 c1 b1 _ L 16 hsz (by omega) (by decide) (by simp only [wdN, wdN_append, Nat.add_zero]; unfold up8; omega)
  rw [show L % 2 ^ 16 = L by omega] at HP3
  have HP3 := Lib.hid HP3; have HW2 := Lib.hid hW2
  clear hw2 hk2 hW2 hsz HA
  go_wp2_with fail
  refine HP3.out.mono ?_
  intro e w3 hp3
  obtain ⟨a3, c3, b3, rfl, hW3⟩ := HW2.out.put hp3
  have hsz := hW3.size
  have HP4 := put_any w3 R a3 c3 b3 _ Z 16 hsz hZb (by decide) (by simp only [wdN, wdN_append, Nat.add_zero]; unfold up8; omega)
  rw [HZ16.out] at HP4
  have HP4 := Lib.hid HP4; have HW3 := Lib.hid hW3
  clear hp3 hW3 hsz HP3
  go_wp2_with fail
  refine HP4.out.mono ?_
  intro e w4 hp4
  obtain ⟨a4, c4, b4, rfl, hW4⟩ := HW3.out.put hp4
  have HW4 := Lib.hid hW4
  clear hp4 hW4 HP4
  go_wp2_with fail
  go_loopw [9, 30] (fun _x i wr => ∃ (j : Nat) (ao' : Option Addr) (cap' : Nat) (bs' : List Int), j ≤ L ∧ i = .int .i64 (j : Int) ∧ Hid (WroteP w R (.slice ao bs.length cap) bs s ([(lastN last, 1), (0, 2), (0, up8 (s + 3) - (s + 3)), (L, 16), (65535 - L, 16)] ++ bytesW (b.take j)) wr ao' cap' bs')) (fun _ i _ => L - (intOf i).toNat)
  case atStart => exact ⟨0, a4, c4, b4, by omega, rfl, Lib.hid (by simpa [bytesW, wdN] using HW4.out)⟩
  case round =>
    obtain ⟨j, ao', cap', bs', hj, rfl, HW⟩ := hrel
    by_cases hlt : (j : Int) < (L : Int)
    · obtain ⟨g, off, z, rfl, hz, hz256⟩ := HBs.out j (by have := HL.out; omega)
      have hc := (HRd.out wr HW.out.2.2.1).2 _ rfl j (by have := HL.out; omega)
      rw [hz, addr_add] at hc
      have HSn := Lib.hid (bytesW_snoc b j (by have := HL.out; omega) z hz)
      have hwz : IntKind.u32.wrap (z : Int) = (z : Int) := IntWalk.u32_in _ (by omega)
      have hbw := bytesW_wd (b.take j)
      have hbl : (b.take j).length ≤ 65535 := by rw [List.length_take]; omega
      have HP := put_any wr R ao' cap' bs' _ z 8 HW.out.size (by omega) (by decide) (by rw [wdN_append]; simp only [wdN, Nat.add_zero]; omega)
      rw [show z % 2 ^ 8 = z by omega] at HP
      have HP := Lib.hid HP
      clear hz hbw hbl
      go_wp2_with fail
      refine HP.out.mono ?_
      intro e w5 hp5
      obtain ⟨a5, c5, b5, rfl, hW5⟩ := HW.out.put hp5
      rw [List.append_assoc, ← HSn.out] at hW5
      have HW5 := Lib.hid hW5
      clear hW5 hp5 HP hc
      go_wp2
      go_roundw
      case rel => exact ⟨j + 1, a5, c5, b5, by omega, by go_num, HW5⟩
      case measure => simp [intOf]; omega
    · obtain rfl : j = L := by omega
      go_wp2
      go_ret
      refine ⟨rfl, ao', cap', bs', ?_⟩
      have h := HW.out
      rw [List.take_of_length_le (by rw [← HL.out]; exact Nat.le_refl _)] at h
      unfold storedW
      rw [← HL.out]
      exact h
end Go.Proofs.YtdpegahcgaicnaaGreatDoor

namespace Go.Proofs.YtdpegahcgaicnaaGreatDoor
open Go.RowKit
set_option linter.unusedVariables false
set_option linter.unusedSimpArgs false

theorem WroteP.base {w w2 w1 : World} {R : Nat} {v0 : Value} {bs bs1 : List Int} {s : Nat} {ps : List (Nat × Nat)} {ao1 : Option Addr} {cap1 : Nat} (h : WroteP w2 R v0 bs s ps w1 ao1 cap1 bs1) (hk : Kept NoB w w2) : WroteP w R v0 bs s ps w1 ao1 cap1 bs1 :=
  ⟨h.1, h.2.1, (hk.mono (fun _ _ e => e.elim)).trans h.2.2.1, fun k hk2 => by
    rcases h.2.2.2 k hk2 with e | e
    · exact .inl e
    · have := hk.size; exact .inr (by omega)⟩
/-- One code word more. -/
theorem WroteP.code {w wr : World} {R : Nat} {v0 : Value} {bs bs' : List Int} {s : Nat} {ps : List (Nat × Nat)} {ao' : Option Addr} {cap' : Nat} (h : WroteP w R v0 bs s ps wr ao' cap' bs') {ls : List Int} (hs : Small 15 ls) (hl : ls.length ≤ 320) {k : Nat} (hk : k < ls.length) (h0 : 0 < ls.getD k 0) (hsz : s + wdN ps ≤ 800000000000) :
    ∃ ck lk : Nat, ls.getD k 0 = (lk : Int) ∧ codeAt ls k = (ck : Int) ∧ wdN [wordZ ls (k : Int)] ≤ 15 ∧ ∀ W, Kept NoB wr W → Calls Tryz.prog 70 #[.pointer (some ⟨R, 0, none⟩), .int .u32 (ck : Int), .int .i64 (lk : Int)] W fun e w' => e = .returned (.bool true) ∧ ∃ ao2 cap2 bs2, WroteP w R v0 bs s (ps ++ [wordZ ls (k : Int)]) w' ao2 cap2 bs2 := by
  have hb := hs.getD k hk
  obtain ⟨lk, hlk⟩ : ∃ lk : Nat, ls.getD k 0 = (lk : Int) := ⟨(ls.getD k 0).toNat, by omega⟩
  have hcb := codeAt_bd ls hl hs k hk
  obtain ⟨ck, hck⟩ : ∃ ck : Nat, codeAt ls k = (ck : Int) := ⟨(codeAt ls k).toNat, by omega⟩
  have hword : wordZ ls (k : Int) = (revN lk ck, lk) := by
    unfold wordZ; rw [Int.toNat_natCast, hlk, hck, Int.toNat_natCast, Int.toNat_natCast]
  rw [hlk] at hb h0
  refine ⟨ck, lk, hlk, hck, by rw [hword]; simp only [wdN]; omega, fun W hW => ?_⟩
  have hw := h.keptNo hW
  refine (code_calls W R ao' cap' bs' _ ck lk hw.1 (by rw [hck] at hcb; omega) (by omega) (by omega) (by omega)).mono ?_
  intro e w' hp
  obtain ⟨a2, c2, b2, rfl, hW2⟩ := hw.put hp
  rw [hword]
  exact ⟨rfl, a2, c2, b2, hW2⟩
def allOkB (ts : List Tk) : Bool := ts.all Tk.ok
set_option maxRecDepth 20000 in
set_option maxHeartbeats 4000000 in
theorem allOk_any (ta : Option Addr) (tc : Nat) (ts : List Tk) (w : World) (hr : Toks w ta ts) (hl : ts.length ≤ maxLen) :
    Calls Tryz.prog 36 #[.slice ta ts.length tc] w fun e w' => e = .returned (.bool (allOkB ts)) ∧ Kept NoB w w' := by
  have HR := Lib.hid hr
  obtain ⟨L, hL⟩ : ∃ L, L = ts.length := ⟨_, rfl⟩
  have HL := Lib.hid hL
  unfold maxLen at hl
  rw [← hL] at hl ⊢
  obtain ⟨A, hA⟩ : ∃ A, A = allOkB ts := ⟨_, rfl⟩
  have HA := Lib.hid hA
  rw [← hA]
  clear hr hL hA
  go_enter Tryz.func36, Tryz.ntmps36
  go_wp2_with fail
  go_loopw [4, 7] (fun _x i wr => ∃ j : Nat, j ≤ L ∧ i = .int .i64 (j : Int) ∧ Hid (∀ k, k < j → (ts.getD k ⟨0, 0, 0⟩).ok = true) ∧ Hid (Kept NoB w wr)) (fun _ i _ => L - (intOf i).toNat)
  case atStart => exact ⟨0, by omega, rfl, Lib.hid (fun k hk => absurd hk (by omega)), Kept.refl _ _⟩
  case round =>
    obtain ⟨j, hj, rfl, HO, HK⟩ := hrel
    by_cases hlt : (j : Int) < (L : Int)
    · have hjt : j < ts.length := by have := HL.out; omega
      have hjL : j < L := by omega
      obtain ⟨b, off, rfl, c0, c1, c2⟩ := (HR.out.keptNo HK.out) j hjt
      obtain ⟨t, ht⟩ : ∃ t, t = ts.getD j ⟨0, 0, 0⟩ := ⟨_, rfl⟩
      have HT := Lib.hid ht
      rw [← ht] at c0 c1 c2
      clear ht
      obtain ⟨l, d, c⟩ := t
      have HOk := Lib.hid (fun W => ok_any ⟨l, d, c⟩ W)
      unfold Tk.v at HOk
      simp only at c0 c1 c2 HOk
      obtain ⟨ob, hob⟩ : ∃ ob, ob = (Tk.mk l d c).ok := ⟨_, rfl⟩
      rw [← hob] at HOk
      have HOb := Lib.hid hob
      clear hob hjt
      go_wp2_with fail
      refine (HOk.out _).mono ?_
      rintro e w1 ⟨rfl, hk1⟩
      have HK1 := Lib.hid ((HK.out.alloc _).trans hk1)
      clear hk1 c0 c1 c2
      cases ob with
      | false =>
        have hAf : A = false := by
          rw [HA.out]
          unfold allOkB
          rw [List.all_eq_false]
          have hjl : j < ts.length := by have := HL.out; omega
          refine ⟨ts[j], List.getElem_mem hjl, ?_⟩
          have h1 := HT.out
          rw [List.getD, List.getElem?_eq_getElem hjl, Option.getD_some] at h1
          rw [← h1, ← HOb.out]
          decide
        subst hAf
        go_wp2
        go_ret
        exact ⟨rfl, HK1.out⟩
      | true =>
        go_wp2
        go_roundw
        case rel =>
          refine ⟨j + 1, by omega, by go_num, Lib.hid fun k hk => ?_, HK1⟩
          by_cases hkj : k < j
          · exact HO.out k hkj
          · obtain rfl : k = j := by omega
            rw [← HT.out]; exact HOb.out.symm
        case measure => simp [intOf]; omega
    · obtain rfl : j = L := by omega
      have hAt : A = true := by
        rw [HA.out]
        unfold allOkB
        rw [List.all_eq_true]
        intro t ht
        obtain ⟨i, hi, rfl⟩ := List.getElem_of_mem ht
        have := HO.out i (by have := HL.out; omega)
        rw [List.getD, List.getElem?_eq_getElem hi, Option.getD_some] at this
        exact this
      subst hAt
      go_wp2
      go_ret
      exact ⟨rfl, HK.out⟩
end Go.Proofs.YtdpegahcgaicnaaGreatDoor
