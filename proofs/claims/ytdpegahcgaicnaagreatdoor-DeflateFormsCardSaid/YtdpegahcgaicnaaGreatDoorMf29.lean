/-
  The law's own fixed block, by the document's writer.
  deflate.Stored of bytes that are there; of none nothing is asked.
  The writer and the document's own writer, side by side: what one call does to both.
  The writer and the document's, side by side, block by block.
-/
import Derived.Test.YtdpegahcgaicnaaGreatDoorMf28
namespace Go.Proofs.YtdpegahcgaicnaaGreatDoor
open Go.RowKit
set_option linter.unusedVariables false
set_option linter.unusedSimpArgs false
set_option maxRecDepth 20000

theorem WroteO.app {w w1 w2 : World} {R : Nat} {v0 : Value} {bs bs1 bs2 : List Int} {s : Nat} {ps qs : List (Nat × Nat)} {ao1 ao2 : Option Addr} {cap1 cap2 : Nat} (h : WroteO w R v0 bs s ps w1 ao1 cap1 bs1) (h2 : WroteO w1 R (.slice ao1 bs1.length cap1) bs1 (s + wdN ps) qs w2 ao2 cap2 bs2) : WroteO w R v0 bs s (ps ++ qs) w2 ao2 cap2 bs2 := by
  obtain ⟨hw1, hw2, hw3, hw4⟩ := h
  obtain ⟨p1, p2, p3, p4⟩ := h2
  refine ⟨?_, ?_, ?_, ?_⟩
  · rw [wdN_append, ← Nat.add_assoc]
    exact p1
  · rw [putsN_append, p2, hw2, Nat.add_mul, Nat.add_assoc, Nat.pow_add, Nat.mul_assoc, Nat.mul_comm (2 ^ wdN _) (2 ^ s)]
  · refine hw3.transO p3 ?_
    intro j hj e
    rcases e with e | e
    · exact .inl e
    · rcases hw4 j e with h | h
      · exact .inr h
      · omega
  · intro k hk'
    rcases p4 k hk' with h | h
    · exact hw4 k h
    · have := hw3.size; omega
/-- One code word more. -/
theorem WroteO.code {w wr : World} {R : Nat} {v0 : Value} {bs bs' : List Int} {s : Nat} {ps : List (Nat × Nat)} {ao' : Option Addr} {cap' : Nat} (h : WroteO w R v0 bs s ps wr ao' cap' bs') {ls : List Int} (hs : Small 15 ls) (hl : ls.length ≤ 320) {k : Nat} (hk : k < ls.length) (h0 : 0 < ls.getD k 0) (hsz : s + wdN ps ≤ 800000000000) :
    ∃ ck lk rk : Nat, ls.getD k 0 = (lk : Int) ∧ codeAt ls k = (ck : Int) ∧ wdN [wordZ ls (k : Int)] ≤ 15 ∧ (∀ W, Calls Tryz.prog 53 #[.int .u32 (ck : Int), .int .i64 (lk : Int)] W fun e w' => e = .returned (.int .u32 (rk : Int)) ∧ W = w') ∧
      ∀ W, Kept NoB wr W → Calls Tryz.prog 20 #[.pointer (some ⟨R, 0, none⟩), .int .u32 (rk : Int), .int .i64 (lk : Int)] W fun e w' => e = .returned (.bool true) ∧ ∃ ao2 cap2 bs2, WroteO w R v0 bs s (ps ++ [wordZ ls (k : Int)]) w' ao2 cap2 bs2 := by
  have hb := hs.getD k hk
  obtain ⟨lk, hlk⟩ : ∃ lk : Nat, ls.getD k 0 = (lk : Int) := ⟨(ls.getD k 0).toNat, by omega⟩
  have hcb := codeAt_bd ls hl hs k hk
  obtain ⟨ck, hck⟩ : ∃ ck : Nat, codeAt ls k = (ck : Int) := ⟨(codeAt ls k).toNat, by omega⟩
  have hword : wordZ ls (k : Int) = (revN lk ck, lk) := by
    unfold wordZ; rw [Int.toNat_natCast, hlk, hck, Int.toNat_natCast, Int.toNat_natCast]
  rw [hlk] at hb h0
  refine ⟨ck, lk, revN lk ck, hlk, hck, by rw [hword]; simp only [wdN]; omega, fun W => refRev_any ck lk W (by rw [hck] at hcb; omega) (by omega), fun W hW => ?_⟩
  rw [hword]
  exact h.puts _ _ (revN_lt _ _) (by omega) (by omega) W hW
theorem fixL_err : errS fixL = 0 := by
  have hm : MayL fixL := ⟨fixL_ok.1, fixL_ok.2.1⟩
  have hk : kindA fixL = 3 := by
    unfold kindA
    rw [if_pos hm]
    decide +kernel
  unfold errS
  rw [hk]
  decide
theorem fixD_err : errS fixD = 0 := by
  have hm : MayL fixD := ⟨fixD_ok.1, fixD_ok.2.1⟩
  have hk : kindA fixD = 3 := by
    unfold kindA
    rw [if_pos hm]
    decide +kernel
  unfold errS
  rw [hk]
  decide
theorem fixL_allI : AllI fixL := by
  intro z hz
  have := fixL_ok.2.1 z hz
  omega
theorem fixD_allI : AllI fixD := by
  intro z hz
  have := fixD_ok.2.1 z hz
  omega
set_option maxHeartbeats 16000000 in
theorem docFixed_any (w : World) (R : Nat) (ao : Option Addr) (cap : Nat) (bs : List Int) (s : Nat) (last : Bool) (ta : Option Addr) (tc : Nat) (ts : List Tk)
    (h : WtrT 45 w R ao cap bs s) (hss : s ≤ 500000000000) (hr : Toks w ta ts) (hsep : ts ≠ [] → ∀ a, ta = some a → a.block ≠ R ∧ (Value.slice ao bs.length cap).ownBlock ≠ some a.block) (htl : ts.length ≤ 2000000) (hwf : AllT ts) (hok : ∀ t ∈ ts, t.ok = true) :
    Calls Tryz.prog 24 #[.pointer (some ⟨R, 0, none⟩), .bool last, .slice ta ts.length tc] w fun e w' => ∃ ao' cap' bs', e = .returned (.tuple #[]) ∧ WroteO w R (.slice ao bs.length cap) bs s ([(lastN last + 2, 3)] ++ (ts.flatMap (tokWd fixL fixD) ++ [wordZ fixL 256])) w' ao' cap' bs' := by
  have H := Lib.hid h; have HR := Lib.hid hr; have HSep := Lib.hid hsep; have HWf := Lib.hid hwf; have HOk := Lib.hid hok
  obtain ⟨L, hL⟩ : ∃ L, L = ts.length := ⟨_, rfl⟩
  have HL := Lib.hid hL
  rw [← hL] at htl ⊢
  have hln := lastN_lt last
  have hP := (WroteO.nil h).puts (lastN last + 2) 3 (by omega) (by decide) (by simp only [wdN]; omega)
  have HP := Lib.hid hP
  clear h hr hsep hwf hok hL hP
  go_enter Tryz.func24, Tryz.ntmps24
  have HF := Lib.hid rfixed_new
  obtain ⟨V, hV⟩ : ∃ V, V = lastN last + 2 := ⟨_, rfl⟩
  have HV := Lib.hid hV
  rw [← hV] at HP ⊢
  go_upto_if 22 with fail
  go_cut [6] (fun v wx => v = .int .u32 (V : Int) ∧ w = wx)
  case first =>
    cases last
    · have hv2 : V = 2 := hV
      subst hv2
      go_wp2
      go_meet
      exact ⟨rfl, rfl⟩
    · have hv2 : V = 3 := hV
      subst hv2
      go_wp2
      go_meet
      exact ⟨rfl, rfl⟩
  case rest =>
  obtain ⟨rfl, rfl⟩ := hcut
  clear hV hln
  go_wp2_with fail
  refine (HP.out _ (Kept.refl _ _)).mono ?_
  rintro e w1 ⟨rfl, a1, c1, b1, hW⟩
  rw [List.nil_append] at hW
  have HW := Lib.hid hW
  clear hW HP
  go_wp2_with fail
  refine (HF.out _).mono ?_
  rintro e w2 ⟨la, lc, da, dc, rfl, wy, hi1, hi2⟩
  have hk2 : Kept NoB w1 w2 := hi1.kept.trans hi2.kept
  have hl := (hi1.onK hi2.kept).reads
  have hd := hi2.reads
  have HFr : Hid ((∀ ad, la = some ad → w1.heap.size ≤ ad.block) ∧ (∀ ad, da = some ad → w1.heap.size ≤ ad.block)) := Lib.hid ⟨fun ad h => hi1.fresh _ (by rw [h]; rfl), fun ad h => Nat.le_trans hi1.kept.size (hi2.fresh _ (by rw [h]; rfl))⟩
  clear hi1 hi2
  have HLr := Lib.hid hl
  have HDr := Lib.hid hd
  have HW1 := Lib.hid HW.out.1
  have HW2 := Lib.hid (HW.out.keptNo hk2)
  have hca := rcodes_yes la lc _ fixL w2 hl fixL_allI fixL_err
  rw [fixL_len] at hca
  have HCa := Lib.hid hca
  clear hl hd hk2 hca HF HW
  go_wp2_with fail
  refine HCa.out.mono ?_
  intro e w3 hp
  obtain ⟨x1, y1, rfl, ho1, hr1, hk3⟩ := codes_read2 hp
  have hcl1 : (codesL fixL).length = 288 := by unfold codesL; rw [codesP_len, fixL_len]
  rw [hcl1] at hr1 ho1 ⊢
  have HR1 := Lib.hid hr1; have HO1 := Lib.hid ho1; have HK3 := Lib.hid hk3
  clear hp hr1 ho1 hk3 hcl1 HCa
  have hcb := rcodes_yes da dc _ fixD w3 (HDr.out.keptNo HK3.out) fixD_allI fixD_err
  rw [fixD_len] at hcb
  have HCb := Lib.hid hcb
  clear hcb
  go_wp2_with fail
  refine HCb.out.mono ?_
  intro e w4 hp
  obtain ⟨x2, y2, rfl, ho2, hr2, hk4⟩ := codes_read2 hp
  have hcl2 : (codesL fixD).length = 32 := by unfold codesL; rw [codesP_len, fixD_len]
  rw [hcl2] at hr2 ho2 ⊢
  have HK4 := Lib.hid hk4
  have hRlt := obj_lt HW1.out.1
  have hAlt : ∀ k, (Value.slice a1 b1.length c1).ownBlock = some k → k < w1.heap.size := own_lt HW1.out.2.1
  have hFresh : ∀ g, w1.heap.size ≤ g → ¬ OrB (OneB R) (OwnB (.slice a1 b1.length c1)) g := fun g hg e => by
    rcases e with e | e
    · unfold OneB at e; omega
    · have := hAlt g e; omega
  have hrow : ∀ (a : Option Addr) (c n : Nat) (zs : List Value) (W : World), W.ownsRow 0 47 1 (.slice a n c) n zs → WtrT 45 W R a1 c1 b1 (s + wdN [(V, 3)]) → ∀ g, a = some ⟨g, 0, none⟩ → ¬ OrB (OneB R) (OwnB (.slice a1 b1.length c1)) g := by
    intro a c n zs W ho hW g hg e
    subst hg
    rcases e with e | e
    · exact row_ne ho hW.1 (by decide) g rfl e
    · rcases ho.2 with ⟨hv, _⟩ | ⟨g', cc, cur, hv, _, hgg, _⟩
      · simp at hv
      · simp at hv
        obtain ⟨rfl, rfl⟩ := hv
        exact row_ne hW.2.1 hgg (by decide) _ e rfl
  have hW3 := HW2.out.keptNo HK3.out
  have hW4 := hW3.keptNo hk4
  have HLi : Hid (CdRd w4 (OrB (OneB R) (OwnB (.slice a1 b1.length c1))) fixL la x1) := Lib.hid fun W hW k hk => by
    obtain ⟨g, o, hla, _, hc⟩ := (HLr.out.keptNo (HK3.out.trans hk4)) k hk
    obtain ⟨h, ha1, hc2⟩ := HR1.out k (by rw [← fixL_len]; exact hk)
    have hc3 := hk4.cell hc2
    rw [codesL_get _ _ hk] at hc3
    exact ⟨g, o, h, hla, (World.cell?_of_block (hW.block _ (World.block_lt_of_cell? w4 _ hc) (hFresh g (HFr.out.1 _ hla)))).trans hc, ha1, (World.cell?_of_block (hW.block _ (World.block_lt_of_cell? w4 _ hc3) (hrow x1 y1 288 _ w3 HO1.out hW3.1 h ha1))).trans hc3⟩
  have HDi : Hid (CdRd w4 (OrB (OneB R) (OwnB (.slice a1 b1.length c1))) fixD da x2) := Lib.hid fun W hW k hk => by
    obtain ⟨g, o, hla, _, hc⟩ := (HDr.out.keptNo (HK3.out.trans hk4)) k hk
    obtain ⟨h, ha1, hc2⟩ := hr2 k (by rw [← fixD_len]; exact hk)
    rw [codesL_get _ _ hk] at hc2
    exact ⟨g, o, h, hla, (World.cell?_of_block (hW.block _ (World.block_lt_of_cell? w4 _ hc) (hFresh g (HFr.out.2 _ hla)))).trans hc, ha1, (World.cell?_of_block (hW.block _ (World.block_lt_of_cell? w4 _ hc2) (hrow x2 y2 32 _ w4 ho2 hW4.1 h ha1))).trans hc2⟩
  have HTk : Hid (∀ W ps W2 a c b, WroteO w R (.slice ao bs.length cap) bs s ps W a c b → Kept NoB W W2 → Toks W2 ta ts) := Lib.hid fun W ps W2 a c b hW hk j hj => by
    obtain ⟨b, off, hta, x0, x1, x2⟩ := HR.out j hj
    have hs := HSep.out (fun e => by rw [e] at hj; simp at hj) _ hta
    have hb : ¬ OrB (OneB R) (OwnB (.slice ao bs.length cap)) b := fun e => e.elim (fun e => hs.1 e) (fun e => hs.2 e)
    have hc : ∀ (o : Nat) (v : Value), w.cell? ⟨b, o, none⟩ = some v → W2.cell? ⟨b, o, none⟩ = some v := fun o v hv => hk.cell ((World.cell?_of_block (hW.2.2.1.block _ (World.block_lt_of_cell? w _ hv) hb)).trans hv)
    exact ⟨b, off, hta, hc _ _ x0, hc _ _ x1, hc _ _ x2⟩
  have HW4 := Lib.hid hW4
  have HN4 := Lib.hid (WroteO.nil hW4.1)
  clear hp hr2 ho2 hk4 hcl2 hRlt hAlt hFresh hrow hW3 hW4 HCb HR1 HO1
  go_wp2_with fail
  obtain ⟨s1, hs1⟩ : ∃ s1, s1 = s + wdN [(V, 3)] := ⟨_, rfl⟩
  have hs1b : s1 ≤ 500000000003 := by rw [hs1]; simp only [wdN]; omega
  rw [← hs1] at HN4
  have HS1 := Lib.hid hs1
  clear hs1
  go_loopw [13, 14, 15, 16, 17, 18, 19, 20, 21] (fun i _a _b _c _d _e _f _g _h wr => ∃ (j : Nat) (ao' : Option Addr) (cap' : Nat) (bs' : List Int), j ≤ L ∧ i = .int .i64 (j : Int) ∧ Hid (wdN ((ts.take j).flatMap (tokWd fixL fixD)) ≤ 48 * j) ∧ Hid (WroteO w4 R (.slice a1 b1.length c1) b1 s1 ((ts.take j).flatMap (tokWd fixL fixD)) wr ao' cap' bs')) (fun i _ _ _ _ _ _ _ _ _ => L - (intOf i).toNat)
  case atStart => exact ⟨0, a1, c1, b1, by omega, rfl, Lib.hid (by simp [wdN]), HN4⟩
  case round =>
    obtain ⟨j, ao', cap', bs', hj, rfl, HWd, HW⟩ := hrel
    by_cases hlt : (j : Int) < (L : Int)
    · have hjt : j < ts.length := by have := HL.out; omega
      have hjL : j < L := by omega
      have hcat : WroteO w R (.slice ao bs.length cap) bs s ([(V, 3)] ++ (ts.take j).flatMap (tokWd fixL fixD)) wr ao' cap' bs' := HW4.out.app (by rw [← HS1.out]; exact HW.out)
      obtain ⟨b, off, rfl, c0, c1', c2⟩ := HTk.out wr _ wr ao' cap' bs' hcat (Kept.refl _ _) j hjt
      obtain ⟨t, ht⟩ : ∃ t, t = ts.getD j ⟨0, 0, 0⟩ := ⟨_, rfl⟩
      have htm : t ∈ ts := by rw [ht, List.getD, List.getElem?_eq_getElem hjt, Option.getD_some]; exact List.getElem_mem hjt
      have hfl : (ts.take (j + 1)).flatMap (tokWd fixL fixD) = (ts.take j).flatMap (tokWd fixL fixD) ++ tokWd fixL fixD t := by
        rw [take_snocT ts j hjt, ← ht, List.flatMap_append]; simp
      obtain ⟨ps, hps⟩ : ∃ ps, ps = (ts.take j).flatMap (tokWd fixL fixD) := ⟨_, rfl⟩
      rw [← hps] at HWd HW hfl
      have HFl := Lib.hid hfl
      have hsh := tok_shape (HWf.out t htm) (HOk.out t htm)
      rw [← ht] at c0 c1' c2
      have HSz := Lib.hid (show s1 + wdN ps ≤ 700000000000 by have := HWd.out; omega)
      clear ht htm hfl hcat hps
      rcases hsh with ⟨k, hk, rfl⟩ | hcp
      · have htw : tokWd fixL fixD ⟨0, 0, (k : Int)⟩ = [wordZ fixL (k : Int)] := rfl
        rw [htw] at HFl
        obtain ⟨k', hkk, hkl, hk0⟩ := fixL_has k (by omega)
        obtain rfl : k = k' := by omega
        obtain ⟨ck, lk, rk, hlk, hck, hw15, hrev, hput⟩ := HW.out.code fixL_ok.2.1 fixL_ok.1 hkl hk0 (by have := HSz.out; omega)
        obtain ⟨g, o, h', rfl, x0, rfl, y0⟩ := HLi.out wr HW.out.2.2.1 k hkl
        rw [hlk] at x0
        rw [hck] at y0
        simp only at c0 c1' c2
        have hkn : (k : Int) < 288 := by omega
        have HNd1 : Hid (wdN (ps ++ [wordZ fixL (k : Int)]) ≤ 48 * (j + 1)) := Lib.hid (by rw [wdN_append]; have := HWd.out; omega)
        have HRev := Lib.hid hrev
        have HPut := Lib.hid hput
        clear hrev hput hlk hck hw15 hkl hk0 hkk htw hjt
        obtain ⟨B, hB⟩ : ∃ B, B = wr.heap.size := ⟨_, rfl⟩
        go_upto_region 13 with fail
        rw [← hB]
        obtain ⟨wb, hwb⟩ : ∃ wb, wb = wr.alloc (.cells #[.int .i64 0, .int .i64 0, .int .u8 (k : Int)] 32) := ⟨_, rfl⟩
        have hbA : Kept NoB wr (wr.alloc (.cells #[.int .i64 0, .int .i64 0, .int .u8 (k : Int)] 32)) := (Kept.refl _ _).alloc _
        rw [← hwb] at hbA ⊢
        have HbA := Lib.hid hbA
        have X0 : ∀ W, Kept NoB wb W → W.cell? ⟨g, o + k, none⟩ = some (.int .i64 (lk : Int)) := fun W h => (HbA.out.trans h).cell x0
        have Y0 : ∀ W, Kept NoB wb W → W.cell? ⟨h', k, none⟩ = some (.int .u32 (ck : Int)) := fun W h => (HbA.out.trans h).cell y0
        have hk0 := Kept.refl NoB wb
        clear hbA hwb hB x0 y0 c0 c1' c2
        go_region_with (first
          | (go_at_call 53; ((with_reducible refine (HRev.out _).mono ?_); rintro e wz ⟨rfl, rfl⟩))
          | (go_at_call 20; ((with_reducible refine (HPut.out _ ?_).mono ?_); (exact HbA.out.trans ((Kept.refl NoB wb).drewN _)); rintro e wn ⟨rfl, ao2, cap2, bs2, hwn⟩; have HWn := Lib.hid hwn; clear hwn)))
        all_goals
          go_wp2
          go_roundw
          case rel => exact ⟨j + 1, ao2, cap2, bs2, by omega, by go_num, by rw [HFl.out]; exact HNd1, by rw [HFl.out]; exact HWn⟩
          case measure => simp [intOf]; omega
      · obtain ⟨n, d, sy, X, v, jj, u, rfl, hn1, hs1, hs2, hX5, hvX, hj30, hD13, huD, _, _, htw, hLS, hDS⟩ := doc_parts hcp
        rw [htw] at HFl
        simp only at c0 c1' c2
        obtain ⟨k', hkk, hkl, hk0⟩ := fixL_has sy (by omega)
        obtain rfl : sy = k' := by omega
        obtain ⟨m', hmm, hml, hm0⟩ := fixD_has jj (by omega)
        obtain rfl : jj = m' := by omega
        obtain ⟨E, hE⟩ : ∃ E, E = de jj := ⟨_, rfl⟩
        rw [← hE] at hD13 huD hDS HFl
        have hn0 : ((n : Int) == 0) = false := by simp; omega
        have hkn : (sy : Int) < 288 := by omega
        have hmn : (jj : Int) < 32 := by omega
        have HLS := Lib.hid hLS
        have HDS := Lib.hid hDS
        have HvX := Lib.hid hvX
        have HuD := Lib.hid huD
        have HKl := Lib.hid hkl; have HK0 := Lib.hid hk0; have HMl := Lib.hid hml; have HM0 := Lib.hid hm0
        clear hkk hmm hkl hk0 hml hm0 hLS hDS hE hvX huD hcp htw hjt
        obtain ⟨B, hB⟩ : ∃ B, B = wr.heap.size := ⟨_, rfl⟩
        go_upto_region 14 with fail
        rw [← hB]
        obtain ⟨wb, hwb⟩ : ∃ wb, wb = wr.alloc (.cells #[.int .i64 (n : Int), .int .i64 (d : Int), .int .u8 0] 32) := ⟨_, rfl⟩
        have hc0 : (wr.alloc (.cells #[.int .i64 (n : Int), .int .i64 (d : Int), .int .u8 0] 32)).cell? ⟨B, 0, none⟩ = some (.int .i64 (n : Int)) := by rw [hB]; exact cell_new 0 rfl
        have hc1 : (wr.alloc (.cells #[.int .i64 (n : Int), .int .i64 (d : Int), .int .u8 0] 32)).cell? ⟨B, 1, none⟩ = some (.int .i64 (d : Int)) := by rw [hB]; exact cell_new 1 rfl
        have hbA : Kept NoB wr (wr.alloc (.cells #[.int .i64 (n : Int), .int .i64 (d : Int), .int .u8 0] 32)) := (Kept.refl _ _).alloc _
        rw [← hwb] at hc0 hc1 hbA ⊢
        have HbA := Lib.hid hbA
        have HC1 : Hid (∀ W, Kept NoB wb W → W.cell? ⟨B, 1, none⟩ = some (.int .i64 (d : Int))) := Lib.hid (fun W h => h.cell hc1)
        clear hwb hB c0 c1' c2 hc1 hbA
        go_wp2_with fail
        refine (HLS.out _).mono ?_
        rintro e wx ⟨rfl, hkx⟩
        have hc1 := HC1.out _ hkx
        have HKx := Lib.hid (HbA.out.trans hkx)
        clear hc0 hkx
        go_wp2_with fail
        refine (HDS.out _).mono ?_
        rintro e wz ⟨rfl, hkz⟩
        have HWz := Lib.hid (HW.out.keptNo (HKx.out.trans hkz))
        clear hkz hc1
        obtain ⟨ck, lk, rk, hlk, hck, hw15, hrev, hput⟩ := HWz.out.code fixL_ok.2.1 fixL_ok.1 HKl.out HK0.out (by have := HSz.out; omega)
        obtain ⟨g, o, h', rfl, x0, rfl, y0⟩ := HLi.out wz HWz.out.2.2.1 sy HKl.out
        rw [hlk] at x0
        rw [hck] at y0
        have HRev := Lib.hid hrev
        have HPut := Lib.hid hput
        have X0 : ∀ W, Kept NoB wz W → W.cell? ⟨g, o + sy, none⟩ = some (.int .i64 (lk : Int)) := fun W h => h.cell x0
        have Y0 : ∀ W, Kept NoB wz W → W.cell? ⟨h', sy, none⟩ = some (.int .u32 (ck : Int)) := fun W h => h.cell y0
        have hk0 := Kept.refl NoB wz
        have HW15 := Lib.hid hw15
        clear hrev hput hlk hck hw15 x0 y0
        go_upto_region 16 with fail
        go_cut [] from 85 to 99 (fun wc => ∃ ao2 cap2 bs2, Hid (WroteO w4 R (.slice a1 b1.length c1) b1 s1 (ps ++ [wordZ fixL (sy : Int)]) wc ao2 cap2 bs2))
        case first =>
          go_region_with (first
            | (go_at_call 53; ((with_reducible refine (HRev.out _).mono ?_); rintro e wz ⟨rfl, rfl⟩))
            | (go_at_call 20; ((with_reducible refine (HPut.out _ ?_).mono ?_); (exact (Kept.refl NoB wz).drewN _); rintro e wn ⟨rfl, ao2, cap2, bs2, hwn⟩; have HWn := Lib.hid hwn; clear hwn)))
          all_goals
            go_wp2
            go_meet
            exact ⟨ao2, cap2, bs2, HWn⟩
        case rest =>
        obtain ⟨ao2, cap2, bs2, HWc⟩ := hcut
        clear X0 Y0 hk0 HRev HPut HWz HKx HC1 HbA
        have hw3 := HWc.out.puts v X HvX.out (by omega) (by rw [wdN_append]; have := HW15.out; have := HSz.out; omega) wc (Kept.refl _ _)
        have HPut2 := Lib.hid hw3
        clear hw3
        go_wp2_with fail
        refine HPut2.out.mono ?_
        rintro e wd ⟨rfl, ao3, cap3, bs3, hw3⟩
        have HW3 := Lib.hid hw3
        clear hw3 HPut2 HWc
        obtain ⟨ck2, lk2, rk2, hlk2, hck2, hw15b, hrev2, hput2⟩ := HW3.out.code fixD_ok.2.1 fixD_ok.1 HMl.out HM0.out (by rw [wdN_append, wdN_append]; have h15 := HW15.out; have := HSz.out; simp only [wdN] at h15 ⊢; omega)
        have hl5 : lk2 = 5 := by
          have h := fixD_get jj (by omega)
          rw [hlk2] at h; omega
        subst hl5
        obtain ⟨g2, o2, h2', rfl, x2, rfl, y2⟩ := HDi.out wd HW3.out.2.2.1 jj HMl.out
        rw [hck2] at y2
        have HRev2 := Lib.hid hrev2
        have HPut3 := Lib.hid hput2
        have HW15b := Lib.hid hw15b
        clear hrev2 hput2 hlk2 hck2 hw15b x2
        go_wp2_with fail
        refine (HRev2.out _).mono ?_
        rintro e we ⟨rfl, rfl⟩
        go_wp2_with fail
        refine (HPut3.out _ (Kept.refl _ _)).mono ?_
        rintro e wf ⟨rfl, ao4, cap4, bs4, hw4⟩
        have HW4f := Lib.hid hw4
        clear hw4 HRev2 HPut3 HW3 y2
        have hw5 := HW4f.out.puts u E HuD.out (by omega) (by rw [wdN_append, wdN_append, wdN_append]; have h1 := HW15.out; have h2 := HW15b.out; have := HSz.out; simp only [wdN] at h1 h2 ⊢; omega) wf (Kept.refl _ _)
        have HPut5 := Lib.hid hw5
        clear hw5
        go_wp2_with fail
        refine HPut5.out.mono ?_
        rintro e wg ⟨rfl, ao5, cap5, bs5, hw5⟩
        have hfin : (ps ++ [wordZ fixL (sy : Int)] ++ [(v, X)] ++ [wordZ fixD (jj : Int)] ++ [(u, E)]) = ps ++ [wordZ fixL (sy : Int), (v, X), wordZ fixD (jj : Int), (u, E)] := by simp
        rw [hfin] at hw5
        have HW5 := Lib.hid hw5
        have HNd1 : Hid (wdN (ps ++ [wordZ fixL (sy : Int), (v, X), wordZ fixD (jj : Int), (u, E)]) ≤ 48 * (j + 1)) := Lib.hid (by rw [wdN_append]; have := HWd.out; have h1 := HW15.out; have h2 := HW15b.out; simp only [wdN] at h1 h2 ⊢; omega)
        clear hw5 hfin HPut5 HW4f
        go_wp2
        go_roundw
        case rel => exact ⟨j + 1, ao5, cap5, bs5, by omega, by go_num, by rw [HFl.out]; exact HNd1, by rw [HFl.out]; exact HW5⟩
        case measure => simp [intOf]; omega
    · have hjL : j = L := by omega
      subst hjL
      have htk : ts.take j = ts := List.take_of_length_le (by rw [← HL.out]; exact Nat.le_refl _)
      rw [htk] at HWd HW
      have hwd := HWd.out
      obtain ⟨ck, lk, rk, hlk, hck, hw15, hrev, hput⟩ := HW.out.code fixL_ok.2.1 fixL_ok.1 (k := 256) (by rw [fixL_len]; omega) (by rw [fixL_get 256 (by omega)]; decide) (by omega)
      have hl7 : lk = 7 := by
        have h := fixL_get 256 (by omega)
        rw [hlk, if_neg (by omega), if_neg (by omega), if_pos (by omega)] at h; omega
      subst hl7
      obtain ⟨g, o, h', rfl, x0, rfl, y0⟩ := HLi.out wr HW.out.2.2.1 256 (by rw [fixL_len]; omega)
      rw [hck] at y0
      have HRev := Lib.hid hrev
      have HPut := Lib.hid hput
      clear hrev hput hlk hck hw15 x0 hwd htk
      go_wp2_with fail
      refine (HRev.out _).mono ?_
      rintro e we ⟨rfl, rfl⟩
      go_wp2_with fail
      refine (HPut.out _ (Kept.refl _ _)).mono ?_
      rintro e wf ⟨rfl, ao4, cap4, bs4, hw4⟩
      have HWf := Lib.hid hw4
      clear hw4 HRev HPut y0
      go_wp2
      refine bodyPost_end (results_none rfl _ _ _) rfl ?_
      refine ⟨ao4, cap4, bs4, rfl, HW4.out.app ?_⟩
      rw [← HS1.out]
      exact HWf.out
end Go.Proofs.YtdpegahcgaicnaaGreatDoor

namespace Go.Proofs.YtdpegahcgaicnaaGreatDoor
open Go.RowKit
set_option linter.unusedVariables false
set_option linter.unusedSimpArgs false
set_option maxRecDepth 20000

set_option maxHeartbeats 8000000 in
theorem stored_yes2 (w : World) (R : Nat) (ao : Option Addr) (cap : Nat) (bs : List Int) (s : Nat) (last : Bool) (ba : Option Addr) (bc : Nat) (b : List Int) (h : Wtr w R ao cap bs s) (hs : s ≤ 700000000000) (hr : Reads w ba b) (hb : AllB b) (hl : b.length ≤ 65535)
    (hsep : b ≠ [] → ∀ a, ba = some a → a.block ≠ R ∧ (Value.slice ao bs.length cap).ownBlock ≠ some a.block) :
    Calls Tryz.prog 12 #[.pointer (some ⟨R, 0, none⟩), .slice ba b.length bc, .bool last] w fun e w' => ∃ ao' cap' bs', e = .returned (.int .i64 0) ∧ WroteP w R (.slice ao bs.length cap) bs s (storedW last (up8 (s + 3) - (s + 3)) b) w' ao' cap' bs' := by
  have HT := Lib.hid (putType_any w R ao cap bs s 0 last h (by decide) (by omega))
  have HRd : Hid (∀ W, Kept (OrB (OneB R) (OwnB (.slice ao bs.length cap))) w W → Reads W ba b) := Lib.hid fun W hk => by
    by_cases hne : b = []
    · subst hne; exact ⟨fun _ => rfl, fun a ha i hi => absurd hi (by simp)⟩
    · exact hr.kept hk (fun a ha e => by
        rcases e with e | e
        · exact (hsep hne a ha).1 e
        · exact (hsep hne a ha).2 e)
  have HBs : Hid (∀ j, j < b.length → ∃ (g off z : Nat), ba = some ⟨g, off, none⟩ ∧ b.getD j 0 = (z : Int) ∧ z < 256) := Lib.hid fun j hj => by
    obtain ⟨g, off, hba, _, _⟩ := hr.at (by omega)
    have := AllB.getD hb j
    exact ⟨g, off, (b.getD j 0).toNat, hba, by omega, by omega⟩
  obtain ⟨L, hL⟩ : ∃ L, L = b.length := ⟨_, rfl⟩
  have HL := Lib.hid hL
  have hLl : L ≤ 65535 := by rw [hL]; exact hl
  have hw32 : IntKind.u32.wrap (L : Int) = (L : Int) := IntWalk.u32_in _ (by omega)
  obtain ⟨Z, hZ⟩ : ∃ Z, Z = 4294967295 - L := ⟨_, rfl⟩
  have hx1 : bits .xor .u32 IntKind.u32.max (L : Int) = (Z : Int) := by rw [hZ]; exact not32 L (by omega)
  have hx2 : bits .xor .u32 (if IntKind.u32.signed = true then -1 else IntKind.u32.max) (L : Int) = (Z : Int) := hx1
  have hZb : Z < 4294967296 := by omega
  have hZ16 : Z % 2 ^ 16 = 65535 - L := by omega
  have HZ16 := Lib.hid hZ16
  rw [← hL]
  clear h hr hb hl hsep hL hZ hZ16
  go_enter Tryz.func12, Tryz.ntmps12
  go_wp2_with fail
  refine HT.out.mono ?_
  rintro e w1 ⟨a1, c1, b1, rfl, hW1⟩
  have HA := Lib.hid (walign_any w1 R a1 c1 b1 _ hW1.size (by simp only [wdN]; omega))
  have HW1 := Lib.hid hW1
  clear hW1 HT
  go_wp2_with fail
  refine HA.out.mono ?_
  rintro e w2 ⟨rfl, hw2, hk2⟩
  have hW2 := HW1.out.align hw2 hk2
  have hsz := hW2.size
  have hup : up8 (s + 3) - (s + 3) ≤ 7 := by unfold up8; omega
  have HP3 := put_any w2 R a1 c1 b1 _ L 16 hsz (by omega) (by decide) (by simp only [wdN, wdN_append, Nat.add_zero]; unfold up8; omega)
  rw [show L % 2 ^ 16 = L by omega] at HP3
  have HP3 := Lib.hid HP3; have HW2 := Lib.hid hW2
  clear hw2 hk2 hW2 hsz HA
  go_wp2_with fail
  refine HP3.out.mono ?_
  intro e w3 hp3
  obtain ⟨a3, c3, b3, rfl, hW3⟩ := HW2.out.put hp3
  have hsz := hW3.size
  have HP4 := put_any w3 R a3 c3 b3 _ Z 16 hsz hZb (by decide) (by simp only [wdN, wdN_append, Nat.add_zero]; unfold up8; omega)
  rw [HZ16.out] at HP4
  have HP4 := Lib.hid HP4; have HW3 := Lib.hid hW3
  clear hp3 hW3 hsz HP3
  go_wp2_with fail
  refine HP4.out.mono ?_
  intro e w4 hp4
  obtain ⟨a4, c4, b4, rfl, hW4⟩ := HW3.out.put hp4
  have HW4 := Lib.hid hW4
  clear hp4 hW4 HP4
  go_wp2_with fail
  go_loopw [9, 30] (fun _x i wr => ∃ (j : Nat) (ao' : Option Addr) (cap' : Nat) (bs' : List Int), j ≤ L ∧ i = .int .i64 (j : Int) ∧ Hid (WroteP w R (.slice ao bs.length cap) bs s ([(lastN last, 1), (0, 2), (0, up8 (s + 3) - (s + 3)), (L, 16), (65535 - L, 16)] ++ bytesW (b.take j)) wr ao' cap' bs')) (fun _ i _ => L - (intOf i).toNat)
  case atStart => exact ⟨0, a4, c4, b4, by omega, rfl, Lib.hid (by simpa [bytesW, wdN] using HW4.out)⟩
  case round =>
    obtain ⟨j, ao', cap', bs', hj, rfl, HW⟩ := hrel
    by_cases hlt : (j : Int) < (L : Int)
    · obtain ⟨g, off, z, rfl, hz, hz256⟩ := HBs.out j (by have := HL.out; omega)
      have hc := (HRd.out wr HW.out.2.2.1).2 _ rfl j (by have := HL.out; omega)
      rw [hz, addr_add] at hc
      have HSn := Lib.hid (bytesW_snoc b j (by have := HL.out; omega) z hz)
      have hwz : IntKind.u32.wrap (z : Int) = (z : Int) := IntWalk.u32_in _ (by omega)
      have hbw := bytesW_wd (b.take j)
      have hbl : (b.take j).length ≤ 65535 := by rw [List.length_take]; omega
      have HP := put_any wr R ao' cap' bs' _ z 8 HW.out.size (by omega) (by decide) (by rw [wdN_append]; simp only [wdN, Nat.add_zero]; omega)
      rw [show z % 2 ^ 8 = z by omega] at HP
      have HP := Lib.hid HP
      clear hz hbw hbl
      go_wp2_with fail
      refine HP.out.mono ?_
      intro e w5 hp5
      obtain ⟨a5, c5, b5, rfl, hW5⟩ := HW.out.put hp5
      rw [List.append_assoc, ← HSn.out] at hW5
      have HW5 := Lib.hid hW5
      clear hW5 hp5 HP hc
      go_wp2
      go_roundw
      case rel => exact ⟨j + 1, a5, c5, b5, by omega, by go_num, HW5⟩
      case measure => simp [intOf]; omega
    · obtain rfl : j = L := by omega
      go_wp2
      go_ret
      refine ⟨rfl, ao', cap', bs', ?_⟩
      have h := HW.out
      rw [List.take_of_length_le (by rw [← HL.out]; exact Nat.le_refl _)] at h
      unfold storedW
      rw [← HL.out]
      exact h
end Go.Proofs.YtdpegahcgaicnaaGreatDoor

namespace Go.Proofs.YtdpegahcgaicnaaGreatDoor
open Go.RowKit
set_option linter.unusedVariables false

def okN (n : Int) : Bool := decide (0 ≤ n ∧ n ≤ 32)
def cutN (n : Int) : Nat := if 0 ≤ n ∧ n ≤ 32 then n.toNat else 0
theorem cutN_le (n : Int) : cutN n ≤ 32 := by unfold cutN; split <;> omega
def rv (v : Nat) (n : Int) : Nat := if 0 ≤ n ∧ n ≤ 32 then revN n.toNat v else 0
theorem rv_lt (v : Nat) (n : Int) : rv v n < 4294967296 := by
  unfold rv; split
  · exact Nat.lt_of_lt_of_le (revN_lt _ v) (show 2 ^ n.toNat ≤ 2 ^ 32 from pow_le_pow2 (by omega))
  · decide

theorem put_no (w : World) (R : Nat) (v : Nat) (n : Int) (hn : n < 0 ∨ 32 < n) :
    Calls Tryz.prog 19 #[.pointer (some ⟨R, 0, none⟩), .int .u32 v, .int .i64 n] w fun e w' => e = .returned (.bool false) ∧ w = w' := by
  go_enter Tryz.func19, Tryz.ntmps19
  rcases hn with h | h
  · go_wp2
    go_ret
    exact ⟨rfl, rfl⟩
  · have h0 : ¬ n < 0 := by omega
    go_wp2
    go_ret
    exact ⟨rfl, rfl⟩

/-- What a Put of any width leaves. -/
def PutAll (T : TypeId) (w : World) (R : Nat) (ao : Option Addr) (cap : Nat) (bs : List Int) (s v : Nat) (n : Int) (e : Ending) (w' : World) : Prop :=
  e = .returned (.bool (okN n)) ∧ ∃ ao' cap' bs', WtrT T w' R ao' cap' bs' (s + cutN n) ∧ num bs' = num bs + v % 2 ^ cutN n * 2 ^ s ∧ Kept (OrB (OneB R) (OwnB (.slice ao bs.length cap))) w w' ∧
    (∀ k, (Value.slice ao' bs'.length cap').ownBlock = some k → (Value.slice ao bs.length cap).ownBlock = some k ∨ w.heap.size ≤ k)
theorem wput_all (w : World) (R : Nat) (ao : Option Addr) (cap : Nat) (bs : List Int) (s v : Nat) (n : Int) (h : WtrT 73 w R ao cap bs s) (hv : v < 4294967296) (hs : s ≤ 900000000000) :
    Calls Tryz.prog 19 #[.pointer (some ⟨R, 0, none⟩), .int .u32 v, .int .i64 n] w (PutAll 73 w R ao cap bs s v n) := by
  by_cases hn : 0 ≤ n ∧ n ≤ 32
  · obtain ⟨m, rfl⟩ := Int.eq_ofNat_of_zero_le hn.1
    have e1 : okN m = true := by unfold okN; simp; omega
    have e2 : cutN m = m := by unfold cutN; rw [if_pos hn]; simp
    refine (put_any _ _ _ _ _ _ v m h hv (by omega) hs).mono ?_
    rintro e w' ⟨ao', cap', bs', rfl, h1, h2, h3, h4⟩
    exact ⟨by rw [e1], ao', cap', bs', by rw [e2]; exact h1, by rw [e2]; exact h2, h3, h4⟩
  · have e1 : okN n = false := by unfold okN; simp; omega
    have e2 : cutN n = 0 := by unfold cutN; rw [if_neg hn]
    refine (put_no _ _ v n (by omega)).mono ?_
    rintro e w' ⟨rfl, rfl⟩
    exact ⟨by rw [e1], ao, cap, bs, by rw [e2]; exact h, by rw [e2]; simp [Nat.mod_one], Kept.refl _ _, fun k hk => .inl hk⟩
theorem outPut_all (w : World) (R : Nat) (ao : Option Addr) (cap : Nat) (bs : List Int) (s v : Nat) (n : Int) (h : WtrT 45 w R ao cap bs s) (hv : v < 4294967296) (hs : s ≤ 900000000000) :
    Calls Tryz.prog 20 #[.pointer (some ⟨R, 0, none⟩), .int .u32 v, .int .i64 n] w (PutAll 45 w R ao cap bs s v n) := by
  by_cases hn : 0 ≤ n ∧ n ≤ 32
  · obtain ⟨m, rfl⟩ := Int.eq_ofNat_of_zero_le hn.1
    have e1 : okN m = true := by unfold okN; simp; omega
    have e2 : cutN m = m := by unfold cutN; rw [if_pos hn]; simp
    refine (outPut_any _ _ _ _ _ _ v m h hv (by omega) hs).mono ?_
    rintro e w' ⟨ao', cap', bs', rfl, h1, h2, h3, h4⟩
    exact ⟨by rw [e1], ao', cap', bs', by rw [e2]; exact h1, by rw [e2]; exact h2, h3, h4⟩
  · have e1 : okN n = false := by unfold okN; simp; omega
    have e2 : cutN n = 0 := by unfold cutN; rw [if_neg hn]
    refine (outPut_no _ _ v n (by omega)).mono ?_
    rintro e w' ⟨rfl, rfl⟩
    exact ⟨by rw [e1], ao, cap, bs, by rw [e2]; exact h, by rw [e2]; simp [Nat.mod_one], Kept.refl _ _, fun k hk => .inl hk⟩
theorem rev_both (v : Nat) (n : Int) (w : World) (hv : v < 4294967296) :
    Calls Tryz.prog 95 #[.int .u32 v, .int .i64 n] w fun e w' => e = .returned (.int .u32 (rv v n : Nat)) ∧ w = w' := by
  unfold rv
  by_cases hn : 0 ≤ n ∧ n ≤ 32
  · rw [if_pos hn]
    obtain ⟨m, rfl⟩ := Int.eq_ofNat_of_zero_le hn.1
    exact rev_all v m w hv (by omega)
  · rw [if_neg hn]
    exact rev_no v n w (by omega)
theorem refRev_both (v : Nat) (n : Int) (w : World) (hv : v < 4294967296) :
    Calls Tryz.prog 53 #[.int .u32 v, .int .i64 n] w fun e w' => e = .returned (.int .u32 (rv v n : Nat)) ∧ w = w' := by
  unfold rv
  by_cases hn : 0 ≤ n ∧ n ≤ 32
  · rw [if_pos hn]
    obtain ⟨m, rfl⟩ := Int.eq_ofNat_of_zero_le hn.1
    exact refRev_any v m w hv (by omega)
  · rw [if_neg hn]
    exact refRev_no v n w (by omega)
set_option maxHeartbeats 1000000 in
theorem code_all (w : World) (R : Nat) (ao : Option Addr) (cap : Nat) (bs : List Int) (s v : Nat) (n : Int) (h : WtrT 73 w R ao cap bs s) (hv : v < 4294967296) (hs : s ≤ 900000000000) :
    Calls Tryz.prog 70 #[.pointer (some ⟨R, 0, none⟩), .int .u32 v, .int .i64 n] w (PutAll 73 w R ao cap bs s (rv v n) n) := by
  have H := Lib.hid h; clear h
  go_enter Tryz.func70, Tryz.ntmps70
  go_wp2_with fail
  refine (rev_both v n _ hv).mono ?_
  rintro e w1 ⟨rfl, rfl⟩
  go_wp2_with fail
  refine (wput_all _ _ _ _ _ _ (rv v n) n H.out (rv_lt v n) hs).mono ?_
  rintro e w2 ⟨rfl, hp⟩
  have HP := Lib.hid hp; clear hp
  go_wp2
  go_ret
  exact ⟨rfl, HP.out⟩

variable {T1 T2 : TypeId} {w0 w w' : World} {A : Nat} {aoa : Option Addr} {capa : Nat} {ba : List Int} {sa : Nat} {B : Nat} {aob : Option Addr} {capb : Nat} {bb : List Int} {sb : Nat}
theorem both_same {T1 T2 : TypeId} (h : Two T1 T2 w0 w A aoa capa ba sa B aob capb bb sb) (hs : sb = sa) (hn : num bb = num ba) : Two T1 T2 w0 w A aoa capa ba sa B aob capb ba sa := by
  have e : bb = ba := num_inj _ _ h.b.2.2.1 h.a.2.2.1 (by rw [h.b.2.2.2.1, h.a.2.2.2.1, hs]) hn
  subst hs e
  exact h
/-- Both are aligned. -/
theorem Two.alignA (h : Two 73 T2 w0 w A aoa capa ba sa B aob capb bb sb) (hs : sa ≤ 900000000000) (W : World) (hk : Kept NoB w W) :
    Calls Tryz.prog 35 #[.pointer (some ⟨A, 0, none⟩)] W fun e W' => e = .returned (.tuple #[]) ∧ Hid (Two 73 T2 w0 W' A aoa capa ba (up8 sa) B aob capb bb sb) := by
  have hT := h.keptNo hk
  refine (walign_any _ _ _ _ _ _ hT.a hs).mono ?_
  rintro e W' ⟨rfl, h1, h2⟩
  exact ⟨rfl, hT.put h1 (h2.mono fun k _ hk => .inl hk) (fun k hk => .inl hk)⟩
theorem Two.alignB (h : Two T1 45 w0 w A aoa capa ba sa B aob capb bb sb) (hs : sb ≤ 800000000000) (W : World) (hk : Kept NoB w W) :
    Calls Tryz.prog 21 #[.pointer (some ⟨B, 0, none⟩)] W fun e W' => e = .returned (.tuple #[]) ∧ ∃ ao' cap' bb', Hid (Two T1 45 w0 W' A aoa capa ba sa B ao' cap' bb' (up8 sb)) ∧ Hid (num bb' = num bb) := by
  have hT := (h.keptNo hk).swap
  refine (outAlign_any _ _ _ _ _ _ hT.a hs).mono ?_
  rintro e W' ⟨rfl, ao', cap', bs', hA⟩
  obtain ⟨_, _, h1, h2, h3, h4⟩ := hA.out
  exact ⟨rfl, ao', cap', bs', (hT.put h1 h3 h4).swap, h2⟩
end Go.Proofs.YtdpegahcgaicnaaGreatDoor

namespace Go.Proofs.YtdpegahcgaicnaaGreatDoor
open Go.RowKit
set_option linter.unusedVariables false
set_option linter.unusedSimpArgs false

variable {T1 T2 : TypeId} {w0 w w' : World} {A : Nat} {aoa : Option Addr} {capa : Nat} {ba : List Int} {sa : Nat} {B : Nat} {aob : Option Addr} {capb : Nat} {bb : List Int} {sb : Nat}
theorem Two.outs {qs : List (Nat × Nat)} {a2 : Option Addr} {c2 : Nat} {b2 : List Int} (h : Two T1 45 w0 w A aoa capa ba sa B aob capb bb sb) (ho : WroteO w B (.slice aob bb.length capb) bb sb qs w' a2 c2 b2) :
    Two T1 45 w0 w' A aoa capa ba sa B a2 c2 b2 (sb + wdN qs) ∧ num b2 = num bb + putsN qs * 2 ^ sb :=
  ⟨(h.swap.put ho.1 ho.2.2.1 ho.2.2.2).swap, ho.2.1⟩
theorem Two.ins {ps : List (Nat × Nat)} {a2 : Option Addr} {c2 : Nat} {b2 : List Int} (h : Two 73 T2 w0 w A aoa capa ba sa B aob capb bb sb) (hp : WroteP w A (.slice aoa ba.length capa) ba sa ps w' a2 c2 b2) :
    Two 73 T2 w0 w' A a2 c2 b2 (sa + wdN ps) B aob capb bb sb ∧ num b2 = num ba + putsN ps * 2 ^ sa :=
  ⟨h.put hp.1 hp.2.2.1 hp.2.2.2, hp.2.1⟩
/-- Both hold the same bytes. -/
def DuoF (w0 w : World) (A B : Nat) (bs : List Int) (s : Nat) : Prop := ∃ aoa capa aob capb, Two 73 45 w0 w A aoa capa bs s B aob capb bs s
/-- The first is ahead by what it was given. -/
def HalfF (w0 w : World) (A B : Nat) (bs : List Int) (s : Nat) (ps : List (Nat × Nat)) : Prop := ∃ aoa capa b2 aob capb, Two 73 45 w0 w A aoa capa b2 (s + wdN ps) B aob capb bs s ∧ num b2 = num bs + putsN ps * 2 ^ s
theorem HalfF.keptNo {A B s : Nat} {bs : List Int} {ps : List (Nat × Nat)} (h : HalfF w0 w A B bs s ps) (hk : Kept NoB w w') : HalfF w0 w' A B bs s ps := by
  obtain ⟨a, c, b2, x, y, h1, h2⟩ := h
  exact ⟨a, c, b2, x, y, h1.keptNo hk, h2⟩
theorem DuoF.keptNo {A B s : Nat} {bs : List Int} (h : DuoF w0 w A B bs s) (hk : Kept NoB w w') : DuoF w0 w' A B bs s := by
  obtain ⟨a, c, x, y, h1⟩ := h
  exact ⟨a, c, x, y, h1.keptNo hk⟩
/-- The document's is as far. -/
theorem Two.duo {A B s : Nat} {bs b2 b3 : List Int} {ps qs : List (Nat × Nat)} {a2 : Option Addr} {c2 : Nat} (h : Two 73 45 w0 w A aoa capa b2 (s + wdN ps) B aob capb bs s) (hn : num b2 = num bs + putsN ps * 2 ^ s)
    (ho : WroteO w B (.slice aob bs.length capb) bs s qs w' a2 c2 b3) (e1 : putsN ps = putsN qs) (e2 : wdN ps = wdN qs) : DuoF w0 w' A B b2 (s + wdN ps) := by
  obtain ⟨h1, h2⟩ := h.outs ho
  exact ⟨_, _, _, _, both_same h1 (by rw [e2]) (by rw [h2, hn, e1])⟩
theorem TokWs.wd {lit dist : List Int} (h1 : Small 15 lit) (h2 : Small 15 dist) {ts : List Tk} {ws : List (Nat × Nat)} (h : TokWs lit dist ts ws) : wdN ws ≤ 48 * ts.length := by
  induction h with
  | nil => simp [wdN]
  | cons a _ ih => have := a.wd h1 h2; rw [wdN_append]; simp only [List.length_cons]; omega
theorem xor16 : ∀ n : Nat, n < 501 → bits .xor .u32 (n : Int) 65535 = ((65535 - n : Nat) : Int) := by decide +kernel
/-- What a stored block is, in the document's own puts. -/
theorem stored_same (last : Bool) (pad : Nat) (b : List Int) : putsN (storedW last pad b) = putsN ([(lastN last, 3)] ++ [(0, pad)] ++ [(b.length, 16)] ++ [(65535 - b.length, 16)] ++ bytesW b) ∧ wdN (storedW last pad b) = wdN ([(lastN last, 3)] ++ [(0, pad)] ++ [(b.length, 16)] ++ [(65535 - b.length, 16)] ++ bytesW b) := by
  unfold storedW
  refine ⟨?_, ?_⟩
  · simp only [List.cons_append, List.nil_append, putsN]
    omega
  · simp only [List.cons_append, List.nil_append, wdN]
    omega
theorem fixed_same (last : Bool) (ws : List (Nat × Nat)) : putsN ([(lastN last, 1), (1, 2)] ++ ws) = putsN ([(lastN last + 2, 3)] ++ ws) ∧ wdN ([(lastN last, 1), (1, 2)] ++ ws) = wdN ([(lastN last + 2, 3)] ++ ws) := by
  refine ⟨?_, ?_⟩
  · simp only [List.cons_append, List.nil_append, putsN]
    omega
  · simp only [List.cons_append, List.nil_append, wdN]
    omega
theorem Two.outB (h : Two T1 45 w0 w A aoa capa ba sa B aob capb bb sb) (v n : Nat) (hv : v < 4294967296) (hn : n ≤ 32) (hs : sb ≤ 900000000000) (W : World) (hk : Kept NoB w W) :
    Calls Tryz.prog 20 #[.pointer (some ⟨B, 0, none⟩), .int .u32 v, .int .i64 n] W fun e W' => e = .returned (.bool true) ∧
      ∃ ao' cap' bb', Hid (Two T1 45 w0 W' A aoa capa ba sa B ao' cap' bb' (sb + n)) ∧ Hid (num bb' = num bb + v % 2 ^ n * 2 ^ sb) := by
  refine (outPut_any _ _ _ _ _ _ v n (h.keptNo hk).b hv hn hs).mono ?_
  rintro e W' ⟨ao', cap', bb', rfl, hW, hN, hK, hO⟩
  exact ⟨rfl, ao', cap', bb', ((h.keptNo hk).swap.put hW hK hO).swap, hN⟩
theorem goods_ok : ∀ {ts : List Tk}, (∀ t ∈ ts, t.ok = true) → allOkB ts = true := fun h => by
  unfold allOkB; rw [List.all_eq_true]; exact h
end Go.Proofs.YtdpegahcgaicnaaGreatDoor
