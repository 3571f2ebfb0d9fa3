/-
  DeflateCounts: each symbol that tokens are told by is counted.
-/
import Derived.Test.YthapkciebphhkaaDoorMd22
namespace Go.Proofs.YthapkciebphhkaaDoor
open Go.RowKit
set_option linter.unusedVariables false
set_option linter.unusedSimpArgs false
set_option maxRecDepth 20000

theorem rlen_sym {n sy v : Nat} (h : (n = 258 ∧ sy = 285) ∨ (∃ i, i < 28 ∧ v < 2 ^ le4 i ∧ n = lb i + v ∧ n ≤ 257 ∧ sy = 257 + i)) (W : World) :
    Calls Tryd.prog 6 #[.int .i64 (n : Int)] W fun e w' => ∃ a b : Nat, e = .returned (.tuple #[.int .i64 (sy : Int), .int .i64 (a : Int), .int .u32 (b : Int)]) ∧ Kept NoB W w' := by
  have hb : 3 ≤ n ∧ n ≤ 258 := by
    rcases h with ⟨rfl, _⟩ | ⟨i, hi, hv, hn, hn2, _⟩
    · omega
    · have := lb_top i hi; omega
  refine (rlenSym_any n W hb).mono ?_
  rintro e w' ⟨k, hk, h1, h2, rfl, hk2⟩
  have e1 : 257 + k = sy := by
    have h28 : bX 28 = 258 := by decide
    rcases h with ⟨rfl, rfl⟩ | ⟨i, hi, hv, hn, hn2, rfl⟩
    · by_cases hk28 : k < 28
      · have := h2 28 hk28 (by omega); omega
      · omega
    · by_cases hk28 : k = 28
      · subst hk28; omega
      · have hk3 : k < 28 := by omega
        have hbi : bX i = lb i := by unfold bX; rw [if_pos hi]
        have hbk : bX k = lb k := by unfold bX; rw [if_pos hk3]
        by_cases c1 : k < i
        · have := h2 i c1 (by omega); omega
        · by_cases c2 : i < k
          · have := lb_next k hk3 i hi c2; omega
          · omega
  exact ⟨eX k, n - bX k, by rw [e1], hk2⟩
theorem rdist_sym {d j u : Nat} (hj : j < 30) (hu : u < 2 ^ de j) (hd : d = db j + u) (W : World) :
    Calls Tryd.prog 7 #[.int .i64 (d : Int)] W fun e w' => ∃ a b : Nat, e = .returned (.tuple #[.int .i64 (j : Int), .int .i64 (a : Int), .int .u32 (b : Int)]) ∧ Kept NoB W w' := by
  have ht := db_top j hj
  refine (rdistSym_any d W (by omega)).mono ?_
  rintro e w' ⟨k, hk, h1, h2, rfl, hk2⟩
  have e1 : k = j := by
    by_cases c1 : k < j
    · have := h2 j c1 (by omega); omega
    · by_cases c2 : j < k
      · have := db_next k (by omega) j hj c2; omega
      · omega
  subst e1
  exact ⟨de k, d - db k, rfl, hk2⟩
theorem doc_syms {t : Tk} (hcp : (∃ j u, j < 30 ∧ u < 2 ^ de j ∧ t = ⟨258, ((db j + u : Nat) : Int), 0⟩) ∨ (∃ i v j u, i < 28 ∧ v < 2 ^ le4 i ∧ lb i + v ≤ 257 ∧ j < 30 ∧ u < 2 ^ de j ∧ t = ⟨((lb i + v : Nat) : Int), ((db j + u : Nat) : Int), 0⟩)) :
    ∃ (n d sy j : Nat), t = ⟨(n : Int), (d : Int), 0⟩ ∧ 1 ≤ n ∧ sy < 286 ∧ j < 30 ∧ litSy t = sy ∧ distSy t = j ∧
    (∀ W, Calls Tryd.prog 6 #[.int .i64 (n : Int)] W fun e w' => ∃ a b : Nat, e = .returned (.tuple #[.int .i64 (sy : Int), .int .i64 (a : Int), .int .u32 (b : Int)]) ∧ Kept NoB W w') ∧
    (∀ W, Calls Tryd.prog 7 #[.int .i64 (d : Int)] W fun e w' => ∃ a b : Nat, e = .returned (.tuple #[.int .i64 (j : Int), .int .i64 (a : Int), .int .u32 (b : Int)]) ∧ Kept NoB W w') := by
  rcases hcp with ⟨j, u, hj, hu, rfl⟩ | ⟨i, v, j, u, hi, hv, hlv, hj, hu, rfl⟩
  · refine ⟨258, db j + u, 285, j, rfl, by decide, by decide, hj, rfl, ?_, rlen_sym (v := 0) (.inl ⟨rfl, rfl⟩), rdist_sym hj hu rfl⟩
    unfold distSy
    rw [Int.toNat_natCast]
    exact db_last hj hu
  · have h3 := lb_top i hi
    refine ⟨lb i + v, db j + u, 257 + i, j, rfl, by omega, by omega, hj, ?_, ?_, rlen_sym (v := v) (.inr ⟨i, hi, hv, rfl, hlv, rfl⟩), rdist_sym hj hu rfl⟩
    · unfold litSy
      rw [if_neg (by simp only; omega), if_neg (by simp only; omega), Int.toNat_natCast, lb_last hi hv]
    · unfold distSy
      rw [Int.toNat_natCast]
      exact db_last hj hu
theorem good_oks {ts : List Tk} (h : good 1048576 ts []) (j : Nat) (hj : j < ts.length) : (ts.getD j ⟨0, 0, 0⟩).ok = true := by
  have := good_at _ ts [] h j hj
  unfold Tk.no at this
  cases hok : (ts.getD j ⟨0, 0, 0⟩).ok with
  | true => rfl
  | false => rw [if_pos hok] at this; exact absurd this (by decide)
theorem OwnZ.rdI {w : World} {G n : Nat} {L : List Int} (h : OwnZ w G n L) (hl : L.length = n) : RdI w w.heap.size (some ⟨G, 0, none⟩) L := h.reads hl
set_option maxHeartbeats 8000000 in
theorem deflateCounts_walk (ta : Option Addr) (tc len : Nat) (ts0 : List Tk) (w : World) (hlen : ts0.length = len) (hr : Toks w ta ts0) (ha : AllT ts0) (hm : len ≤ maxLen) :
    Calls Tryd.prog 3 #[.slice ta len tc] w fun e w' => e = .returned (.bool true) ∧ Kept NoB w w' := by
  have htm := tame_any ta tc len ts0 60 w hlen hr ha hm (by decide)
  rw [show ((60 : Nat) : Int) = 60 from rfl] at htm
  have HTm := Lib.hid htm
  have HAw := Lib.hid awake10
  clear hlen hr ha hm htm
  go_enter Tryd.func3, Tryd.ntmps3
  go_wp2_with fail
  refine HTm.out.mono ?_
  rintro e w1 ⟨ao, cap, ts, n0, rfl, HR, HS, hl60, hlc, hcm, hn0, HK1⟩
  have HC := Lib.hid (counts_any2 ao cap ts w1 HR.out (by omega) HS.out.1)
  obtain ⟨L, hL⟩ : ∃ L, L = ts.length := ⟨_, rfl⟩
  have HL := Lib.hid hL
  rw [← hL] at HC hl60 ⊢
  clear hL HTm hlc hn0
  go_wp2_with fail
  refine HC.out.mono ?_
  rintro e w2 ⟨G, H, rfl, hT⟩
  have HT := Lib.hid hT
  clear hT HC
  obtain ⟨wa, wb, ra, rb, tab⟩ := make_two w2.drew 286 30 (by decide) (by decide)
  obtain ⟨wc, wd, rc, rd, tcd⟩ := make_two w2.drew 30 286 (by decide) (by decide)
  have T1 := Lib.hid tab; have T2 := Lib.hid tcd
  have ra : (Instr.makeSlice 24 (.int .i64 286) (.int .i64 286)).run Tryd.prog w2.drew = .ok (.slice (some ⟨w2.heap.size, 0, none⟩) 286 286) wa := ra
  have rb : (Instr.makeSlice 24 (.int .i64 30) (.int .i64 30)).run Tryd.prog wa = .ok (.slice (some ⟨wa.heap.size, 0, none⟩) 30 30) wb := rb
  have rc : (Instr.makeSlice 24 (.int .i64 30) (.int .i64 30)).run Tryd.prog w2.drew = .ok (.slice (some ⟨w2.heap.size, 0, none⟩) 30 30) wc := rc
  have rd : (Instr.makeSlice 24 (.int .i64 286) (.int .i64 286)).run Tryd.prog wc = .ok (.slice (some ⟨wc.heap.size, 0, none⟩) 286 286) wd := rd
  clear tab tcd
  go_upto_region 3 with fail
  go_cut [6, 7] from 22 to 23 (fun s t wx => ∃ X Y, s = .slice (some ⟨X, 0, none⟩) 286 286 ∧ t = .slice (some ⟨Y, 0, none⟩) 30 30 ∧ TwoZ w2 wx X 286 Y 30 (List.replicate 286 0) (List.replicate 30 0))
  case first =>
    go_region
    all_goals go_wp2
    all_goals go_meet
    · exact ⟨_, _, rfl, rfl, T1.out.from⟩
    · exact ⟨_, _, rfl, rfl, T2.out.swap.from⟩
  case rest =>
    obtain ⟨X, Y, rfl, rfl, hT2⟩ := hcut
    have hud := hT2.a.at (by simp) 256 (by omega)
    have hfd := World.ownsRow.frozenAt hT2.a 256
    have HX := Lib.hid (hT2.setA 256 1)
    clear hT2 ra rb rc rd T1 T2
    go_wp2_with fail
    go_loopw [8, 9, 10, 11, 12, 13, 14] (fun i _a _b _c _d _e _f wr => ∃ j : Nat, j ≤ L ∧ i = .int .i64 (j : Int) ∧ Hid (TwoZ w2 wr X 286 Y 30 (tally (ts.take j)).1 (tally (ts.take j)).2)) (fun i _ _ _ _ _ _ _ => L - (intOf i).toNat)
    case atStart => exact ⟨0, by omega, rfl, HX⟩
    case round =>
      clear HX
      obtain ⟨j, hj, rfl, HX⟩ := hrel
      by_cases hlt : (j : Int) < (L : Int)
      · have hjt : j < ts.length := by have := HL.out; omega
        have hjL : j < L := by omega
        obtain ⟨b, off, rfl, c0, c1, c2⟩ := ((HR.out.keptNo HT.out.k).keptNo HX.out.k) j hjt
        have HOb := Lib.hid (good_oks HS.out.2.1 j hjt)
        obtain ⟨t, ht⟩ : ∃ t, t = ts.getD j ⟨0, 0, 0⟩ := ⟨_, rfl⟩
        have hsn : tally (ts.take (j + 1)) = tally1 (tally (ts.take j)) t := by rw [take_snocT ts j hjt, tally_snoc, ← ht]
        have HSn := Lib.hid hsn
        have HB := Lib.hid (tally_b ts j)
        have HTw := Lib.hid (show t.wf by rw [ht, List.getD, List.getElem?_eq_getElem hjt, Option.getD_some]; exact HS.out.1 _ (List.getElem_mem hjt))
        rw [← ht] at c0 c1 c2 HOb
        clear ht hsn hjt
        obtain ⟨p, hp⟩ : ∃ p, p = tally (ts.take j) := ⟨_, rfl⟩
        rw [← hp] at HX HSn HB
        clear hp
        rcases tok_shape HTw.out HOb.out with ⟨k, hk, rfl⟩ | hcp
        · simp only at c0 c1 c2
          obtain ⟨x, hx⟩ : ∃ x, x = p.1.getD k 0 := ⟨_, rfl⟩
          have hxb := HB.out.2.2 k
          rw [← hx] at hxb
          have hud := HX.out.a.at HB.out.1 k (by omega)
          rw [← hx] at hud
          have hfd := World.ownsRow.frozenAt HX.out.a k
          have hx1 : 0 ≤ x := by omega
          have hx2 : x ≤ 2000001 := by omega
          have hn : tally1 p ⟨0, 0, (k : Int)⟩ = (p.1.set k (x + 1), p.2) := by
            unfold tally1; rw [if_pos HOb.out, if_pos rfl, hx]; rfl
          have HT2 : Hid (TwoZ w2 (wr.setCell ⟨X, k, none⟩ (.int .i64 (x + 1))) X 286 Y 30 (tally (ts.take (j + 1))).1 (tally (ts.take (j + 1))).2) := Lib.hid (by rw [HSn.out, hn]; exact HX.out.setA k (x + 1))
          have hkn : (k : Int) < 286 := by omega
          clear hn hx hxb
          go_wp2
          go_roundw
          case rel => exact ⟨j + 1, by omega, by go_num, HT2⟩
          case measure => simp [intOf]; omega
        · obtain ⟨n, d', sy, jj, he, hn1, hs2, hj30, hls, hds, hLS, hDS⟩ := doc_syms hcp
          have hn : tally1 p t = (incAt p.1 sy, incAt p.2 jj) := by
            unfold tally1; rw [if_pos HOb.out, if_neg (by rw [he]; simp only; omega), hls, hds]
          rw [hn] at HSn
          rw [he] at c0 c1 c2
          simp only at c0 c1 c2
          have HLS := Lib.hid hLS
          have HDS := Lib.hid hDS
          clear hn hcp hls hds he hLS hDS
          obtain ⟨x, hx⟩ : ∃ x, x = p.1.getD sy 0 := ⟨_, rfl⟩
          obtain ⟨y, hy⟩ : ∃ y, y = p.2.getD jj 0 := ⟨_, rfl⟩
          have hxb := (HB.out.2.2 sy).1
          have hyb := (HB.out.2.2 jj).2
          rw [← hx] at hxb
          rw [← hy] at hyb
          have hx1 : 0 ≤ x := by omega
          have hx2 : x ≤ 2000001 := by omega
          have hy1 : 0 ≤ y := by omega
          have hy2 : y ≤ 2000001 := by omega
          have hkn : (sy : Int) < 286 := by omega
          have hjn : (jj : Int) < 30 := by omega
          have hn0 : ((n : Int) == 0) = false := by simp; omega
          have HXx := Lib.hid hx
          have HY := Lib.hid hy
          clear hx hy hxb hyb
          have HC1 : Hid (∀ W, Kept NoB wr W → W.cell? ⟨b, off + j * 3 + 1, none⟩ = some (.int .i64 (d' : Int))) := Lib.hid (fun W h => h.cell c1)
          clear c1 c2
          go_wp2_with fail
          refine (HLS.out _).mono ?_
          rintro e w3 ⟨q1, q2, rfl, hk3⟩
          have c1 := HC1.out _ hk3
          have HK3 := Lib.hid (HX.out.on hk3)
          clear hk3 c0
          go_wp2_with fail
          refine (HDS.out _).mono ?_
          rintro e w4 ⟨q3, q4, rfl, hk4⟩
          have HK4 := Lib.hid (HK3.out.on hk4)
          clear hk4 c1
          have hud := HK4.out.a.at HB.out.1 sy (by omega)
          rw [← HXx.out] at hud
          have hfd := World.ownsRow.frozenAt HK4.out.a sy
          go_upto_region 13 with fail
          obtain ⟨w5, hw5⟩ : ∃ w5, w5 = w4.setCell ⟨X, sy, none⟩ (.int .i64 (x + 1)) := ⟨_, rfl⟩
          have HT5 : Hid (TwoZ w2 w5 X 286 Y 30 (p.1.set sy (x + 1)) p.2) := Lib.hid (by rw [hw5]; exact HK4.out.setA sy (x + 1))
          rw [← hw5]
          have hud2 := HT5.out.b.at HB.out.2.1 jj (by omega)
          rw [← HY.out] at hud2
          have hfd2 := World.ownsRow.frozenAt HT5.out.b jj
          clear hw5 hud hfd
          have HT6 : Hid (TwoZ w2 (w5.setCell ⟨Y, jj, none⟩ (.int .i64 (y + 1))) X 286 Y 30 (tally (ts.take (j + 1))).1 (tally (ts.take (j + 1))).2) := Lib.hid (by
            rw [HSn.out]
            unfold incAt
            rw [← HXx.out, ← HY.out]
            exact HT5.out.setB jj (y + 1))
          go_wp2
          go_roundw
          case rel => exact ⟨j + 1, by omega, by go_num, HT6⟩
          case measure => simp [intOf]; omega
      · obtain rfl : j = L := by omega
        have hF : TwoZ w2 wr X 286 Y 30 (tally ts).1 (tally ts).2 := by
          have h := HX.out
          rw [List.take_of_length_le (by rw [← HL.out]; exact Nat.le_refl _)] at h
          exact h
        have hb := tally_b ts j
        rw [List.take_of_length_le (by rw [← HL.out]; exact Nat.le_refl _)] at hb
        have hG := HT.out.on hF.k
        have hs1 : ∀ W, Kept NoB wr W → Calls Tryd.prog 8 #[.slice (some ⟨G, 0, none⟩) 286 286, .slice (some ⟨X, 0, none⟩) 286 286] W fun e w' => e = .returned (.bool true) ∧ Kept NoB W w' := fun W hk => by
          have := sameInts_any (some ⟨G, 0, none⟩) 286 (tally ts).1 (some ⟨X, 0, none⟩) 286 (tally ts).1 _ _ W ((hG.on hk).a.rdI hb.1) ((hF.on hk).a.rdI hb.1) (by rw [hb.1]; omega)
          rw [hb.1] at this
          simpa using this
        have hs2 : ∀ W, Kept NoB wr W → Calls Tryd.prog 8 #[.slice (some ⟨H, 0, none⟩) 30 30, .slice (some ⟨Y, 0, none⟩) 30 30] W fun e w' => e = .returned (.bool true) ∧ Kept NoB W w' := fun W hk => by
          have := sameInts_any (some ⟨H, 0, none⟩) 30 (tally ts).2 (some ⟨Y, 0, none⟩) 30 (tally ts).2 _ _ W ((hG.on hk).b.rdI hb.2.1) ((hF.on hk).b.rdI hb.2.1) (by rw [hb.2.1]; omega)
          rw [hb.2.1] at this
          simpa using this
        have HS1 := Lib.hid hs1
        have HS2 := Lib.hid hs2
        have HKF := Lib.hid (HK1.out.trans (HT.out.k.trans hF.k))
        clear hF hb hG hs1 hs2 HX
        go_wp2_with fail
        refine (HS1.out _ (Kept.refl _ _)).mono ?_
        rintro e w3 ⟨rfl, hk3⟩
        have HK3 := Lib.hid hk3
        clear hk3
        go_wp2_with fail
        refine (HS2.out _ HK3.out).mono ?_
        rintro e w4 ⟨rfl, hk4⟩
        have HK4 := Lib.hid (HK3.out.trans hk4)
        clear hk4
        go_wp2_with fail
        refine (HAw.out _).mono ?_
        rintro e w5 ⟨rfl, hk5⟩
        have HK5 := Lib.hid (HKF.out.trans (HK4.out.trans hk5))
        clear hk5
        go_wp2
        go_ret
        exact ⟨rfl, HK5.out⟩
theorem deflateCounts_law (v0 : Value) (w : World) (r0 : Arg w 22 v0) : Calls Tryd.prog 3 #[v0] w fun e w' => e = .returned (.bool true) ∧ Below w.heap.size w w' := by
  obtain ⟨ao, cap, ts, rfl, hr, ha, hlc, hcm, _⟩ := toks_open r0
  exact (deflateCounts_walk ao cap ts.length ts w rfl hr ha (by omega)).mono fun e w' h => ⟨h.1, h.2.belowNo (Below.refl _ _)⟩
end Go.Proofs.YthapkciebphhkaaDoor
