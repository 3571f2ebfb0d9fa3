/-
  What was written of a file, in memory: put, where pieces are touched.
-/
import Derived.Test.YtgbakogihkdddaaGreatDoorMx10
namespace Go.Proofs.YtgbakogihkdddaaGreatDoor
open Go.RowKit
set_option linter.unusedVariables false
set_option linter.unusedSimpArgs false
set_option maxRecDepth 20000

theorem heap_push2 (W : World) (o o2 : Obj) : ((W.alloc o).alloc o2).heap[W.heap.size + 1]? = some o2 := by
  have := heap_push (W.alloc o) o2
  rw [show (W.alloc o).heap.size = W.heap.size + 1 by simp] at this
  exact this
set_option maxHeartbeats 4000000 in
theorem put_touch (D : Nat) (cs : Array Value) (a : Option Addr) (c : Nat) (qs : List FpQ) (k : Int) (bs : List UInt8) (ab : Option Addr) (cb : Nat) (w : World) (hD : w.heap[D]? = some (.cells cs 63 (0, 0))) (h13 : cs[13]? = some (.slice a qs.length c))
    (hd : DatO w a c qs) (hl : OkD (qs.map Prod.fst)) (hx : ∀ j, BytB qs j → j ≠ D ∧ ∀ x, ab = some x → x.block ≠ j) (hy : ∀ x, ab = some x → x.block ≠ D ∧ (Value.slice a qs.length c).ownBlock ≠ some x.block)
    (hk : 0 ≤ k) (hb : bs ≠ []) (hkb : k + (bs.length : Int) ≤ 1099511627776) (hrb : Reads w ab (nb bs)) (hlen : qs.length ≤ 1099511627776) (ht : touchP (qs.map Prod.fst) k (k + bs.length) ≠ []) :
    Calls Tryz.prog 30 #[.pointer (some ⟨D, 13, none⟩), .int .i64 k, .slice ab bs.length cb] w (PutP w D cs a c qs k bs) := by
  obtain ⟨QA, qf, QR, QB, QY, ql, hT⟩ := tch_of hl ht
  obtain ⟨t1, t2, t3, t4, t5⟩ := hT.at
  have hr := bytes_rd hd
  obtain ⟨l, hle⟩ : ∃ l, l = qs.map Prod.fst := ⟨_, rfl⟩
  rw [← hle] at hr hl
  have hll : l.length = qs.length := by rw [hle]; simp
  obtain ⟨n, hn⟩ : ∃ n, n = qs.length := ⟨_, rfl⟩
  have hown := hd.own
  rw [← hn] at h13 hown hlen hll t5
  have c13 : w.cell? ⟨D, 13, none⟩ = some (.slice a n c) := by rw [obj_cell hD]; exact h13
  obtain ⟨A, hA⟩ : ∃ A, A = QA.length := ⟨_, rfl⟩
  obtain ⟨M, hM⟩ : ∃ M, M = QR.length := ⟨_, rfl⟩
  rw [← hA] at t1 t2 t3 t4 t5
  rw [← hM] at t2 t4 t5
  have hlA : (aheadP l k).length = A := by rw [hle, hT.ahead, hA]; simp
  have hlM : (touchP l k (k + bs.length)).length = M + 1 := by rw [hle, hT.touch, hM]; simp
  obtain ⟨g, rfl⟩ : ∃ g, a = some ⟨g, 0, none⟩ := by
    rcases hown.2 with ⟨h1, h2⟩ | ⟨g, cc, cur, h1, _⟩
    · omega
    · simp only [Value.slice.injEq] at h1; exact ⟨g, h1.1⟩
  have hcap : n ≤ c ∧ c ≤ maxLen := by
    rcases hown.2 with ⟨h1, h2⟩ | ⟨g, cc, cur, h1, _, _, h2, h3, _⟩
    · cases h1
    · simp at h1; obtain ⟨_, rfl⟩ := h1; exact ⟨h2, h3⟩
  have hcellf : ∀ W, Kept NoB w W → W.cell? ⟨g, A * 2, none⟩ = some (.int .i64 qf.1.1) ∧ W.cell? ⟨g, A * 2 + 1, none⟩ = some (.slice qf.2.1 qf.1.2.length qf.2.2) := fun W hW => by
    have h1 := (hW.row hown (fun _ _ e => e)).cells (g := g) rfl
    obtain ⟨q1, q2⟩ := fcells_at2 qs A qf t1
    have h2 := h1 _ _ q1
    have h3 := h1 _ _ q2
    rw [Addr.add_lit, Nat.zero_add] at h2 h3
    exact ⟨h2, h3⟩
  have hcelll : ∀ W, Kept NoB w W → W.cell? ⟨g, (A + M) * 2, none⟩ = some (.int .i64 ql.1.1) ∧ W.cell? ⟨g, (A + M) * 2 + 1, none⟩ = some (.slice ql.2.1 ql.1.2.length ql.2.2) := fun W hW => by
    have h1 := (hW.row hown (fun _ _ e => e)).cells (g := g) rfl
    obtain ⟨q1, q2⟩ := fcells_at2 qs (A + M) ql t2
    have h2 := h1 _ _ q1
    have h3 := h1 _ _ q2
    rw [Addr.add_lit, Nat.zero_add] at h2 h3
    exact ⟨h2, h3⟩
  obtain ⟨mb, hmb⟩ : ∃ mb, mb = bs.length := ⟨_, rfl⟩
  obtain ⟨w2, hw2⟩ : ∃ w2, w2 = (w.alloc (.cells #[.slice (some ⟨g, 0, none⟩) n c] 61)).alloc (.cells #[.int .i64 (k + (mb : Int))] 3) := ⟨_, rfl⟩
  have hk2 : Kept NoB w w2 := by rw [hw2]; exact ((Kept.refl NoB w).alloc _).alloc _
  have b1 : w2.cell? ⟨w.heap.size, 0, none⟩ = some (.slice (some ⟨g, 0, none⟩) n c) := by rw [hw2]; exact ((Kept.refl NoB _).alloc _).cell (cell_new 0 rfl)
  have b3 : w2.cell? ⟨w.heap.size + 1, 0, none⟩ = some (.int .i64 (k + (mb : Int))) := by rw [hw2]; exact cell_new 0 (by simp)
  have s2 : w2.heap.size = w.heap.size + 2 := by rw [hw2]; simp
  have HA := Lib.hid (after_any l hl (some ⟨g, 0, none⟩) c (k - 1) w2 (hr.kept hk2) (by omega) hcap.2 (by omega) (by omega))
  rw [hll, show k - 1 + 1 = k by omega, hlA] at HA
  have HSr : Hid (∀ W B2, Kept NoB w2 W → W.cell? ⟨B2, 0, none⟩ = some (.int .i64 (A : Int)) → Calls Tryz.prog 48 #[.int .i64 ((n : Int) - (A : Int)), .func (.func 49) #[] #[.pointer (some ⟨w.heap.size, 0, none⟩), .pointer (some ⟨B2, 0, none⟩), .pointer (some ⟨w.heap.size + 1, 0, none⟩)]] W fun e w' => e = .returned (.int .i64 ((M + 1 : Nat) : Int)) ∧ Kept NoB W w') := Lib.hid (fun W B2 hkW hc2 => by
    have := search2_any l hl (some ⟨g, 0, none⟩) c w.heap.size B2 (w.heap.size + 1) k (k + (mb : Int)) W ((hr.kept hk2).kept hkW) (by rw [hll]; exact hkW.cell b1) (by rw [hlA]; exact hc2) (hkW.cell b3) (by omega)
    rw [hlA, hll, hmb, hlM] at this
    rw [show (n : Int) - (A : Int) = ((n - A : Nat) : Int) by omega]
    exact this)
  have HW := Lib.hid hw2; have HK2 := Lib.hid hk2; have HS2 := Lib.hid s2
  have HAll := Lib.hid (⟨hD, hd, hT, hrb, hx, hy, hl, hle⟩ : _ ∧ _ ∧ _ ∧ _ ∧ _ ∧ _ ∧ _ ∧ _)
  have HTt := Lib.hid (⟨t3, t4⟩ : _ ∧ _)
  have HMb := Lib.hid hmb
  rw [← hmb] at hkb ⊢
  have hc63 : (c : Int) ≤ 9223372036854775807 := by have := hcap.2; unfold maxLen at this; omega
  have HCap := Lib.hid hcap
  have HCs := Lib.hid h13
  have HN := Lib.hid hn; have HLe := Lib.hid hle; have HAe := Lib.hid hA; have HMe := Lib.hid hM
  have HCf := Lib.hid hcellf; have HCl := Lib.hid hcelll
  have ht5 : (A : Int) + ((M : Int) + 1) ≤ (n : Int) := by omega
  obtain ⟨f1, hf1⟩ : ∃ f1, f1 = qf.1.1 := ⟨_, rfl⟩
  obtain ⟨fa, hfa⟩ : ∃ fa, fa = qf.2.1 := ⟨_, rfl⟩
  obtain ⟨fn, hfn⟩ : ∃ fn, fn = qf.1.2.length := ⟨_, rfl⟩
  obtain ⟨fc, hfc⟩ : ∃ fc, fc = qf.2.2 := ⟨_, rfl⟩
  obtain ⟨l1, hl1⟩ : ∃ l1, l1 = ql.1.1 := ⟨_, rfl⟩
  obtain ⟨la, hla⟩ : ∃ la, la = ql.2.1 := ⟨_, rfl⟩
  obtain ⟨ln, hln⟩ : ∃ ln, ln = ql.1.2.length := ⟨_, rfl⟩
  obtain ⟨lc, hlc⟩ : ∃ lc, lc = ql.2.2 := ⟨_, rfl⟩
  have hFb := hT.first
  have hLb := hT.lasts
  unfold endP at hFb hLb
  rw [← hf1, ← hfn, ← hmb] at hFb
  rw [← hl1, ← hln, ← hmb] at hLb
  rw [← hf1, ← hfa, ← hfn, ← hfc] at HCf
  rw [← hl1, ← hla, ← hln, ← hlc] at HCl
  have HE := Lib.hid (⟨hf1, hfa, hfn, hfc, hl1, hla, hln, hlc⟩ : _ ∧ _ ∧ _ ∧ _ ∧ _ ∧ _ ∧ _ ∧ _)
  clear hcellf hcelll hlA hlM t1 t2 t3 t4 t5 hA hM hw2 hk2 s2 hD hd hT hown hr hl hrb hx hy ht hll hmb hcap h13 hn hle hf1 hfa hfn hfc hl1 hla hln hlc
  go_enter Tryz.func30, Tryz.ntmps30
  go_upto_region 2 with fail
  rw [← HW.out]
  go_wp2_with fail
  refine HA.out.mono ?_
  rintro e w3 ⟨rfl, hk3⟩
  have HK3 := Lib.hid (HK2.out.trans hk3)
  have d1 := hk3.cell b1
  have d3 := hk3.cell b3
  have HK23 := Lib.hid hk3
  clear hk3 b1 b3 HA
  go_upto_region 3 with fail
  obtain ⟨w4, hw4⟩ : ∃ w4, w4 = w3.alloc (.cells #[.int .i64 (A : Int)] 3) := ⟨_, rfl⟩
  rw [← hw4]
  have hk4 : Kept NoB w3 w4 := by rw [hw4]; exact (Kept.refl NoB w3).alloc _
  have e1 := hk4.cell d1
  have e3 := hk4.cell d3
  have e2 : w4.cell? ⟨w3.heap.size, 0, none⟩ = some (.int .i64 (A : Int)) := by rw [hw4]; exact cell_new 0 rfl
  have HK4 := Lib.hid (HK3.out.trans hk4)
  have HSr := Lib.hid (fun W (hW : Kept NoB w4 W) => HSr.out W w3.heap.size ((HK23.out.trans hk4).trans hW) (hW.cell e2))
  have D1 : ∀ W, Kept NoB w4 W → W.cell? ⟨w.heap.size, 0, none⟩ = some (.slice (some ⟨g, 0, none⟩) n c) := fun W hk => hk.cell e1
  have D2 : ∀ W, Kept NoB w4 W → W.cell? ⟨w3.heap.size, 0, none⟩ = some (.int .i64 (A : Int)) := fun W hk => hk.cell e2
  have hwr : IntKind.i64.wrap ((n : Int) - (A : Int)) = (n : Int) - (A : Int) := by rw [IntKind.wrap_i64]; omega
  obtain ⟨J, hJ⟩ : ∃ J, J = A + M + 1 := ⟨_, rfl⟩
  obtain ⟨L, hL⟩ : ∃ L, L = A + M := ⟨_, rfl⟩
  have hwr2 : IntKind.i64.wrap ((A : Int) + ((M : Int) + 1)) = (J : Int) := by rw [IntKind.wrap_i64]; omega
  have hwr3 : IntKind.i64.wrap ((J : Int) - 1) = (L : Int) := by rw [IntKind.wrap_i64]; omega
  have hAJ : ((A : Int) == (J : Int)) = false := by simp; omega
  have hLn : (L : Int) < (n : Int) := by omega
  have hAn : (A : Int) < (n : Int) := by omega
  rw [← hL] at HCl
  have HJ := Lib.hid hJ; have HL := Lib.hid hL
  clear hJ hL
  clear d1 d3 hk4 hw4 HK23
  go_region_held3 (fun W => Kept NoB w4 W) (first | assumption | exact Kept.refl _ _ | exact Kept.drew (Kept.refl _ _) | exact Kept.drew (by assumption) | exact Kept.trans (by assumption) hkn) ((go_at_call 48; ((with_reducible refine (HSr.out _ (by assumption)).mono ?_); rintro e wn ⟨rfl, hkn⟩)))
  have hkw : Kept NoB w4 wn := by assumption
  obtain ⟨B6, hB6⟩ : ∃ B6, B6 = w.heap.size := ⟨_, rfl⟩
  obtain ⟨B7, hB7⟩ : ∃ B7, B7 = w.heap.size + 1 := ⟨_, rfl⟩
  obtain ⟨B8, hB8⟩ : ∃ B8, B8 = w3.heap.size := ⟨_, rfl⟩
  rw [← hB6] at e1
  rw [← hB7] at e3
  rw [← hB8] at e2
  rw [← hB7, ← hB6, ← hB8]
  have HKn := Lib.hid (HK4.out.trans hkw)
  have D6 : ∀ W, Kept NoB wn W → W.cell? ⟨B6, 0, none⟩ = some (.slice (some ⟨g, 0, none⟩) n c) := fun W hk => (hkw.trans hk).cell e1
  have D7 : ∀ W, Kept NoB wn W → W.cell? ⟨B7, 0, none⟩ = some (.int .i64 (k + (mb : Int))) := fun W hk => (hkw.trans hk).cell e3
  have D8 : ∀ W, Kept NoB wn W → W.cell? ⟨B8, 0, none⟩ = some (.int .i64 (A : Int)) := fun W hk => (hkw.trans hk).cell e2
  have G1 : ∀ W, Kept NoB wn W → W.cell? ⟨g, A * 2, none⟩ = some (.int .i64 f1) := fun W hk => (HCf.out W (HKn.out.trans hk)).1
  have G2 : ∀ W, Kept NoB wn W → W.cell? ⟨g, A * 2 + 1, none⟩ = some (.slice fa fn fc) := fun W hk => (HCf.out W (HKn.out.trans hk)).2
  have G3 : ∀ W, Kept NoB wn W → W.cell? ⟨g, L * 2, none⟩ = some (.int .i64 l1) := fun W hk => (HCl.out W (HKn.out.trans hk)).1
  have G4 : ∀ W, Kept NoB wn W → W.cell? ⟨g, L * 2 + 1, none⟩ = some (.slice la ln lc) := fun W hk => (HCl.out W (HKn.out.trans hk)).2
  have hB := Lib.hid (⟨hB6, hB7, hB8⟩ : _ ∧ _ ∧ _)
  clear hB6 hB7 hB8 hkw hkn D1 D2 e1 e2 e3 HSr hwr
  have d8 := D8 wn (Kept.refl _ _)
  go_upto_region 6 with fail
  clear d8
  go_cut [10, 11] from 46 to 54 (fun v10 v11 wx => ∃ (ba bz : Nat), v10 = .pointer (some ⟨ba, 0, none⟩) ∧ v11 = .pointer (some ⟨bz, 0, none⟩) ∧ Hid (wx.heap[ba]? = some (.cells #[.int .i64 f1, .slice fa fn fc] 40 (0, 0)) ∧ wx.heap[bz]? = some (.cells #[.int .i64 l1, .slice la ln lc] 40 (0, 0)) ∧ ba ≠ bz ∧ wn.heap.size ≤ ba ∧ wn.heap.size ≤ bz ∧ Kept NoB wn wx))
  case first =>
    -- <<A
    have a0 := D6 wn (Kept.refl _ _)
    have a1 := D8 wn (Kept.refl _ _)
    have a2 := G1 wn (Kept.refl _ _)
    have a3 := G2 wn (Kept.refl _ _)
    have a4 := G3 wn (Kept.refl _ _)
    have a5 := G4 wn (Kept.refl _ _)
    have p0 := D6 (wn.alloc (.cells #[.int .i64 0, .slice none 0 0] 40)) ((Kept.refl _ _).alloc _)
    have p1 := D8 (wn.alloc (.cells #[.int .i64 0, .slice none 0 0] 40)) ((Kept.refl _ _).alloc _)
    have p2 := G1 (wn.alloc (.cells #[.int .i64 0, .slice none 0 0] 40)) ((Kept.refl _ _).alloc _)
    have p3 := G2 (wn.alloc (.cells #[.int .i64 0, .slice none 0 0] 40)) ((Kept.refl _ _).alloc _)
    have p4 := G3 (wn.alloc (.cells #[.int .i64 0, .slice none 0 0] 40)) ((Kept.refl _ _).alloc _)
    have p5 := G4 (wn.alloc (.cells #[.int .i64 0, .slice none 0 0] 40)) ((Kept.refl _ _).alloc _)
    have v0 := D6 (wn.alloc (.cells #[.int .i64 f1, .slice fa fn fc] 40)) ((Kept.refl _ _).alloc _)
    have v1 := D8 (wn.alloc (.cells #[.int .i64 f1, .slice fa fn fc] 40)) ((Kept.refl _ _).alloc _)
    have v2 := G1 (wn.alloc (.cells #[.int .i64 f1, .slice fa fn fc] 40)) ((Kept.refl _ _).alloc _)
    have v3 := G2 (wn.alloc (.cells #[.int .i64 f1, .slice fa fn fc] 40)) ((Kept.refl _ _).alloc _)
    have v4 := G3 (wn.alloc (.cells #[.int .i64 f1, .slice fa fn fc] 40)) ((Kept.refl _ _).alloc _)
    have v5 := G4 (wn.alloc (.cells #[.int .i64 f1, .slice fa fn fc] 40)) ((Kept.refl _ _).alloc _)
    have x0 := D6 (wn.alloc (.cells #[.int .i64 l1, .slice la ln lc] 40)) ((Kept.refl _ _).alloc _)
    have x1 := D8 (wn.alloc (.cells #[.int .i64 l1, .slice la ln lc] 40)) ((Kept.refl _ _).alloc _)
    have x2 := G1 (wn.alloc (.cells #[.int .i64 l1, .slice la ln lc] 40)) ((Kept.refl _ _).alloc _)
    have x3 := G2 (wn.alloc (.cells #[.int .i64 l1, .slice la ln lc] 40)) ((Kept.refl _ _).alloc _)
    have x4 := G3 (wn.alloc (.cells #[.int .i64 l1, .slice la ln lc] 40)) ((Kept.refl _ _).alloc _)
    have x5 := G4 (wn.alloc (.cells #[.int .i64 l1, .slice la ln lc] 40)) ((Kept.refl _ _).alloc _)
    have q0 := D6 ((wn.alloc (.cells #[.int .i64 0, .slice none 0 0] 40)).alloc (.cells #[.int .i64 0, .slice none 0 0] 40)) (((Kept.refl _ _).alloc _).alloc _)
    have q1 := D8 ((wn.alloc (.cells #[.int .i64 0, .slice none 0 0] 40)).alloc (.cells #[.int .i64 0, .slice none 0 0] 40)) (((Kept.refl _ _).alloc _).alloc _)
    have q2 := G1 ((wn.alloc (.cells #[.int .i64 0, .slice none 0 0] 40)).alloc (.cells #[.int .i64 0, .slice none 0 0] 40)) (((Kept.refl _ _).alloc _).alloc _)
    have q3 := G2 ((wn.alloc (.cells #[.int .i64 0, .slice none 0 0] 40)).alloc (.cells #[.int .i64 0, .slice none 0 0] 40)) (((Kept.refl _ _).alloc _).alloc _)
    have q4 := G3 ((wn.alloc (.cells #[.int .i64 0, .slice none 0 0] 40)).alloc (.cells #[.int .i64 0, .slice none 0 0] 40)) (((Kept.refl _ _).alloc _).alloc _)
    have q5 := G4 ((wn.alloc (.cells #[.int .i64 0, .slice none 0 0] 40)).alloc (.cells #[.int .i64 0, .slice none 0 0] 40)) (((Kept.refl _ _).alloc _).alloc _)
    have r0 := D6 ((wn.alloc (.cells #[.int .i64 0, .slice none 0 0] 40)).alloc (.cells #[.int .i64 f1, .slice fa fn fc] 40)) (((Kept.refl _ _).alloc _).alloc _)
    have r1 := D8 ((wn.alloc (.cells #[.int .i64 0, .slice none 0 0] 40)).alloc (.cells #[.int .i64 f1, .slice fa fn fc] 40)) (((Kept.refl _ _).alloc _).alloc _)
    have r2 := G1 ((wn.alloc (.cells #[.int .i64 0, .slice none 0 0] 40)).alloc (.cells #[.int .i64 f1, .slice fa fn fc] 40)) (((Kept.refl _ _).alloc _).alloc _)
    have r3 := G2 ((wn.alloc (.cells #[.int .i64 0, .slice none 0 0] 40)).alloc (.cells #[.int .i64 f1, .slice fa fn fc] 40)) (((Kept.refl _ _).alloc _).alloc _)
    have r4 := G3 ((wn.alloc (.cells #[.int .i64 0, .slice none 0 0] 40)).alloc (.cells #[.int .i64 f1, .slice fa fn fc] 40)) (((Kept.refl _ _).alloc _).alloc _)
    have r5 := G4 ((wn.alloc (.cells #[.int .i64 0, .slice none 0 0] 40)).alloc (.cells #[.int .i64 f1, .slice fa fn fc] 40)) (((Kept.refl _ _).alloc _).alloc _)
    have s0 := D6 ((wn.alloc (.cells #[.int .i64 f1, .slice fa fn fc] 40)).alloc (.cells #[.int .i64 0, .slice none 0 0] 40)) (((Kept.refl _ _).alloc _).alloc _)
    have s1 := D8 ((wn.alloc (.cells #[.int .i64 f1, .slice fa fn fc] 40)).alloc (.cells #[.int .i64 0, .slice none 0 0] 40)) (((Kept.refl _ _).alloc _).alloc _)
    have s2 := G1 ((wn.alloc (.cells #[.int .i64 f1, .slice fa fn fc] 40)).alloc (.cells #[.int .i64 0, .slice none 0 0] 40)) (((Kept.refl _ _).alloc _).alloc _)
    have s3 := G2 ((wn.alloc (.cells #[.int .i64 f1, .slice fa fn fc] 40)).alloc (.cells #[.int .i64 0, .slice none 0 0] 40)) (((Kept.refl _ _).alloc _).alloc _)
    have s4 := G3 ((wn.alloc (.cells #[.int .i64 f1, .slice fa fn fc] 40)).alloc (.cells #[.int .i64 0, .slice none 0 0] 40)) (((Kept.refl _ _).alloc _).alloc _)
    have s5 := G4 ((wn.alloc (.cells #[.int .i64 f1, .slice fa fn fc] 40)).alloc (.cells #[.int .i64 0, .slice none 0 0] 40)) (((Kept.refl _ _).alloc _).alloc _)
    have t0 := D6 ((wn.alloc (.cells #[.int .i64 0, .slice none 0 0] 40)).alloc (.cells #[.int .i64 l1, .slice la ln lc] 40)) (((Kept.refl _ _).alloc _).alloc _)
    have t1 := D8 ((wn.alloc (.cells #[.int .i64 0, .slice none 0 0] 40)).alloc (.cells #[.int .i64 l1, .slice la ln lc] 40)) (((Kept.refl _ _).alloc _).alloc _)
    have t2 := G1 ((wn.alloc (.cells #[.int .i64 0, .slice none 0 0] 40)).alloc (.cells #[.int .i64 l1, .slice la ln lc] 40)) (((Kept.refl _ _).alloc _).alloc _)
    have t3 := G2 ((wn.alloc (.cells #[.int .i64 0, .slice none 0 0] 40)).alloc (.cells #[.int .i64 l1, .slice la ln lc] 40)) (((Kept.refl _ _).alloc _).alloc _)
    have t4 := G3 ((wn.alloc (.cells #[.int .i64 0, .slice none 0 0] 40)).alloc (.cells #[.int .i64 l1, .slice la ln lc] 40)) (((Kept.refl _ _).alloc _).alloc _)
    have t5 := G4 ((wn.alloc (.cells #[.int .i64 0, .slice none 0 0] 40)).alloc (.cells #[.int .i64 l1, .slice la ln lc] 40)) (((Kept.refl _ _).alloc _).alloc _)
    have u0 := D6 ((wn.alloc (.cells #[.int .i64 l1, .slice la ln lc] 40)).alloc (.cells #[.int .i64 0, .slice none 0 0] 40)) (((Kept.refl _ _).alloc _).alloc _)
    have u1 := D8 ((wn.alloc (.cells #[.int .i64 l1, .slice la ln lc] 40)).alloc (.cells #[.int .i64 0, .slice none 0 0] 40)) (((Kept.refl _ _).alloc _).alloc _)
    have u2 := G1 ((wn.alloc (.cells #[.int .i64 l1, .slice la ln lc] 40)).alloc (.cells #[.int .i64 0, .slice none 0 0] 40)) (((Kept.refl _ _).alloc _).alloc _)
    have u3 := G2 ((wn.alloc (.cells #[.int .i64 l1, .slice la ln lc] 40)).alloc (.cells #[.int .i64 0, .slice none 0 0] 40)) (((Kept.refl _ _).alloc _).alloc _)
    have u4 := G3 ((wn.alloc (.cells #[.int .i64 l1, .slice la ln lc] 40)).alloc (.cells #[.int .i64 0, .slice none 0 0] 40)) (((Kept.refl _ _).alloc _).alloc _)
    have u5 := G4 ((wn.alloc (.cells #[.int .i64 l1, .slice la ln lc] 40)).alloc (.cells #[.int .i64 0, .slice none 0 0] 40)) (((Kept.refl _ _).alloc _).alloc _)
    go_region
    all_goals go_wp2
    all_goals go_meet
    all_goals
      refine ⟨_, _, rfl, rfl, Lib.hid ⟨?_, ?_, ?_, ?_, ?_, ((Kept.refl NoB wn).alloc _).alloc _ |>.drew⟩⟩
    all_goals first
      | exact heap_push2 _ _ _
      | exact heap_push _ _
      | exact ((Kept.refl NoB _).alloc _).drew.obj (heap_push _ _) id
      | omega
      | (simp; done)
    -- A>>
  case rest =>
  obtain ⟨ba, bz, rfl, rfl, H6⟩ := hcut
  obtain ⟨h6a, h6z, h6n, h6s, h6t, h6k⟩ := H6.out
  have D6' : ∀ W, Kept NoB wc W → W.cell? ⟨B6, 0, none⟩ = some (.slice (some ⟨g, 0, none⟩) n c) := fun W hk => D6 W (h6k.trans hk)
  have D7' : ∀ W, Kept NoB wc W → W.cell? ⟨B7, 0, none⟩ = some (.int .i64 (k + (mb : Int))) := fun W hk => D7 W (h6k.trans hk)
  have D8' : ∀ W, Kept NoB wc W → W.cell? ⟨B8, 0, none⟩ = some (.int .i64 (A : Int)) := fun W hk => D8 W (h6k.trans hk)
  have A0 : ∀ W, Kept NoB wc W → W.cell? ⟨ba, 0, none⟩ = some (.int .i64 f1) := fun W hk => by rw [obj_cell (hk.obj h6a id)]; rfl
  have A1 : ∀ W, Kept NoB wc W → W.cell? ⟨ba, 1, none⟩ = some (.slice fa fn fc) := fun W hk => by rw [obj_cell (hk.obj h6a id)]; rfl
  have Z0 : ∀ W, Kept NoB wc W → W.cell? ⟨bz, 0, none⟩ = some (.int .i64 l1) := fun W hk => by rw [obj_cell (hk.obj h6z id)]; rfl
  have Z1 : ∀ W, Kept NoB wc W → W.cell? ⟨bz, 1, none⟩ = some (.slice la ln lc) := fun W hk => by rw [obj_cell (hk.obj h6z id)]; rfl
  have HKc := Lib.hid (HKn.out.trans h6k)
  have HD6 := Lib.hid D6'; have HD7 := Lib.hid D7'; have HD8 := Lib.hid D8'; have HA0 := Lib.hid A0; have HA1 := Lib.hid A1; have HZ0 := Lib.hid Z0; have HZ1 := Lib.hid Z1
  have HEnd : Hid (∀ W, Calls Tryz.prog 47 #[.agg #[.int .i64 f1, .slice fa fn fc]] W fun e w' => e = .returned (.int .i64 (f1 + (fn : Int))) ∧ Kept NoB W w') := Lib.hid (fun W => (end_any f1 fn fa fc W (by omega)).mono (fun e w' ⟨h1, h2⟩ => ⟨h1, by rw [h2]; exact (Kept.refl _ _).alloc _⟩))
  clear D6 D7 D8 G1 G2 G3 G4 h6a h6z h6k
  go_upto_region 7 with fail
  obtain ⟨cc, hcc⟩ : ∃ cc : Bool, cc = (decide (f1 ≤ k) && decide (k + (mb : Int) ≤ f1 + (fn : Int))) := ⟨_, rfl⟩
  go_cut [64] from 55 to 63 (fun v64 wx => v64 = .bool cc ∧ Hid (Kept NoB wc wx))
  case first =>
    -- <<B
    clear D6' D8' Z0 Z1
    by_cases hc1 : f1 ≤ k
    · have g1 : decide (f1 ≤ k) = true := by simpa using hc1
      rw [g1, Bool.true_and] at hcc
      have HCc := Lib.hid hcc
      clear hcc
      go_region_held3 (fun W => Kept NoB wc W) (first | assumption | exact Kept.refl _ _ | exact Kept.drew (Kept.refl _ _) | exact Kept.drew (by assumption) | exact Kept.trans (by assumption) hke) ((go_at_call 47; ((with_reducible refine (HEnd.out _).mono ?_); rintro e we ⟨rfl, hke⟩)))
      go_wp2
      go_meet
      exact ⟨by rw [HCc.out], Lib.hid (by assumption)⟩
    · have g1 : decide (f1 ≤ k) = false := by simpa using hc1
      rw [g1, Bool.false_and] at hcc
      subst hcc
      have x0 := A0 wc (Kept.refl _ _)
      clear A0 A1 D7'
      go_quiet (fail)
      go_wp2
      go_meet
      exact ⟨rfl, Lib.hid ((Kept.refl _ _).drewN _)⟩
    -- B>>
  case rest =>
  obtain ⟨rfl, H7⟩ := hcut
  have HCc := Lib.hid hcc
  clear D6' D7' D8' A0 A1 Z0 Z1 hcc HEnd
  have HKq := Lib.hid (HKc.out.trans H7.out)
  have HBl : Hid (B6 < wc.heap.size ∧ B7 < wc.heap.size ∧ B8 < wc.heap.size ∧ ba < wc.heap.size ∧ bz < wc.heap.size) := Lib.hid ⟨World.block_lt_of_cell? _ _ (HD6.out _ H7.out), World.block_lt_of_cell? _ _ (HD7.out _ H7.out), World.block_lt_of_cell? _ _ (HD8.out _ H7.out), World.block_lt_of_cell? _ _ (HA0.out _ H7.out), World.block_lt_of_cell? _ _ (HZ0.out _ H7.out)⟩
  obtain ⟨w7, rfl⟩ : ∃ w7, w7 = wc := ⟨_, rfl⟩
  have hgf : ∃ gf, fa = some ⟨gf, 0, none⟩ ∧ fn ≤ fc ∧ fc ≤ maxLen ∧ w.ownsRow 0 5 1 (.slice fa fn fc) fn (bc qf.1.2) ∧ pcB qf = some gf := by
    obtain ⟨hf1, hfa, hfn, hfc, _⟩ := HE.out
    have ho := HAll.out.2.1.each qf (by rw [HAll.out.2.2.1.all]; simp)
    have hne := (HAll.out.2.2.2.2.2.2.1.each qf.1 (by rw [HAll.out.2.2.2.2.2.2.2]; exact List.mem_map.2 ⟨qf, by rw [HAll.out.2.2.1.all]; simp, rfl⟩)).2.1
    unfold pcB
    rw [← hfa, ← hfn, ← hfc] at ho ⊢
    rcases ho.2 with ⟨h1, h2⟩ | ⟨g', cc, cur, h1, _, _, h2, h3, _⟩
    · exact absurd (List.eq_nil_of_length_eq_zero (by omega)) hne
    · simp only [Value.slice.injEq, true_and] at h1
      obtain ⟨rfl, rfl⟩ := h1
      exact ⟨g', rfl, h2, h3, ho, rfl⟩
  obtain ⟨gf, rfl, hfc1, hfc2, hfo, hfb⟩ := hgf
  have HFo := Lib.hid (⟨hfo, hfb⟩ : _ ∧ _)
  have hfc63 : (fc : Int) ≤ 9223372036854775807 := by unfold maxLen at hfc2; omega
  clear hfo hfb
  have x0 := HA0.out w7 H7.out
  have x1 := HA1.out w7 H7.out
  have hmb0 : 0 < mb := by rw [HMb.out]; exact List.length_pos_iff.2 hb
  cases cc with
  | true =>
    -- <<C
    obtain ⟨hc1, hc2⟩ : f1 ≤ k ∧ k + (mb : Int) ≤ f1 + (fn : Int) := by have := HCc.out; simpa using this.symm
    obtain ⟨P, hP⟩ : ∃ P : Nat, (P : Int) = k - f1 := ⟨(k - f1).toNat, by omega⟩
    have hPw : IntKind.i64.wrap (k - f1) = (P : Int) := by rw [IntKind.wrap_i64]; omega
    have hPn : (P : Int) ≤ (fn : Int) := by omega
    have hPm : P + mb ≤ fn := by omega
    obtain ⟨w8, r8, o8, k8⟩ := run_copy_by w7 gf fn fc P qf.1.2 HE.out.2.2.1 (HKq.out.row HFo.out.1 (fun _ _ e => e)) ab bs cb (HAll.out.2.2.2.1.keptNo HKq.out) hb (by rw [← HMb.out]; exact hPm)
    rw [← HMb.out] at r8
    have hPc : ¬ fc = P := by omega
    have hDone : Hid (PutP w D cs (some ⟨g, 0, none⟩) c qs k bs (.returned (.tuple #[])) w8) := Lib.hid (by
      obtain ⟨hD, hd, hT, hrb, hx, hy, hl, hle⟩ := HAll.out
      obtain ⟨hf1, hfa, hfn, hfc, _⟩ := HE.out
      have h1 := hT.one (by rw [← hle]; exact hl) (by unfold endP; rw [← hf1, ← hfn, ← HMb.out]; exact hc2)
      have hfD : gf ≠ D := (hx gf ⟨qf, by rw [hT.all]; simp, HFo.out.2⟩).1
      have hk0 : Kept (OneB gf) w w8 := (HKq.out.dom).trans k8
      have hgg : gf ≠ g := fun e => row_byt hd ⟨qf, by rw [hT.all]; simp, HFo.out.2⟩ (by rw [e]; rfl)
      have hPt : (k - f1).toNat = P := by omega
      have hov : (ovB qf.1.2 P bs).length = fn := by rw [ovB_len _ _ _ (by rw [← hfn, ← HMb.out]; exact hPm), ← hfn]
      have hqs : qs = QA ++ qf :: QB := by rw [hT.all, h1.1]; simp
      refine put_fin hT hd (fun j hj => (hx j hj).1) ((f1, ovB qf.1.2 P bs), (some ⟨gf, 0, none⟩, fc)) ?_ n ?_ ?_ ?_ ?_ ?_ (hk0.mono (fun j _ e => by
        have e : j = gf := e
        exact .inr (.inr (by rw [e]; exact HFo.out.2))))
      · rw [h1.2, ← hf1]
        have e1 : min f1 k = f1 := by omega
        have e2 : (k + (bs.length : Int) - f1).toNat = P + bs.length := by omega
        rw [e1, e2, hPt]; rfl
      · rw [HN.out, hqs]; simp; omega
      · have e1 : cs.setIfInBounds 13 (.slice (some ⟨g, 0, none⟩) n c) = cs := by
          have h13 := HCs.out
          apply Array.ext_getElem?
          intro i
          rw [Array.getElem?_setIfInBounds]
          split
          · rename_i e; subst e
            split
            · exact h13.symm
            · rename_i h; rw [Array.getElem?_eq_none (by omega)]
          · rfl
        rw [e1]
        exact hk0.obj hD (fun e => hfD (by have e : D = gf := e; exact e.symm))
      · have e1 : fcells (QA ++ ((f1, ovB qf.1.2 P bs), (some ⟨gf, 0, none⟩, fc)) :: QB) = fcells qs := by
          rw [hqs, fcells_app, fcells_app, fcells_cons, fcells_cons, hov, ← hf1, ← hfn, ← hfa, ← hfc]
        rw [e1]
        have ho := hd.own
        rw [← HN.out] at ho
        exact hk0.row ho (fun j hj e => by
          have e : j = gf := e
          have : g = j := by injection hj
          omega)
      · show w8.ownsRow 0 _ 1 (.slice (some ⟨gf, 0, none⟩) (ovB qf.1.2 P bs).length fc) (ovB qf.1.2 P bs).length _
        rw [hov]; exact o8
      · intro j hj
        have : gf = j := by injection hj
        rw [← this]; exact .inl HFo.out.2)
    rw [show P = (k - f1).toNat by omega] at r8
    go_wp2_with (refine wpList_copy_known rfl (.tmp 71) (.tmp 72) 22 22 rfl _ _ rfl rfl _ _ r8 ?_)
    first
      | exact bodyPost_ret (results_none rfl _ _ _) rfl hDone.out
      | (go_wp2; exact bodyPost_ret (results_none rfl _ _ _) rfl hDone.out)
      | (go_ret; exact hDone.out)
    -- C>>
  | false =>
    clear x0 x1
    have hcl : Hid (Calls Tryz.prog 51 #[.slice ab mb cb] w7 fun e w' => ∃ ao cap, e = .returned (.slice ao mb cap) ∧ Hid (w'.ownsRow 0 5 1 (.slice ao mb cap) mb (bc bs) ∧ (∀ j, (Value.slice ao mb cap).ownBlock = some j → w7.heap.size ≤ j) ∧ Kept NoB w7 w')) := Lib.hid (by
      have e0 : (nb bs).length = mb := by rw [nb_len, HMb.out]
      have := clone_any ab cb (nb bs) w7 (HAll.out.2.2.2.1.keptNo HKq.out) (by rw [e0]; omega)
      rw [e0] at this
      refine this.mono ?_
      rintro e w' ⟨ao, cap, rfl, h1, h2, _, h4⟩
      rw [e0] at h1 h2 ⊢
      refine ⟨ao, cap, rfl, Lib.hid ⟨?_, h2, h4⟩⟩
      rw [bc_nb]; exact h1)
    go_upto_region 10 with (first | (go_at_call 51; ((with_reducible refine hcl.out.mono ?_); rintro e w9 ⟨ao9, cap9, rfl, h9⟩)) | fail)
    obtain ⟨b12, hb12⟩ : ∃ b12, b12 = w9.heap.size := ⟨_, rfl⟩
    obtain ⟨w10, hw10⟩ : ∃ w10, w10 = w9.alloc (.cells #[.int .i64 k, .slice ao9 mb cap9] 40) := ⟨_, rfl⟩
    have o10 : w10.heap[b12]? = some (.cells #[.int .i64 k, .slice ao9 mb cap9] 40 (0, 0)) := by rw [hw10, hb12]; exact heap_push _ _
    have k10 : Kept NoB w7 w10 := by rw [hw10]; exact h9.out.2.2.alloc _
    have r10 : w10.ownsRow 0 5 1 (.slice ao9 mb cap9) mb (bc bs) := by rw [hw10]; exact ((Kept.refl NoB _).alloc _).row h9.out.1 (fun _ _ e => e)
    have hw9 : w7.heap.size ≤ b12 := by rw [hb12]; exact h9.out.2.2.size
    rw [← hw10, ← hb12]
    have H10 := Lib.hid (⟨o10, k10, r10, hw9⟩ : _ ∧ _ ∧ _ ∧ _)
    have hgfl : gf < w.heap.size := (HFo.out.1.lt gf rfl).2
    clear hw10 hb12 o10 k10 r10 hw9
    have y0 := HA0.out w10 (H7.out.trans H10.out.2.1)
    have y1 := HA1.out w10 (H7.out.trans H10.out.2.1)
    obtain ⟨mn, hmn⟩ : ∃ mn, mn = min f1 k := ⟨_, rfl⟩
    have HMn := Lib.hid hmn
    clear hmn
    go_upto_if 81 with fail
    go_cut [] from 81 to 93 (fun wx => ∃ (jo : Option Addr) (jc jn : Nat) (X : List UInt8), Hid (X = qf.1.2.take (k - f1).toNat ++ bs ∧ jn = X.length ∧ wx.heap[b12]? = some (.cells #[.int .i64 mn, .slice jo jn jc] 40 (0, 0)) ∧ wx.ownsRow 0 5 1 (.slice jo jn jc) jn (bc X) ∧ (∀ j, (Value.slice jo jn jc).ownBlock = some j → (j = gf ∧ f1 ≤ k) ∨ w7.heap.size ≤ j) ∧ Kept (fun j => (j = gf ∧ f1 ≤ k) ∨ j = b12) w10 wx))
    case first =>
      -- <<E
      by_cases hc1 : f1 ≤ k
      · have hc2 : ¬ k + (mb : Int) ≤ f1 + (fn : Int) := fun e => by have := HCc.out; simp [hc1, e] at this
        obtain ⟨Pn, hPn⟩ : ∃ Pn, Pn = (k - f1).toNat := ⟨_, rfl⟩
        have hPfn : Pn ≤ fn := by omega
        obtain ⟨g11, c11, w11, r11, o11, k11, q11⟩ := run_app_by w10.drew gf fn fc Pn qf.1.2 HE.out.2.2.1 (((HKq.out.trans H10.out.2.1).drew).row HFo.out.1 (fun _ _ e => e)) hPfn ab bs cb (HAll.out.2.2.2.1.keptNo ((HKq.out.trans H10.out.2.1).drew)) hb (by rw [← HMb.out]; omega)
        rw [← HMb.out] at r11 o11
        have hb12 : b12 ≠ gf := by have := H10.out.2.2.2; have := HKq.out.size; omega
        have ob11 : w11.heap[b12]? = some (.cells #[.int .i64 k, .slice ao9 mb cap9] 40 (0, 0)) := k11.obj H10.out.1 (fun e => hb12 e)
        have u0 : w11.cell? ⟨b12, 0, none⟩ = some (.int .i64 k) := by rw [obj_cell ob11]; rfl
        have u1 : w11.cell? ⟨b12, 1, none⟩ = some (.slice ao9 mb cap9) := by rw [obj_cell ob11]; rfl
        have hbagf : ba ≠ gf := by have := HKn.out.size; omega
        have z0 : w11.cell? ⟨ba, 0, none⟩ = some (.int .i64 f1) := k11.cellS (show w10.drew.cell? ⟨ba, 0, none⟩ = _ from y0) (fun e => hbagf e)
        have z1 : w11.cell? ⟨ba, 1, none⟩ = some (.slice (some ⟨gf, 0, none⟩) fn fc) := k11.cellS (show w10.drew.cell? ⟨ba, 1, none⟩ = _ from y1) (fun e => hbagf e)
        have v0 := obj_free ob11 0
        have v1 := obj_free ob11 1
        have hkf : IntKind.i64.wrap (k - f1) = k - f1 := by rw [IntKind.wrap_i64]; omega
        have hPi : k - f1 ≤ (fn : Int) := by omega
        have hPi0 : 0 ≤ k - f1 := by omega
        have hPic : k - f1 ≤ (fc : Int) := by omega
        have HR11 := Lib.hid (⟨ob11, o11, k11, q11, hPn⟩ : _ ∧ _ ∧ _ ∧ _ ∧ _)
        have HJn : Hid (∀ W, W = ((w11.setCell ⟨b12, 0, none⟩ (.int .i64 f1)).setCell ⟨b12, 1, none⟩ (.slice (some ⟨g11, 0, none⟩) ((k - f1).toNat + mb) c11)) → ∃ (jo : Option Addr) (jc jn : Nat) (X : List UInt8), Hid (X = qf.1.2.take (k - f1).toNat ++ bs ∧ jn = X.length ∧ W.heap[b12]? = some (.cells #[.int .i64 mn, .slice jo jn jc] 40 (0, 0)) ∧ W.ownsRow 0 5 1 (.slice jo jn jc) jn (bc X) ∧ (∀ j, (Value.slice jo jn jc).ownBlock = some j → (j = gf ∧ f1 ≤ k) ∨ w7.heap.size ≤ j) ∧ Kept (fun j => (j = gf ∧ f1 ≤ k) ∨ j = b12) w10 W)) := Lib.hid (fun W hW => by
          rw [← hPn] at hW
          have ks : Kept (OneB b12) w11 W := by rw [hW]; exact Kept.setCell (S := OneB b12) (p := ⟨b12, 1, none⟩) (Kept.setCell (S := OneB b12) (p := ⟨b12, 0, none⟩) (Kept.refl _ w11) (.inl rfl) _) (.inl rfl) _
          refine ⟨some ⟨g11, 0, none⟩, c11, Pn + mb, qf.1.2.take Pn ++ bs, Lib.hid ⟨by rw [hPn], by rw [List.length_append, List.length_take, ← HE.out.2.2.1, ← HMb.out]; omega, ?_, ?_, fun j hj => ?_, ?_⟩⟩
          · rw [hW, show mn = f1 by have := HMn.out; omega]
            exact obj_set (obj_set ob11 0 _) 1 _
          · exact ks.row o11 (fun j hj e => row2_ne o11 ob11 (by decide) j hj e)
          · have : g11 = j := by injection hj
            have := H10.out.2.1.size
            rcases q11 with e | e
            · left; exact ⟨by omega, hc1⟩
            · right
              have e' : w10.heap.size ≤ g11 := e
              omega
          · exact ((((Kept.refl NoB w10).drew.dom).trans k11).mono (fun j _ e => .inl ⟨e, hc1⟩)).trans (ks.mono (fun j _ e => .inr e)))
        rw [hPn] at r11
        clear hPn ob11 o11 k11 q11
        go_upto_region 11 with fail
        go_region_law (refine step_app_known rfl (.tmp 90) (.tmp 91) 22 22 rfl _ _ rfl rfl _ _ r11 ?_)
        all_goals go_simp
        all_goals go_wp2
        all_goals go_meet
        all_goals exact HJn.out _ rfl
      · go_wp2
        go_meet
        have e1 : mn = k := by have := HMn.out; omega
        have e2 : (k - f1).toNat = 0 := by omega
        refine ⟨ao9, cap9, mb, bs, Lib.hid ⟨by rw [e2]; simp, HMb.out, by rw [e1]; exact H10.out.1, H10.out.2.2.1, fun j hj => .inr (h9.out.2.1 j hj), Kept.refl _ _⟩⟩
      -- E>>
    case rest =>
    obtain ⟨jo, jc, jn, X, HX⟩ := hcut
    obtain ⟨w13, rfl⟩ : ∃ w13, w13 = wc := ⟨_, rfl⟩
    clear y0 y1
    have hB6w : w.heap.size ≤ B6 ∧ w.heap.size ≤ B7 ∧ w.heap.size ≤ B8 := by
      obtain ⟨q1, q2, q3⟩ := hB.out
      have := HK3.out.size
      omega
    have hwn := HKn.out.size
    have k13 : Kept (fun j => (j = gf ∧ f1 ≤ k) ∨ j = b12) w7 w13 := H10.out.2.1.dom.trans HX.out.2.2.2.2.2
    have old13 : ∀ j, w.heap.size ≤ j → j < w7.heap.size → ¬ ((j = gf ∧ f1 ≤ k) ∨ j = b12) := fun j h1 h2 e => by
      have := H10.out.2.2.2
      rcases e with e | e <;> omega
    have Z0 : ∀ W, Kept NoB w13 W → W.cell? ⟨bz, 0, none⟩ = some (.int .i64 l1) := fun W hk => hk.cell (k13.cellS (HZ0.out w7 H7.out) (old13 bz (by omega) HBl.out.2.2.2.2))
    have Z1 : ∀ W, Kept NoB w13 W → W.cell? ⟨bz, 1, none⟩ = some (.slice la ln lc) := fun W hk => hk.cell (k13.cellS (HZ1.out w7 H7.out) (old13 bz (by omega) HBl.out.2.2.2.2))
    have D7 : ∀ W, Kept NoB w13 W → W.cell? ⟨B7, 0, none⟩ = some (.int .i64 (k + (mb : Int))) := fun W hk => hk.cell (k13.cellS (HD7.out w7 H7.out) (old13 B7 (by omega) HBl.out.2.1))
    have HK13 := Lib.hid k13; have HOld := Lib.hid old13
    have HEnd : Hid (∀ W, Calls Tryz.prog 47 #[.agg #[.int .i64 l1, .slice la ln lc]] W fun e w' => e = .returned (.int .i64 (l1 + (ln : Int))) ∧ Kept NoB W w') := Lib.hid (fun W => (end_any l1 ln la lc W (by omega)).mono (fun e w' ⟨h1, h2⟩ => ⟨h1, by rw [h2]; exact (Kept.refl _ _).alloc _⟩))
    obtain ⟨mo, hmo⟩ : ∃ mo : Int, mo = l1 + (ln : Int) - (k + (mb : Int)) := ⟨_, rfl⟩
    have hmw : IntKind.i64.wrap (l1 + (ln : Int) - (k + (mb : Int))) = mo := by rw [IntKind.wrap_i64]; omega
    have HMo := Lib.hid hmo
    clear k13 old13 hmo
    go_upto_region 12 with fail
    go_region_held3 (fun W => Kept NoB w13 W) (first | assumption | exact Kept.refl _ _ | exact Kept.drew (Kept.refl _ _) | exact Kept.drew (by assumption) | exact Kept.trans (by assumption) hke) ((go_at_call 47; ((with_reducible refine (HEnd.out _).mono ?_); rintro e we ⟨rfl, hke⟩)))
    have hk14 : Kept NoB w13 we := by assumption
    have H14 := Lib.hid hk14
    clear hke hk14 Z0 Z1 D7 HEnd hmw
    obtain ⟨w14, rfl⟩ : ∃ w14, w14 = we := ⟨_, rfl⟩
    obtain ⟨hX, hjn, hx12, hxo, hxb, hxk⟩ := HX.out
    have hgl : ∃ gl, la = some ⟨gl, 0, none⟩ ∧ ln ≤ lc ∧ lc ≤ maxLen ∧ w.ownsRow 0 5 1 (.slice la ln lc) ln (bc ql.1.2) ∧ (0 < mo → ¬ (gl = gf ∧ f1 ≤ k)) := by
      obtain ⟨hf1, hfa, hfn, hfc, hl1, hla, hln, hlc⟩ := HE.out
      have hql : ql ∈ qs := by rw [HAll.out.2.2.1.all, HAll.out.2.2.1.last]; simp
      have ho := HAll.out.2.1.each ql hql
      have hne := (HAll.out.2.2.2.2.2.2.1.each ql.1 (by rw [HAll.out.2.2.2.2.2.2.2]; exact List.mem_map.2 ⟨ql, hql, rfl⟩)).2.1
      have hap : 0 < mo → f1 ≤ k → ∀ j, pcB ql = some j → pcB qf ≠ some j := fun hm hc1 j hj e => by
        have hr : ql ∈ QR := by
          refine HAll.out.2.2.1.far ?_
          unfold endP
          rw [← hf1, ← hfn, ← hl1, ← hln]
          have h1 := HMo.out
          have h2 := HCc.out
          have h3 : ¬ k + (mb : Int) ≤ f1 + (fn : Int) := fun e => by simp [hc1, e] at h2
          omega
        have hp := HAll.out.2.1.apart
        rw [HAll.out.2.2.1.all, List.append_assoc, List.pairwise_append, List.pairwise_append, List.pairwise_cons] at hp
        exact hp.2.1.1.1 ql hr j e hj
      unfold pcB at hap
      rw [← hla, ← hln, ← hlc] at ho hap
      rcases ho.2 with ⟨h1, h2⟩ | ⟨g', cc, cur, h1, _, _, h2, h3, _⟩
      · exact absurd (List.eq_nil_of_length_eq_zero (by omega)) hne
      · simp only [Value.slice.injEq, true_and] at h1
        obtain ⟨rfl, rfl⟩ := h1
        exact ⟨g', rfl, h2, h3, ho, fun hm e => hap hm e.2 g' rfl (by rw [e.1]; exact HFo.out.2)⟩
    obtain ⟨gl, rfl, hlc1, hlc2, hlo, hlap⟩ := hgl
    have hlc63 : (lc : Int) ≤ 9223372036854775807 := by unfold maxLen at hlc2; omega
    have hgll : gl < w.heap.size := (hlo.lt gl rfl).2
    have hb12w : w7.heap.size ≤ b12 := H10.out.2.2.2
    have hw7 : w.heap.size ≤ w7.heap.size := HKq.out.size
    have k14 : Kept (fun j => (j = gf ∧ f1 ≤ k) ∨ j = b12) w w14 := (HKq.out.dom.trans HK13.out).trans H14.out.dom
    have s14 : w7.heap.size ≤ w14.heap.size := Nat.le_trans HK13.out.size H14.out.size
    have ob14 : w14.heap[b12]? = some (.cells #[.int .i64 mn, .slice jo jn jc] 40 (0, 0)) := H14.out.obj hx12 id
    have jown : w14.ownsRow 0 5 1 (.slice jo jn jc) jn (bc X) := H14.out.row hxo (fun _ _ e => e)
    have jn0 : 0 < jn := by rw [hjn, hX, List.length_append, ← HMb.out]; omega
    obtain ⟨gj, rfl⟩ : ∃ gj, jo = some ⟨gj, 0, none⟩ := by
      rcases jown.2 with ⟨h1, h2⟩ | ⟨g', cc, cur, h1, _⟩
      · omega
      · simp only [Value.slice.injEq] at h1; exact ⟨g', h1.1⟩
    have hjcap : jn ≤ jc ∧ jc ≤ maxLen := by
      rcases jown.2 with ⟨h1, h2⟩ | ⟨g', cc, cur, h1, _, _, h2, h3, _⟩
      · cases h1
      · simp at h1; obtain ⟨_, rfl⟩ := h1; exact ⟨h2, h3⟩
    have hjc63 : (jc : Int) ≤ 9223372036854775807 := by have := hjcap.2; unfold maxLen at this; omega
    have u0 : w14.cell? ⟨b12, 0, none⟩ = some (.int .i64 mn) := by rw [obj_cell ob14]; rfl
    have u1 : w14.cell? ⟨b12, 1, none⟩ = some (.slice (some ⟨gj, 0, none⟩) jn jc) := by rw [obj_cell ob14]; rfl
    have z1 : w14.cell? ⟨bz, 1, none⟩ = some (.slice (some ⟨gl, 0, none⟩) ln lc) := H14.out.cell (HK13.out.cellS (HZ1.out w7 H7.out) (HOld.out bz (by omega) HBl.out.2.2.2.2))
    have H15 := Lib.hid (⟨hX, hjn, hxb, ob14, jown, k14, hlo, hlap⟩ : _ ∧ _ ∧ _ ∧ _ ∧ _ ∧ _ ∧ _ ∧ _)
    clear hX hjn hx12 hxo hxb hxk k14 ob14 jown hlo hlap
    go_upto_if 99 with fail
    go_cut [] from 99 to 111 (fun wx => ∃ (yo : Option Addr) (yc yn : Nat) (Y : List UInt8), Hid (Y = X ++ ql.1.2.drop (k + (mb : Int) - l1).toNat ∧ yn = Y.length ∧ wx.heap[b12]? = some (.cells #[.int .i64 mn, .slice yo yn yc] 40 (0, 0)) ∧ wx.ownsRow 0 5 1 (.slice yo yn yc) yn (bc Y) ∧ (∀ j, (Value.slice yo yn yc).ownBlock = some j → j = gf ∨ w7.heap.size ≤ j) ∧ Kept (fun j => j = gf ∨ w7.heap.size ≤ j) w14 wx))
    case first =>
      -- <<F
      by_cases hm : 0 < mo
      · have hml : mo ≤ (ln : Int) := by have := HMo.out; omega
        obtain ⟨ix, hix⟩ : ∃ ix, ix = ((ln : Int) - mo).toNat := ⟨_, rfl⟩
        have hixn : ix < ln := by omega
        have hixc : ¬ lc = ((ln : Int) - mo).toNat := by omega
        have hld : (ql.1.2.drop ix).length = ln - ix := by rw [List.length_drop, ← HE.out.2.2.2.2.2.2.1]
        have krow : w14.drew.ownsRow 0 5 1 (.slice (some ⟨gl, 0, none⟩) ln lc) ln (bc ql.1.2) := (Kept.refl NoB w14).drew.row (H15.out.2.2.2.2.2.1.row H15.out.2.2.2.2.2.2.1 (fun j hj e => by
          have hj' : gl = j := by injection hj
          rcases e with e | e
          · exact H15.out.2.2.2.2.2.2.2 hm ⟨by omega, e.2⟩
          · omega)) (fun _ _ e => e)
        have krd : Reads w14.drew (some ⟨gl, ix, none⟩) (nb (ql.1.2.drop ix)) := by
          have h0 : w14.drew.ownsRow 0 5 1 (.slice (some ⟨gl, 0, none⟩) (nb ql.1.2).length lc) (nb ql.1.2).length ((nb ql.1.2).map (.int .u8)) := by
            rw [nb_len, ← HE.out.2.2.2.2.2.2.1, ← bc_nb]; exact krow
          have h1 := own_reads h0 rfl
          have h2 := reads_drop ix h1
          rw [addr_add, Nat.zero_add] at h2
          have e : nb (ql.1.2.drop ix) = (nb ql.1.2).drop ix := by simp [nb, List.map_drop]
          rw [e]; exact h2
        obtain ⟨g14, c14, w15, r15, o15, k15, q15⟩ := run_app_by w14.drew gj jn jc jn X H15.out.2.1 ((Kept.refl NoB w14).drew.row H15.out.2.2.2.2.1 (fun _ _ e => e)) (Nat.le_refl _) (some ⟨gl, ix, none⟩) (ql.1.2.drop ix) (lc - ix) krd (fun e => by rw [e] at hld; simp at hld; omega) (by
          have hm1 := HMo.out
          have h1 := H15.out.1
          have h2 := H15.out.2.1
          rw [h1, List.length_append, List.length_take, ← HMb.out] at h2
          rw [hld]
          omega)
        rw [hld, hix] at r15
        have hgjb : gj ≠ b12 := row2_ne H15.out.2.2.2.2.1 H15.out.2.2.2.1 (by decide) gj rfl
        have ob15 : w15.heap[b12]? = some (.cells #[.int .i64 mn, .slice (some ⟨gj, 0, none⟩) jn jc] 40 (0, 0)) := k15.obj H15.out.2.2.2.1 (fun e => hgjb (by have e : b12 = gj := e; exact e.symm))
        have t1 : w15.cell? ⟨b12, 1, none⟩ = some (.slice (some ⟨gj, 0, none⟩) jn jc) := by rw [obj_cell ob15]; rfl
        have t2 := obj_free ob15 1
        have hlm : IntKind.i64.wrap ((ln : Int) - mo) = (ln : Int) - mo := by rw [IntKind.wrap_i64]; omega
        have hlm0 : 0 ≤ (ln : Int) - mo := by omega
        have hlm1 : (ln : Int) - mo ≤ (ln : Int) := by omega
        have hlm2 : (ln : Int) - mo ≤ (lc : Int) := by omega
        have H16 := Lib.hid (⟨hld, o15, k15, q15, ob15⟩ : _ ∧ _ ∧ _ ∧ _ ∧ _)
        have HJn : Hid (∀ W, W = w15.setCell ⟨b12, 1, none⟩ (.slice (some ⟨g14, 0, none⟩) (jn + (ln - ((ln : Int) - mo).toNat)) c14) → ∃ (yo : Option Addr) (yc yn : Nat) (Y : List UInt8), Hid (Y = X ++ ql.1.2.drop (k + (mb : Int) - l1).toNat ∧ yn = Y.length ∧ W.heap[b12]? = some (.cells #[.int .i64 mn, .slice yo yn yc] 40 (0, 0)) ∧ W.ownsRow 0 5 1 (.slice yo yn yc) yn (bc Y) ∧ (∀ j, (Value.slice yo yn yc).ownBlock = some j → j = gf ∨ w7.heap.size ≤ j) ∧ Kept (fun j => j = gf ∨ w7.heap.size ≤ j) w14 W)) := Lib.hid (fun W hW => by
          rw [← hix] at hW
          have hixe : (k + (mb : Int) - l1).toNat = ix := by have := HMo.out; omega
          have ks : Kept (OneB b12) w15 W := by rw [hW]; exact Kept.setCell (S := OneB b12) (p := ⟨b12, 1, none⟩) (Kept.refl _ w15) (.inl rfl) _
          rw [hld] at o15
          refine ⟨some ⟨g14, 0, none⟩, c14, jn + (ln - ix), X ++ ql.1.2.drop ix, Lib.hid ⟨by rw [hixe], by rw [List.length_append, hld, ← H15.out.2.1], ?_, ?_, fun j hj => ?_, ?_⟩⟩
          · rw [hW]; exact obj_set ob15 1 _
          · have e1 : X.take jn = X := List.take_of_length_le (by rw [← H15.out.2.1]; exact Nat.le_refl _)
            rw [e1] at o15
            exact ks.row o15 (fun j hj e => row2_ne o15 ob15 (by decide) j hj e)
          · have : g14 = j := by injection hj
            rcases q15 with e | e
            · rcases H15.out.2.2.1 gj rfl with h | h
              · left; omega
              · right; omega
            · right
              have e' : w14.heap.size ≤ g14 := e
              omega
          · refine ((((Kept.refl NoB w14).drew.dom).trans k15).mono (fun j _ e => ?_)).trans (ks.mono (fun j _ e => ?_))
            · have e : j = gj := e
              rcases H15.out.2.2.1 gj rfl with h | h
              · left; omega
              · right; omega
            · have e : j = b12 := e
              right; omega)
        have HIx := Lib.hid hix
        clear krow krd ob15 o15 k15 q15 hld hix
        go_upto_region 14 with fail
        go_region_law (refine step_app_known rfl (.tmp 101) (.tmp 109) 22 22 rfl _ _ rfl rfl _ _ r15 ?_)
        all_goals go_simp
        all_goals go_wp2
        all_goals go_meet
        all_goals exact HJn.out _ rfl
      · go_wp2
        go_meet
        have e1 : ql.1.2.drop (k + (mb : Int) - l1).toNat = [] := by
          apply List.drop_eq_nil_of_le
          rw [← HE.out.2.2.2.2.2.2.1]
          have := HMo.out
          omega
        exact ⟨_, jc, jn, X, Lib.hid ⟨by rw [e1, List.append_nil], H15.out.2.1, H15.out.2.2.2.1, H15.out.2.2.2.2.1, fun j hj => (H15.out.2.2.1 j hj).imp (fun e => e.1) id, Kept.refl _ _⟩⟩
      -- F>>
    case rest =>
    obtain ⟨yo, yc, yn, Y, HY⟩ := hcut
    obtain ⟨w16, rfl⟩ : ∃ w16, w16 = wc := ⟨_, rfl⟩
    obtain ⟨hY, hyn, hy12, hyo, hyb, hyk⟩ := HY.out
    have hdgf : D ≠ gf := fun e => (HAll.out.2.2.2.2.1 gf ⟨qf, by rw [HAll.out.2.2.1.all]; simp, HFo.out.2⟩).1 e.symm
    have hDl : D < w.heap.size := obj_lt HAll.out.1
    have hggf : g ≠ gf := fun e => row_byt HAll.out.2.1 ⟨qf, by rw [HAll.out.2.2.1.all]; simp, HFo.out.2⟩ (by rw [e]; rfl)
    have hgl2 : g < w.heap.size := (HAll.out.2.1.own.lt g rfl).2
    have k16 : Kept (OneB gf) w w16 := kept_on2 (kept_on2 (S := OneB gf) (HKq.out.trans H10.out.2.1).dom (HX.out.2.2.2.2.2.trans H14.out.dom) (fun j hj e => by
      have := H10.out.2.2.2
      have := HKq.out.size
      rcases e with e | e
      · exact e.1
      · omega)) hyk (fun j hj e => by
      have := HKq.out.size
      rcases e with e | e
      · exact e
      · omega)
    have keepB : ∀ j, w.heap.size ≤ j → j < w7.heap.size → w16.heap[j]? = w7.heap[j]? := fun j h1 h2 => by
      have h3 := HOld.out j h1 h2
      have e1 := HK13.out.block j h2 h3
      have e2 := H14.out.block j (Nat.lt_of_lt_of_le h2 HK13.out.size) id
      have e3 := hyk.block j (Nat.lt_of_lt_of_le h2 s14) (fun e => by rcases e with e | e <;> omega)
      rw [e3, e2, e1]
    have c6 : w16.cell? ⟨B6, 0, none⟩ = some (.slice (some ⟨g, 0, none⟩) n c) := (World.cell?_of_block (keepB B6 hB6w.1 HBl.out.1)).trans (HD6.out w7 H7.out)
    have c8 : w16.cell? ⟨B8, 0, none⟩ = some (.int .i64 (A : Int)) := (World.cell?_of_block (keepB B8 hB6w.2.2 HBl.out.2.2.1)).trans (HD8.out w7 H7.out)
    have p0 : w16.cell? ⟨b12, 0, none⟩ = some (.int .i64 mn) := by rw [obj_cell hy12]; rfl
    have p1 : w16.cell? ⟨b12, 1, none⟩ = some (.slice yo yn yc) := by rw [obj_cell hy12]; rfl
    have hDw : w16.heap[D]? = some (.cells cs 63 (0, 0)) := k16.obj HAll.out.1 (fun e => hdgf e)
    have hrow : w16.ownsRow 0 40 2 (.slice (some ⟨g, 0, none⟩) n c) n (fcells qs) := by
      have := HAll.out.2.1.own
      rw [← HN.out] at this
      exact k16.row this (fun j hj e => by
        have e : j = gf := e
        have : g = j := by injection hj
        omega)
    obtain ⟨w17, hw17⟩ : ∃ w17, w17 = w16.alloc (.cells #[.int .i64 mn, .slice yo yn yc] 40) := ⟨_, rfl⟩
    have k17 : Kept NoB w16 w17 := by rw [hw17]; exact (Kept.refl _ _).alloc _
    have hAJ2 : A < J := by have := HJ.out; omega
    have hJn : J ≤ n := by have := HJ.out; omega
    obtain ⟨gg, hgg, HRp⟩ := replace_any (some ⟨g, 0, none⟩) n c A J qs ((mn, Y), (yo, yc)) w17 HN.out (k17.row hrow (fun _ _ e => e)) hAJ2 hJn w16.heap.size (by rw [hw17, ← hyn]; exact heap_push _ _) (fun e => by
      have : g = w16.heap.size := by injection e
      have := k16.size
      omega) hlen
    obtain rfl : g = gg := by injection hgg with h; injection h
    have HTk := HTt.out
    rw [show A + (M + 1) = J by have := HJ.out; omega] at HTk
    rw [HTk.1, HTk.2, hw17] at HRp
    have HR := Lib.hid HRp
    have HK17 := Lib.hid (⟨hw17, k17, k16, hY, hyn, hyo, hyb, hDw⟩ : _ ∧ _ ∧ _ ∧ _ ∧ _ ∧ _ ∧ _ ∧ _)
    clear HRp hw17 k17 k16 hY hyn hy12 hyo hyb hyk hDw hrow keepB HTk
    have hDg : D ≠ g := fun e => row2_ne HAll.out.2.1.own HAll.out.1 (by decide) g rfl e.symm
    have HDw : Hid (∀ W, Kept (OneB g) (w16.alloc (.cells #[.int .i64 mn, .slice yo yn yc] 40)) W → W.heap[D]? = some (.cells cs 63 (0, 0))) := Lib.hid (fun W hW => hW.obj (((Kept.refl NoB w16).alloc _).obj HK17.out.2.2.2.2.2.2.2 id) (fun e => hDg e))
    go_upto_region 15 with fail
    go_wp2_with (first | (refine wpList_build_pc rfl (.tmp 116) rfl mn yo yn yc rfl ?_) | (go_at_call 52; refine HR.out.mono ?_; rintro e w18 ⟨rfl, h18o, h18k⟩; have H18 := Lib.hid (And.intro h18o h18k); clear h18o; (have o18 := HDw.out _ h18k); clear h18k; (have c18 := obj_cell o18 13); (rw [HCs.out] at c18); have f18 := obj_free o18 13; have HO18 := Lib.hid o18; clear o18))
    refine bodyPost_ret (results_none rfl _ _ _) rfl ?_
    obtain ⟨hw17, k17, k16, hY, hyn, hyo, hyb, hDw⟩ := HK17.out
    obtain ⟨h18o, h18k⟩ := H18.out
    rw [← hw17] at h18k
    obtain ⟨hD, hd, hT, hrb, hx, hy, hl, hle⟩ := HAll.out
    have hcut : A + 1 + (n - J) = QA.length + 1 + QB.length := by
      have h1 := HAe.out
      have h2 := congrArg List.length HTt.out.2
      rw [List.length_drop, ← HN.out] at h2
      have := HJ.out
      omega
    have ks : Kept (OneB D) w18 (w18.setCell ⟨D, 13, none⟩ (.slice (some ⟨g, 0, none⟩) (A + 1 + (n - J)) c)) := Kept.setCell (S := OneB D) (p := ⟨D, 13, none⟩) (Kept.refl _ w18) (.inl rfl) _
    have kall : Kept (fun j => j = D ∨ j = g ∨ pcB qf = some j) w (w18.setCell ⟨D, 13, none⟩ (.slice (some ⟨g, 0, none⟩) (A + 1 + (n - J)) c)) := by
      refine ((((k16.mono (fun j _ e => ?_)).trans k17.dom).trans (h18k.mono (fun j _ e => ?_)))).trans (ks.mono (fun j _ e => .inl e))
      · have e : j = gf := e
        exact .inr (.inr (by rw [e]; exact HFo.out.2))
      · exact .inr (.inl e)
    have hlen16 : w.heap.size ≤ w16.heap.size := k16.size
    refine put_fin hT hd (fun j hj => (hx j hj).1) ((mn, Y), (yo, yc)) ?_ _ hcut (obj_set HO18.out 13 _) ?_ ?_ ?_ kall
    · rw [hY, HX.out.1, ← HE.out.2.2.2.2.1, ← HMb.out, ← HE.out.1, HMn.out]
    · exact ks.row h18o (fun j hj e => by
        have e : j = D := e
        have : g = j := by injection hj
        exact hDg (by omega))
    · show (w18.setCell _ _).ownsRow 0 _ 1 (.slice yo Y.length yc) Y.length (bc Y)
      rw [← hyn]
      have h1 := (h18k.row ((k17.row hyo (fun _ _ e => e))) (fun j hj e => ?_))
      · exact ks.row h1 (fun j hj e => row2_ne h1 HO18.out (by decide) j hj e)
      · have e : j = g := e
        rcases hyb j hj with h | h
        · exact hggf (by omega)
        · have := HKq.out.size
          omega
    · intro j hj
      have hj' : (Value.slice yo yn yc).ownBlock = some j := by
        have : (Value.slice yo Y.length yc).ownBlock = some j := hj
        rw [← hyn] at this; exact this
      rcases hyb j hj' with h | h
      · left; rw [h]; exact HFo.out.2
      · right
        have := HKq.out.size
        omega
end Go.Proofs.YtgbakogihkdddaaGreatDoor
