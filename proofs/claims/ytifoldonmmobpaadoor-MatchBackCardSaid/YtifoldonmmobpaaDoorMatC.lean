/-
  match: best, Longest.
-/
import Derived.Test.YtifoldonmmobpaaDoorMatB
namespace Go.Proofs.YtifoldonmmobpaaDoor
open Go.RowKit
set_option linter.unusedVariables false
set_option linter.unusedSimpArgs false
set_option maxRecDepth 20000

def bestC (g o N c a m n d : Nat) : Array Value := #[.slice (some ⟨g, o, none⟩) N c, .int .i64 (a : Int), .int .i64 (m : Int), .int .i64 (n : Int), .int .i64 (d : Int)]
/-- What was found so far. -/
def BestAt (w : World) (r g o N c a m n d : Nat) : Prop := w.heap[r]? = some (.cells (bestC g o N c a m n d) 47 (0, 0))
theorem BestAt.cells {w : World} {r g o N c a m n d : Nat} (h : BestAt w r g o N c a m n d) :
    w.cell? ⟨r, 0, none⟩ = some (.slice (some ⟨g, o, none⟩) N c) ∧ w.cell? ⟨r, 1, none⟩ = some (.int .i64 (a : Int)) ∧ w.cell? ⟨r, 2, none⟩ = some (.int .i64 (m : Int)) ∧ w.cell? ⟨r, 3, none⟩ = some (.int .i64 (n : Int)) ∧ w.cell? ⟨r, 4, none⟩ = some (.int .i64 (d : Int)) :=
  ⟨obj_cell h 0, obj_cell h 1, obj_cell h 2, obj_cell h 3, obj_cell h 4⟩
theorem BestAt.kept {w w' : World} {r g o N c a m n d : Nat} (h : BestAt w r g o N c a m n d) (hk : Kept NoB w w') : BestAt w' r g o N c a m n d := hk.obj h (fun h => h)
theorem infoBest : (Tryd.prog.info? 47).map (·.size) = some 5 := by kernel_rfl
set_option maxHeartbeats 1000000 in
theorem newbest_any (ao : Option Addr) (N c a : Nat) (w : World) (ha : a ≤ N) (hN : N ≤ 9223372036854775807) :
    Calls Tryd.prog 19 #[.slice ao N c, .int .i64 (a : Int)] w fun e w' => e = .returned (.agg #[.slice ao N c, .int .i64 (a : Int), .int .i64 ((min 258 (N - a) : Nat) : Int), .int .i64 2, .int .i64 0]) ∧ Kept NoB w w' := by
  by_cases h : (N : Int) - (a : Int) < 258
  · have HX : Hid ((N : Int) - (a : Int) = ((min 258 (N - a) : Nat) : Int)) := Lib.hid (by omega)
    go_enter Tryd.func19, Tryd.ntmps19
    go_wp2
    refine bodyPost_ret (results_cell_row rfl _ _ w.heap.size 47 _ (0, 0) _ rfl (heap_alloc_new _ _) Tryd.underlying47 rfl infoBest) rfl ?_
    exact ⟨by rw [HX.out], (Kept.refl NoB w).alloc _⟩
  · have HX : Hid ((258 : Int) = ((min 258 (N - a) : Nat) : Int)) := Lib.hid (by omega)
    go_enter Tryd.func19, Tryd.ntmps19
    go_wp2
    refine bodyPost_ret (results_cell_row rfl _ _ w.heap.size 47 _ (0, 0) _ rfl (heap_alloc_new _ _) Tryd.underlying47 rfl infoBest) rfl ?_
    exact ⟨by rw [← HX.out], (Kept.refl NoB w).alloc _⟩
set_option maxHeartbeats 1000000 in
theorem full_any (r g o N c a m n d : Nat) (w : World) (hb : BestAt w r g o N c a m n d) :
    Calls Tryd.prog 20 #[.pointer (some ⟨r, 0, none⟩)] w fun e w' => e = .returned (.bool (decide (m ≤ n))) ∧ Kept NoB w w' := by
  obtain ⟨c0, c1, c2, c3, c4⟩ := hb.cells
  have hd : decide ((m : Int) ≤ (n : Int)) = decide (m ≤ n) := by simp
  clear hb
  go_enter Tryd.func20, Tryd.ntmps20
  go_wp2
  go_quiet (fail)
  go_wp2
  go_ret
  exact ⟨by first | rfl | (rw [hd]; rfl), (Kept.refl NoB w).drewN _⟩
set_option maxHeartbeats 1000000 in
theorem answer_any (r g o N c a m n d : Nat) (w : World) (hb : BestAt w r g o N c a m n d) :
    Calls Tryd.prog 22 #[.pointer (some ⟨r, 0, none⟩)] w fun e w' => e = .returned (.tuple #[.int .i64 (if d = 0 then 0 else (n : Int)), .int .i64 (d : Int)]) ∧ Kept NoB w w' := by
  obtain ⟨c0, c1, c2, c3, c4⟩ := hb.cells
  clear hb
  by_cases hd : d = 0
  · rw [if_pos hd]
    have y1 : ((d : Int) == 0) = true := by rw [hd]; rfl
    subst hd
    go_enter Tryd.func22, Tryd.ntmps22
    go_wp2
    go_ret2
    exact ⟨rfl, Kept.refl NoB w⟩
  · rw [if_neg hd]
    have y1 : ((d : Int) == 0) = false := by simp; omega
    go_enter Tryd.func22, Tryd.ntmps22
    go_wp2
    go_quiet (fail)
    go_wp2
    go_ret2
    exact ⟨rfl, (Kept.refl NoB w).drewN _⟩
/-- One place is tried. -/
def TryP (w : World) (r g o N c a m : Nat) (L : List UInt8) (n d from_ : Nat) (e : Ending) (w' : World) : Prop :=
  e = .returned (.tuple #[]) ∧ Kept (OneB r) w w' ∧ BestAt w' r g o N c a m (if n < shr L from_ a m then shr L from_ a m else n) (if n < shr L from_ a m then a - from_ else d)
set_option maxRecDepth 100000 in
set_option maxHeartbeats 4000000 in
theorem try_any (r g o N c a m n d f : Nat) (L : List UInt8) (w : World) (hb : BestAt w r g o N c a m n d) (hr : RdB w g o L 0 N) (hN : N = L.length) (hc : N ≤ c) (hcm : c ≤ 9223372036854775807) (hm : m = min 258 (N - a)) (hnm : n < m) (hf : f < a) (haN : a < N) (hT : DeB w) :
    Calls Tryd.prog 21 #[.pointer (some ⟨r, 0, none⟩), .int .i64 (f : Int)] w (TryP w r g o N c a m L n d f) := by
  have HB := Lib.hid hb; have HR := Lib.hid hr; have HT := Lib.hid hT; have HN := Lib.hid hN
  obtain ⟨c0, c1, c2, c3, c4⟩ := hb.cells
  have hfn := hr (f + n) (by omega)
  have han := hr (a + n) (by omega)
  rw [Nat.zero_add] at hfn han
  obtain ⟨x, hx⟩ : ∃ x, x = L.getD (f + n) 0 := ⟨_, rfl⟩
  obtain ⟨y, hy⟩ : ∃ y, y = L.getD (a + n) 0 := ⟨_, rfl⟩
  rw [← hx] at hfn
  rw [← hy] at han
  obtain ⟨fn, hfn2⟩ : ∃ fn, fn = f + n := ⟨_, rfl⟩
  obtain ⟨an, han2⟩ : ∃ an, an = a + n := ⟨_, rfl⟩
  rw [← hfn2] at hfn
  rw [← han2] at han
  have i1 : (f : Int) + (n : Int) = (fn : Int) := by omega
  have i2 : (a : Int) + (n : Int) = (an : Int) := by omega
  have i3 : (fn : Int) < (N : Int) := by omega
  have i4 : (an : Int) < (N : Int) := by omega
  have hmb : m ≤ 258 := by omega
  have hmN : a + m ≤ N := by omega
  have HSh := Lib.hid (fun W (hk : Kept NoB w W) => shared_any g (o + f) (N - f) (c - f) f (o + a) (N - a) (c - a) a m L W (by have := (hr.kept hk).drop f; rwa [Nat.zero_add] at this) (by have := (hr.kept hk).drop a; rwa [Nat.zero_add] at this) (by omega) (by omega) (by omega) (by omega) hmb (by omega) (by omega) (by omega) (by omega) (hT.kept hk))
  have HIf := Lib.hid (fun k (hk : k ≤ m) => shr_iff L m f a k hk)
  obtain ⟨S, hS⟩ : ∃ S, S = shr L f a m := ⟨_, rfl⟩
  have hSm : S ≤ m := by rw [hS]; exact shr_le L m f a
  unfold TryP
  rw [← hS] at HSh HIf ⊢
  obtain ⟨n2, hn2⟩ : ∃ n2, n2 = (if n < S then S else n) := ⟨_, rfl⟩
  obtain ⟨d2, hd2⟩ : ∃ d2, d2 = (if n < S then a - f else d) := ⟨_, rfl⟩
  rw [← hn2, ← hd2]
  have HN2 := Lib.hid hn2; have HD2 := Lib.hid hd2
  clear hn2 hd2
  have w1 : IntKind.i64.wrap (fn : Int) = (fn : Int) := IntWalk.i64_in _ (by omega)
  have w2 : IntKind.i64.wrap (an : Int) = (an : Int) := IntWalk.i64_in _ (by omega)
  clear hb hr hT hN hS hfn2 han2 hm
  by_cases hxy : x = y
  · clear hx hy
    subst hxy
    have hbb : ((x.toNat : Int) == (x.toNat : Int)) = true := by simp
    have hbn : ((x.toNat : Int) != (x.toNat : Int)) = false := by simp
    go_enter Tryd.func21, Tryd.ntmps21
    go_wp2
    go_quiet (fail)
    have hk1 : Kept NoB w (w.drewN nq) := (Kept.refl NoB w).drewN nq
    obtain ⟨wq, hwq⟩ : ∃ wq, wq = w.drewN nq := ⟨_, rfl⟩
    rw [← hwq] at hk1 ⊢
    have HK1 := Lib.hid hk1
    have g0 : ∀ W, Kept NoB wq W → W.cell? ⟨r, 0, none⟩ = some (.slice (some ⟨g, o, none⟩) N c) := fun W hk => hk.cell (hk1.cell c0)
    have g1 : ∀ W, Kept NoB wq W → W.cell? ⟨r, 1, none⟩ = some (.int .i64 (a : Int)) := fun W hk => hk.cell (hk1.cell c1)
    have g2 : ∀ W, Kept NoB wq W → W.cell? ⟨r, 2, none⟩ = some (.int .i64 (m : Int)) := fun W hk => hk.cell (hk1.cell c2)
    have j1 : (f : Int) ≤ (N : Int) := by omega
    have j2 : (a : Int) ≤ (N : Int) := by omega
    have j3 : ¬ c = f := by omega
    have j4 : ¬ c = a := by omega
    have hk0 := Kept.refl NoB wq
    clear c0 c1 c2 c3 c4 hfn han hwq hk1
    go_wp2_with fail
    go_region_held3 (fun W => Kept NoB wq W) (first | assumption | exact Kept.drew (by assumption) | exact Kept.trans (by assumption) hkn)
      (first
        | (go_at_call 30; ((with_reducible refine (HSh.out _ (HK1.out.trans (by assumption))).mono ?_); rintro e wn ⟨rfl, hkn⟩)))
    all_goals (
      have HKn := Lib.hid (HK1.out.trans (show Kept NoB wq wn by assumption))
      have hbn := HB.out.kept HKn.out
      obtain ⟨b0, b1, b2, b3, b4⟩ := hbn.cells
      have HBn := Lib.hid hbn
      clear hbn g0 g1 g2
      by_cases hSn : n < S
      · have hSi : (n : Int) < (S : Int) := by omega
        have e3 : wn.frozen? ⟨r, 3, none⟩ = false := obj_free HBn.out 3
        have o1 := obj_set HBn.out 3 (.int .i64 (S : Int))
        have e4 : (wn.setCell ⟨r, 3, none⟩ (.int .i64 (S : Int))).frozen? ⟨r, 4, none⟩ = false := obj_free o1 4
        have e5 : (wn.setCell ⟨r, 3, none⟩ (.int .i64 (S : Int))).cell? ⟨r, 4, none⟩ = some (.int .i64 (d : Int)) := obj_cell o1 4
        obtain ⟨dd, hdd⟩ : ∃ dd, dd = a - f := ⟨_, rfl⟩
        have hdi : (a : Int) - (f : Int) = (dd : Int) := by omega
        have o2 := obj_set o1 4 (.int .i64 (dd : Int))
        have HKf := Lib.hid (Kept.setCell (p := ⟨r, 4, none⟩) (Kept.setCell (S := OneB r) (p := ⟨r, 3, none⟩) (HKn.out.mono (fun _ _ h => absurd h (fun h => h))) (.inl rfl) (.int .i64 (S : Int))) (.inl rfl) (.int .i64 (dd : Int)))
        have HBf : Hid (BestAt ((wn.setCell ⟨r, 3, none⟩ (.int .i64 (S : Int))).setCell ⟨r, 4, none⟩ (.int .i64 (dd : Int))) r g o N c a m n2 d2) := Lib.hid (by
          rw [HN2.out, HD2.out, if_pos hSn, if_pos hSn, ← hdd]
          exact o2)
        clear o1 o2 hdd
        go_wp2
        refine bodyPost_end (results_none rfl _ _ _) rfl ?_
        exact ⟨rfl, HKf.out, HBf.out⟩
      · have hSi : ¬ (n : Int) < (S : Int) := by omega
        have HBf : Hid (BestAt wn r g o N c a m n2 d2) := Lib.hid (by
          rw [HN2.out, HD2.out, if_neg hSn, if_neg hSn]
          exact HBn.out)
        go_wp2
        refine bodyPost_end (results_none rfl _ _ _) rfl ?_
        exact ⟨rfl, HKn.out.mono (fun _ _ h => absurd h (fun h => h)), HBf.out⟩)
  · have HF : Hid (¬ n < S) := Lib.hid (fun h => by
      have := (HIf.out (n + 1) (by omega)).1 (by omega) n (by omega)
      rw [← hx, ← hy] at this
      exact hxy this)
    have hne : x.toNat ≠ y.toNat := fun e => hxy (UInt8.toNat_inj.1 e)
    have hbb : ((x.toNat : Int) == (y.toNat : Int)) = false := by simp; omega
    have hbn : ((x.toNat : Int) != (y.toNat : Int)) = true := by simp; omega
    clear hx hy hxy hne
    go_enter Tryd.func21, Tryd.ntmps21
    go_wp2
    have HBf : Hid (BestAt w r g o N c a m n2 d2) := Lib.hid (by
      rw [HN2.out, HD2.out, if_neg HF.out, if_neg HF.out]
      exact HB.out)
    go_quiet (fail)
    go_wp2
    refine bodyPost_ret (results_none rfl _ _ _) rfl ?_
    exact ⟨rfl, ((Kept.refl NoB w).drewN _).mono (fun _ _ h => absurd h (fun h => h)), HBf.out.kept ((Kept.refl NoB w).drewN _)⟩
end Go.Proofs.YtifoldonmmobpaaDoor
