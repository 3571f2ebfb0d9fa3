/-
  A tree of files in memory: tick marks nodes.
-/
import Derived.Test.YtilndmmjdbhmgaaFsD
namespace Go.Proofs.Ytilndmmjdbhmgaa
open Go.RowKit
set_option linter.unusedVariables false
set_option linter.unusedSimpArgs false
set_option maxRecDepth 20000

theorem cell_same {w w' : World} {b : Nat} (h : w'.heap[b]? = w.heap[b]?) (o : Nat) : w'.cell? ⟨b, o, none⟩ = w.cell? ⟨b, o, none⟩ := by simp [World.cell?, h]
/-- A node's cells, marked at c. -/
def tchA (A : Array Value) (c : Int) : Array Value := (A.setIfInBounds 4 (.int .i64 c)).setIfInBounds 10 (.int .i64 c)
theorem tchA_twice (A : Array Value) (c : Int) : tchA (tchA A c) c = tchA A c := by
  apply Array.ext_getElem?
  intro i
  unfold tchA
  simp only [Array.getElem?_setIfInBounds, Array.size_setIfInBounds]
  by_cases h4 : 4 = i <;> by_cases h10 : 10 = i <;> simp [h4, h10]
theorem tchA_nd (n : NdP) (m : Option Nat) (a : Option Addr) (k : Nat) (c : Int) : tchA (ndC n m a k).toArray c = (ndC (touch c n) m a k).toArray := rfl
theorem tchA_size (A : Array Value) (c : Int) : (tchA A c).size = A.size := by simp [tchA]

set_option maxHeartbeats 2000000 in
theorem tick_any {w : World} {f : Nat} {fc : Array Value} {c : Int} (bs : List Nat) (A : Nat → Array Value) (ao : Option Addr) (cap : Nat)
    (hf : w.heap[f]? = some (.cells fc 74 (0, 0))) (hc : fc[4]? = some (.int .i64 c)) (hcb : 0 ≤ c ∧ c + 1 ≤ 9223372036854775807)
    (hrow : ∀ i (hi : i < bs.length), ∃ rb off, ao = some ⟨rb, off, none⟩ ∧ rb ≠ f ∧ (∀ b ∈ bs, rb ≠ b) ∧ w.cell? ⟨rb, off + i, none⟩ = some (.pointer (some ⟨bs[i], 0, none⟩)))
    (hn : ∀ b ∈ bs, w.heap[b]? = some (.cells (A b) 71 (0, 0)) ∧ 11 ≤ (A b).size) (hl : bs.length ≤ 100) :
    Calls Try.prog 40 #[.pointer (some ⟨f, 0, none⟩), .slice ao bs.length cap] w fun e w' =>
      e = .returned (.tuple #[]) ∧ w'.heap[f]? = some (.cells (fc.setIfInBounds 4 (.int .i64 (c + 1))) 74 (0, 0)) ∧ (∀ b ∈ bs, w'.heap[b]? = some (.cells (tchA (A b) (c + 1)) 71 (0, 0))) ∧ Kept (fun k => k = f ∨ k ∈ bs) w w' ∧ w'.heap.size = w.heap.size := by
  have c4 : w.cell? ⟨f, 4, none⟩ = some (.int .i64 c) := by rw [obj_cell hf]; exact hc
  have f4 := obj_free hf 4
  have hfc : 4 < fc.size := (Array.getElem?_eq_some_iff.1 hc).1
  have hfn : ∀ b ∈ bs, b ≠ f := fun b hb e => by
    have := (hn b hb).1
    rw [e, hf] at this
    have h2 := Option.some.inj this
    injection h2 with _ h3
    exact absurd h3 (by decide)
  have HRow := Lib.hid hrow; have HN := Lib.hid hn; have HF := Lib.hid hf; have HFn := Lib.hid hfn
  obtain ⟨N, hN⟩ : ∃ N, N = bs.length := ⟨_, rfl⟩
  have HNl := Lib.hid hN
  rw [← hN] at hl ⊢
  clear hrow hn hf hfn hN
  obtain ⟨w1, hw1⟩ : ∃ w1, w1 = w.setCell ⟨f, 4, none⟩ (.int .i64 (c + 1)) := ⟨_, rfl⟩
  have hk1 : Kept (fun k => k = f ∨ k ∈ bs) w w1 := by rw [hw1]; exact (Kept.refl _ w).setCell (.inl (.inl rfl)) _
  have hof : w1.heap[f]? = some (.cells (fc.setIfInBounds 4 (.int .i64 (c + 1))) 74 (0, 0)) := by rw [hw1]; exact obj_set HF.out 4 _
  have hs1 : w1.heap.size = w.heap.size := by rw [hw1]; simp
  have HK1 := Lib.hid hk1; have HOf := Lib.hid hof; have HS1 := Lib.hid hs1; have HW1 := Lib.hid hw1
  clear hk1 hof hs1 hw1
  go_enter Try.func40, Try.ntmps40
  go_wp2
  rw [← HW1.out]
  go_loopw [5, 15, 16] (fun _v5 v15 _v16 wr => ∃ k : Nat, v15 = .int .i64 (k : Int) ∧ k ≤ N ∧ Hid (wr.heap[f]? = some (.cells (fc.setIfInBounds 4 (.int .i64 (c + 1))) 74 (0, 0)) ∧ (∀ b ∈ bs, wr.heap[b]? = some (.cells (if b ∈ bs.take k then tchA (A b) (c + 1) else A b) 71 (0, 0))) ∧ Kept (fun k => k = f ∨ k ∈ bs) w wr ∧ wr.heap.size = w.heap.size)) (fun _ v15 _ _ => N - (intOf v15).toNat)
  case atStart =>
    exact ⟨0, rfl, by omega, Lib.hid ⟨HOf.out, fun b hb => by rw [List.take_zero, if_neg (by simp)]; rw [HW1.out]; exact (Below.heap_setCell _ _ _ _ (fun e => HFn.out b hb e)).trans (HN.out b hb).1, HK1.out, HS1.out⟩⟩
  case round =>
    obtain ⟨k, rfl, hk, HS⟩ := hrel
    by_cases hlt : (k : Int) < (N : Int)
    · have hkN : k < N := by omega
      have hkb : k < bs.length := by have := HNl.out; omega
      obtain ⟨rb, off, rfl, hrf, hrb, r0⟩ := HRow.out k hkb
      obtain ⟨b, hb⟩ : ∃ b, b = bs[k] := ⟨_, rfl⟩
      have hbm : b ∈ bs := by rw [hb]; exact List.getElem_mem hkb
      rw [← hb] at r0
      have hfb : b ≠ f := HFn.out b hbm
      obtain ⟨s1, s2, s3, s4⟩ := HS.out
      have d0 : wr.cell? ⟨rb, off + k, none⟩ = some (.pointer (some ⟨b, 0, none⟩)) := by
        rw [cell_same (s3.block rb (World.block_lt_of_cell? w _ r0) (by rintro (e | e); exact hrf e; exact hrb rb e rfl))]; exact r0
      obtain ⟨X, hX⟩ : ∃ X, X = (if b ∈ bs.take k then tchA (A b) (c + 1) else A b) := ⟨_, rfl⟩
      have ob := s2 b hbm
      rw [← hX] at ob
      have hXs : 11 ≤ X.size := by rw [hX]; have := (HN.out b hbm).2; split; rw [tchA_size]; exact this; exact this
      have x4 : wr.cell? ⟨b, 4, none⟩ = some (X.getD 4 undef) := by rw [obj_cell ob]; simp [Array.getD, show 4 < X.size by omega]
      have y4 := obj_free ob 4
      have e4 : wr.cell? ⟨f, 4, none⟩ = some (.int .i64 (c + 1)) := by rw [obj_cell s1]; simp [hfc]
      obtain ⟨wp, hwp⟩ : ∃ wp, wp = wr.setCell ⟨b, 4, none⟩ (.int .i64 (c + 1)) := ⟨_, rfl⟩
      have op := obj_set ob 4 (.int .i64 (c + 1))
      rw [← hwp] at op
      have of2 : wp.heap[f]? = some (.cells (fc.setIfInBounds 4 (.int .i64 (c + 1))) 74 (0, 0)) := by
        rw [hwp]; exact (Below.heap_setCell _ _ _ _ (fun e => hfb e.symm)).trans s1
      have g4 : wp.cell? ⟨f, 4, none⟩ = some (.int .i64 (c + 1)) := by rw [obj_cell of2]; simp [hfc]
      have x10 : wp.cell? ⟨b, 10, none⟩ = some (X.getD 10 undef) := by rw [obj_cell op]; simp [Array.getD, show 10 < X.size by omega]
      have y10 := obj_free op 10
      have oq := obj_set op 10 (.int .i64 (c + 1))
      have HOq := Lib.hid oq; have HX := Lib.hid hX; have HB := Lib.hid hb; have HWp := Lib.hid hwp
      have HSt := Lib.hid (⟨s1, s2, s3, s4⟩ : _ ∧ _ ∧ _ ∧ _)
      rw [hwp] at g4 x10 y10
      clear s1 s2 s3 s4 ob op oq of2 hX hb hwp r0 HS
      go_wp2
      rw [← HWp.out]
      refine ⟨⟨k + 1, by go_num, by omega, Lib.hid ⟨?_, ?_, ?_, ?_⟩⟩, by simp [intOf]; omega⟩
      · rw [Below.heap_setCell _ _ _ _ (fun e => hfb e.symm), HWp.out, Below.heap_setCell _ _ _ _ (fun e => hfb e.symm)]
        exact HSt.out.1
      · intro b1 hb1
        have hmk : b1 ∈ bs.take (k + 1) ↔ b1 ∈ bs.take k ∨ b1 = b := by
          rw [HB.out, List.take_succ_eq_append_getElem hkb, List.mem_append, List.mem_singleton]
        by_cases e : b1 = b
        · subst e
          rw [HOq.out, if_pos (hmk.2 (.inr rfl))]
          have : tchA X (c + 1) = tchA (A b1) (c + 1) := by rw [HX.out]; split; rw [tchA_twice]; rfl
          rw [← this]; rfl
        · rw [Below.heap_setCell _ _ _ _ (fun e' => e e'), HWp.out, Below.heap_setCell _ _ _ _ (fun e' => e e'), HSt.out.2.1 b1 hb1]
          by_cases e2 : b1 ∈ bs.take k
          · rw [if_pos e2, if_pos (hmk.2 (.inl e2))]
          · rw [if_neg e2, if_neg (fun h => by rcases hmk.1 h with h | h; exact e2 h; exact e h)]
      · rw [HWp.out]; exact (HSt.out.2.2.1.setCell (.inl (.inr hbm)) _).setCell (.inl (.inr hbm)) _
      · rw [HWp.out]; simp; exact HSt.out.2.2.2
    · have hkN : k = N := by omega
      go_wp2
      refine bodyPost_end (results_none rfl _ _ _) rfl ?_
      obtain ⟨s1, s2, s3, s4⟩ := HS.out
      refine ⟨rfl, s1, fun b hb => ?_, s3, s4⟩
      have := s2 b hb
      rw [hkN, HNl.out, List.take_length, if_pos hb] at this
      exact this
end Go.Proofs.Ytilndmmjdbhmgaa
