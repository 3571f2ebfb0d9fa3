/-
  sparse.Dense.
-/
import Derived.Test.YtbambcondcikbaaDoorDenN
import Derived.Laws.CopyOwn
namespace Go.Proofs.YtbambcondcikbaaDoor
open Go.RowKit
set_option linter.unusedVariables false
set_option linter.unusedSimpArgs false

/-- The bytes of a file, noughts in holes. -/
def denS (N : Nat) (l : List Pc) : List UInt8 := l.foldl (fun b p => splice b p.1.toNat p.2) (List.replicate N 0)
theorem denS_nil (N : Nat) : denS N [] = List.replicate N 0 := rfl
theorem denS_step (N : Nat) (l : List Pc) (i : Nat) (h : i < l.length) : denS N (l.take (i + 1)) = splice (denS N (l.take i)) (l.getD i (0, [])).1.toNat (l.getD i (0, [])).2 := by
  rw [denS, List.take_succ_eq_append_getElem h, List.foldl_append]
  simp [List.getD, h, denS]
theorem denS_len (N : Nat) (l : List Pc) (h : ∀ p ∈ l, p.1.toNat + p.2.length ≤ N) : (denS N l).length = N := by
  have key : ∀ (l : List Pc) (b : List UInt8), b.length = N → (∀ p ∈ l, p.1.toNat + p.2.length ≤ N) → (l.foldl (fun b p => splice b p.1.toNat p.2) b).length = N := by
    intro l
    induction l with
    | nil => intro b hb _; exact hb
    | cons p l ih =>
      intro b hb hp
      rw [List.foldl_cons]
      exact ih _ (by rw [length_splice _ _ _ (by rw [hb]; exact hp p List.mem_cons_self)]; exact hb) (fun q hq => hp q (List.mem_cons_of_mem _ hq))
  exact key l _ (List.length_replicate ..) h
theorem splice_bc (L : List UInt8) (k : Nat) (M : List UInt8) : splice (bc L) k (bc M) = bc (splice L k M) := by
  simp [splice, bc, List.map_take, List.map_drop]
theorem kept_b2 {w w' : World} (h : Kept NoB w w') : Below w.heap.size w w' := ⟨h.os, h.tape, h.output, h.size, fun i hi => h.block i hi (fun h => h)⟩
/-- What Dense gives back. -/
def DenA (w : World) (size : Int) (l : List Pc) (e : Ending) (w' : World) : Prop :=
  ((okS size l && decide (size ≤ 1048576)) = false ∧ e = .returned (.tuple #[.slice none 0 0, .bool false]) ∧ Kept NoB w w') ∨
    ∃ (g N : Nat), (okS size l && decide (size ≤ 1048576)) = true ∧ size = (N : Int) ∧ e = .returned (.tuple #[.slice (some ⟨g, 0, none⟩) N N, .bool true]) ∧
      w'.heap[g]? = some (.cells (bc (denS N l)).toArray 5 (0, 0)) ∧ w.heap.size ≤ g ∧ Kept NoB w w'
set_option maxRecDepth 20000 in
set_option maxHeartbeats 8000000 in
theorem dense_any (size : Int) (ao : Option Addr) (n cap : Nat) (l : List Pc) (w : World) (h0 : -9223372036854775808 ≤ size) (h1 : size ≤ 9223372036854775807) (hn : n = l.length) (hr : RdP w w.heap.size ao l) (hi : IntP l) (hc : n ≤ cap) (hcm : cap ≤ maxLen) :
    Calls Tryd.prog 14 #[.int .i64 size, .slice ao n cap] w (DenA w size l) := by
  have HO := Lib.hid (spok_any size ao n cap l w h0 h1 hn hr hi hc hcm)
  have HR := Lib.hid hr; have HN := Lib.hid hn
  have hcm2 : n ≤ 9223372036854775807 := by unfold maxLen at hcm; omega
  obtain ⟨ok, hok⟩ : ∃ ok, ok = okS size l := ⟨_, rfl⟩
  rw [← hok] at HO
  have HOk := Lib.hid hok
  clear hok hr hn hi hcm
  go_enter Tryd.func14, Tryd.ntmps14
  go_wp2_with fail
  refine HO.out.mono ?_
  rintro e w1 ⟨rfl, hk1⟩
  have HK1 := Lib.hid hk1
  clear hk1
  cases ok with
  | false =>
    have HF : Hid ((okS size l && decide (size ≤ 1048576)) = false) := Lib.hid (by rw [← HOk.out]; rfl)
    go_wp2
    go_ret2
    exact .inl ⟨HF.out, rfl, HK1.out⟩
  | true =>
    by_cases hbig : 1048576 < size
    · have HF : Hid ((okS size l && decide (size ≤ 1048576)) = false) := Lib.hid (by rw [decide_eq_false (by omega)]; simp)
      go_wp2
      go_ret2
      exact .inl ⟨HF.out, rfl, HK1.out⟩
    · have hok2 := HOk.out.symm
      simp only [okS, Bool.and_eq_true, decide_eq_true_eq] at hok2
      obtain ⟨⟨⟨s0, s1⟩, s2⟩, s3⟩ := hok2
      have HEach := Lib.hid (okG_each size l 0 (by omega) s3)
      have HT : Hid ((okS size l && decide (size ≤ 1048576)) = true) := Lib.hid (by rw [← HOk.out, decide_eq_true (by omega)]; rfl)
      obtain ⟨N, rfl⟩ : ∃ N : Nat, size = (N : Int) := ⟨size.toNat, by omega⟩
      have hN : N ≤ 1048576 := by omega
      clear s1 s2 s3 HOk hbig
      go_wp2_with (with_reducible refine wpList_make_bytes _ rfl _ _ rfl N rfl rfl hN ?_)
      intro w2 h2 hk2
      have HK2 := Lib.hid (HK1.out.trans hk2)
      have HS := Lib.hid HK1.out.size
      obtain ⟨G, hG⟩ : ∃ G, G = w1.heap.size := ⟨_, rfl⟩
      rw [← hG] at h2 HS ⊢
      have H2 : Hid (w2.heap[G]? = some (.cells (bc (denS N (l.take 0))).toArray 5 (0, 0))) := Lib.hid h2
      have HSt := Lib.hid (fun i (hi : i < n) => denS_step N l i (by have := HN.out; omega))
      have HLen := Lib.hid (fun i => denS_len N (l.take i) (fun p hp => by
        have := HEach.out p (List.mem_of_mem_take hp)
        omega))
      clear h2 hk2 hG
      go_wp2
      go_loopw [8, 21] (fun v8 v21 wr => ∃ i : Nat, v21 = .int .i64 (i : Int) ∧ i ≤ n ∧ Hid (wr.heap[G]? = some (.cells (bc (denS N (l.take i))).toArray 5 (0, 0))) ∧ Hid (Kept NoB w wr)) (fun _ v21 _ => n - (intOf v21).toNat)
      case atStart => exact ⟨0, rfl, by omega, H2, HK2⟩
      case round =>
        obtain ⟨i, rfl, hi, HG, HK⟩ := hrel
        by_cases hlt : (i : Int) < (n : Int)
        · have hin : i < n := by omega
          have hil : i < l.length := by rw [← HN.out]; exact hin
          obtain ⟨b, off, bo, bc', rfl, hb, c0, c1, hrd, hbn, hbc, _⟩ := HR.out i hil
          have d0 := HK.out.cell c0
          have d1 := HK.out.cell c1
          have hrd3 := hrd.keptNo HK.out
          obtain ⟨p0, p1, p2⟩ := HEach.out (l.getD i (0, [])) (by simp [List.getD, hil])
          have hst := HSt.out i hin
          rw [show off + (i * 2 + 1) = off + i * 2 + 1 by omega] at d1
          obtain ⟨p, hp⟩ : ∃ p, p = l.getD i (0, []) := ⟨_, rfl⟩
          rw [← hp] at d0 d1 hrd3 p0 p1 p2 hst
          obtain ⟨z, hz⟩ : ∃ z : Nat, p.1 = (z : Int) := ⟨p.1.toNat, by omega⟩
          obtain ⟨M, hM⟩ : ∃ M, M = p.2 := ⟨_, rfl⟩
          rw [hz] at d0 p2 hst
          rw [← hM] at d1 hrd3 p0 p2 hst
          rw [Int.toNat_natCast] at hst
          obtain ⟨k, hk⟩ : ∃ k, k = M.length := ⟨_, rfl⟩
          rw [← hk] at d1 p2
          have hk0 : 0 < k := by rw [hk]; cases M with | nil => exact absurd rfl p0 | cons _ _ => simp
          have hzN : z + k ≤ N := by omega
          obtain ⟨y, rfl⟩ : ∃ y, bo = some y := by
            cases bo with
            | none =>
              have := congrArg List.length (hrd3.1 rfl)
              rw [nb_len, ← hk] at this
              simp at this
              omega
            | some y => exact ⟨y, rfl⟩
          obtain ⟨D, hD⟩ : ∃ D, D = denS N (l.take i) := ⟨_, rfl⟩
          have hDl : D.length = N := by rw [hD]; exact HLen.out i
          rw [← hD] at HG hst
          have HSt2 := Lib.hid hst; have HRd := Lib.hid hrd3; have HKk := Lib.hid hk; have HDl := Lib.hid hDl
          have hzn : ¬ N = z := by omega
          have hzw : IntKind.i64.wrap (z : Int) = (z : Int) := IntWalk.i64_in _ (by omega)
          have hzle : z ≤ N := by omega
          have hzi : (z : Int) ≤ (N : Int) := by omega
          clear hp hz hM hk hD hst p0 p1 p2 hrd hrd3 c0 c1 hil hDl
          go_upto_region 7 with fail
          obtain ⟨q, hq⟩ : ∃ q, q = wr.heap.size := ⟨_, rfl⟩
          obtain ⟨wq, hwq⟩ : ∃ wq, wq = wr.alloc (.cells #[.int .i64 (z : Int), .slice (some y) k bc'] 30) := ⟨_, rfl⟩
          have hka : Kept NoB wr wq := by rw [hwq]; exact (Kept.refl NoB wr).alloc _
          have e0 : wq.cell? ⟨q, 0, none⟩ = some (.int .i64 (z : Int)) := by rw [hwq, hq]; exact cell_new 0 rfl
          have e1 : wq.cell? ⟨q, 1, none⟩ = some (.slice (some y) k bc') := by rw [hwq, hq]; exact cell_new 1 rfl
          have HGq := Lib.hid (hka.obj HG.out (fun h => h))
          have HRq := Lib.hid (HRd.out.keptNo hka)
          have HKq := Lib.hid (HK.out.trans hka)
          rw [← hwq, ← hq]
          clear hwq hq hka d0 d1
          go_region_law (refine step_copy_splice rfl (.tmp 28) (.tmp 30) 26 26 rfl 5 Tryd.underlying26 (by kernel_rfl) (some ⟨G, z, none⟩) (some y) (N - z) (N - z) k bc' rfl rfl G z (bc D) 5 HGq.out (bc M) (by rw [bc, List.length_map, ← HKk.out]; exact (Nat.min_eq_left (by omega)).symm) (fun _ => ⟨rfl, y, rfl, fun j v hj => by rw [bc_nb] at hj; exact reads_news HRq.out j v hj⟩) (by rw [bc, bc, List.length_map, List.length_map, HDl.out, ← HKk.out]; exact hzN) (by rw [bc_nb]; exact news_one _) w.heap.size w (kept_b2 (Kept.drewN HKq.out _)) HS.out ?_; intro w4 hg4 hb4)
          all_goals (
            have hg5 : Hid (w4.heap[G]? = some (.cells (bc (denS N (l.take (i + 1)))).toArray 5 (0, 0))) := Lib.hid (by rw [HSt2.out, ← splice_bc]; exact hg4.out)
            have hk5 := Lib.hid ((Kept.refl NoB w).ofBelow hb4)
            clear hg4 hb4
            go_wp2
            go_roundw
            case rel => exact ⟨i + 1, by go_num, by omega, hg5, hk5⟩
            case measure => simp [intOf]; omega)
        · have hie : i = n := by omega
          subst hie
          have HG2 : Hid (wr.heap[G]? = some (.cells (bc (denS N l)).toArray 5 (0, 0))) := Lib.hid (by
            have h := HG.out
            rw [HN.out, List.take_length] at h
            exact h)
          go_wp2
          go_ret2
          exact .inr ⟨G, N, HT.out, rfl, rfl, HG2.out, HS.out, HK.out⟩
end Go.Proofs.YtbambcondcikbaaDoor
