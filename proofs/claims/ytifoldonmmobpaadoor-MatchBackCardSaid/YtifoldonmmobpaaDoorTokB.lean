/-
  What a token makes: put, Put.
-/
import Derived.Test.YtifoldonmmobpaaDoorTokA
namespace Go.Proofs.YtifoldonmmobpaaDoor
open Go.RowKit
set_option linter.unusedVariables false
set_option linter.unusedSimpArgs false

/-- k bytes more, each the one D ahead of it. -/
def copyN (D : Nat) : Nat → List Int → List Int
  | 0, bs => bs
  | k + 1, bs => copyN D k bs ++ [(copyN D k bs).getD ((copyN D k bs).length - D) 0]
theorem copyN_len (D k : Nat) (bs : List Int) : (copyN D k bs).length = bs.length + k := by
  induction k with
  | zero => rfl
  | succ k ih => simp only [copyN, List.length_append, ih, List.length_cons, List.length_nil]; omega
theorem copyN_all (D k : Nat) (bs : List Int) (h : AllB bs) : AllB (copyN D k bs) := by
  induction k with
  | zero => exact h
  | succ k ih =>
    intro b hb
    simp only [copyN, List.mem_append, List.mem_singleton] at hb
    rcases hb with hb | rfl
    · exact ih b hb
    · exact ih.getD _
/-- The bytes behind a token that may be put. -/
def Tk.put (t : Tk) (bs : List Int) : List Int := if t.l = 0 then bs ++ [t.c] else copyN t.d.toNat t.l.toNat bs
theorem put_all (t : Tk) (bs : List Int) (h : AllB bs) (ht : t.wf) : AllB (t.put bs) := by
  unfold Tk.put
  split
  · intro b hb
    rcases List.mem_append.1 hb with hb | hb
    · exact h b hb
    · simp at hb; subst hb; exact ⟨ht.2.2.1, ht.2.2.2⟩
  · exact copyN_all _ _ _ h
theorem put_len (t : Tk) (bs : List Int) : (t.put bs).length = bs.length + (if t.l = 0 then 1 else t.l.toNat) := by
  unfold Tk.put
  split
  · simp
  · exact copyN_len _ _ _

/-- What is put: a row that grew, its block its own or new. -/
def Grew (w : World) (v0 : Value) (xs : List Int) (e : Ending) (w' : World) : Prop :=
  ∃ ao cap, e = .returned (.slice ao xs.length cap) ∧ w'.ownsRow 0 5 1 (.slice ao xs.length cap) xs.length (xs.map (.int .u8)) ∧ Kept (OwnB v0) w w' ∧ (∀ k, (Value.slice ao xs.length cap).ownBlock = some k → v0.ownBlock = some k ∨ w.heap.size ≤ k)

set_option maxRecDepth 20000 in
set_option maxHeartbeats 4000000 in
theorem tput_any (t : Tk) (ao : Option Addr) (cap : Nat) (bs : List Int) (w : World) (hown : w.ownsRow 0 5 1 (.slice ao bs.length cap) bs.length (bs.map (.int .u8))) (hn : bs.length ≤ 1000000) (ht : t.wf) (hok : t.ok = true) (hd : t.l = 0 ∨ t.d ≤ bs.length) :
    Calls Tryd.prog 24 #[.slice ao bs.length cap, t.v] w (Grew w (.slice ao bs.length cap) (t.put bs)) := by
  obtain ⟨i0, hi, hz0, hz1, hz2⟩ := info_parts info5
  obtain ⟨l, d, c⟩ := t
  have hk : Kept NoB w (w.alloc (.cells #[.int .i64 l, .int .i64 d, .int .u8 c] 26)) := (Kept.refl _ _).alloc _
  have ho1 := hk.row hown (fun _ _ h => h)
  have hload : ∀ W : World, W.heap[w.heap.size]? = some (.cells #[.int .i64 l, .int .i64 d, .int .u8 c] 26 (0, 0)) → W.cell? ⟨w.heap.size, 0, none⟩ = some (.int .i64 l) ∧ W.cell? ⟨w.heap.size, 1, none⟩ = some (.int .i64 d) ∧ W.cell? ⟨w.heap.size, 2, none⟩ = some (.int .u8 c) := fun W hk =>
    ⟨by rw [obj_cell hk 0]; rfl, by rw [obj_cell hk 1]; rfl, by rw [obj_cell hk 2]; rfl⟩
  obtain ⟨a0, a1, a2⟩ := hload _ (heap_alloc_new _ _)
  have HLoad := Lib.hid hload; have HK := Lib.hid hk; have HO1 := Lib.hid ho1; have HOk := Lib.hid hok; have HWf := Lib.hid ht; have HD := Lib.hid hd
  have hos := hown.lt
  have HOs := Lib.hid hos
  clear hload hk ho1 hok hown hos ht hd
  unfold Tk.v
  simp only []
  go_enter Tryd.func24, Tryd.ntmps24
  by_cases h0 : l = 0
  · subst h0
    have hc1 : ∀ (j : Nat) (u : Value), [Value.int .u8 c][j]? = some u → ((w.alloc (.cells #[.int .i64 0, .int .i64 d, .int .u8 c] 26)).alloc (.cells #[.int .u8 c] 5)).cell? ((⟨w.heap.size + 1, 0, none⟩ : Addr).add j) = some u := by
      have := cell_one_new (w.alloc (.cells #[.int .i64 0, .int .i64 d, .int .u8 c] 26)) (.int .u8 c) 5
      simpa using this
    go_wp2_with (at_builtin; refine wpList_app _ rfl _ _ 22 rfl 5 i0 (.int .u8 0) 1 1 Tryd.underlying22 hi hz0 hz1 hz2 rfl (by decide) _ bs.length (bs.map (.int .u8)) rfl (HO1.out.alloc _) ⟨w.heap.size + 1, 0, none⟩ 1 1 [.int .u8 c] rfl rfl hc1 ?c2 ?c3 ?c4 ?_)
    case c2 => first | rfl | (intro u hu; simp at hu; subst hu; rfl)
    case c3 => unfold maxLen; omega
    case c4 => omega
    intro v' w2 hown' hgrow hnew
    obtain ⟨ao', cap', rfl⟩ := own_shape hown'
    go_wp2
    go_ret
    have he : (Tk.mk 0 d c).put bs = bs ++ [c] := by unfold Tk.put; rw [if_pos rfl]
    rw [he]
    rw [show bs.map (Value.int .u8) ++ [.int .u8 c] = (bs ++ [c]).map (Value.int .u8) from by simp, show bs.length + 1 = (bs ++ [c]).length from by simp] at hown'
    rw [show bs.length + 1 = (bs ++ [c]).length from by simp] at hnew
    refine ⟨ao', cap', by simp, hown', ?_, ?_⟩
    · exact ((HK.out.mono (fun _ _ h => h.elim)).alloc _).grown hgrow (fun k _ h => h)
    · intro k hk
      rcases hnew k hk with h | h
      · exact .inl h
      · right; first | omega | (simp at h; omega)
  · have hok := HOk.out
    unfold Tk.ok at hok
    rw [if_neg h0] at hok
    have hok := of_decide_eq_true hok
    simp only at hok
    obtain ⟨hl3, hl258, hd1, hd2, hc0⟩ := hok
    have hdl : d ≤ bs.length := by rcases HD.out with h | h; exact absurd h h0; exact h
    obtain ⟨L, rfl⟩ : ∃ L : Nat, l = L := ⟨l.toNat, (Int.toNat_of_nonneg (by omega)).symm⟩
    obtain ⟨D, rfl⟩ : ∃ D : Nat, d = D := ⟨d.toNat, (Int.toNat_of_nonneg (by omega)).symm⟩
    have hp : (Tk.mk L D c).put bs = copyN D L bs := by unfold Tk.put; rw [if_neg h0]; simp
    rw [hp]
    have hL0 : ((L : Int) == 0) = false := by simp; omega
    clear hp h0 hc0
    have HBox : Hid ((w.alloc (.cells #[.int .i64 L, .int .i64 D, .int .u8 c] 26)).heap[w.heap.size]? = some (.cells #[.int .i64 L, .int .i64 D, .int .u8 c] 26 (0, 0))) := heap_alloc_new _ _
    go_wp2
    go_loopw [0, 15] (fun v i wr => ∃ (j : Nat) (ao' : Option Addr) (cap' : Nat), j ≤ L ∧ i = .int .i64 j ∧ v = .slice ao' (copyN D j bs).length cap' ∧ wr.ownsRow 0 5 1 (.slice ao' (copyN D j bs).length cap') (copyN D j bs).length ((copyN D j bs).map (.int .u8)) ∧
      Kept (OwnB (.slice ao bs.length cap)) w wr ∧ (∀ k, (Value.slice ao' (copyN D j bs).length cap').ownBlock = some k → (Value.slice ao bs.length cap).ownBlock = some k ∨ w.heap.size ≤ k) ∧
      wr.heap[w.heap.size]? = some (.cells #[.int .i64 L, .int .i64 D, .int .u8 c] 26 (0, 0))) (fun _ i _ => L - (intOf i).toNat)
    case atStart => exact ⟨0, ao, cap, by omega, rfl, rfl, HO1.out, HK.out.mono (fun _ _ h => h.elim), (fun k h => .inl h), HBox.out⟩
    case round =>
      obtain ⟨j, ao', cap', hj, rfl, rfl, hown, hK, hO, hbox⟩ := hrel
      have hlen := copyN_len D j bs
      by_cases hlt : (j : Int) < L
      · obtain ⟨xs, hxs⟩ : ∃ xs, xs = copyN D j bs := ⟨_, rfl⟩
        have hsucc : copyN D (j + 1) bs = xs ++ [xs.getD (xs.length - D) 0] := by rw [hxs]; rfl
        rw [← hxs] at hown hO hlen ⊢
        have HS := Lib.hid hsucc; have HXs := Lib.hid hxs
        clear hsucc hxs
        obtain ⟨g, rfl⟩ : ∃ g, ao' = some ⟨g, 0, none⟩ := by
          rcases hown.2 with ⟨_, hz⟩ | ⟨g, c, cur, hv, _⟩
          · omega
          · simp at hv; exact ⟨g, hv.1⟩
        obtain ⟨q, hq⟩ : ∃ q, q = xs.length - D := ⟨_, rfl⟩
        have hsub : (xs.length : Int) - D = q := by omega
        have hql : q < xs.length := by omega
        have hqw : IntKind.i64.wrap (q : Int) = q := IntWalk.i64_in _ (by omega)
        have hcz : wr.cell? ⟨g, q, none⟩ = some (.int .u8 (xs.getD q 0)) := by
          rw [hown.cellAt q (by omega)]; simp [List.getD, hql]
        obtain ⟨a0', a1', a2'⟩ := HLoad.out wr hbox
        rw [← hq] at HS
        have HOwn := Lib.hid hown; have HKr := Lib.hid hK; have HO := Lib.hid hO; have HBx := Lib.hid hbox
        generalize hz : xs.getD q 0 = z at hcz HS
        clear hz hq hown hK hO hbox a0 a1 a2
        obtain ⟨n, hn'⟩ : ∃ n, n = xs.length := ⟨_, rfl⟩
        rw [← hn'] at hsub hql hlen ⊢
        have hnm : n ≤ 1000300 := by omega
        have HN := Lib.hid hn'; clear hn' hlen
        go_wp2_with (at_builtin; refine wpList_app _ rfl _ _ 22 rfl 5 i0 (.int .u8 0) 1 1 Tryd.underlying22 hi hz0 hz1 hz2 rfl (by decide) _ n (xs.map (.int .u8)) rfl (by rw [HN.out]; exact HOwn.out.alloc _) ⟨wr.heap.size, 0, none⟩ 1 1 [.int .u8 z] rfl rfl (cell_one_new _ _ _) ?d2 ?d3 ?d4 ?_)
        case d2 => first | rfl | (intro u hu; simp at hu; subst hu; rfl)
        case d3 => unfold maxLen; omega
        case d4 => omega
        intro v' w2 hown' hgrow hnew
        obtain ⟨ao2, cap2, rfl⟩ := own_shape hown'
        have hx2 : xs ++ [z] = copyN D (j + 1) bs := HS.out.symm
        have hx3 : n + 1 = (copyN D (j + 1) bs).length := by rw [← hx2, HN.out]; simp
        have hx4 : xs.map (Value.int .u8) ++ [.int .u8 z] = (copyN D (j + 1) bs).map (Value.int .u8) := by rw [← hx2]; simp
        rw [hx4] at hown'
        have hO' := HOwn.out
        have hbx2 : w2.heap[w.heap.size]? = some (.cells #[.int .i64 L, .int .i64 D, .int .u8 c] 26 (0, 0)) := by
          have hlt2 := obj_lt HBx.out
          rw [hgrow.block w.heap.size (by simp; omega) (fun e => ?_), heap_alloc_old _ _ hlt2]
          · exact HBx.out
          · exact row_ne HOwn.out HBx.out (by decide) _ (by rw [← HN.out]; exact e.symm) rfl
        have hk2 : Kept (OwnB (.slice ao bs.length cap)) w w2 := (HKr.out.alloc _).grown hgrow (by
          intro k hk e
          rcases HO.out k (by rw [← HN.out]; exact e) with h | h
          · exact h
          · omega)
        have hn2 : ∀ k, (Value.slice ao2 (n + 1) cap2).ownBlock = some k → (Value.slice ao bs.length cap).ownBlock = some k ∨ w.heap.size ≤ k := by
          intro k hk
          rcases hnew k hk with h | h
          · exact HO.out k (by rw [← HN.out]; exact h)
          · have := HKr.out.size; right; first | omega | (simp at h; omega)
        rw [hx3] at hown' hn2
        have HF1 := Lib.hid hown'; have HF2 := Lib.hid hbx2; have HF3 := Lib.hid hk2; have HF4 := Lib.hid hn2; have HX3 := Lib.hid hx3
        clear hown' hbx2 hk2 hn2 hgrow hnew hx2 hx3 hx4 hO' hcz a0' a1' a2'
        go_wp2
        go_roundw
        case rel => exact ⟨j + 1, ao2, cap2, by omega, by go_num, by rw [← HX3.out], HF1.out, HF3.out, HF4.out, HF2.out⟩
        case measure => simp [intOf]; omega
      · have hjL : j = L := by omega
        subst hjL
        clear hlen
        go_wp2
        go_ret
        exact ⟨ao', cap', rfl, hown, hK, hO⟩
end Go.Proofs.YtifoldonmmobpaaDoor
