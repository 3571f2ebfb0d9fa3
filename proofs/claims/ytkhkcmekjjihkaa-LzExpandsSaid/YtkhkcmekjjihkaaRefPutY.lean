/-
  The document's own Put, where it may be.
-/
import Derived.Test.YtkhkcmekjjihkaaRefPut
namespace Go.Proofs.Ytkhkcmekjjihkaa
open Go.RowKit
set_option linter.unusedVariables false
set_option linter.unusedSimpArgs false

set_option maxRecDepth 20000 in
set_option maxHeartbeats 4000000 in
theorem refPut_yes (t : Tk) (bs : List Int) (most : Int) (w : World) (hb : AllB bs) (hn : bs.length ≤ 100000) (ht : t.wf) (hm : -9223372036854775808 ≤ most ∧ most ≤ 9223372036854775807) (hno : t.no bs.length most = 0) :
    Calls Try.prog 15 #[.string (strOfNums bs), t.v, .int .i64 most] w fun e w' => e = .returned (.tuple #[.string (strOfNums (t.put bs)), .int .i64 0]) ∧ Kept NoB w w' := by
  obtain ⟨i0, hi, hz0, hz1, hz2⟩ := info_parts info5
  have HOk := Lib.hid (fun w => refOk_any t w)
  have hok : t.ok = true := by
    cases h : t.ok with
    | true => rfl
    | false => unfold Tk.no at hno; rw [if_pos h] at hno; cases hno
  rw [hok] at HOk
  have h1 : ¬ t.ok = false := by rw [hok]; decide
  have hd : ¬ (bs.length : Int) < t.d := by
    intro h
    unfold Tk.no at hno
    rw [if_neg h1, if_pos h] at hno; cases hno
  have hq : ¬ most < (bs.length : Int) + (if t.l < 1 then 1 else t.l) := by
    intro h
    unfold Tk.no at hno
    rw [if_neg h1, if_neg hd, if_pos h] at hno; cases hno
  have HPut : Hid (t.put bs = if t.l = 0 then bs ++ [t.c] else copyN t.d.toNat t.l.toNat bs) := rfl
  have HWf := Lib.hid ht
  have HOk2 : Hid (t.l = 0 ∨ (3 ≤ t.l ∧ t.l ≤ 258 ∧ 1 ≤ t.d ∧ t.d ≤ 32768 ∧ t.c = 0)) := by
    by_cases h : t.l = 0
    · exact .inl h
    · right; have := hok; unfold Tk.ok at this; rw [if_neg h] at this; exact of_decide_eq_true this
  have hsz : (strOfNums bs).size = bs.length := strOfNums_size bs
  obtain ⟨l, d, c⟩ := t
  have hk : Kept NoB w (w.alloc (.cells #[.int .i64 l, .int .i64 d, .int .u8 c] 31)) := (Kept.refl _ _).alloc _
  have HK := Lib.hid hk
  have hbox : (w.alloc (.cells #[.int .i64 l, .int .i64 d, .int .u8 c] 31)).heap[w.heap.size]? = some (.cells #[.int .i64 l, .int .i64 d, .int .u8 c] 31 (0, 0)) := heap_alloc_new _ _
  have hload : ∀ W : World, W.heap[w.heap.size]? = some (.cells #[.int .i64 l, .int .i64 d, .int .u8 c] 31 (0, 0)) → W.cell? ⟨w.heap.size, 0, none⟩ = some (.int .i64 l) ∧ W.cell? ⟨w.heap.size, 1, none⟩ = some (.int .i64 d) ∧ W.cell? ⟨w.heap.size, 2, none⟩ = some (.int .u8 c) := fun W hk =>
    ⟨by rw [obj_cell hk 0]; rfl, by rw [obj_cell hk 1]; rfl, by rw [obj_cell hk 2]; rfl⟩
  obtain ⟨a0, a1, a2⟩ := hload _ hbox
  have HLoad := Lib.hid hload; have HBox := Lib.hid hbox; have HB := Lib.hid hb
  simp only at hd hq
  clear hk hload hbox hno h1 hok ht hb
  unfold Tk.v at HOk ⊢
  simp only [] at HOk ⊢
  obtain ⟨L0, hL0⟩ : ∃ n, n = bs.length := ⟨_, rfl⟩
  rw [← hL0] at hsz hd hq hn
  have HL0 := Lib.hid hL0
  clear hL0
  have hcase : (l < 1 ∧ ¬ most < (L0 : Int) ∧ ¬ most - (L0 : Int) < 1) ∨ (¬ l < 1 ∧ ¬ most < (L0 : Int) ∧ ¬ most - (L0 : Int) < l) := by
    have := HOk2.out
    split at hq <;> omega
  clear hq
  obtain ⟨st, hst⟩ : ∃ st, st = strOfNums bs := ⟨_, rfl⟩
  rw [← hst] at hsz ⊢
  have HSt := Lib.hid hst
  clear hst
  go_enter Try.func15, Try.ntmps15
  go_wp2_with fail
  refine (HOk.out _).mono ?_
  rintro e w1 ⟨rfl, hk1⟩
  have hbx := hk1.obj HBox.out (fun h => h)
  obtain ⟨b0, b1, b2⟩ := HLoad.out _ hbx
  have HK1 := Lib.hid (HK.out.trans hk1); have HBx := Lib.hid hbx
  clear hk1 a0 a1 a2 HK HOk HBox hbx
  rcases hcase with ⟨g1, g2, g3⟩ | ⟨g1, g2, g3⟩
  · have hl0 : l = 0 := by have := HOk2.out; omega
    subst hl0
    have hp : (Tk.mk 0 d c).put bs = bs ++ [c] := by unfold Tk.put; rw [if_pos rfl]
    have HPt := Lib.hid hp
    have hc : 0 ≤ c ∧ c < 256 := HWf.out.2.2
    have hcv : (convert 24 9 (.slice (some ⟨w1.heap.size, 0, none⟩) 1 1)).run Try.prog (w1.alloc (.cells #[.int .u8 c] 5)) = .ok (.string (strOfNums [c])) (w1.alloc (.cells #[.int .u8 c] 5)) :=
      conv_reads (xs := [c]) (lit_reads (cs := #[.int .u8 c]) [c] (heap_alloc_new _ _) rfl) rfl (fun h => by cases h)
    have hs1 : st.size + (strOfNums [c]).size ≤ 9223372036854775807 := by rw [strOfNums_size, hsz]; simp; omega
    have had := fun W => run_string_add_sum (P := Try.prog) W st (strOfNums [c]) hs1
    have happ : st ++ strOfNums [c] = strOfNums (bs ++ [c]) := by rw [HSt.out]; exact str_append _ _
    rw [happ] at had
    have hs1n : ¬ 9223372036854775807 < st.size + (strOfNums [c]).size := by omega
    have HAp := Lib.hid happ
    have hs2 : L0 + (strOfNums [c]).size ≤ 9223372036854775807 := by rw [strOfNums_size]; simp; omega
    have hs2n : ¬ 9223372036854775807 < L0 + (strOfNums [c]).size := by omega
    clear hp happ
    generalize strOfNums [c] = sc at hcv hs1 had hs1n HAp hs2 hs2n
    go_wp2
    go_ret2
    exact ⟨by rw [HPt.out]; first | rfl | (rw [← HAp.out]; rfl), HK1.out.alloc _⟩
  · have hok := HOk2.out
    have hl3 : 3 ≤ l ∧ l ≤ 258 ∧ 1 ≤ d ∧ d ≤ 32768 := by omega
    obtain ⟨L, rfl⟩ : ∃ L : Nat, l = L := ⟨l.toNat, (Int.toNat_of_nonneg (by omega)).symm⟩
    obtain ⟨D, rfl⟩ : ∃ D : Nat, d = D := ⟨d.toNat, (Int.toNat_of_nonneg (by omega)).symm⟩
    have hp : (Tk.mk L D c).put bs = copyN D L bs := by unfold Tk.put; rw [if_neg (show ¬ (L : Int) = 0 by omega)]; simp
    have HPt := Lib.hid hp
    have hl0 : ((L : Int) == 0) = false := by simp; omega
    obtain ⟨cap1, w2, hcv, hown2, hk2⟩ := conv_mark w1 bs (by have := HL0.out; omega) HB.out
    rw [← HSt.out, ← HL0.out] at hcv
    have hbx2 := hk2.obj HBx.out (fun h => h)
    have HOwn2 := Lib.hid hown2; have HBx2 := Lib.hid hbx2; have HK2 := Lib.hid (HK1.out.trans hk2)
    have hfr2 : w.heap.size ≤ w1.heap.size := HK1.out.size
    have HFr2 := Lib.hid hfr2
    clear hp hok hown2 hk2 hbx2 hfr2
    go_wp2
    clear hcv b0 b1 b2
    go_loopw [8, 9] (fun v i wr => ∃ (j : Nat) (ao' : Option Addr) (cap' n' : Nat), j ≤ L ∧ i = .int .i64 j ∧ v = .slice ao' n' cap' ∧ Hid (n' = (copyN D j bs).length) ∧ OwnM wr (.slice ao' (copyN D j bs).length cap') (copyN D j bs) ∧
      Kept NoB w wr ∧ (∀ k, (Value.slice ao' (copyN D j bs).length cap').ownBlock = some k → w.heap.size ≤ k) ∧
      wr.heap[w.heap.size]? = some (.cells #[.int .i64 L, .int .i64 D, .int .u8 c] 31 (0, 0))) (fun _ i _ => L - (intOf i).toNat)
    case atStart =>
      refine ⟨0, _, cap1, L0, by omega, rfl, rfl, HL0.out, HOwn2.out, HK2.out, ?_, HBx2.out⟩
      intro k hk
      simp [Value.ownBlock] at hk
      have := HFr2.out; omega
    case round =>
      obtain ⟨j, ao', cap', n', hj, rfl, rfl, HN', hown, hK, hO, hbox⟩ := hrel
      have hlen := copyN_len D j bs
      obtain ⟨xs, hxs⟩ : ∃ xs, xs = copyN D j bs := ⟨_, rfl⟩
      have hsucc : copyN D (j + 1) bs = xs ++ [xs.getD (xs.length - D) 0] := by rw [hxs]; rfl
      rw [← hxs] at hown hO hlen HN'
      have HS := Lib.hid hsucc; have HXs := Lib.hid hxs
      clear hsucc hxs
      obtain ⟨c0', c1', c2'⟩ := HLoad.out wr hbox
      have hl0' := HL0.out
      by_cases hlt : (j : Int) < L
      · obtain ⟨g, rfl⟩ : ∃ g, ao' = some ⟨g, 0, none⟩ := by
          rcases hown with ⟨_, hz⟩ | ⟨g, c, cur, fz, hv, _⟩
          · rw [hz] at hlen; simp at hlen; omega
          · simp at hv; exact ⟨g, hv.1⟩
        obtain ⟨q, hq⟩ : ∃ q, q = xs.length - D := ⟨_, rfl⟩
        have hnn := HN'.out
        have hsub : (n' : Int) - D = q := by omega
        have hql : q < n' := by omega
        have hn2 : n' ≤ 1000300 := by omega
        have hqw : IntKind.i64.wrap (q : Int) = q := IntWalk.i64_in _ (by omega)
        have hcz : wr.cell? ⟨g, q, none⟩ = some (.int .u8 (xs.getD q 0)) := hown.cellAt q (by omega)
        rw [← hq] at HS
        have HOwn := Lib.hid hown; have HKr := Lib.hid hK; have HO := Lib.hid hO; have HBx3 := Lib.hid hbox
        generalize hz : xs.getD q 0 = z at hcz HS
        clear hz hq hown hK hO hbox hlen hnn hl0' hn
        have hownA : OwnM (wr.alloc (.cells #[.int .u8 z] 5)) (.slice (some ⟨g, 0, none⟩) n' cap') xs := by rw [HN'.out]; exact HOwn.out.kept ((Kept.refl NoB wr).alloc _) (fun _ _ h => h)
        have HOwnA := Lib.hid hownA
        clear hownA
        go_wp2_with (at_builtin; refine wpList_appM rfl _ _ 24 rfl i0 Try.underlying24 hi hz0 hz1 hz2 _ xs rfl HOwnA.out wr.heap.size z rfl (by rw [← HN'.out]; omega) (cell_new 0 rfl) ?_)
        intro v' w3 hown' hk' hnew
        obtain ⟨ao2, cap2, rfl⟩ := hown'.shape
        have hx2 : xs ++ [z] = copyN D (j + 1) bs := HS.out.symm
        have hx3 : (xs ++ [z]).length = n' + 1 := by rw [HN'.out]; simp
        have hbx3 : w3.heap[w.heap.size]? = some (.cells #[.int .i64 L, .int .i64 D, .int .u8 c] 31 (0, 0)) := by
          refine hk'.obj (by rw [heap_alloc_old _ _ (obj_lt HBx3.out)]; exact HBx3.out) (fun e => ?_)
          exact ownM_ne HOwn.out HBx3.out (by decide) (by rw [← HN'.out]; exact e)
        have hk3 : Kept NoB w w3 := (HKr.out.alloc _).own hk' (fun k e => HO.out k (by rw [← HN'.out]; exact e))
        have hnf : ∀ k, (Value.slice ao2 (xs ++ [z]).length cap2).ownBlock = some k → w.heap.size ≤ k := by
          intro k hk
          rcases hnew k hk with h | h
          · exact HO.out k (by rw [← HN'.out]; exact h)
          · have := HKr.out.size; first | omega | (simp at h; omega)
        rw [hx2] at hown' hnf
        have HX3 : Hid (n' + 1 = (copyN D (j + 1) bs).length) := by rw [← hx2]; exact hx3.symm
        rw [hx3]
        have HF1 := Lib.hid hown'; have HF2 := Lib.hid hbx3; have HF3 := Lib.hid hk3; have HF4 := Lib.hid hnf
        clear hown' hbx3 hk3 hnf hk' hnew hx2 hx3 hcz c0' c1' c2'
        go_wp2
        go_roundw
        case rel => exact ⟨j + 1, ao2, cap2, n' + 1, by omega, by go_num, rfl, HX3, HF1.out, HF3.out, HF4.out, HF2.out⟩
        case measure => simp [intOf]; omega
      · have hjL : j = L := by omega
        subst hjL
        have hcv2 := conv_reads (n := n') hown.reads HN'.out hown.nil
        rw [HXs.out] at hcv2
        have HKf := Lib.hid hK
        clear hown hK hO hbox hlen hl0'
        go_wp2
        go_ret2
        exact ⟨by rw [HPt.out]; rfl, HKf.out⟩
end Go.Proofs.Ytkhkcmekjjihkaa
