/-
  What was written of a file, in memory: read.
  A tree of files in memory: a file's bytes, read.
  One file with some names, on paper: names given and taken away.
  One file with holes, on paper: what is written where, in a tree with a quota.
-/
import Derived.Test.YtjjgadanobeamaaMh19
namespace Go.Proofs.Ytjjgadanobeamaa
open Go.RowKit
set_option linter.unusedVariables false
set_option linter.unusedSimpArgs false
set_option maxRecDepth 20000

theorem readD_nil (k : Int) (n : Nat) : readD [] k n = List.replicate n 0 := by
  unfold readD byteAt
  simp [List.map_const']
theorem readD_low {a : List Fp} (k : Int) (n : Nat) (h : ∀ p ∈ a, endP p ≤ k) : readD a k n = List.replicate n 0 := by
  rw [← readD_nil k n]
  unfold readD
  refine List.map_congr_left (fun t _ => ?_)
  have := byteAt_append a [] (k + t) (fun p hp => by have := h p hp; omega)
  rw [List.append_nil] at this
  exact this
theorem readD_high {a b : List Fp} (k : Int) (n : Nat) (h : ∀ p ∈ b, k + (n : Int) ≤ p.1) : readD (a ++ b) k n = readD a k n := by
  unfold readD
  refine List.map_congr_left (fun t ht => ?_)
  rw [List.mem_range] at ht
  exact byteAt_prefix a b (k + t) (fun p hp => by have := h p hp; omega)
set_option maxHeartbeats 4000000 in
theorem dread_any (a : Option Addr) (c : Nat) (qs : List FpQ) (k : Int) (n : Nat) (w : World) (hd : DatO w a c qs) (hl : OkD (qs.map Prod.fst)) (hk : 0 ≤ k ∧ k ≤ 4000000000000) (hn : n ≤ 1048576) :
    Calls Try.prog 22 #[.slice a qs.length c, .int .i64 k, .int .i64 (n : Int)] w fun e w' => ∃ g, e = .returned (.slice (some ⟨g, 0, none⟩) n n) ∧ Hid (w'.ownsRow 0 5 1 (.slice (some ⟨g, 0, none⟩) n n) n (bc (readD (qs.map Prod.fst) k n)) ∧ w.heap.size ≤ g ∧ Kept NoB w w') := by
  have hr := bytes_rd hd
  have hol := ok_len hl
  obtain ⟨l, hle⟩ : ∃ l, l = qs.map Prod.fst := ⟨_, rfl⟩
  rw [← hle] at hr hl hol ⊢
  have hll : l.length = qs.length := by rw [hle]; simp
  obtain ⟨N, hN⟩ : ∃ N, N = qs.length := ⟨_, rfl⟩
  have hown := hd.own
  rw [← hN] at hown hll ⊢
  have hlen : N ≤ 1099511627776 := by omega
  have hcap : N ≤ c ∧ c ≤ maxLen ∧ (a = none → c = 0) := by
    rcases hown.2 with ⟨h1, h2⟩ | ⟨g, cc, cur, h1, _, _, h2, h3, _⟩
    · simp at h1; exact ⟨by omega, by unfold maxLen; omega, fun _ => h1.2.2⟩
    · simp at h1; obtain ⟨rfl, rfl⟩ := h1; exact ⟨h2, h3, fun e => by cases e⟩
  have hc63 : (c : Int) ≤ 9223372036854775807 := by have := hcap.2.1; unfold maxLen at this; omega
  obtain ⟨A, hA⟩ : ∃ A, A = (aheadP l (k + 1)).length := ⟨_, rfl⟩
  have hAN : A ≤ N := by rw [hA, ← hll]; exact ahead_le l (k + 1)
  have HAf : Hid (∀ W, Kept NoB w W → Calls Try.prog 29 #[.slice a N c, .int .i64 k] W fun e w' => e = .returned (.int .i64 (A : Int)) ∧ Kept NoB W w') := Lib.hid (fun W hW => by
    have := after_any l hl a c k W (hr.kept hW) (by omega) hcap.2.1 (by omega) (by omega)
    rw [hll, ← hA] at this
    exact this)
  -- what is ahead ends no later
  have hahead : ∀ p ∈ l.take A, endP p ≤ k := fun p hp => by
    have e : l.take A = aheadP l (k + 1) := by
      have hs := split3 l (k + 1) (k + 1)
      conv => lhs; rw [hs]
      rw [hA, List.take_left]
    rw [e] at hp
    have := ahead_end p hp
    omega
  have hbehind : ∀ i (hi : i < l.length), A ≤ i → k < endP l[i] := fun i hi hAi => by
    have hm : l[i] ∈ l.dropWhile (fun p => decide (endP p < k + 1)) := by
      have hs : l = aheadP l (k + 1) ++ l.dropWhile (fun p => decide (endP p < k + 1)) := (List.takeWhile_append_dropWhile).symm
      obtain ⟨p, hp⟩ : ∃ p, p = l[i] := ⟨_, rfl⟩
      have h1 : l[i]? = some p := by rw [hp]; exact List.getElem?_eq_getElem hi
      have h2 : (aheadP l (k + 1) ++ l.dropWhile (fun p => decide (endP p < k + 1)))[i]? = some p := by rw [← hs]; exact h1
      rw [List.getElem?_append_right (by omega)] at h2
      rw [← hp]
      exact List.mem_of_getElem? h2
    have := drop_end hl (k + 1) _ hm
    omega
  obtain ⟨sa, sc, hsl, hsa⟩ : ∃ (sa : Option Addr) (sc : Nat), (∀ W, (Instr.slice 48 (.slice a N c) (some (.int .i64 (A : Int))) none none).run Try.prog W = .ok (.slice sa (N - A) sc) W) ∧ (A < N → ∃ g, a = some ⟨g, 0, none⟩ ∧ sa = some ⟨g, A * 2, none⟩) := by
    cases a with
    | none =>
      have hN0 : N = 0 := by have := hcap.2.2 rfl; omega
      refine ⟨none, 0, fun W => ?_, fun h => by omega⟩
      have hA0 : A = 0 := by omega
      have hc0 := hcap.2.2 rfl
      subst hN0; subst hA0; subst hc0
      rw [run_slice_l (P := Try.prog) (w := W) 48 none 0 0 (by kernel_rfl) .i64 ((0 : Nat) : Int) (by omega) (by omega)]
      have hs : (sizeOf (Try.prog.elem 48)).run Try.prog W = .ok 2 W := by kernel_rfl
      rw [hs]
      rfl
    | some x =>
      obtain ⟨g, rfl⟩ : ∃ g, x = ⟨g, 0, none⟩ := by
        rcases hown.2 with ⟨h1, h2⟩ | ⟨g, cc, cur, h1, _⟩
        · cases h1
        · simp only [Value.slice.injEq, Option.some.injEq] at h1; exact ⟨g, h1.1⟩
      obtain ⟨q, h1, h2⟩ := slice_l2 g N c A hAN hcap.1
      exact ⟨some q, c - A, h1, fun hlt => ⟨g, rfl, by rcases h2 with e | e; rw [e]; omega⟩⟩
  have HAll := Lib.hid (⟨hd, hl, hle, hN, hll, hahead, hbehind, hsa, hown⟩ : _ ∧ _ ∧ _ ∧ _ ∧ _ ∧ _ ∧ _ ∧ _ ∧ _)
  clear hr hol hA hahead hbehind hsa hown hcap hle hd hl hll hN
  go_enter Try.func22, Try.ntmps22
  go_upto_region 2 with (first | (refine wpList_make_bytes _ rfl (.tmp 10) (.tmp 10) rfl n rfl rfl hn ?_; intro w1 hz1 hk1) | fail)
  obtain ⟨g, hg⟩ : ∃ g, g = w.heap.size := ⟨_, rfl⟩
  rw [← hg] at hz1 ⊢
  have HG := Lib.hid hg
  clear hg
  have HR1 : Hid (w1.ownsRow 0 5 1 (.slice (some ⟨g, 0, none⟩) n n) n (bc (readD (l.take A) k n)) ∧ Kept NoB w w1) := Lib.hid ⟨⟨by rw [bc_len, readD_len]; omega, .inr ⟨g, n, _, rfl, Nat.zero_le _, hz1, Nat.le_refl _, by unfold maxLen; omega, by simp [bc], by rw [readD_low k n HAll.out.2.2.2.2.2.1, List.toList_toArray, Nat.mul_one, List.take_of_length_le (by simp [bc])]⟩⟩, hk1⟩
  clear hz1
  go_wp2_with (go_at_call 29; refine (HAf.out _ hk1).mono ?_; rintro e w2 ⟨rfl, hk2⟩; have HR2 := Lib.hid (⟨hk2.row HR1.out.1 (fun _ _ e => e), HR1.out.2.trans hk2⟩ : _ ∧ _))
  clear HR1 hk1 hk2 HAf
  have hsl2 := Lib.hid hsl
  clear hsl
  go_loopw [9, 18] (fun v9 v18 wr => ∃ (i : Nat), v18 = .int .i64 (i : Int) ∧ i ≤ N - A ∧ Hid (wr.ownsRow 0 5 1 (.slice (some ⟨g, 0, none⟩) n n) n (bc (readD (l.take (A + i)) k n)) ∧ Kept NoB w wr)) (fun _ v18 _ => N - A - (intOf v18).toNat)
  case atStart => exact ⟨0, rfl, by omega, Lib.hid HR2.out⟩
  case round =>
    obtain ⟨i, rfl, hi, HR⟩ := hrel
    clear HR2
    have hgw : w.heap.size ≤ g := by rw [HG.out]; exact Nat.le_refl _
    by_cases hlt : (i : Int) < ((N - A : Nat) : Int)
    · have hAi : A + i < qs.length := by have := HAll.out.2.2.2.1; omega
      obtain ⟨g0, rfl, rfl⟩ := HAll.out.2.2.2.2.2.2.2.1 (by omega)
      obtain ⟨q, hq⟩ : ∃ q, q = qs[A + i] := ⟨_, rfl⟩
      have hqi : qs[A + i]? = some q := by rw [hq]; exact List.getElem?_eq_getElem hAi
      have hqm : q ∈ qs := by rw [hq]; exact List.getElem_mem hAi
      have hql : l[A + i]? = some q.1 := by rw [HAll.out.2.2.1, List.getElem?_map, hqi]; rfl
      have hqml : q.1 ∈ l := List.mem_of_getElem? hql
      have hok1 := HAll.out.2.1.each q.1 hqml
      obtain ⟨z, hz⟩ : ∃ z, z = q.1.1 := ⟨_, rfl⟩
      obtain ⟨m, hm⟩ : ∃ m, m = q.1.2.length := ⟨_, rfl⟩
      obtain ⟨qc, hqc⟩ : ∃ qc, qc = q.2.2 := ⟨_, rfl⟩
      have hqr := HAll.out.1.each q hqm
      have hm0 : 0 < m := by rw [hm]; exact List.length_pos_iff.2 hok1.2.1
      obtain ⟨gq, hqa, hmc⟩ : ∃ gq, q.2.1 = some ⟨gq, 0, none⟩ ∧ m ≤ qc ∧ qc ≤ maxLen := by
        rcases hqr.2 with ⟨h1, h2⟩ | ⟨gx, cc, cux, h1, _, _, h2, h3, _⟩
        · omega
        · simp only [Value.slice.injEq, true_and] at h1
          exact ⟨gx, h1.1, by rw [hm, hqc, h1.2]; exact ⟨h2, h3⟩⟩
      have hqc63 : (qc : Int) ≤ 9223372036854775807 := by have := hmc.2; unfold maxLen at this; omega
      have hke : k < z + (m : Int) := by
        have h1 := HAll.out.2.2.2.2.2.2.1 (A + i) (by have := HAll.out.2.2.2.2.1; have := HAll.out.2.2.2.1; omega) (by omega)
        have h2 : l[A + i]'(by have := HAll.out.2.2.2.2.1; have := HAll.out.2.2.2.1; omega) = q.1 := by
          have := List.getElem?_eq_getElem (show A + i < l.length by have := HAll.out.2.2.2.2.1; have := HAll.out.2.2.2.1; omega)
          rw [hql] at this
          exact (Option.some.inj this).symm
        rw [h2] at h1
        unfold endP at h1
        rw [← hz, ← hm] at h1
        exact h1
      have hend : z + (m : Int) ≤ 1099511627776 ∧ 0 ≤ z := by
        have h1 := hok1.2.2
        unfold endP at h1
        rw [← hz, ← hm] at h1
        exact ⟨h1, by rw [hz]; exact hok1.1⟩
      have hrow := HR.out.2.row HAll.out.2.2.2.2.2.2.2.2 (fun _ _ e => e)
      have y0 : wr.cell? ⟨g0, A * 2 + i * 2, none⟩ = some (.int .i64 z) := by
        have := hrow.cells (g := g0) rfl _ _ (fcells_at2 qs (A + i) q hqi).1
        rw [Addr.add_lit, Nat.zero_add, ← hz, show (A + i) * 2 = A * 2 + i * 2 by omega] at this; exact this
      have y1 : wr.cell? ⟨g0, A * 2 + i * 2 + 1, none⟩ = some (.slice (some ⟨gq, 0, none⟩) m qc) := by
        have := hrow.cells (g := g0) rfl _ _ (fcells_at2 qs (A + i) q hqi).2
        rw [Addr.add_lit, Nat.zero_add, hqa, ← hm, ← hqc, show (A + i) * 2 + 1 = A * 2 + i * 2 + 1 by omega] at this; exact this
      have HQ := Lib.hid (⟨hqi, hqm, hql, hz, hm, hqc, hqa⟩ : _ ∧ _ ∧ _ ∧ _ ∧ _ ∧ _ ∧ _)
      have HQr := Lib.hid hqr
      clear hq hqi hqm hql hqml hok1 hz hm hqc hqr hqa hrow hAi
      obtain ⟨kn, hkn⟩ : ∃ kn : Int, kn = k + (n : Int) := ⟨_, rfl⟩
      have hknw : IntKind.i64.wrap (k + (n : Int)) = kn := by rw [IntKind.wrap_i64]; omega
      have HKn := Lib.hid hkn
      clear hkn
      go_upto_region 5 with fail
      obtain ⟨bp, hbp⟩ : ∃ bp, bp = wr.heap.size := ⟨_, rfl⟩
      obtain ⟨w5, hw5⟩ : ∃ w5, w5 = wr.alloc (.cells #[.int .i64 z, .slice (some ⟨gq, 0, none⟩) m qc] 43) := ⟨_, rfl⟩
      rw [← hbp, ← hw5]
      have b5 : w5.heap[bp]? = some (.cells #[.int .i64 z, .slice (some ⟨gq, 0, none⟩) m qc] 43 (0, 0)) := by rw [hw5, hbp]; exact heap_push _ _
      have k5 : Kept NoB wr w5 := by rw [hw5]; exact (Kept.refl _ _).alloc _
      have z0 : w5.cell? ⟨bp, 0, none⟩ = some (.int .i64 z) := by rw [obj_cell b5]; rfl
      have z1 : w5.cell? ⟨bp, 1, none⟩ = some (.slice (some ⟨gq, 0, none⟩) m qc) := by rw [obj_cell b5]; rfl
      have HR5 : Hid (w5.ownsRow 0 5 1 (.slice (some ⟨g, 0, none⟩) n n) n (bc (readD (l.take (A + i)) k n)) ∧ Kept NoB w w5) := Lib.hid ⟨k5.row HR.out.1 (fun _ _ e => e), HR.out.2.trans k5⟩
      clear hbp hw5 b5 k5 y0 y1 HR
      by_cases hbr : kn ≤ z
      · have HF : Hid (readD l k n = readD (l.take (A + i)) k n) := Lib.hid (by
          have e : l = l.take (A + i) ++ l.drop (A + i) := (List.take_append_drop _ _).symm
          conv => lhs; rw [e]
          refine readD_high k n (fun p hp => ?_)
          have hlt2 : A + i < l.length := by have := HAll.out.2.2.2.2.1; omega
          rw [List.drop_eq_getElem_cons hlt2] at hp
          have hq1 : l[A + i] = q.1 := by
            have := List.getElem?_eq_getElem hlt2
            rw [HQ.out.2.2.1] at this
            exact (Option.some.inj this).symm
          have hpw := HAll.out.2.1.apart.sublist (List.drop_sublist (A + i) l)
          rw [List.drop_eq_getElem_cons hlt2, List.pairwise_cons] at hpw
          have h1 := HQ.out.2.2.2.1
          have h2 := HKn.out
          rcases List.mem_cons.1 hp with h | h
          · rw [h, hq1]; omega
          · have h3 := hpw.1 p h
            rw [hq1] at h3
            unfold endP at h3
            omega)
        go_wp2
        go_ret
        exact ⟨g, rfl, Lib.hid ⟨by have := HR5.out.1; rw [← HF.out] at this; exact this, hgw, HR5.out.2⟩⟩
      · go_upto_if 31 with fail
        have hstep : Hid (∀ P d : Nat, k + (P : Int) = max k z → (d : Int) = max k z - z → P ≤ n → readD (l.take (A + i + 1)) k n = (readD (l.take (A + i)) k n).take P ++ (q.1.2.drop d).take (min (m - d) (n - P)) ++ (readD (l.take (A + i)) k n).drop (P + min (m - d) (n - P))) := Lib.hid (fun P d h1 h2 h3 => by
          have e : l.take (A + i + 1) = l.take (A + i) ++ [q.1] := by rw [List.take_add_one, HQ.out.2.2.1]; rfl
          have hok : OkD (l.take (A + i + 1)) := ⟨fun p hp => HAll.out.2.1.each p (List.mem_of_mem_take hp), HAll.out.2.1.apart.sublist (List.take_sublist _ _)⟩
          rw [e] at hok ⊢
          have hz := HQ.out.2.2.2.1
          have hm := HQ.out.2.2.2.2.1
          exact read_step hok k n P _ d (by rw [← hz]; exact h1) (by rw [← hz]; exact h2) (by rw [hm]) h3 (by unfold endP; rw [← hz, ← hm]; exact hke))
        have hcells : Hid (∀ W, Kept NoB w W → ∀ d : Nat, ∀ j v, (bc (q.1.2.drop d))[j]? = some v → W.cell? ((⟨gq, d, none⟩ : Addr).add j) = some v) := Lib.hid (fun W hW d j v hj => by
          have h1 := hW.row HQr.out (fun _ _ e => e)
          have e : bc (q.1.2.drop d) = (bc q.1.2).drop d := by simp [bc, List.map_drop]
          rw [e, List.getElem?_drop] at hj
          have h2 := h1.cells (g := gq) (by rw [HQ.out.2.2.2.2.2.2]; rfl) _ _ hj
          rw [Addr.add_lit, Nat.zero_add] at h2
          rw [Addr.add_lit]
          exact h2)
        by_cases hzk : z < k
        · obtain ⟨d, hd⟩ : ∃ d, d = (k - z).toNat := ⟨_, rfl⟩
          have hdw : IntKind.i64.wrap (k - z) = k - z := by rw [IntKind.wrap_i64]; omega
          have hd1 : k - z ≤ (m : Int) := by omega
          have hd0 : 0 ≤ k - z := by omega
          have hdc : k - z ≤ (qc : Int) := by omega
          have hdq : ¬ qc = (k - z).toNat := by omega
          have hzk2 : z ≤ k := by omega
          obtain ⟨w7, r7, o7, k7⟩ := run_copy_by2 w5 g n n 0 (readD (l.take (A + i)) k n) (readD_len _ _ _).symm HR5.out.1 ⟨gq, d, none⟩ (q.1.2.drop d) (qc - d) n (hcells.out w5 HR5.out.2 d) (Nat.zero_le _) (min (m - d) n) (by rw [List.length_drop, ← HQ.out.2.2.2.2.1, Nat.sub_zero])
          rw [List.length_drop, ← HQ.out.2.2.2.2.1, hd, Nat.sub_zero] at r7
          have hst := hstep.out 0 d (by omega) (by omega) (by omega)
          rw [Nat.sub_zero] at hst
          rw [← hst] at o7
          have HE := Lib.hid (⟨o7, kept_on2 HR5.out.2 k7 (fun j hlt hj => by have hj : j = g := hj; omega)⟩ : _ ∧ _)
          clear o7 k7 hst hd
          go_upto_region 7 with fail
          go_wp2_with (refine wpList_copy_known rfl (.tmp 32) (.tmp 39) 32 32 rfl _ _ rfl rfl _ _ r7 ?_)
          go_roundw
          · exact ⟨i + 1, by simp, by omega, Lib.hid (by rw [show A + (i + 1) = A + i + 1 by omega]; exact HE.out)⟩
          · simp only [intOf]; omega
        · obtain ⟨P, hP⟩ : ∃ P, P = (z - k).toNat := ⟨_, rfl⟩
          have hzw : IntKind.i64.wrap (z - k) = z - k := by rw [IntKind.wrap_i64]; omega
          have hkn2 := HKn.out
          have hP1 : z - k ≤ (n : Int) := by omega
          have hP0 : 0 ≤ z - k := by omega
          have hPn : ¬ n = (z - k).toNat := by omega
          have hkz2 : k ≤ z := by omega
          obtain ⟨w7, r7, o7, k7⟩ := run_copy_by2 w5.drew g n n P (readD (l.take (A + i)) k n) (readD_len _ _ _).symm ((Kept.refl NoB w5).drew.row HR5.out.1 (fun _ _ e => e)) ⟨gq, 0, none⟩ q.1.2 qc (n - P) (fun j v hj => hcells.out w5.drew HR5.out.2.drew 0 j v (by rw [List.drop_zero]; exact hj)) (by omega) (min m (n - P)) (by rw [← HQ.out.2.2.2.2.1])
          rw [← HQ.out.2.2.2.2.1, hP] at r7
          have hst := hstep.out P 0 (by omega) (by omega) (by omega)
          rw [List.drop_zero, Nat.sub_zero] at hst
          rw [← hst] at o7
          have HE := Lib.hid (⟨o7, kept_on2 HR5.out.2.drew k7 (fun j hlt hj => by have hj : j = g := hj; omega)⟩ : _ ∧ _)
          clear o7 k7 hst hP hkn2
          go_upto_region 8 with fail
          go_region_law (refine wpList_copy_known rfl (.tmp 46) (.tmp 48) 32 32 rfl _ _ rfl rfl _ _ r7 ?_)
          all_goals go_simp
          all_goals go_wp2
          all_goals go_roundw
          all_goals first
            | exact ⟨i + 1, by simp, by omega, Lib.hid (by rw [show A + (i + 1) = A + i + 1 by omega]; exact HE.out)⟩
            | (simp only [intOf]; omega)
    · have hi2 : i = N - A := by omega
      have HF : Hid (l.take (A + i) = l) := Lib.hid (List.take_of_length_le (by have := HAll.out.2.2.2.2.1; omega))
      clear hi2
      go_wp2
      go_ret
      exact ⟨g, rfl, Lib.hid ⟨by have := HR.out.1; rw [HF.out] at this; exact this, hgw, HR.out.2⟩⟩
end Go.Proofs.Ytjjgadanobeamaa

namespace Go.Proofs.Ytjjgadanobeamaa
open Go.RowKit
set_option linter.unusedVariables false
set_option linter.unusedSimpArgs false
set_option maxRecDepth 20000

def manyP (s k m : Int) : Nat := (min m (min 1048576 (max (s - k) 0))).toNat
def readP (T : FsP) (i k m : Int) : List UInt8 × Int :=
  match T.nd i with
  | none => ([], 10)
  | some n => if n.v.kind = 1 then (if k < 0 ∨ m < 0 then ([], 1) else (readD n.data k (manyP n.v.size k m), 0)) else ([], 13)
theorem readP_no {T : FsP} {i k m : Int} (h : fileE T i ≠ 0) : readP T i k m = ([], fileE T i) := by
  unfold readP fileE at *
  cases hn : T.nd i with
  | none => rfl
  | some n =>
    rw [hn] at h
    simp only at h ⊢
    by_cases h1 : n.v.kind = 1
    · rw [if_pos h1] at h; exact absurd rfl h
    · rw [if_neg h1, if_neg h1]
theorem readP_yes {T : FsP} {i k m : Int} {n : NdP} (hn : T.nd i = some n) (h1 : n.v.kind = 1) : readP T i k m = if k < 0 ∨ m < 0 then ([], 1) else (readD n.data k (manyP n.v.size k m), 0) := by
  unfold readP
  rw [hn]
  simp only
  rw [if_pos h1]
def ReadR (w : World) (l : List UInt8) (a : Option Addr) (c : Nat) (w' : World) : Prop :=
  w'.ownsRow 0 5 1 (.slice a l.length c) l.length (bc l) ∧ (∀ j, (Value.slice a l.length c).ownBlock = some j → w.heap.size ≤ j) ∧ Kept NoB w w'
theorem ReadR.empty {w w' : World} (h : Kept NoB w w') : ReadR w [] none 0 w' := ⟨World.ownsRow_nil _ _ _ _, fun k e => by simp [Value.ownBlock] at e, h⟩

set_option maxHeartbeats 4000000 in
theorem read_any {S : Nat → Prop} {w : World} {f : Nat} {T : FsP} (h : FsSt S w f T) (i : Int) (hi : -9223372036854775808 ≤ i ∧ i ≤ 9223372036854775807) (k : Int) (hk : -9223372036854775808 ≤ k ∧ k ≤ 4000000000000) (m : Int) (hm : -9223372036854775808 ≤ m ∧ m ≤ 9223372036854775807) :
    Calls Try.prog 9 #[.pointer (some ⟨f, 0, none⟩), .int .i64 i, .int .i64 k, .int .i64 m] w fun e w' =>
      ∃ a c, e = .returned (.tuple #[.slice a (readP T i k m).1.length c, .int .i64 (readP T i k m).2]) ∧ Hid (ReadR w (readP T i k m).1 a c w') := by
  obtain ⟨L, B, mb, h⟩ := h
  have HP := Lib.hid (file_in h i hi)
  by_cases hp : fileE T i = 0
  rotate_left
  · rw [if_neg hp, ptrV_none] at HP
    rw [readP_no hp]
    obtain ⟨z, hz⟩ : ∃ z, z = fileE T i := ⟨_, rfl⟩
    rw [← hz] at hp HP ⊢
    have hz2 : (z == 0) = false := by simpa using hp
    clear hz h hp
    go_enter Try.func9, Try.ntmps9
    go_wp2_with fail
    refine HP.out.mono ?_
    rintro e w2 ⟨rfl, hk2⟩
    go_wp2
    go_ret2
    exact ⟨none, 0, rfl, Lib.hid (ReadR.empty hk2)⟩
  obtain ⟨n, hn, h1⟩ := fileE_file hp
  rw [readP_yes hn h1]
  rw [if_pos hp, hp] at HP
  obtain ⟨D, mo, a, c, qs, hB, hN⟩ := h.at hn
  rw [hB, ptrV_some] at HP
  by_cases hbad : k < 0 ∨ m < 0
  · rw [if_pos hbad]
    clear h hp hN hB
    go_enter Try.func9, Try.ntmps9
    by_cases hb1 : k < 0
    · go_wp2_with fail
      refine HP.out.mono ?_
      rintro e w2 ⟨rfl, hk2⟩
      go_wp2
      go_ret2
      exact ⟨none, 0, rfl, Lib.hid (ReadR.empty hk2)⟩
    · have hb2 : m < 0 := by omega
      go_wp2_with fail
      refine HP.out.mono ?_
      rintro e w2 ⟨rfl, hk2⟩
      go_wp2
      go_ret2
      exact ⟨none, 0, rfl, Lib.hid (ReadR.empty hk2)⟩
  rw [if_neg hbad]
  have HOn := Lib.hid (h.ok.node i n hn)
  have hlen : n.data.length = qs.length := hN.dat.len
  have hdat : DatO w a c qs := ⟨by have := hN.dat.own; rw [hlen] at this; exact this, hN.dat.each, hN.dat.apart⟩
  obtain ⟨s, hs⟩ : ∃ s, s = n.v.size := ⟨_, rfl⟩
  have hs0 : 0 ≤ s ∧ s ≤ 1099511627776 := by rw [hs]; exact HOn.out.size
  obtain ⟨M, hM⟩ : ∃ M, M = manyP n.v.size k m := ⟨_, rfl⟩
  have hMi : (M : Int) = min m (min 1048576 (max (s - k) 0)) := by rw [hM, hs]; unfold manyP; omega
  have HRd : Hid (∀ W, Kept NoB w W → Calls Try.prog 22 #[.slice a qs.length c, .int .i64 k, .int .i64 (M : Int)] W fun e w' => ∃ g, e = .returned (.slice (some ⟨g, 0, none⟩) M M) ∧ Hid (w'.ownsRow 0 5 1 (.slice (some ⟨g, 0, none⟩) M M) M (bc (readD n.data k M)) ∧ w.heap.size ≤ g ∧ Kept NoB W w')) := Lib.hid (fun W hW => by
    have := dread_any a c qs k M W ⟨hW.row hdat.own (fun _ _ e => e), fun q hq => hW.row (hdat.each q hq) (fun _ _ e => e), hdat.apart⟩ (by rw [hN.data]; exact HOn.out.data) (by omega) (by omega)
    rw [hN.data] at this
    refine this.mono ?_
    rintro e w' ⟨g, rfl, hq⟩
    exact ⟨g, rfl, Lib.hid ⟨hq.out.1, Nat.le_trans hW.size hq.out.2.1, hq.out.2.2⟩⟩)
  have k13 : ∀ W, Kept NoB w W → W.cell? ⟨D, 13, none⟩ = some (.slice a qs.length c) := fun W hW => by
    have := (hN.kept hW (fun _ _ e => e) (fun _ _ e => e) (fun _ _ e => e) (fun _ _ e => e)).cell 13
    simp [ndC, nvC] at this
    rw [hlen] at this
    exact this
  have k8 : ∀ W, Kept NoB w W → W.cell? ⟨D, 8, none⟩ = some (.int .i64 s) := fun W hW => by
    have := (hN.kept hW (fun _ _ e => e) (fun _ _ e => e) (fun _ _ e => e) (fun _ _ e => e)).cell 8
    simp [ndC, nvC] at this
    rw [hs]
    exact this
  obtain ⟨ql, hql⟩ : ∃ ql, ql = qs.length := ⟨_, rfl⟩
  have hDl : D < w.heap.size := World.block_lt_of_cell? _ _ (k8 w (Kept.refl _ _))
  rw [← hM]
  rw [← hql] at HRd k13
  have hb1 : ¬ k < 0 := by omega
  have hb2 : ¬ m < 0 := by omega
  have hwk : IntKind.i64.wrap (s - k) = s - k := by rw [IntKind.wrap_i64]; omega
  have HMi := Lib.hid hMi
  clear h hp hN hB hn h1 hlen hdat hs hM hMi hql hbad HOn
  go_enter Try.func9, Try.ntmps9
  go_wp2_with fail
  refine HP.out.mono ?_
  rintro e wn ⟨rfl, hkw⟩
  have HKw := Lib.hid hkw
  have K13 : ∀ W, Kept NoB wn W → W.cell? ⟨D, 13, none⟩ = some (.slice a ql c) := fun W hW => k13 W (HKw.out.trans hW)
  have K8 : ∀ W, Kept NoB wn W → W.cell? ⟨D, 8, none⟩ = some (.int .i64 s) := fun W hW => k8 W (HKw.out.trans hW)
  have HRd := Lib.hid (fun W (hW : Kept NoB wn W) => HRd.out W (HKw.out.trans hW))
  clear hkw HP k13 k8
  obtain ⟨mx, hmx⟩ : ∃ mx, mx = max (s - k) 0 := ⟨_, rfl⟩
  have hx1 : (if 0 > s - k then 0 else s - k) = mx := by rw [hmx]; split <;> omega
  have hx2 : (if mx < (if 1048576 < m then 1048576 else m) then mx else (if 1048576 < m then 1048576 else m)) = (M : Int) := by
    rw [HMi.out, ← hmx]; split <;> split <;> omega
  have hx3 : max (s - k) 0 = mx := hmx.symm
  clear hmx
  go_upto_region 6 with fail
  go_region_held3 (fun W => Kept NoB wn W) (first | assumption | exact Kept.refl _ _ | exact Kept.drew (Kept.refl _ _) | exact Kept.drew (by assumption) | exact Kept.trans (by assumption) hge.out.2.2) ((go_at_call 22; ((with_reducible refine (HRd.out _ (by assumption)).mono ?_); rintro e we ⟨g, rfl, hge⟩)))
  have hkw2 : Kept NoB wn we := by assumption
  have HF := Lib.hid (HKw.out.trans hkw2)
  clear K13 K8 HRd
  go_wp2
  go_ret2
  have hl : M = (readD n.data k M).length := (readD_len _ _ _).symm
  refine ⟨some ⟨g, 0, none⟩, M, by rw [← hl]; rfl, Lib.hid ⟨by rw [← hl]; exact hge.out.1, fun j hj => ?_, HF.out⟩⟩
  have : g = j := by injection hj
  rw [← this]
  exact hge.out.2.1
end Go.Proofs.Ytjjgadanobeamaa

namespace Go.Proofs.Ytjjgadanobeamaa
set_option linter.unusedVariables false
set_option linter.unusedSimpArgs false
set_option maxRecDepth 20000

end Go.Proofs.Ytjjgadanobeamaa

namespace Go.Proofs.Ytjjgadanobeamaa
set_option linter.unusedVariables false
set_option linter.unusedSimpArgs false
set_option maxRecDepth 20000

structure Ho (T : FsP) (q : Int) (is : Int → Bool) (c : Int → UInt8) (size used : Nat) : Prop where
  quo : T.quota = q
  file : ∃ n, T.nd 2 = some n ∧ n.v.kind = 1 ∧ n.v.size = size ∧ ∀ x b, HasB n.data x b ↔ is x = true ∧ c x = b
  low : ∀ x, is x = true → 0 ≤ x ∧ x < size
  size : size ≤ 1080
  sum : T.used = used
  cnt : used = cntD is 0 1100
theorem ho_is {l : List Fp} {is : Int → Bool} {c : Int → UInt8} (h : ∀ x b, HasB l x b ↔ is x = true ∧ c x = b) : isD l = is := by
  funext x
  have h1 := isD_has l x
  cases hi : is x with
  | true => exact h1.2 ⟨c x, (h x _).2 ⟨hi, rfl⟩⟩
  | false =>
    cases hd : isD l x with
    | false => rfl
    | true =>
      obtain ⟨b, hb⟩ := h1.1 hd
      have := ((h x b).1 hb).1
      rw [hi] at this; cases this
theorem ho_sum {l : List Fp} {is : Int → Bool} {c : Int → UInt8} (hl : OkD l) (h : ∀ x b, HasB l x b ↔ is x = true ∧ c x = b) {s : Nat} (hs : s ≤ 1100) (hi : ∀ p ∈ l, endP p ≤ s) : sizeD l = cntD is 0 1100 := by
  rw [size_cnt hl 1100 (fun p hp => by have := hi p hp; omega), ho_is h]
theorem f_ok : okN (strB [102]) = true := by kernel_rfl
theorem may_file : mayB fileV = true := by kernel_rfl
def ho0 (q : Int) : FsP := (makeP (newT q) 1 [102] fileV).1
theorem ho_make (q : Int) : makeP (newT q) 1 [102] fileV = (ho0 q, 2, 0) ∧ ho0 q = makeT (newT q) 1 rootN [102] fileV := by
  have he : makeP (newT q) 1 [102] fileV = (makeT (newT q) 1 rootN [102] fileV, (newT q).next + 1, 0) := by
    rw [makeP_yes (d := rootN) fileV rfl rfl f_ok, if_pos may_file, if_neg (by decide), if_neg (show ¬ 1000 ≤ (newT q).cnt from by show ¬ 1000 ≤ 1; decide)]
  have h0 : ho0 q = makeT (newT q) 1 rootN [102] fileV := by unfold ho0; rw [he]
  exact ⟨by rw [he, h0]; rfl, h0⟩
theorem ho_start (q : Int) (hq : 0 ≤ q) : Ho (ho0 q) q (fun _ => false) (fun _ => 0) 0 0 ∧ (ho0 q).clock = 1 := by
  rw [(ho_make q).2]
  refine ⟨⟨?_, ⟨freshN fileV 1 1, ?_, rfl, rfl, fun x b => ⟨fun ⟨p, hp, _⟩ => (by cases hp), fun h => (by cases h.1)⟩⟩, fun x h => (by cases h), (by decide), rfl, ?_⟩, rfl⟩
  · show max q 0 = q
    omega
  · exact updN_same (updN (newT q).nd 1 (some { touch ((newT q).clock + 1) rootN with names := putK rootN.names [102] ((newT q).next + 1) })) 2 (some (freshN fileV 1 1))
  · rw [cnt_none 1100 0 (fun x _ _ => rfl)]
theorem ho_grow {T : FsP} {q : Int} {is : Int → Bool} {c : Int → UInt8} {size used : Nat} (h : Ho T q is c size used) (hok : OkT T) (s : Nat) (hs : s ≤ 1080) :
    cntD is s (1100 - s) ≤ used ∧ ∃ T', growP T 2 s = (T', 0) ∧ Ho T' q (fun x => is x && decide (x < (s : Int))) c s (used - cntD is s (1100 - s)) ∧ T'.clock = T.clock + 1 := by
  obtain ⟨n, n1, n2, n3, n4⟩ := h.file
  have on := hok.node 2 n n1
  have hin : ∀ p ∈ n.data, endP p ≤ size := fun p hp => by have := on.inside p hp; omega
  have hs1 := h.size
  have e1 := ho_sum on.data n4 (s := size) (by omega) hin
  have n4' : ∀ x b, HasB (cutP n.data s) x b ↔ (is x && decide (x < (s : Int))) = true ∧ c x = b := fun x b => by
    rw [cut_has on.data, n4, Bool.and_eq_true, decide_eq_true_iff]
    constructor
    · rintro ⟨a, b1, b2⟩; exact ⟨⟨b1, a⟩, b2⟩
    · rintro ⟨⟨b1, a⟩, b2⟩; exact ⟨a, b1, b2⟩
  have e2 := ho_sum (cut_ok on.data s (by omega)) n4' (s := s) (by omega) (cut_inside on.data s)
  have e3 : cntD is 0 1100 = cntD is 0 s + cntD is s (1100 - s) := by
    have := cnt_add is s (1100 - s) 0
    rw [show s + (1100 - s) = 1100 by omega, show (0 : Int) + (s : Int) = s by omega] at this
    exact this
  have e4 : cntD (fun x => is x && decide (x < (s : Int))) 0 1100 = cntD is 0 s := by
    have := cnt_add (fun x => is x && decide (x < (s : Int))) s (1100 - s) 0
    rw [show s + (1100 - s) = 1100 by omega, show (0 : Int) + (s : Int) = s by omega] at this
    rw [this, cnt_none (1100 - s) s (fun x h1 h2 => by simp; intro; omega), cnt_congr s 0 (fun x h1 h2 => by
      have : decide (x < (s : Int)) = true := by simp; omega
      rw [this, Bool.and_true])]
    rfl
  have hu := h.cnt
  have hle : cntD is s (1100 - s) ≤ used := by omega
  refine ⟨hle, growT T 2 n s, ?_, ⟨h.quo, ⟨grN n (T.clock + 1) s, ?_, n2, rfl, n4'⟩, fun x hx => ?_, hs, ?_, ?_⟩, rfl⟩
  · rw [growP_yes n1 n2, if_neg (by omega)]
  · exact updN_same T.nd 2 (some (grN n (T.clock + 1) s))
  · rw [Bool.and_eq_true, decide_eq_true_iff] at hx
    exact ⟨(h.low x hx.1).1, hx.2⟩
  · show T.used - ((sizeD n.data : Int) - (sizeD (cutP n.data s) : Int)) = _
    rw [e1, e2, e4, h.sum]
    omega
  · rw [e4]; omega
theorem ho_write {T : FsP} {q : Int} {is : Int → Bool} {c : Int → UInt8} {size used : Nat} (h : Ho T q is c size used) (hok : OkT T) (s : Nat) (hs : s ≤ 1000) (b : List UInt8) (hb : b.length ≤ 80) (r : Nat × Nat) (hr : r = fitB is b.length s (q - used).toNat) :
    ∃ T', writeP T 2 s b = (T', if r.1 < b.length then 5 else 0) ∧ Ho T' q (fun x => is x || ivD s (s + r.1) x) (fun x => if ivD s (s + r.1) x then b.getD (x - s).toNat 0 else c x) (if 0 < r.1 then max size (s + r.1) else size) (used + r.2) ∧ T'.clock ≤ T.clock + 1 := by
  obtain ⟨n, n1, n2, n3, n4⟩ := h.file
  have on := hok.node 2 n n1
  have hin : ∀ p ∈ n.data, endP p ≤ size := fun p hp => by have := on.inside p hp; omega
  have hs1 := h.size
  have hf : fitP T n s b = r := by
    unfold fitP
    rw [ho_is n4, h.quo, h.sum, hr]
  obtain ⟨q1, q2, q3⟩ := fitB_le is b.length s (q - used).toNat
  rw [← hr] at q1 q2 q3
  have hq4 := fit_cnt is b.length s (q - used).toNat
  rw [← hr] at hq4
  have hwr : writeP T 2 s b = (if r.1 = 0 then T else writeT T 2 n s (b.take r.1) r.2, if r.1 < b.length then 5 else 0) := by
    unfold writeP
    rw [n1]
    simp only
    rw [if_pos n2, if_neg (by omega), hf]
  by_cases h0 : r.1 = 0
  · have h2 : r.2 = 0 := by omega
    rw [hwr, if_pos h0]
    have hiv : ∀ x, ivD s (s + r.1) x = false := fun x => by rw [h0]; simp [ivD]
    refine ⟨T, rfl, ?_, by omega⟩
    have e1 : (fun x => is x || ivD s (s + r.1) x) = is := by funext x; rw [hiv, Bool.or_false]
    have e2 : (fun x => if ivD s (s + r.1) x then b.getD (x - s).toNat 0 else c x) = c := by funext x; rw [hiv]; rfl
    rw [e1, e2, h2, h0]
    exact h
  rw [hwr, if_neg h0, if_pos (show 0 < r.1 by omega)]
  have hbl : (b.take r.1).length = r.1 := by rw [List.length_take]; omega
  have hbn : b.take r.1 ≠ [] := fun e => by rw [e] at hbl; simp at hbl; omega
  have n4' : ∀ x v, HasB (putP n.data s (b.take r.1)) x v ↔ (is x || ivD s (s + r.1) x) = true ∧ (if ivD s (s + r.1) x then b.getD (x - s).toNat 0 else c x) = v := fun x v => by
    rw [put_has on.data s _ (by omega) hbn, hbl, n4]
    cases hiv : ivD s (s + r.1) x with
    | true =>
      have hx : (s : Int) ≤ x ∧ x < s + r.1 := by simpa [ivD] using hiv
      have hlt : (x - s).toNat < r.1 := by omega
      rw [List.getElem?_take, if_pos hlt, List.getD_eq_getElem?_getD, List.getElem?_eq_getElem (show (x - s).toNat < b.length by omega)]
      simp only [Option.some.injEq, Option.getD_some, Bool.or_true, true_and, if_true]
      constructor
      · rintro (⟨_, e⟩ | ⟨e, _⟩)
        · exact e
        · omega
      · intro e; exact .inl ⟨hx.1, e⟩
    | false =>
      have hx : ¬ ((s : Int) ≤ x ∧ x < s + r.1) := fun e => by have : ivD s (s + r.1) x = true := by simp [ivD]; exact e
                                                               rw [this] at hiv; cases hiv
      simp only [Bool.or_false, Bool.false_eq_true, if_false]
      constructor
      · rintro (⟨e1, e2⟩ | ⟨_, e⟩)
        · have := (List.getElem?_eq_some_iff.1 e2).1
          rw [hbl] at this; omega
        · exact e
      · intro e; exact .inr ⟨by omega, e⟩
  have hok2 := put_ok on.data s (b.take r.1) (by omega) hbn (by rw [hbl]; omega)
  have hin2 := put_inside on.data s (b.take r.1) (by omega) hbn (by rw [hbl]; omega) size hin
  rw [hbl] at hin2
  have hsz := put_size on.data s (b.take r.1) (by omega) hbn (by rw [hbl]; omega)
  rw [hbl, ho_is n4] at hsz
  have e1 := ho_sum on.data n4 (s := size) (by omega) hin
  have e2 := ho_sum hok2 n4' (s := max size (s + r.1)) (by omega) (fun p hp => by have := hin2 p hp; omega)
  have hu := h.cnt
  refine ⟨_, rfl, ⟨h.quo, ⟨wrN n (T.clock + 1) s (b.take r.1), ?_, n2, ?_, n4'⟩, fun x hx => ?_, by omega, ?_, ?_⟩, Int.le_refl _⟩
  · exact updN_same T.nd 2 (some (wrN n (T.clock + 1) s (b.take r.1)))
  · show max n.v.size ((s : Int) + ((b.take r.1).length : Int)) = _
    rw [hbl, n3]; omega
  · rw [Bool.or_eq_true] at hx
    rcases hx with hx | hx
    · have := h.low x hx; omega
    · simp [ivD] at hx; omega
  · show T.used + (r.2 : Int) = _
    rw [h.sum]; push_cast; rfl
  · rw [← e2]; omega
theorem byteAt_has {l : List Fp} (hl : OkD l) {x : Int} {v : UInt8} (h : HasB l x v) : byteAt l x = v := by
  obtain ⟨p, hp, h1, h2⟩ := h
  obtain ⟨a, b, rfl⟩ := List.append_of_mem hp
  have hx := HasB.lt h1 h2
  have hap := hl.apart
  rw [List.pairwise_append] at hap
  rw [byteAt_append _ _ _ (fun q hq => by have := hap.2.2 q hq p (by simp); omega)]
  unfold byteAt
  rw [List.find?_cons]
  have : (decide (p.1 ≤ x) && decide (x < endP p)) = true := by simp; exact ⟨h1, hx⟩
  rw [this]
  simp only
  rw [List.getD_eq_getElem?_getD, h2]; rfl
theorem byteAt_gap {l : List Fp} {x : Int} (h : isD l x = false) : byteAt l x = 0 := by
  have := byteAt_append l [] x (fun p hp e => by
    have : isD l x = true := by unfold isD; rw [List.any_eq_true]; exact ⟨p, hp, by simp; exact e⟩
    rw [h] at this; cases this)
  rw [List.append_nil] at this
  rw [this]; rfl
def hoB (is : Int → Bool) (c : Int → UInt8) (m : Nat) : List UInt8 := (List.range m).map (fun k : Nat => if is (k : Int) then c (k : Int) else 0)
theorem ho_read {T : FsP} {q : Int} {is : Int → Bool} {c : Int → UInt8} {size used : Nat} (h : Ho T q is c size used) (hok : OkT T) : readP T 2 0 2000 = (hoB is c size, 0) := by
  obtain ⟨n, n1, n2, n3, n4⟩ := h.file
  have on := hok.node 2 n n1
  have hs1 := h.size
  rw [readP_yes n1 n2, if_neg (by decide)]
  have e : manyP n.v.size 0 2000 = size := by unfold manyP; omega
  rw [e]
  refine Prod.ext ?_ rfl
  show readD n.data 0 size = hoB is c size
  unfold readD hoB
  refine List.map_congr_left (fun k hk => ?_)
  rw [Int.zero_add]
  have hi := ho_is n4
  cases hx : is (k : Int) with
  | true => simp only [if_true]; exact byteAt_has on.data ((n4 _ _).2 ⟨hx, rfl⟩)
  | false => simp only [Bool.false_eq_true, if_false]; exact byteAt_gap (by rw [hi]; exact hx)
structure HoPs (l : List Fp) (is : Int → Bool) (c : Int → UInt8) (used : Nat) : Prop where
  ok : OkD l
  has : ∀ (i : Nat) (p : Fp), l[i]? = some p → ∀ (k : Nat) (v : UInt8), p.2[k]? = some v → is (p.1 + k) = true ∧ c (p.1 + k) = v
  inside : ∀ p ∈ l, endP p ≤ 1080
  sum : sizeD l = used
theorem ho_pieces {T : FsP} {q : Int} {is : Int → Bool} {c : Int → UInt8} {size used : Nat} (h : Ho T q is c size used) (hok : OkT T) : HoPs (piecesP T 2) is c used := by
  obtain ⟨n, n1, n2, n3, n4⟩ := h.file
  have on := hok.node 2 n n1
  have hs1 := h.size
  have hin : ∀ p ∈ n.data, endP p ≤ size := fun p hp => by have := on.inside p hp; omega
  have e : piecesP T 2 = n.data := by unfold piecesP; rw [n1]
  rw [e]
  refine ⟨on.data, fun i p hp k v hv => ?_, fun p hp => by have := hin p hp; omega, ?_⟩
  · refine (n4 _ _).1 ⟨p, List.mem_of_getElem? hp, by omega, ?_⟩
    rw [show (p.1 + (k : Int) - p.1).toNat = k by omega]
    exact hv
  · rw [ho_sum on.data n4 (s := size) (by omega) hin, h.cnt]
end Go.Proofs.Ytjjgadanobeamaa
