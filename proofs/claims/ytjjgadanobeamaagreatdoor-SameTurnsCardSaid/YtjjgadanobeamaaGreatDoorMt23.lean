/-
  What was written of a file, in memory: read.
  A tree of files in memory: a file's bytes, read.
  CRC-32 in numbers: one step, eight, a byte, a row of bytes; sums; no step takes a number to nought but nought. No Go in sight.
  What is told of a tree, a line each name, on paper.
  A map of numbers to numbers of a call's own; where a node is told first.
  Bits turned round. No Go in sight.
  Strings of numbers; the document's own Rev.
-/
import Derived.Test.YtjjgadanobeamaaGreatDoorMt22
import Derived.Lib.Itoa
import Derived.Laws.BytesArg
import Derived.Deep.DeepCutAuto
namespace Go.Proofs.YtjjgadanobeamaaGreatDoor
open Go.RowKit
set_option linter.unusedVariables false
set_option linter.unusedSimpArgs false
set_option maxRecDepth 20000

theorem readD_nil (k : Int) (n : Nat) : readD [] k n = List.replicate n 0 := by
  unfold readD byteAt
  simp [List.map_const']
theorem readD_low {a : List Fp} (k : Int) (n : Nat) (h : ∀ p ∈ a, endP p ≤ k) : readD a k n = List.replicate n 0 := by
  rw [← readD_nil k n]
  unfold readD
  refine List.map_congr_left (fun t _ => ?_)
  have := byteAt_append a [] (k + t) (fun p hp => by have := h p hp; omega)
  rw [List.append_nil] at this
  exact this
theorem readD_high {a b : List Fp} (k : Int) (n : Nat) (h : ∀ p ∈ b, k + (n : Int) ≤ p.1) : readD (a ++ b) k n = readD a k n := by
  unfold readD
  refine List.map_congr_left (fun t ht => ?_)
  rw [List.mem_range] at ht
  exact byteAt_prefix a b (k + t) (fun p hp => by have := h p hp; omega)
set_option maxHeartbeats 4000000 in
theorem dread_any (a : Option Addr) (c : Nat) (qs : List FpQ) (k : Int) (n : Nat) (w : World) (hd : DatO w a c qs) (hl : OkD (qs.map Prod.fst)) (hk : 0 ≤ k ∧ k ≤ 4000000000000) (hn : n ≤ 1048576) :
    Calls Tryz.prog 68 #[.slice a qs.length c, .int .i64 k, .int .i64 (n : Int)] w fun e w' => ∃ g, e = .returned (.slice (some ⟨g, 0, none⟩) n n) ∧ Hid (w'.ownsRow 0 5 1 (.slice (some ⟨g, 0, none⟩) n n) n (bc (readD (qs.map Prod.fst) k n)) ∧ w.heap.size ≤ g ∧ Kept NoB w w') := by
  have hr := bytes_rd hd
  have hol := ok_len hl
  obtain ⟨l, hle⟩ : ∃ l, l = qs.map Prod.fst := ⟨_, rfl⟩
  rw [← hle] at hr hl hol ⊢
  have hll : l.length = qs.length := by rw [hle]; simp
  obtain ⟨N, hN⟩ : ∃ N, N = qs.length := ⟨_, rfl⟩
  have hown := hd.own
  rw [← hN] at hown hll ⊢
  have hlen : N ≤ 1099511627776 := by omega
  have hcap : N ≤ c ∧ c ≤ maxLen ∧ (a = none → c = 0) := by
    rcases hown.2 with ⟨h1, h2⟩ | ⟨g, cc, cur, h1, _, _, h2, h3, _⟩
    · simp at h1; exact ⟨by omega, by unfold maxLen; omega, fun _ => h1.2.2⟩
    · simp at h1; obtain ⟨rfl, rfl⟩ := h1; exact ⟨h2, h3, fun e => by cases e⟩
  have hc63 : (c : Int) ≤ 9223372036854775807 := by have := hcap.2.1; unfold maxLen at this; omega
  obtain ⟨A, hA⟩ : ∃ A, A = (aheadP l (k + 1)).length := ⟨_, rfl⟩
  have hAN : A ≤ N := by rw [hA, ← hll]; exact ahead_le l (k + 1)
  have HAf : Hid (∀ W, Kept NoB w W → Calls Tryz.prog 31 #[.slice a N c, .int .i64 k] W fun e w' => e = .returned (.int .i64 (A : Int)) ∧ Kept NoB W w') := Lib.hid (fun W hW => by
    have := after_any l hl a c k W (hr.kept hW) (by omega) hcap.2.1 (by omega) (by omega)
    rw [hll, ← hA] at this
    exact this)
  -- what is ahead ends no later
  have hahead : ∀ p ∈ l.take A, endP p ≤ k := fun p hp => by
    have e : l.take A = aheadP l (k + 1) := by
      have hs := split3 l (k + 1) (k + 1)
      conv => lhs; rw [hs]
      rw [hA, List.take_left]
    rw [e] at hp
    have := ahead_end p hp
    omega
  have hbehind : ∀ i (hi : i < l.length), A ≤ i → k < endP l[i] := fun i hi hAi => by
    have hm : l[i] ∈ l.dropWhile (fun p => decide (endP p < k + 1)) := by
      have hs : l = aheadP l (k + 1) ++ l.dropWhile (fun p => decide (endP p < k + 1)) := (List.takeWhile_append_dropWhile).symm
      obtain ⟨p, hp⟩ : ∃ p, p = l[i] := ⟨_, rfl⟩
      have h1 : l[i]? = some p := by rw [hp]; exact List.getElem?_eq_getElem hi
      have h2 : (aheadP l (k + 1) ++ l.dropWhile (fun p => decide (endP p < k + 1)))[i]? = some p := by rw [← hs]; exact h1
      rw [List.getElem?_append_right (by omega)] at h2
      rw [← hp]
      exact List.mem_of_getElem? h2
    have := drop_end hl (k + 1) _ hm
    omega
  obtain ⟨sa, sc, hsl, hsa⟩ : ∃ (sa : Option Addr) (sc : Nat), (∀ W, (Instr.slice 46 (.slice a N c) (some (.int .i64 (A : Int))) none none).run Tryz.prog W = .ok (.slice sa (N - A) sc) W) ∧ (A < N → ∃ g, a = some ⟨g, 0, none⟩ ∧ sa = some ⟨g, A * 2, none⟩) := by
    cases a with
    | none =>
      have hN0 : N = 0 := by have := hcap.2.2 rfl; omega
      refine ⟨none, 0, fun W => ?_, fun h => by omega⟩
      have hA0 : A = 0 := by omega
      have hc0 := hcap.2.2 rfl
      subst hN0; subst hA0; subst hc0
      rw [run_slice_l (P := Tryz.prog) (w := W) 46 none 0 0 (by kernel_rfl) .i64 ((0 : Nat) : Int) (by omega) (by omega)]
      have hs : (sizeOf (Tryz.prog.elem 46)).run Tryz.prog W = .ok 2 W := by kernel_rfl
      rw [hs]
      rfl
    | some x =>
      obtain ⟨g, rfl⟩ : ∃ g, x = ⟨g, 0, none⟩ := by
        rcases hown.2 with ⟨h1, h2⟩ | ⟨g, cc, cur, h1, _⟩
        · cases h1
        · simp only [Value.slice.injEq, Option.some.injEq] at h1; exact ⟨g, h1.1⟩
      obtain ⟨q, h1, h2⟩ := slice_l2 g N c A hAN hcap.1
      exact ⟨some q, c - A, h1, fun hlt => ⟨g, rfl, by rcases h2 with e | e; rw [e]; omega⟩⟩
  have HAll := Lib.hid (⟨hd, hl, hle, hN, hll, hahead, hbehind, hsa, hown⟩ : _ ∧ _ ∧ _ ∧ _ ∧ _ ∧ _ ∧ _ ∧ _ ∧ _)
  clear hr hol hA hahead hbehind hsa hown hcap hle hd hl hll hN
  go_enter Tryz.func68, Tryz.ntmps68
  go_upto_region 2 with (first | (refine wpList_make_bytes _ rfl (.tmp 10) (.tmp 10) rfl n rfl rfl hn ?_; intro w1 hz1 hk1) | fail)
  obtain ⟨g, hg⟩ : ∃ g, g = w.heap.size := ⟨_, rfl⟩
  rw [← hg] at hz1 ⊢
  have HG := Lib.hid hg
  clear hg
  have HR1 : Hid (w1.ownsRow 0 5 1 (.slice (some ⟨g, 0, none⟩) n n) n (bc (readD (l.take A) k n)) ∧ Kept NoB w w1) := Lib.hid ⟨⟨by rw [bc_len, readD_len]; omega, .inr ⟨g, n, _, rfl, Nat.zero_le _, hz1, Nat.le_refl _, by unfold maxLen; omega, by simp [bc], by rw [readD_low k n HAll.out.2.2.2.2.2.1, List.toList_toArray, Nat.mul_one, List.take_of_length_le (by simp [bc])]⟩⟩, hk1⟩
  clear hz1
  go_wp2_with (go_at_call 31; refine (HAf.out _ hk1).mono ?_; rintro e w2 ⟨rfl, hk2⟩; have HR2 := Lib.hid (⟨hk2.row HR1.out.1 (fun _ _ e => e), HR1.out.2.trans hk2⟩ : _ ∧ _))
  clear HR1 hk1 hk2 HAf
  have hsl2 := Lib.hid hsl
  clear hsl
  go_loopw [9, 18] (fun v9 v18 wr => ∃ (i : Nat), v18 = .int .i64 (i : Int) ∧ i ≤ N - A ∧ Hid (wr.ownsRow 0 5 1 (.slice (some ⟨g, 0, none⟩) n n) n (bc (readD (l.take (A + i)) k n)) ∧ Kept NoB w wr)) (fun _ v18 _ => N - A - (intOf v18).toNat)
  case atStart => exact ⟨0, rfl, by omega, Lib.hid HR2.out⟩
  case round =>
    obtain ⟨i, rfl, hi, HR⟩ := hrel
    clear HR2
    have hgw : w.heap.size ≤ g := by rw [HG.out]; exact Nat.le_refl _
    by_cases hlt : (i : Int) < ((N - A : Nat) : Int)
    · have hAi : A + i < qs.length := by have := HAll.out.2.2.2.1; omega
      obtain ⟨g0, rfl, rfl⟩ := HAll.out.2.2.2.2.2.2.2.1 (by omega)
      obtain ⟨q, hq⟩ : ∃ q, q = qs[A + i] := ⟨_, rfl⟩
      have hqi : qs[A + i]? = some q := by rw [hq]; exact List.getElem?_eq_getElem hAi
      have hqm : q ∈ qs := by rw [hq]; exact List.getElem_mem hAi
      have hql : l[A + i]? = some q.1 := by rw [HAll.out.2.2.1, List.getElem?_map, hqi]; rfl
      have hqml : q.1 ∈ l := List.mem_of_getElem? hql
      have hok1 := HAll.out.2.1.each q.1 hqml
      obtain ⟨z, hz⟩ : ∃ z, z = q.1.1 := ⟨_, rfl⟩
      obtain ⟨m, hm⟩ : ∃ m, m = q.1.2.length := ⟨_, rfl⟩
      obtain ⟨qc, hqc⟩ : ∃ qc, qc = q.2.2 := ⟨_, rfl⟩
      have hqr := HAll.out.1.each q hqm
      have hm0 : 0 < m := by rw [hm]; exact List.length_pos_iff.2 hok1.2.1
      obtain ⟨gq, hqa, hmc⟩ : ∃ gq, q.2.1 = some ⟨gq, 0, none⟩ ∧ m ≤ qc ∧ qc ≤ maxLen := by
        rcases hqr.2 with ⟨h1, h2⟩ | ⟨gx, cc, cux, h1, _, _, h2, h3, _⟩
        · omega
        · simp only [Value.slice.injEq, true_and] at h1
          exact ⟨gx, h1.1, by rw [hm, hqc, h1.2]; exact ⟨h2, h3⟩⟩
      have hqc63 : (qc : Int) ≤ 9223372036854775807 := by have := hmc.2; unfold maxLen at this; omega
      have hke : k < z + (m : Int) := by
        have h1 := HAll.out.2.2.2.2.2.2.1 (A + i) (by have := HAll.out.2.2.2.2.1; have := HAll.out.2.2.2.1; omega) (by omega)
        have h2 : l[A + i]'(by have := HAll.out.2.2.2.2.1; have := HAll.out.2.2.2.1; omega) = q.1 := by
          have := List.getElem?_eq_getElem (show A + i < l.length by have := HAll.out.2.2.2.2.1; have := HAll.out.2.2.2.1; omega)
          rw [hql] at this
          exact (Option.some.inj this).symm
        rw [h2] at h1
        unfold endP at h1
        rw [← hz, ← hm] at h1
        exact h1
      have hend : z + (m : Int) ≤ 1099511627776 ∧ 0 ≤ z := by
        have h1 := hok1.2.2
        unfold endP at h1
        rw [← hz, ← hm] at h1
        exact ⟨h1, by rw [hz]; exact hok1.1⟩
      have hrow := HR.out.2.row HAll.out.2.2.2.2.2.2.2.2 (fun _ _ e => e)
      have y0 : wr.cell? ⟨g0, A * 2 + i * 2, none⟩ = some (.int .i64 z) := by
        have := hrow.cells (g := g0) rfl _ _ (fcells_at2 qs (A + i) q hqi).1
        rw [Addr.add_lit, Nat.zero_add, ← hz, show (A + i) * 2 = A * 2 + i * 2 by omega] at this; exact this
      have y1 : wr.cell? ⟨g0, A * 2 + i * 2 + 1, none⟩ = some (.slice (some ⟨gq, 0, none⟩) m qc) := by
        have := hrow.cells (g := g0) rfl _ _ (fcells_at2 qs (A + i) q hqi).2
        rw [Addr.add_lit, Nat.zero_add, hqa, ← hm, ← hqc, show (A + i) * 2 + 1 = A * 2 + i * 2 + 1 by omega] at this; exact this
      have HQ := Lib.hid (⟨hqi, hqm, hql, hz, hm, hqc, hqa⟩ : _ ∧ _ ∧ _ ∧ _ ∧ _ ∧ _ ∧ _)
      have HQr := Lib.hid hqr
      clear hq hqi hqm hql hqml hok1 hz hm hqc hqr hqa hrow hAi
      obtain ⟨kn, hkn⟩ : ∃ kn : Int, kn = k + (n : Int) := ⟨_, rfl⟩
      have hknw : IntKind.i64.wrap (k + (n : Int)) = kn := by rw [IntKind.wrap_i64]; omega
      have HKn := Lib.hid hkn
      clear hkn
      go_upto_region 5 with fail
      obtain ⟨bp, hbp⟩ : ∃ bp, bp = wr.heap.size := ⟨_, rfl⟩
      obtain ⟨w5, hw5⟩ : ∃ w5, w5 = wr.alloc (.cells #[.int .i64 z, .slice (some ⟨gq, 0, none⟩) m qc] 69) := ⟨_, rfl⟩
      rw [← hbp, ← hw5]
      have b5 : w5.heap[bp]? = some (.cells #[.int .i64 z, .slice (some ⟨gq, 0, none⟩) m qc] 69 (0, 0)) := by rw [hw5, hbp]; exact heap_push _ _
      have k5 : Kept NoB wr w5 := by rw [hw5]; exact (Kept.refl _ _).alloc _
      have z0 : w5.cell? ⟨bp, 0, none⟩ = some (.int .i64 z) := by rw [obj_cell b5]; rfl
      have z1 : w5.cell? ⟨bp, 1, none⟩ = some (.slice (some ⟨gq, 0, none⟩) m qc) := by rw [obj_cell b5]; rfl
      have HR5 : Hid (w5.ownsRow 0 5 1 (.slice (some ⟨g, 0, none⟩) n n) n (bc (readD (l.take (A + i)) k n)) ∧ Kept NoB w w5) := Lib.hid ⟨k5.row HR.out.1 (fun _ _ e => e), HR.out.2.trans k5⟩
      clear hbp hw5 b5 k5 y0 y1 HR
      by_cases hbr : kn ≤ z
      · have HF : Hid (readD l k n = readD (l.take (A + i)) k n) := Lib.hid (by
          have e : l = l.take (A + i) ++ l.drop (A + i) := (List.take_append_drop _ _).symm
          conv => lhs; rw [e]
          refine readD_high k n (fun p hp => ?_)
          have hlt2 : A + i < l.length := by have := HAll.out.2.2.2.2.1; omega
          rw [List.drop_eq_getElem_cons hlt2] at hp
          have hq1 : l[A + i] = q.1 := by
            have := List.getElem?_eq_getElem hlt2
            rw [HQ.out.2.2.1] at this
            exact (Option.some.inj this).symm
          have hpw := HAll.out.2.1.apart.sublist (List.drop_sublist (A + i) l)
          rw [List.drop_eq_getElem_cons hlt2, List.pairwise_cons] at hpw
          have h1 := HQ.out.2.2.2.1
          have h2 := HKn.out
          rcases List.mem_cons.1 hp with h | h
          · rw [h, hq1]; omega
          · have h3 := hpw.1 p h
            rw [hq1] at h3
            unfold endP at h3
            omega)
        go_wp2
        go_ret
        exact ⟨g, rfl, Lib.hid ⟨by have := HR5.out.1; rw [← HF.out] at this; exact this, hgw, HR5.out.2⟩⟩
      · go_upto_if 31 with fail
        have hstep : Hid (∀ P d : Nat, k + (P : Int) = max k z → (d : Int) = max k z - z → P ≤ n → readD (l.take (A + i + 1)) k n = (readD (l.take (A + i)) k n).take P ++ (q.1.2.drop d).take (min (m - d) (n - P)) ++ (readD (l.take (A + i)) k n).drop (P + min (m - d) (n - P))) := Lib.hid (fun P d h1 h2 h3 => by
          have e : l.take (A + i + 1) = l.take (A + i) ++ [q.1] := by rw [List.take_add_one, HQ.out.2.2.1]; rfl
          have hok : OkD (l.take (A + i + 1)) := ⟨fun p hp => HAll.out.2.1.each p (List.mem_of_mem_take hp), HAll.out.2.1.apart.sublist (List.take_sublist _ _)⟩
          rw [e] at hok ⊢
          have hz := HQ.out.2.2.2.1
          have hm := HQ.out.2.2.2.2.1
          exact read_step hok k n P _ d (by rw [← hz]; exact h1) (by rw [← hz]; exact h2) (by rw [hm]) h3 (by unfold endP; rw [← hz, ← hm]; exact hke))
        have hcells : Hid (∀ W, Kept NoB w W → ∀ d : Nat, ∀ j v, (bc (q.1.2.drop d))[j]? = some v → W.cell? ((⟨gq, d, none⟩ : Addr).add j) = some v) := Lib.hid (fun W hW d j v hj => by
          have h1 := hW.row HQr.out (fun _ _ e => e)
          have e : bc (q.1.2.drop d) = (bc q.1.2).drop d := by simp [bc, List.map_drop]
          rw [e, List.getElem?_drop] at hj
          have h2 := h1.cells (g := gq) (by rw [HQ.out.2.2.2.2.2.2]; rfl) _ _ hj
          rw [Addr.add_lit, Nat.zero_add] at h2
          rw [Addr.add_lit]
          exact h2)
        by_cases hzk : z < k
        · obtain ⟨d, hd⟩ : ∃ d, d = (k - z).toNat := ⟨_, rfl⟩
          have hdw : IntKind.i64.wrap (k - z) = k - z := by rw [IntKind.wrap_i64]; omega
          have hd1 : k - z ≤ (m : Int) := by omega
          have hd0 : 0 ≤ k - z := by omega
          have hdc : k - z ≤ (qc : Int) := by omega
          have hdq : ¬ qc = (k - z).toNat := by omega
          have hzk2 : z ≤ k := by omega
          obtain ⟨w7, r7, o7, k7⟩ := run_copy_by2 w5 g n n 0 (readD (l.take (A + i)) k n) (readD_len _ _ _).symm HR5.out.1 ⟨gq, d, none⟩ (q.1.2.drop d) (qc - d) n (hcells.out w5 HR5.out.2 d) (Nat.zero_le _) (min (m - d) n) (by rw [List.length_drop, ← HQ.out.2.2.2.2.1, Nat.sub_zero])
          rw [List.length_drop, ← HQ.out.2.2.2.2.1, hd, Nat.sub_zero] at r7
          have hst := hstep.out 0 d (by omega) (by omega) (by omega)
          rw [Nat.sub_zero] at hst
          rw [← hst] at o7
          have HE := Lib.hid (⟨o7, kept_on2 HR5.out.2 k7 (fun j hlt hj => by have hj : j = g := hj; omega)⟩ : _ ∧ _)
          clear o7 k7 hst hd
          go_upto_region 7 with fail
          go_wp2_with (refine wpList_copy_known rfl (.tmp 32) (.tmp 39) 26 26 rfl _ _ rfl rfl _ _ r7 ?_)
          go_roundw
          · exact ⟨i + 1, by simp, by omega, Lib.hid (by rw [show A + (i + 1) = A + i + 1 by omega]; exact HE.out)⟩
          · simp only [intOf]; omega
        · obtain ⟨P, hP⟩ : ∃ P, P = (z - k).toNat := ⟨_, rfl⟩
          have hzw : IntKind.i64.wrap (z - k) = z - k := by rw [IntKind.wrap_i64]; omega
          have hkn2 := HKn.out
          have hP1 : z - k ≤ (n : Int) := by omega
          have hP0 : 0 ≤ z - k := by omega
          have hPn : ¬ n = (z - k).toNat := by omega
          have hkz2 : k ≤ z := by omega
          obtain ⟨w7, r7, o7, k7⟩ := run_copy_by2 w5.drew g n n P (readD (l.take (A + i)) k n) (readD_len _ _ _).symm ((Kept.refl NoB w5).drew.row HR5.out.1 (fun _ _ e => e)) ⟨gq, 0, none⟩ q.1.2 qc (n - P) (fun j v hj => hcells.out w5.drew HR5.out.2.drew 0 j v (by rw [List.drop_zero]; exact hj)) (by omega) (min m (n - P)) (by rw [← HQ.out.2.2.2.2.1])
          rw [← HQ.out.2.2.2.2.1, hP] at r7
          have hst := hstep.out P 0 (by omega) (by omega) (by omega)
          rw [List.drop_zero, Nat.sub_zero] at hst
          rw [← hst] at o7
          have HE := Lib.hid (⟨o7, kept_on2 HR5.out.2.drew k7 (fun j hlt hj => by have hj : j = g := hj; omega)⟩ : _ ∧ _)
          clear o7 k7 hst hP hkn2
          go_upto_region 8 with fail
          go_region_law (refine wpList_copy_known rfl (.tmp 46) (.tmp 48) 26 26 rfl _ _ rfl rfl _ _ r7 ?_)
          all_goals go_simp
          all_goals go_wp2
          all_goals go_roundw
          all_goals first
            | exact ⟨i + 1, by simp, by omega, Lib.hid (by rw [show A + (i + 1) = A + i + 1 by omega]; exact HE.out)⟩
            | (simp only [intOf]; omega)
    · have hi2 : i = N - A := by omega
      have HF : Hid (l.take (A + i) = l) := Lib.hid (List.take_of_length_le (by have := HAll.out.2.2.2.2.1; omega))
      clear hi2
      go_wp2
      go_ret
      exact ⟨g, rfl, Lib.hid ⟨by have := HR.out.1; rw [HF.out] at this; exact this, hgw, HR.out.2⟩⟩
end Go.Proofs.YtjjgadanobeamaaGreatDoor

namespace Go.Proofs.YtjjgadanobeamaaGreatDoor
open Go.RowKit
set_option linter.unusedVariables false
set_option linter.unusedSimpArgs false
set_option maxRecDepth 20000

def manyP (s k m : Int) : Nat := (min m (min 1048576 (max (s - k) 0))).toNat
def readP (T : FsP) (i k m : Int) : List UInt8 × Int :=
  match T.nd i with
  | none => ([], 10)
  | some n => if n.v.kind = 1 then (if k < 0 ∨ m < 0 then ([], 1) else (readD n.data k (manyP n.v.size k m), 0)) else ([], 13)
theorem readP_no {T : FsP} {i k m : Int} (h : fileE T i ≠ 0) : readP T i k m = ([], fileE T i) := by
  unfold readP fileE at *
  cases hn : T.nd i with
  | none => rfl
  | some n =>
    rw [hn] at h
    simp only at h ⊢
    by_cases h1 : n.v.kind = 1
    · rw [if_pos h1] at h; exact absurd rfl h
    · rw [if_neg h1, if_neg h1]
theorem readP_yes {T : FsP} {i k m : Int} {n : NdP} (hn : T.nd i = some n) (h1 : n.v.kind = 1) : readP T i k m = if k < 0 ∨ m < 0 then ([], 1) else (readD n.data k (manyP n.v.size k m), 0) := by
  unfold readP
  rw [hn]
  simp only
  rw [if_pos h1]
def ReadR (w : World) (l : List UInt8) (a : Option Addr) (c : Nat) (w' : World) : Prop :=
  w'.ownsRow 0 5 1 (.slice a l.length c) l.length (bc l) ∧ (∀ j, (Value.slice a l.length c).ownBlock = some j → w.heap.size ≤ j) ∧ Kept NoB w w'
theorem ReadR.empty {w w' : World} (h : Kept NoB w w') : ReadR w [] none 0 w' := ⟨World.ownsRow_nil _ _ _ _, fun k e => by simp [Value.ownBlock] at e, h⟩

set_option maxHeartbeats 4000000 in
theorem read_any {S : Nat → Prop} {w : World} {f : Nat} {T : FsP} (h : FsSt S w f T) (i : Int) (hi : -9223372036854775808 ≤ i ∧ i ≤ 9223372036854775807) (k : Int) (hk : -9223372036854775808 ≤ k ∧ k ≤ 4000000000000) (m : Int) (hm : -9223372036854775808 ≤ m ∧ m ≤ 9223372036854775807) :
    Calls Tryz.prog 55 #[.pointer (some ⟨f, 0, none⟩), .int .i64 i, .int .i64 k, .int .i64 m] w fun e w' =>
      ∃ a c, e = .returned (.tuple #[.slice a (readP T i k m).1.length c, .int .i64 (readP T i k m).2]) ∧ Hid (ReadR w (readP T i k m).1 a c w') := by
  obtain ⟨L, B, mb, h⟩ := h
  have HP := Lib.hid (file_in h i hi)
  by_cases hp : fileE T i = 0
  rotate_left
  · rw [if_neg hp, ptrV_none] at HP
    rw [readP_no hp]
    obtain ⟨z, hz⟩ : ∃ z, z = fileE T i := ⟨_, rfl⟩
    rw [← hz] at hp HP ⊢
    have hz2 : (z == 0) = false := by simpa using hp
    clear hz h hp
    go_enter Tryz.func55, Tryz.ntmps55
    go_wp2_with fail
    refine HP.out.mono ?_
    rintro e w2 ⟨rfl, hk2⟩
    go_wp2
    go_ret2
    exact ⟨none, 0, rfl, Lib.hid (ReadR.empty hk2)⟩
  obtain ⟨n, hn, h1⟩ := fileE_file hp
  rw [readP_yes hn h1]
  rw [if_pos hp, hp] at HP
  obtain ⟨D, mo, a, c, qs, hB, hN⟩ := h.at hn
  rw [hB, ptrV_some] at HP
  by_cases hbad : k < 0 ∨ m < 0
  · rw [if_pos hbad]
    clear h hp hN hB
    go_enter Tryz.func55, Tryz.ntmps55
    by_cases hb1 : k < 0
    · go_wp2_with fail
      refine HP.out.mono ?_
      rintro e w2 ⟨rfl, hk2⟩
      go_wp2
      go_ret2
      exact ⟨none, 0, rfl, Lib.hid (ReadR.empty hk2)⟩
    · have hb2 : m < 0 := by omega
      go_wp2_with fail
      refine HP.out.mono ?_
      rintro e w2 ⟨rfl, hk2⟩
      go_wp2
      go_ret2
      exact ⟨none, 0, rfl, Lib.hid (ReadR.empty hk2)⟩
  rw [if_neg hbad]
  have HOn := Lib.hid (h.ok.node i n hn)
  have hlen : n.data.length = qs.length := hN.dat.len
  have hdat : DatO w a c qs := ⟨by have := hN.dat.own; rw [hlen] at this; exact this, hN.dat.each, hN.dat.apart⟩
  obtain ⟨s, hs⟩ : ∃ s, s = n.v.size := ⟨_, rfl⟩
  have hs0 : 0 ≤ s ∧ s ≤ 1099511627776 := by rw [hs]; exact HOn.out.size
  obtain ⟨M, hM⟩ : ∃ M, M = manyP n.v.size k m := ⟨_, rfl⟩
  have hMi : (M : Int) = min m (min 1048576 (max (s - k) 0)) := by rw [hM, hs]; unfold manyP; omega
  have HRd : Hid (∀ W, Kept NoB w W → Calls Tryz.prog 68 #[.slice a qs.length c, .int .i64 k, .int .i64 (M : Int)] W fun e w' => ∃ g, e = .returned (.slice (some ⟨g, 0, none⟩) M M) ∧ Hid (w'.ownsRow 0 5 1 (.slice (some ⟨g, 0, none⟩) M M) M (bc (readD n.data k M)) ∧ w.heap.size ≤ g ∧ Kept NoB W w')) := Lib.hid (fun W hW => by
    have := dread_any a c qs k M W ⟨hW.row hdat.own (fun _ _ e => e), fun q hq => hW.row (hdat.each q hq) (fun _ _ e => e), hdat.apart⟩ (by rw [hN.data]; exact HOn.out.data) (by omega) (by omega)
    rw [hN.data] at this
    refine this.mono ?_
    rintro e w' ⟨g, rfl, hq⟩
    exact ⟨g, rfl, Lib.hid ⟨hq.out.1, Nat.le_trans hW.size hq.out.2.1, hq.out.2.2⟩⟩)
  have k13 : ∀ W, Kept NoB w W → W.cell? ⟨D, 13, none⟩ = some (.slice a qs.length c) := fun W hW => by
    have := (hN.kept hW (fun _ _ e => e) (fun _ _ e => e) (fun _ _ e => e) (fun _ _ e => e)).cell 13
    simp [ndC, nvC] at this
    rw [hlen] at this
    exact this
  have k8 : ∀ W, Kept NoB w W → W.cell? ⟨D, 8, none⟩ = some (.int .i64 s) := fun W hW => by
    have := (hN.kept hW (fun _ _ e => e) (fun _ _ e => e) (fun _ _ e => e) (fun _ _ e => e)).cell 8
    simp [ndC, nvC] at this
    rw [hs]
    exact this
  obtain ⟨ql, hql⟩ : ∃ ql, ql = qs.length := ⟨_, rfl⟩
  have hDl : D < w.heap.size := World.block_lt_of_cell? _ _ (k8 w (Kept.refl _ _))
  rw [← hM]
  rw [← hql] at HRd k13
  have hb1 : ¬ k < 0 := by omega
  have hb2 : ¬ m < 0 := by omega
  have hwk : IntKind.i64.wrap (s - k) = s - k := by rw [IntKind.wrap_i64]; omega
  have HMi := Lib.hid hMi
  clear h hp hN hB hn h1 hlen hdat hs hM hMi hql hbad HOn
  go_enter Tryz.func55, Tryz.ntmps55
  go_wp2_with fail
  refine HP.out.mono ?_
  rintro e wn ⟨rfl, hkw⟩
  have HKw := Lib.hid hkw
  have K13 : ∀ W, Kept NoB wn W → W.cell? ⟨D, 13, none⟩ = some (.slice a ql c) := fun W hW => k13 W (HKw.out.trans hW)
  have K8 : ∀ W, Kept NoB wn W → W.cell? ⟨D, 8, none⟩ = some (.int .i64 s) := fun W hW => k8 W (HKw.out.trans hW)
  have HRd := Lib.hid (fun W (hW : Kept NoB wn W) => HRd.out W (HKw.out.trans hW))
  clear hkw HP k13 k8
  obtain ⟨mx, hmx⟩ : ∃ mx, mx = max (s - k) 0 := ⟨_, rfl⟩
  have hx1 : (if 0 > s - k then 0 else s - k) = mx := by rw [hmx]; split <;> omega
  have hx2 : (if mx < (if 1048576 < m then 1048576 else m) then mx else (if 1048576 < m then 1048576 else m)) = (M : Int) := by
    rw [HMi.out, ← hmx]; split <;> split <;> omega
  have hx3 : max (s - k) 0 = mx := hmx.symm
  clear hmx
  go_upto_region 6 with fail
  go_region_held3 (fun W => Kept NoB wn W) (first | assumption | exact Kept.refl _ _ | exact Kept.drew (Kept.refl _ _) | exact Kept.drew (by assumption) | exact Kept.trans (by assumption) hge.out.2.2) ((go_at_call 68; ((with_reducible refine (HRd.out _ (by assumption)).mono ?_); rintro e we ⟨g, rfl, hge⟩)))
  have hkw2 : Kept NoB wn we := by assumption
  have HF := Lib.hid (HKw.out.trans hkw2)
  clear K13 K8 HRd
  go_wp2
  go_ret2
  have hl : M = (readD n.data k M).length := (readD_len _ _ _).symm
  refine ⟨some ⟨g, 0, none⟩, M, by rw [← hl]; rfl, Lib.hid ⟨by rw [← hl]; exact hge.out.1, fun j hj => ?_, HF.out⟩⟩
  have : g = j := by injection hj
  rw [← this]
  exact hge.out.2.1
end Go.Proofs.YtjjgadanobeamaaGreatDoor

namespace Go.Proofs.YtjjgadanobeamaaGreatDoor

def poly : Nat := 3988292384
def step1 (r : Nat) : Nat := if r % 2 = 1 then r / 2 ^^^ poly else r / 2
def steps : Nat → Nat → Nat
  | 0, r => r
  | n + 1, r => step1 (steps n r)
def upd (r b : Nat) : Nat := r / 256 ^^^ steps 8 (r % 256 ^^^ b)
def flip (c : Nat) : Nat := 4294967295 - c
def regOf (r : Nat) (bs : List Nat) : Nat := bs.foldl upd r
def crcOf (c : Nat) (bs : List Nat) : Nat := flip (regOf (flip c) bs)

theorem poly_lt : poly < 4294967296 := by decide
theorem step1_lt (r : Nat) (h : r < 4294967296) : step1 r < 4294967296 := by
  unfold step1
  split
  · exact Nat.xor_lt_two_pow (n := 32) (by omega) poly_lt
  · omega
theorem steps_lt (n r : Nat) (h : r < 4294967296) : steps n r < 4294967296 := by
  induction n with
  | zero => exact h
  | succ n ih => exact step1_lt _ ih
theorem upd_lt (r b : Nat) (hr : r < 4294967296) (hb : b < 256) : upd r b < 4294967296 := by
  unfold upd
  have h1 : r % 256 ^^^ b < 256 := Nat.xor_lt_two_pow (n := 8) (Nat.mod_lt _ (by decide)) hb
  exact Nat.xor_lt_two_pow (n := 32) (by omega) (steps_lt 8 _ (by omega))
theorem regOf_lt (bs : List Nat) (r : Nat) (hr : r < 4294967296) (hb : ∀ b ∈ bs, b < 256) : regOf r bs < 4294967296 := by
  induction bs generalizing r with
  | nil => exact hr
  | cons b t ih => exact ih (upd r b) (upd_lt r b hr (hb b (by simp))) (fun x hx => hb x (by simp [hx]))
theorem regOf_append (r : Nat) (a b : List Nat) : regOf r (a ++ b) = regOf (regOf r a) b := List.foldl_append
theorem flip_flip (c : Nat) (h : c < 4294967296) : flip (flip c) = c := by unfold flip; omega
theorem flip_lt (c : Nat) : flip c < 4294967296 := by unfold flip; omega
theorem crcOf_lt (c : Nat) (bs : List Nat) : crcOf c bs < 4294967296 := flip_lt _
theorem crcOf_append (c : Nat) (a b : List Nat) (ha : ∀ x ∈ a, x < 256) : crcOf c (a ++ b) = crcOf (crcOf c a) b := by
  unfold crcOf
  rw [regOf_append, flip_flip _ (regOf_lt a _ (flip_lt _) ha)]
theorem crcOf_nil (c : Nat) (h : c < 4294967296) : crcOf c [] = c := flip_flip c h

end Go.Proofs.YtjjgadanobeamaaGreatDoor

namespace Go.Proofs.YtjjgadanobeamaaGreatDoor
set_option linter.unusedVariables false
set_option linter.unusedSimpArgs false
set_option maxRecDepth 20000

def firstP (l : List SeenP) (ino : Int) : Nat := l.findIdx (fun q => q.2 == ino)
def byN (l : List UInt8) : List Nat := l.map fun b => b.toNat
def atB (x : Int) : List Nat := (List.range 8).map fun t => (x / 2 ^ (56 - 8 * t) % 256).toNat
def pcsN (l : List Fp) : List Nat := l.flatMap fun p => atB p.1 ++ byN p.2
def contentP (T : FsP) (ino size : Int) : Nat := if size ≤ 1048576 then crcOf 0 (byN (readP T ino 0 size).1) else crcOf 0 (pcsN (piecesQ T ino))
where piecesQ (T : FsP) (i : Int) : List Fp := match T.nd i with | some n => n.data | none => []
def moreW (T : FsP) (ino : Int) (v : NodeV) : List (List UInt8) :=
  if v.kind = 1 then [numB v.size, numB (contentP T ino v.size)]
  else if v.kind = 3 then [hexB v.tgt.data.toList]
  else if v.kind = 4 ∨ v.kind = 5 then [numB v.major, numB v.minor]
  else []
def wordsP (T : FsP) (tf : Int → Int) (all : List SeenP) (q : SeenP) : List (List UInt8) :=
  [hexB q.1] ++ [numB (statP T q.2).1.kind, numB (statP T q.2).1.mode, numB (statP T q.2).1.user, numB (statP T q.2).1.group, numB (tf (statP T q.2).1.time)] ++ moreW T q.2 (statP T q.2).1 ++ [numB (firstP all q.2 : Nat)]
def lineW (ws : List (List UInt8)) : List UInt8 := Lib.join ws [32]
def textP (T : FsP) (tf : Int → Int) (all : List SeenP) : List (List UInt8) := all.map fun q => lineW (wordsP T tf all q)
end Go.Proofs.YtjjgadanobeamaaGreatDoor

namespace Go.Proofs.YtjjgadanobeamaaGreatDoor
open Go.RowKit
open Go.Maps (Keyed)
set_option linter.unusedVariables false
set_option linter.unusedSimpArgs false
set_option maxRecDepth 20000

def fsF (F : Int → Option Int) : Lit → Option Dt
  | .int .i64 k => (F k).map fun i => .lit (.int .i64 i)
  | _ => none
theorem fsF_none : fsF (fun _ => none) = fun _ => none := by
  funext x
  cases x with
  | int q n => cases q <;> rfl
  | _ => rfl
theorem fsF_upd (F : Int → Option Int) (k i : Int) : updF (fsF F) (.int .i64 k) (.lit (.int .i64 i)) = fsF (fun j => if j = k then some i else F j) := by
  funext l
  unfold updF
  by_cases h : l.sameKey (.int .i64 k) = true
  · have := WideAt.sameKey_eq h
    subst this
    rw [if_pos h]
    simp [fsF]
  · rw [if_neg h]
    cases l with
    | int q n =>
      cases q <;> try rfl
      have : n ≠ k := fun e => h (by rw [e]; exact WideAt.sameKey_self trivial)
      simp [fsF, this]
    | _ => rfl
def FstAt (w : World) (mb : Nat) (F : Int → Option Int) (c : Nat) : Prop := MapF w Tryz.prog 3 (plainElem Tryz.prog 3) mb (fsF F) c
theorem fst_ok {w : World} {mb : Nat} {F : Int → Option Int} {c : Nat} (h : FstAt w mb F c) (k : Int) (hk : -9223372036854775808 ≤ k ∧ k ≤ 9223372036854775807) :
    ∀ W, W.heap[mb]? = w.heap[mb]? → (Instr.lookup 78 (.map (some mb)) (.int .i64 k) true).run Tryz.prog W = .ok (.tuple #[.int .i64 ((F k).getD 0), .bool (F k).isSome]) W := by
  intro W hW
  have hm : FstAt W mb F c := MapF.heap h hW
  obtain ⟨v, ps, hr, hv⟩ := MapF.look_ok hm law_int Tryz.underlying78 (zeroInt W) (plainElem_int Tryz.underlying3 (by decide)) (Maps.keyOf_int_mk Tryz.underlying3 (i64_wf hk))
  rw [hr]
  obtain ⟨a, rfl, ha, _⟩ := plainElem_int_inv Tryz.underlying3 hv
  cases hB : F k with
  | some b =>
    simp [fsF, hB] at ha
    simp [fsF, hB, ha]
  | none =>
    simp [fsF, hB] at ha
    simp [fsF, hB, ha]
theorem fst_at {w : World} {mb : Nat} {F : Int → Option Int} {c : Nat} (h : FstAt w mb F c) (k : Int) (hk : -9223372036854775808 ≤ k ∧ k ≤ 9223372036854775807) :
    ∀ W, W.heap[mb]? = w.heap[mb]? → (Instr.lookup 78 (.map (some mb)) (.int .i64 k) false).run Tryz.prog W = .ok (.int .i64 ((F k).getD 0)) W := by
  intro W hW
  have hm : FstAt W mb F c := MapF.heap h hW
  obtain ⟨v, ps, hr, hv⟩ := MapF.look hm law_int Tryz.underlying78 (zeroInt W) (plainElem_int Tryz.underlying3 (by decide)) (Maps.keyOf_int_mk Tryz.underlying3 (i64_wf hk))
  rw [hr]
  obtain ⟨a, rfl, ha, _⟩ := plainElem_int_inv Tryz.underlying3 hv
  cases hB : F k with
  | some b =>
    simp [fsF, hB] at ha
    simp [ha]
  | none =>
    simp [fsF, hB] at ha
    simp [ha]
theorem fst_put {w : World} {mb : Nat} {F : Int → Option Int} {c : Nat} (h : FstAt w mb F c) (k : Int) (hk : -9223372036854775808 ≤ k ∧ k ≤ 9223372036854775807) (i : Int) (hi : -9223372036854775808 ≤ i ∧ i ≤ 9223372036854775807) (hc : c < maxLen) :
    ∃ w', (Instr.mapUpdate 78 (.map (some mb)) (.int .i64 k) (.int .i64 i)).run Tryz.prog w = .ok () w' ∧ FstAt w' mb (fun j => if j = k then some i else F j) (if (F k).isSome then c else c + 1) ∧ Kept (OneB mb) w w' ∧ w'.heap.size = w.heap.size := by
  obtain ⟨w', hr, h1, h2⟩ := MapF.store h law_int Tryz.underlying78 hc (Maps.keyOf_int_mk Tryz.underlying3 (i64_wf hk)) (plainElem_int Tryz.underlying3 (i64_wf hi))
  refine ⟨w', hr, ?_, turned_kept h2, turned_size h2⟩
  rw [fsF_upd] at h1
  have e : (fsF F (.int .i64 k)).isSome = (F k).isSome := by cases hB : F k <;> simp [fsF, hB]
  rw [e] at h1
  exact h1
section
variable {ops : Array Oper} {rest : List Oper} {o : Oper} {a : Act} {w : World} {Q : Exit → Act → World → Prop}
theorem wpList_fst_ok (hgd : o.guard = none) (m x : Operand) (hop : o.op = Op.lookup 78 m x true) {mb : Nat} {F : Int → Option Int} {c : Nat} (hM : FstAt w mb F c) (hm : a.eval m = .map (some mb)) {k : Int} (hx : a.eval x = .int .i64 k) (hk : -9223372036854775808 ≤ k ∧ k ≤ 9223372036854775807)
    (h : wpList Tryz.prog ops Q rest (a.put o.dst (.tuple #[.int .i64 ((F k).getD 0), .bool (F k).isSome])) w) : wpList Tryz.prog ops Q (o :: rest) a w := by
  refine wpList_plain hgd fun K' hK' => ?_
  unfold Oper.wp
  simp [execOp, hop, hm, hx, fst_ok hM k hk w rfl, Result.andThen]
  exact hK' _ _ h
theorem wpList_fst_at (hgd : o.guard = none) (m x : Operand) (hop : o.op = Op.lookup 78 m x false) {mb : Nat} {F : Int → Option Int} {c : Nat} (hM : FstAt w mb F c) (hm : a.eval m = .map (some mb)) {k : Int} (hx : a.eval x = .int .i64 k) (hk : -9223372036854775808 ≤ k ∧ k ≤ 9223372036854775807)
    (h : wpList Tryz.prog ops Q rest (a.put o.dst (.int .i64 ((F k).getD 0))) w) : wpList Tryz.prog ops Q (o :: rest) a w := by
  refine wpList_plain hgd fun K' hK' => ?_
  unfold Oper.wp
  simp [execOp, hop, hm, hx, fst_at hM k hk w rfl, Result.andThen]
  exact hK' _ _ h
end
def fstF (all : List SeenP) (i : Nat) : Int → Option Int := fun ino => if firstP all ino < i then some (firstP all ino : Nat) else none
theorem firstP_le {all : List SeenP} {i : Nat} (h : i < all.length) : firstP all all[i].2 ≤ i := by
  refine Nat.le_of_not_lt fun hlt => ?_
  have hlt2 : i < all.findIdx (fun q : SeenP => q.2 == all[i].2) := hlt
  have := List.not_of_lt_findIdx hlt2
  simp at this
theorem firstP_eq {all : List SeenP} {i : Nat} (h : i < all.length) {ino : Int} (he : firstP all ino = i) : all[i].2 = ino := by
  subst he
  have h2 : all.findIdx (fun q : SeenP => q.2 == ino) < all.length := h
  have := List.findIdx_getElem (xs := all) (p := fun q : SeenP => q.2 == ino) (w := h2)
  have e : all[all.findIdx (fun q : SeenP => q.2 == ino)].2 = ino := by simpa using this
  exact e
theorem fstF_same {all : List SeenP} {i : Nat} (h : i < all.length) (hs : firstP all all[i].2 < i) : fstF all (i + 1) = fstF all i := by
  funext ino
  unfold fstF
  by_cases e : firstP all ino = i
  · have := firstP_eq h e
    rw [this] at hs; omega
  · by_cases h2 : firstP all ino < i
    · rw [if_pos h2, if_pos (by omega)]
    · rw [if_neg h2, if_neg (by omega)]
theorem fstF_new {all : List SeenP} {i : Nat} (h : i < all.length) (hs : ¬ firstP all all[i].2 < i) : fstF all (i + 1) = fun j => if j = all[i].2 then some (i : Int) else fstF all i j := by
  have hle := firstP_le h
  funext ino
  by_cases e : ino = all[i].2
  · subst e
    unfold fstF
    rw [if_pos rfl, if_pos (by omega)]
    congr 2; omega
  · rw [if_neg e]
    unfold fstF
    have hne : firstP all ino ≠ i := fun q => e (firstP_eq h q).symm
    by_cases h2 : firstP all ino < i
    · rw [if_pos h2, if_pos (by omega)]
    · rw [if_neg h2, if_neg (by omega)]
theorem fstF_zero (all : List SeenP) : fstF all 0 = fun _ => none := by
  funext ino
  unfold fstF
  rw [if_neg (by omega)]
end Go.Proofs.YtjjgadanobeamaaGreatDoor

namespace Go.Proofs.YtjjgadanobeamaaGreatDoor

def sw (k m v : Nat) : Nat := (v / 2 ^ k &&& m) ||| ((v &&& m) * 2 ^ k % 4294967296)
def net (v : Nat) : Nat :=
  let a := sw 8 16711935 (sw 4 252645135 (sw 2 858993459 (sw 1 1431655765 v)))
  a / 65536 ||| a * 65536 % 4294967296

end Go.Proofs.YtjjgadanobeamaaGreatDoor

namespace Go.Proofs.YtjjgadanobeamaaGreatDoor
open Go.RowKit
set_option linter.unusedVariables false

def nats (bs : List Int) : List Nat := bs.map Int.toNat
theorem and1_u32 (r : Nat) (h : r < 4294967296) : bits .and .u32 (r : Int) 1 = ((r % 2 : Nat) : Int) := by
  have := u32_and_nat r 1 h (by decide)
  rw [nat_mask1] at this
  exact this
end Go.Proofs.YtjjgadanobeamaaGreatDoor
