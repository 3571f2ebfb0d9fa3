/-
  The law TreeLinks.
-/
import Derived.Test.YtilndmmjdbhmgaaLnQ
import Derived.Test.YtilndmmjdbhmgaaInts
namespace Go.Proofs.Ytilndmmjdbhmgaa
open Go.RowKit
set_option linter.unusedVariables false
set_option linter.unusedSimpArgs false
set_option maxRecDepth 20000

def slLen (v : Value) : Nat := match v with | .slice _ m _ => m | _ => 0
theorem infoStrP : (Try.prog.info? 9).map (fun i => (i.zero, i.size, i.bytes)) = some (some (.string ⟨#[]⟩), 1, 16) := infoStr

set_option maxHeartbeats 4000000 in
theorem treeLinks_core (n : Int) (ab : Option Addr) (b : List UInt8) (cb : Nat) (oo : Option Addr) (os : List Int) (co : Nat) (w : World) (hrb : Reads w ab (nb b)) (hcb : b.length ≤ cb) (hcm : cb ≤ maxLen)
    (hro : RdI w w.heap.size oo os) (hoc : os.length ≤ co) (hom : co ≤ maxLen) : Calls Try.prog 6 #[.int .i64 n, .slice ab b.length cb, .slice oo os.length co] w fun e w' => e = .returned (.bool true) ∧ Kept NoB w w' := by
  have m255 := mask255
  have HNew := Lib.hid (fun W => new_any 1000 W (by decide))
  have HAw := Lib.hid awake_any
  have HRb := Lib.hid hrb
  obtain ⟨bl, hbe⟩ : ∃ bl, bl = b.length := ⟨_, rfl⟩
  have HBl := Lib.hid hbe
  have HRo := Lib.hid hro
  obtain ⟨ol, hol⟩ : ∃ ol, ol = os.length := ⟨_, rfl⟩
  have HOl := Lib.hid hol
  rw [← hbe] at hcb ⊢
  rw [← hol] at hoc ⊢
  have hom2 : (co : Int) ≤ 9223372036854775807 := by unfold maxLen at hom; omega
  have hcm2 : (cb : Int) ≤ 9223372036854775807 := by unfold maxLen at hcm; omega
  clear hrb hbe hro hol
  by_cases hb : (100 : Int) < (bl : Int)
  · go_enter Try.func6, Try.ntmps6
    go_wp2_with fail
    refine (HNew.out w).mono ?_
    rintro e w1 ⟨f, rfl, hf1, hk1⟩
    clear hf1
    go_wp2_with (go_at_call 9; refine (HAw.out _).mono ?_; rintro e w7 ⟨rfl, hk7⟩)
    go_ret
    exact ⟨rfl, hk1.trans hk7⟩
  have hbl : bl ≤ 1099511627776 := by omega
  obtain ⟨N, hN⟩ : ∃ N : Nat, (N : Int) = (n % 256 % 6) + 1 := ⟨(n % 256 % 6 + 1).toNat, by omega⟩
  have hN2 : 1 ≤ N ∧ N ≤ 6 := by omega
  obtain ⟨i0, hi, hz0, hz1, hz2⟩ := info_parts infoStrP
  go_enter Try.func6, Try.ntmps6
  go_wp2_with fail
  refine (HNew.out w).mono ?_
  rintro e w1 ⟨f, rfl, hf1, hk1⟩
  have F1 := Lib.hid (FsOwn.made hf1 hk1)
  clear hf1 hk1 HNew
  have HMk : Hid (Calls Try.prog 14 #[.pointer (some ⟨f, 0, none⟩), .int .i64 1, .string { data := #[110, 48] }, .agg #[.int .i64 1, .int .i64 0, .int .i64 0, .int .i64 0, .int .i64 0, .string { data := #[] }, .int .i64 0, .int .i64 0, .int .i64 0, .int .i64 0, .int .i64 0]] w1 fun e w' =>
      e = .returned (.tuple #[.int .i64 2, .int .i64 0]) ∧ Hid (FsOwn w w' f ln0)) := Lib.hid (by
    have := make_any F1.out.st 1 (by decide) [110, 48] (by decide) fileV (by decide) (by decide)
    refine Calls.mono this ?_
    rintro e w' ⟨rfl, h1, h2⟩
    exact ⟨by rw [ln0_make], Lib.hid (F1.out.step h1 h2)⟩)
  go_upto_region 4 with fail
  go_upto_region 5 with fail
  rw [← hN]
  have HNn := Lib.hid hN
  clear hN
  go_wp2_with fail
  refine HMk.out.mono ?_
  rintro e w2 ⟨rfl, F2⟩
  clear HMk
  have HW1 : Hid (Calls Try.prog 19 #[.pointer (some ⟨f, 0, none⟩), .int .i64 2, .int .i64 0, .slice ab bl cb] w2 fun e w' =>
      e = .returned (.int .i64 0) ∧ Hid (∃ T, FsOwn w w' f T ∧ Ln T [[110, 48]] bl ∧ T.clock ≤ 2)) := Lib.hid (by
    obtain ⟨s1, s2, s3, s4⟩ := ln_start b (by rw [← HBl.out]; omega)
    have := write_any F2.out.st 2 (by decide) 0 (by decide) b ab cb (HRb.out.keptNo F2.out.keep) (by rw [← HBl.out]; exact hcb) hcm (by rw [← HBl.out]; exact hbl) (fun hne x hx q => ?_) (by rw [ln0_num.2.2.1]; decide) (by rw [ln0_num.2.2.2.2]; decide) s4
    · rw [← HBl.out, s1] at this
      refine Calls.mono this ?_
      rintro e w' ⟨rfl, h1, h2⟩
      exact ⟨rfl, Lib.hid ⟨_, F2.out.step h1 h2, by rw [HBl.out]; exact s2, s3⟩⟩
    · obtain ⟨bk, off, e1, e2, _⟩ := HRb.out.at (by rw [nb_len]; exact List.length_pos_iff.2 hne)
      rw [e1] at hx
      cases hx
      have := q.1
      dsimp only at this
      omega)
  go_wp2_with fail
  refine HW1.out.mono ?_
  rintro e w3 ⟨rfl, F3⟩
  clear HW1 F2
  have HT0 : Hid (∃ T, TrTxt w w3 f T none 0 0 (nmsI 0) ∧ Ln T (nmsI (max 0 1)) bl ∧ T.clock ≤ 2 + (0 : Nat)) := Lib.hid (by
    obtain ⟨T, h1, h2, h3⟩ := F3.out
    exact ⟨T, TrTxt.start h1, h2, h3⟩)
  clear F3 F1
  go_wp2_with fail
  go_loopw [10, 11, 12] (fun v10 v11 v12 wr => ∃ (k : Nat) (a : Option Addr) (c : Nat), v10 = .slice a k c ∧ v11 = .int .i64 (k : Int) ∧ k ≤ N ∧ Hid (∃ T, TrTxt w wr f T a k c (nmsI k) ∧ Ln T (nmsI (max k 1)) bl ∧ T.clock ≤ 2 + (k : Nat))) (fun _ v11 _ _ => N - (intOf v11).toNat)
  case atStart => exact ⟨0, _, _, rfl, rfl, by omega, HT0⟩
  case round =>
    obtain ⟨k, a, c, rfl, rfl, hk, HR⟩ := hrel
    clear HT0
    by_cases hlt : (k : Int) < (N : Int)
    · have hcv := nm_conv k (by omega)
      obtain ⟨st, hst⟩ : ∃ st : ByteArray, st = ⟨#[UInt8.ofNat (48 + k)]⟩ := ⟨_, rfl⟩
      have hz : st.size = 1 := by rw [hst]; rfl
      have HCat := Lib.hid (nm_cat k)
      rw [← hst] at hcv HCat
      clear hst
      have hw8 : IntKind.u8.wrap (k : Int) = (k : Int) := by rw [IntKind.wrap_u8]; omega
      have hw9 : IntKind.u8.wrap (48 + (k : Int)) = 48 + (k : Int) := by rw [IntKind.wrap_u8]; omega
      have hk5 : Kept NoB wr (wr.alloc (.cells #[.int .u8 (48 + (k : Int))] 5)) := (Kept.refl _ _).alloc _
      have HR5 : Hid (∃ T, TrTxt w (wr.alloc (.cells #[.int .u8 (48 + (k : Int))] 5)) f T a k c (nmsI k) ∧ Ln T (nmsI (max k 1)) bl ∧ T.clock ≤ 2 + (k : Nat)) := Lib.hid (by
        obtain ⟨T, h1, h2, h3⟩ := HR.out
        exact ⟨T, h1.kept hk5, h2, h3⟩)
      clear hk5 HR
      go_upto_region 13 with fail
      generalize (wr.alloc (.cells #[.int .u8 (48 + (k : Int))] 5)) = w5 at HR5 ⊢
      go_cut [74] from 66 to 73 (fun v74 wx => v74 = .bool false ∧ Hid (∃ T, TrTxt w wx f T a k c (nmsI k) ∧ Ln T (nmsI (k + 1)) bl ∧ T.clock ≤ 2 + ((k + 1 : Nat) : Int)))
      case first =>
        by_cases hk0 : k = 0
        · subst hk0
          go_wp2
          go_meet
          refine ⟨rfl, Lib.hid ?_⟩
          obtain ⟨T, h1, h2, h3⟩ := HR5.out
          exact ⟨T, h1, h2, by omega⟩
        · have HLk : Hid (Calls Try.prog 22 #[.pointer (some ⟨f, 0, none⟩), .int .i64 1, .string (⟨#[110]⟩ ++ st), .int .i64 2] w5 fun e w' => e = .returned (.int .i64 0) ∧ Hid (∃ T, TrTxt w w' f T a k c (nmsI k) ∧ Ln T (nmsI (k + 1)) bl ∧ T.clock ≤ 2 + ((k + 1 : Nat) : Int))) := Lib.hid (by
            obtain ⟨T, h1, h2, h3⟩ := HR5.out
            have hm : max k 1 = k := by omega
            rw [hm] at h2
            obtain ⟨T', q1, q2, q3⟩ := ln_link h2 (fun e => by have := nmsI_len k; rw [e] at this; simp at this; omega) (nmI_not (show k < 6 by omega)) (nmI_ok (by omega))
            rw [HCat.out]
            refine (h1.call (T' := T') (v := .int .i64 0) (fun S hS => ?_)).mono ?_
            · have := link_any hS 1 (by decide) (nmI k) (by show 2 < _; decide) 2 (by decide) (by omega)
              rw [q1] at this
              exact this
            · rintro e w' ⟨rfl, h4⟩
              exact ⟨rfl, Lib.hid ⟨T', h4.out, by rw [nmsI_succ]; exact q2, by rw [q3]; push_cast; omega⟩⟩)
          have hk1 : (0 : Int) < (k : Int) := by omega
          go_wp2_with fail
          refine HLk.out.mono ?_
          rintro e w6 ⟨rfl, H6⟩
          go_wp2
          go_meet
          exact ⟨rfl, H6⟩
      case rest =>
      obtain ⟨rfl, H6⟩ := hcut
      rw [HCat.out]
      have H7 : Hid (∃ T, TrTxt w (wc.alloc (.cells #[.string (strB (nmI k))] 9)) f T a k c (nmsI k) ∧ Ln T (nmsI (k + 1)) bl ∧ T.clock ≤ 2 + ((k + 1 : Nat) : Int)) := Lib.hid (by
        obtain ⟨T, h1, h2, h3⟩ := H6.out
        exact ⟨T, h1.kept ((Kept.refl _ _).alloc _), h2, h3⟩)
      have HRo7 : Hid ((wc.alloc (.cells #[.string (strB (nmI k))] 9)).ownsRow 0 9 1 (.slice a k c) k ((nmsI k).map (fun s => .string (strB s)))) := Lib.hid (by
        obtain ⟨T, h1, _⟩ := H7.out
        exact h1.row)
      go_wp2_with (at_builtin; refine wpList_app _ rfl _ _ 50 rfl 9 i0 (.string ⟨#[]⟩) 1 16 Try.underlying50 hi hz0 hz1 hz2 rfl (by decide) _ k ((nmsI k).map (fun s => .string (strB s))) rfl HRo7.out ⟨wc.heap.size, 0, none⟩ 1 1 [.string (strB (nmI k))] rfl rfl (cell_oneS _ _) ?f2 ?f3 ?f4 ?_)
      case f2 => intro u hu; simp at hu; subst hu; rfl
      case f3 => unfold maxLen; omega
      case f4 => omega
      intro v' w8 hown' hgrow hnew
      obtain ⟨a', c', rfl⟩ := row_shape hown'
      have HNx : Hid (∃ T, TrTxt w w8 f T a' (k + 1) c' (nmsI (k + 1)) ∧ Ln T (nmsI (max (k + 1) 1)) bl ∧ T.clock ≤ 2 + ((k + 1 : Nat) : Int)) := Lib.hid (by
        obtain ⟨T, h1, h2, h3⟩ := H7.out
        refine ⟨T, h1.grow (by rw [nmsI_succ, List.map_append]; exact hown') (by rw [nmsI_len]) hgrow (fun k1 hk1 => by rcases hnew k1 hk1 with q | q; exact .inl q; exact .inr (by simp; omega)), by rw [show max (k + 1) 1 = k + 1 by omega]; exact h2, h3⟩)
      clear hown' hgrow hnew HRo7 H7 H6
      go_wp2
      go_roundw
      case rel => exact ⟨k + 1, a', c', rfl, by go_num, by omega, HNx⟩
      case measure => simp [intOf]; omega
    · have hkn : k = N := by omega
      subst hkn
      have HT1 : Hid (∃ T, TrTxt w wr f T a (nmsI k).length c (nmsI k) ∧ LnS T (nmsI k) bl) := Lib.hid (by
        obtain ⟨T, h1, h2, h3⟩ := HR.out
        rw [show max k 1 = k by omega] at h2
        exact ⟨T, by rw [nmsI_len]; exact h1, h2, nmsI_nodup k (by omega), nmsI_ok (by omega), by rw [nmsI_len]; omega⟩)
      have hlk : (nmsI k).length = k := nmsI_len k
      have HLk : Hid ((nmsI k).length ≤ 6) := Lib.hid (by rw [hlk]; omega)
      rw [hlk] at HT1
      have HLK := Lib.hid hlk
      clear HR hlk
      go_wp2_with fail
      go_loopw [10, 13, 14, 15, 16, 17, 18] (fun v10 v13 v14 v15 v16 v17 v18 wr => ∃ (m : Nat) (left : List (List UInt8)) (a : Option Addr) (c : Nat), v10 = .slice a m c ∧ m ≤ 6 ∧ Hid (m = left.length) ∧ Hid (∃ T, TrTxt w wr f T a m c left ∧ LnS T left bl)) (fun v10 _ _ _ _ _ _ _ => slLen v10)
      case atStart => exact ⟨k, nmsI k, _, _, rfl, by omega, Lib.hid HLK.out.symm, HT1⟩
      case round =>
        obtain ⟨m, left, a, c, rfl, hm6, HM, HR⟩ := hrel
        clear HT1 HLK HLk
        by_cases hm0 : m = 0
        · subst hm0
          obtain ⟨T, hT, hL⟩ := HR.out
          obtain rfl : left = [] := List.eq_nil_of_length_eq_zero HM.out.symm
          obtain ⟨z1, z2, z3⟩ := ln_end hL
          have F := Lib.hid hT
          have HSt : Hid (Calls Try.prog 13 #[.pointer (some ⟨f, 0, none⟩), .int .i64 2] wr fun e w' => e = .returned (.tuple #[.agg (nvC zeroNV).toArray, .int .i64 10]) ∧ Kept NoB wr w') := Lib.hid (by
            obtain ⟨S, h1, _⟩ := hT.st
            have := stat_any h1 2 (by decide)
            rw [z1] at this
            exact this)
          have HMk : Hid (∀ W, Kept NoB wr W → Calls Try.prog 14 #[.pointer (some ⟨f, 0, none⟩), .int .i64 1, .string { data := #[110, 48] }, .agg #[.int .i64 1, .int .i64 0, .int .i64 0, .int .i64 0, .int .i64 0, .string { data := #[] }, .int .i64 0, .int .i64 0, .int .i64 0, .int .i64 0, .int .i64 0]] W fun e w' =>
              e = .returned (.tuple #[.int .i64 3, .int .i64 0]) ∧ Hid (∃ T', TrTxt w w' f T' a 0 c [] ∧ T'.used = 0)) := Lib.hid (fun W hW => by
            refine ((F.out.kept hW).call (T' := (makeP T 1 [110, 48] fileV).1) (v := .tuple #[.int .i64 3, .int .i64 0]) (fun S hS => ?_)).mono ?_
            · have := make_any hS 1 (by decide) [110, 48] (by decide) fileV (by decide) (by have := hL.clock; omega)
              rw [z2] at this
              exact this
            · rintro e w' ⟨rfl, h4⟩
              exact ⟨rfl, Lib.hid ⟨_, h4.out, z3⟩⟩)
          have HOne := Lib.hid (nv_one zeroNV)
          clear hT hL z1 z2 z3 HR
          go_upto_region 30 with (first | (go_at_call 13; refine HSt.out.mono ?_; rintro e w5 ⟨rfl, hk5⟩) | (refine wpList_store_row rfl 28 (.tmp 19) (.tmp 156) rfl w5.heap.size (nvC zeroNV).toArray rfl rfl _ _ (heap_alloc_new _ _) infoNd rfl HOne.out ?_) | (go_at_call 14; refine (HMk.out _ (hk5.trans (((Kept.refl NoB w5).alloc _).setRow (.inr (Nat.le_refl _)) _))).mono ?_; rintro e w6 ⟨rfl, H6⟩) | fail)
          have HUs : Hid (∀ W, Kept NoB w6 W → Calls Try.prog 11 #[.pointer (some ⟨f, 0, none⟩)] W fun e w' => e = .returned (.int .i64 0) ∧ w' = W) := Lib.hid (fun W hW => by
            obtain ⟨T', h1, h2⟩ := H6.out
            obtain ⟨S, h3, _⟩ := (h1.kept hW).st
            have := used_any h3
            rw [h2] at this
            exact this)
          go_wp2_with (first | (go_at_call 11; refine (HUs.out _ (Kept.refl _ _)).mono ?_; rintro e w7 ⟨rfl, rfl⟩) | (go_at_call 9; refine (HAw.out _).mono ?_; rintro e w8 ⟨rfl, hk8⟩))
          go_ret
          obtain ⟨T', h1, h2⟩ := H6.out
          exact ⟨rfl, h1.keep.trans hk8⟩
        · obtain ⟨T, hT, hL⟩ := HR.out
          have hml := HM.out
          obtain ⟨g, rfl, hg⟩ := hT.cell (i := 0) (by omega)
          obtain ⟨s0, hs0⟩ : ∃ s0, s0 = left[0]'(by omega) := ⟨_, rfl⟩
          rw [← hs0] at hg
          have hs0m : s0 ∈ left := by rw [hs0]; exact List.getElem_mem _
          have hcap : m ≤ c ∧ c ≤ maxLen := by
            rcases hT.row.2 with ⟨q1, q2⟩ | ⟨gx, cc, cur, q1, _, _, q2, q3, _⟩
            · omega
            · simp only [Value.slice.injEq, true_and] at q1
              obtain ⟨_, rfl⟩ := q1
              exact ⟨q2, q3⟩
          have hne : left ≠ [] := fun e => by rw [e] at hml; simp at hml; omega
          obtain ⟨v, hv⟩ : ∃ v, v = (statP T 2).1 := ⟨_, rfl⟩
          have hst := ln_stat hL.ln hne
          have hv9 : v.links = (m : Int) := by rw [hv, hst.2, hml]
          have HF := Lib.hid hT
          have HL := Lib.hid hL
          have HSt : Hid (Calls Try.prog 13 #[.pointer (some ⟨f, 0, none⟩), .int .i64 2] wr fun e w' => e = .returned (.tuple #[.agg (nvC v).toArray, .int .i64 0]) ∧ Kept NoB wr w') := Lib.hid (by
            obtain ⟨S, h1, _⟩ := hT.st
            have := stat_any h1 2 (by decide)
            rw [hst.1, ← hv] at this
            exact this)
          have HFd : Hid (∀ W, Kept NoB wr W → Calls Try.prog 23 #[.pointer (some ⟨f, 0, none⟩), .int .i64 1, .string (strB s0)] W fun e w' => e = .returned (.tuple #[.int .i64 2, .int .i64 0]) ∧ Kept NoB W w') := Lib.hid (fun W hW => by
            obtain ⟨S, h1, _⟩ := (HF.out.kept hW).st
            obtain ⟨hs2, hs3⟩ := HL.out.ok s0 hs0m
            have := find_any h1 1 (by decide) s0 (by omega)
            rw [ln_find HL.out.ln hs0m hs3] at this
            exact this)
          have HUs : Hid (∀ W, Kept NoB wr W → Calls Try.prog 11 #[.pointer (some ⟨f, 0, none⟩)] W fun e w' => e = .returned (.int .i64 (bl : Int)) ∧ w' = W) := Lib.hid (fun W hW => by
            obtain ⟨S, h1, _⟩ := (HF.out.kept hW).st
            have := used_any h1
            rw [HL.out.ln.used, if_neg hne] at this
            exact this)
          have HOne := Lib.hid (nv_one v)
          have hm1 : (0 : Int) < (m : Int) := by omega
          have hc63 : (c : Int) ≤ 9223372036854775807 := by have := hcap.2; unfold maxLen at this; omega
          have hcap1 := hcap.1
          have HCp := Lib.hid hcap
          clear hT hL hst hs0 hs0m hne hml HR hcap
          go_wp2_with fail
          refine HSt.out.mono ?_
          rintro e w5 ⟨rfl, hk5⟩
          have hkx : ∀ o : Obj, Kept NoB wr ((w5.alloc o).setRow w5.heap.size (nvC v).toArray) := fun o => hk5.trans (((Kept.refl NoB w5).alloc _).setRow (.inr (Nat.le_refl _)) _)
          have C9 : ∀ o : Obj, o = .cells (nvC zeroNV).toArray 28 (0, 0) → ((w5.alloc o).setRow w5.heap.size (nvC v).toArray).cell? ⟨w5.heap.size, 9, none⟩ = some (.int .i64 (m : Int)) := fun o ho => by
            rw [ho, cell_of_row _ _ _ _ _ (0, 0) (setRow_heap _ _ _ _ _ _ (heap_alloc_new _ _))]
            rw [← hv9]; rfl
          obtain ⟨w6, hw6⟩ : ∃ w6, w6 = ((w5.alloc (.cells #[.int .i64 0, .int .i64 0, .int .i64 0, .int .i64 0, .int .i64 0, .string { data := #[] }, .int .i64 0, .int .i64 0, .int .i64 0, .int .i64 0, .int .i64 0] 28)).setRow w5.heap.size (nvC v).toArray) := ⟨_, rfl⟩
          have C9' : w6.cell? ⟨w5.heap.size, 9, none⟩ = some (.int .i64 (m : Int)) := by rw [hw6]; exact C9 _ rfl
          have hk6 : Kept NoB wr w6 := by rw [hw6]; exact hkx _
          have C0 : w6.cell? ⟨g, 0, none⟩ = some (.string (strB s0)) := hk6.cell hg
          have HK6 := Lib.hid hk6
          have HW6 := Lib.hid hw6
          clear C9 hkx hk5 hw6 hk6 hg hv
          obtain ⟨b9, hb9⟩ : ∃ b9, b9 = w5.heap.size := ⟨_, rfl⟩
          rw [← hb9] at C9'
          have HB9 := Lib.hid hb9
          clear hb9
          go_upto_region 18 with (first | (refine wpList_store_row rfl 28 (.tmp 13) (.tmp 86) rfl w5.heap.size (nvC v).toArray rfl rfl _ _ (heap_alloc_new _ _) infoNd rfl HOne.out ?_) | fail)
          rw [← HW6.out, ← HB9.out]
          go_wp2_with fail
          refine (HFd.out _ HK6.out).mono ?_
          rintro e w7 ⟨rfl, hk7⟩
          have E9 := hk7.cell C9'
          have HK7 := Lib.hid (HK6.out.trans hk7)
          clear hk7 C9' C0 HW6 HB9 HK6
          go_upto_region 21 with (first | (go_at_call 11; refine (HUs.out _ HK7.out).mono ?_; rintro e w8 ⟨rfl, rfl⟩) | fail)
          have HX := Lib.hid E9
          clear E9
          obtain ⟨Z, hZ⟩ : ∃ Z : Int, Z = os.getD (m - 1) 0 := ⟨_, rfl⟩
          have hmod : m ≤ ol → ∃ A : Nat, (A : Int) = Z % 256 % (m : Int) ∧ A < m := fun _ => by
            have h1 := Int.emod_nonneg (Z % 256) (show (m : Int) ≠ 0 by omega)
            have h2 := Int.emod_lt_of_pos (Z % 256) (show (0 : Int) < (m : Int) by omega)
            exact ⟨(Z % 256 % (m : Int)).toNat, by omega, by omega⟩
          have hld : m ≤ ol → ∃ go off, oo = some ⟨go, off, none⟩ ∧ w8.cell? ⟨go, off + (m - 1), none⟩ = some (.int .i64 Z) := fun hmo => by
            obtain ⟨go, off, q1, _, q3⟩ := HRo.out (m - 1) (by have := HOl.out; omega)
            exact ⟨go, off, q1, by rw [hZ]; exact (HF.out.keep.trans HK7.out).cell q3⟩
          have HMod := Lib.hid hmod; have HLd := Lib.hid hld
          clear hZ hmod hld
          have hmw : IntKind.i64.wrap ((m : Int) - 1) = ((m - 1 : Nat) : Int) := by rw [IntKind.wrap_i64]; omega
          go_upto_if 126 with fail
          go_cut [17] from 126 to 134 (fun v17 wx => ∃ A : Nat, v17 = .int .i64 (A : Int) ∧ A < m ∧ w8 = wx)
          case first =>
            by_cases hmo : m ≤ ol
            · obtain ⟨A, hA1, hA2⟩ := HMod.out hmo
              obtain ⟨go, off, hoe, hcell⟩ := HLd.out hmo
              have hix := index_int oo ol co go off (m - 1) hoe (by omega)
              clear hoe
              have hmo2 : (m : Int) ≤ (ol : Int) := by omega
              have hmo3 : ((m - 1 : Nat) : Int) < (ol : Int) := by omega
              have hmz : ((m : Int) == 0) = false := by simp; omega
              have hmz2 : (m : Int) ≠ 0 := by omega
              go_wp2
              go_meet
              exact ⟨A, by rw [hA1], hA2, rfl⟩
            · have hmo2 : ¬ (m : Int) ≤ (ol : Int) := by omega
              go_wp2
              go_meet
              exact ⟨0, rfl, by omega, rfl⟩
          case rest =>
          obtain ⟨A, rfl, hAm, rfl⟩ := hcut
          obtain ⟨sA, hsA⟩ : ∃ sA, sA = left[A]'(by have := HM.out; omega) := ⟨_, rfl⟩
          have hcA : w8.cell? ⟨g, A, none⟩ = some (.string (strB sA)) := by
            obtain ⟨g', e', q⟩ := (HF.out.kept HK7.out).cell (i := A) (by have := HM.out; omega)
            cases e'
            rw [hsA]; exact q
          have HRm : Hid (Calls Try.prog 16 #[.pointer (some ⟨f, 0, none⟩), .int .i64 1, .string (strB sA)] w8 fun e w' => e = .returned (.int .i64 0) ∧ Hid (∃ T', TrTxt w w' f T' (some ⟨g, 0, none⟩) m c left ∧ LnS T' (left.take A ++ left.drop (A + 1)) bl)) := Lib.hid (by
            obtain ⟨T', q1, q2⟩ := HL.out.out A (by have := HM.out; omega)
            refine ((HF.out.kept HK7.out).call (T' := T') (v := .int .i64 0) (fun S hS => ?_)).mono ?_
            · have hsm : sA ∈ left := by rw [hsA]; exact List.getElem_mem _
              have := remove_any hS 1 (by decide) sA (by have := (HL.out.ok sA hsm).1; omega) (by have := HL.out.clock; omega)
              rw [hsA, q1] at this
              rw [hsA]
              exact this
            · rintro e w' ⟨rfl, h4⟩
              exact ⟨rfl, Lib.hid ⟨T', h4.out, q2⟩⟩)
          have hAm2 : (A : Int) < (m : Int) := by omega
          clear HMod HLd hmw hsA
          go_upto_region 27 with (first | (go_at_call 16; refine HRm.out.mono ?_; rintro e w9 ⟨rfl, H9⟩) | fail)
          obtain ⟨x1, x2, s1, s2, HTk⟩ := takeOut_any g m c A left HM.out hAm HCp.out.1 (by omega)
          obtain ⟨w10, hw10⟩ : ∃ w10, w10 = (w9.alloc (.cells #[] 9)).drew := ⟨_, rfl⟩
          have hk10 : Kept NoB w9 w10 := by rw [hw10]; exact ((Kept.refl _ _).alloc _).drew
          have hsz10 : w10.heap.size = w9.heap.size + 1 := by rw [hw10]; simp
          have hgl : g < w9.heap.size := by
            obtain ⟨T', h1, _⟩ := H9.out
            exact (h1.row.lt g rfl).2
          obtain ⟨x3, w11, a4, c4, w12, r1, r2, o4, k4, n4⟩ := HTk w10 w9.heap.size (by
            obtain ⟨T', h1, _⟩ := H9.out
            exact hk10.row h1.row (fun _ _ e => e)) (by rw [hw10]; exact heap_alloc_new w9 (.cells #[] 9 (0, 0))) (by omega)
          have HNx : Hid (∃ T, TrTxt w w12 f T a4 (m - 1) c4 (left.take A ++ left.drop (A + 1)) ∧ LnS T (left.take A ++ left.drop (A + 1)) bl) := Lib.hid (by
            obtain ⟨T', h1, h2⟩ := H9.out
            refine ⟨T', h1.turn (keep_on hk10 k4 (fun j hj e => by have e : j = w9.heap.size := e; omega)) o4 (by simp; have := HM.out; omega) (fun k hk => by have := n4 k hk; omega), h2⟩)
          rw [hw10] at r1
          clear hw10 hk10 hsz10 hgl
          have HLn : Hid (m - 1 = (left.take A ++ left.drop (A + 1)).length) := Lib.hid (by simp; have := HM.out; omega)
          clear HTk o4 k4 n4
          have hwA : IntKind.i64.wrap ((A : Int) + 1) = (A : Int) + 1 := by rw [IntKind.wrap_i64]; omega
          go_region_law (first
            | (refine step_app_known rfl (.tmp 142) (.tmp 145) 50 50 rfl _ _ rfl rfl _ _ r1 ?_)
            | (refine step_app_known rfl (.tmp 146) (.tmp 150) 50 50 rfl _ _ rfl rfl _ _ r2 ?_))
          go_simp
          go_wp2
          go_roundw
          case rel => exact ⟨m - 1, left.take A ++ left.drop (A + 1), a4, c4, rfl, by omega, HLn, HNx⟩
          case measure => simp [slLen]; omega
theorem nb_of {bs : List Int} (h : AllB bs) : ∃ b : List UInt8, nb b = bs := by
  refine ⟨bs.map (fun x => UInt8.ofNat x.toNat), ?_⟩
  unfold nb
  rw [List.map_map]
  conv => rhs; rw [← List.map_id bs]
  refine List.map_congr_left (fun x hx => ?_)
  have := h x hx
  simp only [Function.comp_apply, id_eq]
  rw [UInt8.toNat_ofNat']
  omega
theorem treeLinks_law (v0 v1 v2 : Value) (w : World) (r0 : Arg w 3 v0) (r1 : Arg w 29 v1) (r2 : Arg w 63 v2) : Calls Try.prog 6 #[v0, v1, v2] w fun e w' => e = .returned (.bool true) ∧ Below w.heap.size w w' := by
  obtain ⟨n, rfl, _⟩ := r0.int rfl
  obtain ⟨ab, cb, bs, rfl, hbc, hcm, hrd, hall, hn⟩ := r1.bytes rfl
  obtain ⟨oo, co, os, rfl, hoc, hom, hro, hos, _⟩ := r2.ints
  obtain ⟨b, rfl⟩ := nb_of hall
  rw [nb_len] at hbc ⊢
  refine (treeLinks_core n ab b cb oo os co w hrd hbc hcm hro hoc hom).mono ?_
  rintro e w' ⟨rfl, hk⟩
  exact ⟨rfl, hk.belowNo (Below.refl _ _)⟩
end Go.Proofs.Ytilndmmjdbhmgaa
