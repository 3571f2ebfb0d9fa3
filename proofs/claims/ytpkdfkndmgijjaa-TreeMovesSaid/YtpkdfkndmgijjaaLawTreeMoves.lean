/-
  The law TreeMoves.
-/
import Derived.Test.YtpkdfkndmgijjaaMvP
import Derived.Test.YtpkdfkndmgijjaaAwake13
import Derived.Test.YtpkdfkndmgijjaaMask
import Derived.Test.YtpkdfkndmgijjaaRwB
namespace Go.Proofs.Ytpkdfkndmgijjaa
open Go.RowKit
set_option linter.unusedVariables false
set_option linter.unusedSimpArgs false
set_option maxRecDepth 20000

theorem TrRow.single {w W : World} {f : Nat} {T : FsP} (h : FsOwn w W f T) (z : Int) : TrRow w (W.alloc (.cells #[.int .i64 z] 3)) f T (some ⟨W.heap.size, 0, none⟩) 1 1 [z] := by
  have hk : Kept NoB W (W.alloc (.cells #[.int .i64 z] 3)) := (Kept.refl _ _).alloc _
  have hw := h.keep.size
  refine ⟨⟨NewB w W, h.st.keptNo hk, fun k e => ⟨e.1, Nat.lt_of_lt_of_le e.2 hk.size⟩, fun k hk2 e => ?_⟩, ?_, fun k hk2 => ?_, h.keep.trans hk, rfl⟩
  · have := e.2
    simp [Value.ownBlock] at hk2
    omega
  · exact ⟨rfl, .inr ⟨W.heap.size, 1, #[.int .i64 z], rfl, Nat.zero_le _, heap_alloc_new _ _, Nat.le_refl _, by unfold maxLen; omega, rfl, rfl⟩⟩
  · simp [Value.ownBlock] at hk2
    omega
theorem cell_one (W : World) (z : Int) : ∀ j u, [Value.int .i64 z][j]? = some u → (W.alloc (.cells #[.int .i64 z] 3)).cell? ((⟨W.heap.size, 0, none⟩ : Addr).add j) = some u := fun j u hu => by
  rw [addr_add, Nat.zero_add, cell_of_row _ _ _ _ _ (0, 0) (heap_alloc_new W (.cells #[.int .i64 z] 3 (0, 0)))]
  rw [← hu]
  cases j <;> simp
def atL (k : Nat) : List Int := (List.range (k + 1)).map (fun i : Nat => (i : Int) + 1)
theorem atL_len (k : Nat) : (atL k).length = k + 1 := by simp [atL]
theorem atL_at (k i : Nat) (h : i < (atL k).length) : (atL k)[i] = (i : Int) + 1 := by simp [atL]
theorem atL_succ (k : Nat) : atL k ++ [(k : Int) + 2] = atL (k + 1) := by
  unfold atL
  rw [List.range_succ (n := k + 1)]
  simp
  omega

set_option maxHeartbeats 4000000 in
theorem treeMoves_core (n i j : Int) (w : World) : Calls Try.prog 7 #[.int .i64 n, .int .i64 i, .int .i64 j] w fun e w' => e = .returned (.bool true) ∧ Kept NoB w w' := by
  have m7 := mask7
  have m255 := mask255
  obtain ⟨i0, hi0, hz0, hz1, hz2⟩ := info_parts infoInt
  have HNew := Lib.hid (fun W => new_any 100 W (by decide))
  have HAw := Lib.hid awake_any
  obtain ⟨N, hN⟩ : ∃ N : Nat, (N : Int) = n % 8 + 2 := ⟨(n % 8 + 2).toNat, by omega⟩
  have hN2 : 2 ≤ N ∧ N ≤ 9 := by omega
  obtain ⟨I, hI⟩ : ∃ I : Nat, (I : Int) = i % 256 % (n % 8 + 2) := ⟨(i % 256 % (n % 8 + 2)).toNat, by
    have := Int.emod_nonneg (i % 256) (show n % 8 + 2 ≠ 0 by omega); omega⟩
  obtain ⟨J, hJ⟩ : ∃ J : Nat, (J : Int) = j % 256 % (n % 8 + 2) := ⟨(j % 256 % (n % 8 + 2)).toNat, by
    have := Int.emod_nonneg (j % 256) (show n % 8 + 2 ≠ 0 by omega); omega⟩
  have hI2 : I < N := by
    have := Int.emod_lt_of_pos (i % 256) (show 0 < n % 8 + 2 by omega); omega
  have hJ2 : J < N := by
    have := Int.emod_lt_of_pos (j % 256) (show 0 < n % 8 + 2 by omega); omega
  go_enter Try.func7, Try.ntmps7
  go_wp2_with fail
  refine (HNew.out w).mono ?_
  rintro e w1 ⟨f, rfl, hf1, hk1⟩
  have F1 := Lib.hid (FsOwn.made hf1 hk1)
  clear hf1 hk1 HNew
  go_upto_region 5 with fail
  rw [← hN]
  have hNz : ((N : Int) == 0) = false := by simp; omega
  have hNz2 : (N : Int) ≠ 0 := by omega
  go_region
  rw [← hI, ← hJ]
  have HIJ := Lib.hid (⟨hN, hI, hJ⟩ : _ ∧ _ ∧ _)
  clear hN hI hJ hNz hNz2
  have HT0 : Hid (∃ T, TrRow w (w1.drew.alloc (.cells #[.int .i64 1] 3)) f T (some ⟨w1.heap.size, 0, none⟩) 1 1 (atL 0) ∧ Ch 0 T) := Lib.hid ⟨_, TrRow.single (F1.out.kept (Kept.refl _ _).drew) 1, ch_new⟩
  clear F1
  go_wp2_with fail
  go_loopw [8, 9] (fun v8 v9 wr => ∃ (k : Nat) (a : Option Addr) (c : Nat), v8 = .slice a (k + 1) c ∧ v9 = .int .i64 (k : Int) ∧ k ≤ N ∧ Hid (∃ T, TrRow w wr f T a (k + 1) c (atL k) ∧ Ch k T)) (fun _ v9 _ => N - (intOf v9).toNat)
  case atStart => exact ⟨0, _, _, rfl, rfl, by omega, HT0⟩
  case round =>
    obtain ⟨k, a, c, rfl, rfl, hk, HR⟩ := hrel
    clear HT0
    by_cases hlt : (k : Int) < (N : Int)
    · obtain ⟨T, hR, hC⟩ := HR.out
      obtain ⟨g, rfl, hg⟩ := hR.cell (i := k) (by rw [atL_len]; omega)
      rw [atL_at] at hg
      have hMk := ch_make hC (by omega)
      obtain ⟨T', hT'⟩ : ∃ T', T' = (makeP T ((k : Int) + 1) [100] dirV).1 := ⟨_, rfl⟩
      have hCk := hC.clock
      have HMk : Hid (Calls Try.prog 15 #[.pointer (some ⟨f, 0, none⟩), .int .i64 ((k : Int) + 1), .string { data := #[100] }, .agg #[.int .i64 6, .int .i64 7, .int .i64 0, .int .i64 0, .int .i64 0, .string { data := #[] }, .int .i64 0, .int .i64 0, .int .i64 0, .int .i64 0, .int .i64 0]] wr fun e w' =>
          e = .returned (.tuple #[.int .i64 ((k : Int) + 2), .int .i64 0]) ∧ Hid (TrRow w w' f T' (some ⟨g, 0, none⟩) (k + 1) c (atL k))) := Lib.hid (hR.call (fun S hS => by
        have := make_any hS ((k : Int) + 1) (by omega) [100] (by decide) dirV (by decide) (by rw [hCk]; omega)
        refine this.mono ?_
        rintro e w' ⟨rfl, h1, h2⟩
        rw [hMk.1, hT']
        exact ⟨rfl, h1, h2⟩))
      have HC2 : Hid (Ch (k + 1) T') := Lib.hid (by rw [hT']; exact hMk.2)
      clear hR hC hMk hT' hCk HR
      go_wp2_with fail
      refine HMk.out.mono ?_
      rintro e w2 ⟨rfl, HR2⟩
      clear hg HMk
      have HRw := Lib.hid (HR2.out.kept ((Kept.refl NoB w2).alloc (.cells #[.int .i64 ((k : Int) + 2)] 3)))
      have HRo := Lib.hid HRw.out.row
      go_wp2_with (at_builtin; refine wpList_app _ rfl _ _ 63 rfl 3 i0 (.int .i64 0) 1 8 Try.underlying63 hi0 hz0 hz1 hz2 rfl (by decide) _ (k + 1) ((atL k).map (.int .i64)) rfl HRo.out ⟨w2.heap.size, 0, none⟩ 1 1 [.int .i64 ((k : Int) + 2)] rfl rfl (cell_one _ _) ?f2 ?f3 ?f4 ?_)
      case f2 => intro u hu; simp at hu; subst hu; rfl
      case f3 => unfold maxLen; omega
      case f4 => omega
      intro v' w4 hown' hgrow hnew
      obtain ⟨a', c', rfl⟩ := row_shape hown'
      have HNx : Hid (∃ T, TrRow w w4 f T a' (k + 1 + 1) c' (atL (k + 1)) ∧ Ch (k + 1) T) := Lib.hid ⟨T', HRw.out.grow (by rw [← atL_succ, List.map_append]; exact hown') (by rw [atL_len]) hgrow (fun k1 hk1 => by rcases hnew k1 hk1 with q | q; exact .inl q; exact .inr (by simp; omega)), HC2.out⟩
      clear hown' hgrow hnew HRw HRo HR2
      go_wp2
      go_roundw
      case rel => exact ⟨k + 1, a', c', rfl, by go_num, by omega, HNx⟩
      case measure => simp [intOf]; omega
    · have hkn : k = N := by omega
      subst hkn
      obtain ⟨T, hR, hC⟩ := HR.out
      have HCl : Hid (∀ W, Kept NoB wr W → Calls Try.prog 11 #[.pointer (some ⟨f, 0, none⟩)] W fun e w' => e = .returned (.int .i64 (k : Int)) ∧ w' = W) := Lib.hid (fun W hW => by
        obtain ⟨S, h1, _⟩ := (hR.kept hW).st
        have := clock_any h1
        rw [hC.clock] at this
        exact this)
      obtain ⟨g, rfl, hg⟩ := hR.cell (i := I) (by rw [atL_len]; omega)
      obtain ⟨g', hge, hg2⟩ := hR.cell (i := J + 1) (by rw [atL_len]; omega)
      cases hge
      obtain ⟨g', hge, hg3⟩ := hR.cell (i := I + 1) (by rw [atL_len]; omega)
      cases hge
      rw [atL_at] at hg hg2 hg3
      have e2 : (((J + 1 : Nat) : Int) + 1) = (J : Int) + 2 := by push_cast; omega
      have e3 : (((I + 1 : Nat) : Int) + 1) = (I : Int) + 2 := by push_cast; omega
      rw [e2] at hg2
      rw [e3] at hg3
      have HRr := Lib.hid hR; have HCh := Lib.hid hC
      clear hR hC e2 e3 HR
      have hkk : k < 100 := by omega
      obtain ⟨T', z, hmv⟩ : ∃ T' z, moveP T ((I : Int) + 1) [100] ((J : Int) + 2) [101] = (T', z) := ⟨_, _, rfl⟩
      have HMv : Hid (∀ W, Kept NoB wr W → Calls Try.prog 25 #[.pointer (some ⟨f, 0, none⟩), .int .i64 ((I : Int) + 1), .string { data := #[100] }, .int .i64 ((J : Int) + 2), .string { data := #[101] }] W fun e w' =>
          e = .returned (.int .i64 z) ∧ Hid (TrRow w w' f T' (some ⟨g, 0, none⟩) (k + 1) c (atL k))) := Lib.hid (fun W hW => (HRr.out.kept hW).call (fun S hS => by
        have := move_any hS ((I : Int) + 1) ((J : Int) + 2) (by omega) (by omega) [100] [101] (by decide) (by decide) (by rw [HCh.out.clock]; omega)
        rw [hmv] at this
        exact this))
      have HMp := Lib.hid hmv
      have hb1 : (I : Int) < (k : Int) + 1 := by omega
      have hb2 : (J : Int) + 1 < (k : Int) + 1 := by omega
      have hb3 : IntKind.i64.wrap ((J : Int) + 1) = (J : Int) + 1 := by rw [IntKind.wrap_i64]; omega
      have hb4 : ((J : Int) + 1).toNat = J + 1 := by omega
      have hb5 : (0 : Int) ≤ (J : Int) + 1 := by omega
      go_upto_region 14 with fail
      go_wp2_with fail
      refine (HCl.out wr (Kept.refl _ _)).mono ?_
      rintro e w3 ⟨rfl, rfl⟩
      go_upto_region 15 with fail
      go_region_held3 (fun W => W.cell? ⟨g, I, none⟩ = some (.int .i64 ((I : Int) + 1)) ∧ W.cell? ⟨g, J + 1, none⟩ = some (.int .i64 ((J : Int) + 2))) (first | exact ⟨hg, hg2⟩ | exact ⟨q1, q2⟩ | (refine ⟨?_, ?_⟩ <;> assumption)) ((go_at_call 25; ((with_reducible refine (HMv.out _ (by first | exact Kept.refl _ _ | exact (Kept.refl _ _).drew)).mono ?_); rintro e w5 ⟨rfl, HR5⟩; (obtain ⟨g1, ge1, q1⟩ := HR5.out.cell (i := I) (by rw [atL_len]; omega)); cases ge1; (obtain ⟨g1, ge1, q2⟩ := HR5.out.cell (i := J + 1) (by rw [atL_len]; omega)); cases ge1; rw [atL_at] at q1 q2; rw [show (((J + 1 : Nat) : Int) + 1) = (J : Int) + 2 by push_cast; omega] at q2)))
      have HR6 := HR5
      clear hg hg2 hg3 hmv HMv HRr HCl hb3 hb4 hb5
      by_cases hji : I ≤ J
      · have hTz : T' = T ∧ z = 13 := by
          obtain ⟨d, e, m, _, _, _, _, _, _, _, _, hx⟩ := ch_move HCh.out hI2 hJ2
          rw [if_pos hji] at hx
          have := HMp.out
          rw [hx] at this
          have h1 := congrArg Prod.fst this
          have h2 := congrArg Prod.snd this
          exact ⟨h1.symm, h2.symm⟩
        obtain ⟨rfl, rfl⟩ := hTz
        have hij2 : (I : Int) ≤ (J : Int) := by omega
        have HCl : Hid (∀ W, Kept NoB w5 W → Calls Try.prog 11 #[.pointer (some ⟨f, 0, none⟩)] W fun e w' => e = .returned (.int .i64 (k : Int)) ∧ w' = W) := Lib.hid (fun W hW => by
          obtain ⟨S, h1, _⟩ := (HR6.out.kept hW).st
          have := clock_any h1
          rw [HCh.out.clock] at this
          exact this)
        clear HR5 q1 q2
        go_wp2_with (first | (go_at_call 11; refine (HCl.out _ (Kept.refl _ _)).mono ?_; rintro e w6 ⟨rfl, rfl⟩) | (go_at_call 10; refine (HAw.out _).mono ?_; rintro e w7 ⟨rfl, hk7⟩))
        go_ret
        exact ⟨rfl, HR6.out.keep.trans hk7⟩
      · have hij2 : ¬ (I : Int) ≤ (J : Int) := by omega
        obtain ⟨T2, hx, p1, p2, p3, p4, p5⟩ := ch_moved HCh.out hI2 hJ2 hji
        have hTz : T' = T2 ∧ z = 0 := by
          have := HMp.out
          rw [hx] at this
          have h1 := congrArg Prod.fst this
          have h2 := congrArg Prod.snd this
          exact ⟨h1.symm, h2.symm⟩
        obtain ⟨rfl, rfl⟩ := hTz
        obtain ⟨g1, ge1, q3⟩ := HR6.out.cell (i := I + 1) (by rw [atL_len]; omega)
        cases ge1
        rw [atL_at, show (((I + 1 : Nat) : Int) + 1) = (I : Int) + 2 by push_cast; omega] at q3
        obtain ⟨x, y, hxy⟩ : ∃ x y, findP T' ((I : Int) + 1) [100] = (x, y) := ⟨_, _, rfl⟩
        have hy : I ≠ J + 1 → y = 10 := fun q => by have := p3 q; rw [hxy] at this; exact this
        obtain ⟨v, hv⟩ : ∃ v, v = (statP T' ((I : Int) + 2)).1 := ⟨_, rfl⟩
        have hv10 : v.change = (k : Int) + 1 := by rw [hv]; exact p5
        have HF1 : Hid (Calls Try.prog 24 #[.pointer (some ⟨f, 0, none⟩), .int .i64 ((J : Int) + 2), .string { data := #[101] }] w5 fun e w' => e = .returned (.tuple #[.int .i64 ((I : Int) + 2), .int .i64 0]) ∧ Kept NoB w5 w') := Lib.hid (by
          obtain ⟨S, h1, _⟩ := HR6.out.st
          have := find_any h1 ((J : Int) + 2) (by omega) [101] (by decide)
          rw [p2] at this
          exact this)
        have HF2 : Hid (∀ W, Kept NoB w5 W → Calls Try.prog 24 #[.pointer (some ⟨f, 0, none⟩), .int .i64 ((I : Int) + 1), .string { data := #[100] }] W fun e w' => e = .returned (.tuple #[.int .i64 x, .int .i64 y]) ∧ Kept NoB W w') := Lib.hid (fun W hW => by
          obtain ⟨S, h1, _⟩ := (HR6.out.kept hW).st
          have := find_any h1 ((I : Int) + 1) (by omega) [100] (by decide)
          rw [hxy] at this
          exact this)
        have HSt : Hid (∀ W, Kept NoB w5 W → Calls Try.prog 14 #[.pointer (some ⟨f, 0, none⟩), .int .i64 ((I : Int) + 2)] W fun e w' => e = .returned (.tuple #[.agg (nvC v).toArray, .int .i64 0]) ∧ Kept NoB W w') := Lib.hid (fun W hW => by
          obtain ⟨S, h1, _⟩ := (HR6.out.kept hW).st
          have := stat_any h1 ((I : Int) + 2) (by omega)
          rw [p4, ← hv] at this
          exact this)
        have HCl : Hid (∀ W, Kept NoB w5 W → Calls Try.prog 11 #[.pointer (some ⟨f, 0, none⟩)] W fun e w' => e = .returned (.int .i64 ((k : Int) + 1)) ∧ w' = W) := Lib.hid (fun W hW => by
          obtain ⟨S, h1, _⟩ := (HR6.out.kept hW).st
          have := clock_any h1
          rw [p1] at this
          exact this)
        have HOne := Lib.hid (nv_one v)
        have HY := Lib.hid hy
        have hb6 : (I : Int) + 1 < (k : Int) + 1 := by omega
        have hb7 : ((I : Int) + 1).toNat = I + 1 := by omega
        have hb8 : ((J : Int) + 1).toNat = J + 1 := by omega
        clear HR5 hx p1 p2 p3 p4 p5 hxy hy hv
        go_wp2_with fail
        refine HF1.out.mono ?_
        rintro e w6 ⟨rfl, hk6⟩
        have c1 := hk6.cell q1
        have c3 := hk6.cell q3
        have HK6 := Lib.hid hk6
        clear hk6 HF1 q1 q2 q3
        go_wp2_with fail
        refine (HF2.out _ HK6.out).mono ?_
        rintro e w7 ⟨rfl, hk7⟩
        have d3 := hk7.cell c3
        have HK7 := Lib.hid (HK6.out.trans hk7)
        clear hk7 HF2 c1 c3 HK6
        go_wp2_with fail
        refine (HSt.out _ HK7.out).mono ?_
        rintro e w8 ⟨rfl, hk8⟩
        have e3 := hk8.cell d3
        have HK8 := Lib.hid (HK7.out.trans hk8)
        clear hk8 HSt d3 HK7
        have hkx : ∀ o : Obj, Kept NoB w8 ((w8.alloc o).setRow w8.heap.size (nvC v).toArray) := fun o => ((Kept.refl NoB w8).alloc _).setRow (.inr (Nat.le_refl _)) _
        have C8 : ∀ o : Obj, o = .cells (nvC zeroNV).toArray 28 (0, 0) → ((w8.alloc o).setRow w8.heap.size (nvC v).toArray).cell? ⟨w8.heap.size, 10, none⟩ = some (.int .i64 ((k : Int) + 1)) := fun o ho => by
          rw [ho, cell_of_row _ _ _ _ _ (0, 0) (setRow_heap _ _ _ _ _ _ (heap_alloc_new _ _))]
          rw [← hv10]; rfl
        have C8' : ((w8.alloc (.cells #[.int .i64 0, .int .i64 0, .int .i64 0, .int .i64 0, .int .i64 0, .string { data := #[] }, .int .i64 0, .int .i64 0, .int .i64 0, .int .i64 0, .int .i64 0] 28)).setRow w8.heap.size (nvC v).toArray).cell? ⟨w8.heap.size, 10, none⟩ = some (.int .i64 ((k : Int) + 1)) := C8 _ rfl
        have C3 : ((w8.alloc (.cells #[.int .i64 0, .int .i64 0, .int .i64 0, .int .i64 0, .int .i64 0, .string { data := #[] }, .int .i64 0, .int .i64 0, .int .i64 0, .int .i64 0, .int .i64 0] 28)).setRow w8.heap.size (nvC v).toArray).cell? ⟨g, I + 1, none⟩ = some (.int .i64 ((I : Int) + 2)) := (hkx _).cell e3
        have HKx := Lib.hid hkx
        clear C8 e3 hkx
        by_cases hne : I = J + 1
        · have hne2 : ((I : Int) != (J : Int) + 1) = false := by simp; omega
          clear hne
          go_wp2_with (first | (refine wpList_store_row rfl 28 (.tmp 18) (.tmp 111) rfl w8.heap.size (nvC v).toArray rfl rfl _ _ (heap_alloc_new _ _) infoNd rfl HOne.out ?_) | (go_at_call 11; refine (HCl.out _ (HK8.out.trans (HKx.out _))).mono ?_; rintro e w9 ⟨rfl, rfl⟩) | (go_at_call 10; refine (HAw.out _).mono ?_; rintro e w10 ⟨rfl, hk10⟩))
          go_ret
          exact ⟨rfl, ((HR6.out.keep.trans HK8.out).trans (HKx.out _)).trans hk10⟩
        · have hne2 : ((I : Int) != (J : Int) + 1) = true := by simp; omega
          have hy10 : y = 10 := HY.out hne
          subst hy10
          go_wp2_with (first | (refine wpList_store_row rfl 28 (.tmp 18) (.tmp 111) rfl w8.heap.size (nvC v).toArray rfl rfl _ _ (heap_alloc_new _ _) infoNd rfl HOne.out ?_) | (go_at_call 11; refine (HCl.out _ (HK8.out.trans (HKx.out _))).mono ?_; rintro e w9 ⟨rfl, rfl⟩) | (go_at_call 10; refine (HAw.out _).mono ?_; rintro e w10 ⟨rfl, hk10⟩))
          go_ret
          exact ⟨rfl, ((HR6.out.keep.trans HK8.out).trans (HKx.out _)).trans hk10⟩
theorem treeMoves_law (v0 v1 v2 : Value) (w : World) (r0 : Arg w 3 v0) (r1 : Arg w 3 v1) (r2 : Arg w 3 v2) : Calls Try.prog 7 #[v0, v1, v2] w fun e w' => e = .returned (.bool true) ∧ Below w.heap.size w w' := by
  obtain ⟨n, rfl, _⟩ := r0.int rfl
  obtain ⟨i, rfl, _⟩ := r1.int rfl
  obtain ⟨j, rfl, _⟩ := r2.int rfl
  refine (treeMoves_core n i j w).mono ?_
  rintro e w' ⟨rfl, hk⟩
  exact ⟨rfl, hk.belowNo (Below.refl _ _)⟩
end Go.Proofs.Ytpkdfkndmgijjaa
