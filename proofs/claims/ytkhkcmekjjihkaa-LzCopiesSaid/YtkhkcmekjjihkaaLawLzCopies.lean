/-
  LzCopies: a token tells just so many bytes, each the one that far ahead of it.
-/
import Derived.Test.YtkhkcmekjjihkaaAwake6
import Derived.Test.YtkhkcmekjjihkaaMask
namespace Go.Proofs.Ytkhkcmekjjihkaa
open Go.RowKit
set_option linter.unusedVariables false
set_option linter.unusedSimpArgs false

theorem copyN_take (D k : Nat) (bs : List Int) : (copyN D k bs).take bs.length = bs := by
  induction k with
  | zero => exact List.take_of_length_le (Nat.le_refl _)
  | succ k ih =>
    simp only [copyN]
    rw [List.take_append_of_le_length (by rw [copyN_len]; omega), ih]
theorem getD_snoc (xs : List Int) (z : Int) (i : Nat) : (xs ++ [z]).getD i 0 = if i < xs.length then xs.getD i 0 else if i = xs.length then z else 0 := by
  by_cases h : i < xs.length
  · rw [if_pos h]; simp [List.getD, List.getElem?_append_left h]
  · rw [if_neg h]
    by_cases h2 : i = xs.length
    · rw [if_pos h2]; subst h2; simp [List.getD]
    · rw [if_neg h2]; simp [List.getD, List.getElem?_eq_none (show (xs ++ [z]).length ≤ i from by simp; omega)]
theorem copyN_get (D k : Nat) (bs : List Int) (hD : 1 ≤ D) (hD2 : D ≤ bs.length) : ∀ i, bs.length ≤ i → i < bs.length + k → (copyN D k bs).getD i 0 = (copyN D k bs).getD (i - D) 0 := by
  induction k with
  | zero => intro i h1 h2; omega
  | succ k ih =>
    intro i h1 h2
    have hl := copyN_len D k bs
    simp only [copyN]
    rw [getD_snoc, getD_snoc, if_pos (show i - D < (copyN D k bs).length from by omega)]
    by_cases h : i < (copyN D k bs).length
    · rw [if_pos h]; exact ih i h1 (by omega)
    · rw [if_neg h, if_pos (by omega), show i - D = (copyN D k bs).length - D from by omega]

set_option maxRecDepth 100000 in
set_option maxHeartbeats 4000000 in
theorem lzCopies_walk (ao : Option Addr) (cap len : Nat) (bs : List Int) (n d : Int) (w : World) (hlen : bs.length = len) (hr : Reads w ao bs) (hb : AllB bs) (h0 : ao = none → cap = 0) (hlc : len ≤ cap) (hm : cap ≤ maxLen) :
    Calls Try.prog 6 #[.slice ao len cap, .int .i64 n, .int .i64 d] w fun e w' => e = .returned (.bool true) ∧ Below w.heap.size w w' := by
  unfold maxLen at hm
  have HLen := Lib.hid hlen; have HR := Lib.hid hr; have HB := Lib.hid hb; have H0 := Lib.hid h0
  clear hlen hr hb h0
  have hcase : ((len : Int) == 0) = true ∨ (((len : Int) == 0) = false ∧ (300 : Int) < len) ∨ (((len : Int) == 0) = false ∧ ¬ (300 : Int) < len) := by
    by_cases h1 : len = 0
    · exact .inl (by simp [h1])
    · by_cases h2 : 300 < len
      · exact .inr (.inl ⟨by simp; omega, by omega⟩)
      · exact .inr (.inr ⟨by simp; omega, by omega⟩)
  go_enter Try.func6, Try.ntmps6
  rcases hcase with h1 | ⟨h1, h2⟩ | ⟨h1, h2⟩
  · go_wp2_with fail
    refine (awake6 _).mono ?_
    rintro e w2 ⟨rfl, hb2⟩
    go_wp2
    go_ret
    exact ⟨rfl, hb2⟩
  · go_wp2_with fail
    refine (awake6 _).mono ?_
    rintro e w2 ⟨rfl, hb2⟩
    go_wp2
    go_ret
    exact ⟨rfl, hb2⟩
  · have hpos : 0 < len := by simp at h1; omega
    obtain ⟨N, hN⟩ : ∃ N : Nat, (N : Int) = n % 256 + 3 := ⟨(n % 256 + 3).toNat, by omega⟩
    have hN3 : 3 ≤ N ∧ N ≤ 258 := by omega
    obtain ⟨D, hD⟩ : ∃ D : Nat, (D : Int) = d % 65536 % (len : Int) + 1 := ⟨(d % 65536 % (len : Int) + 1).toNat, by have := Int.emod_nonneg (d % 65536) (show (len : Int) ≠ 0 by omega); omega⟩
    have hD1 : 1 ≤ D ∧ D ≤ len := by
      have h3 := Int.emod_nonneg (d % 65536) (show (len : Int) ≠ 0 by omega)
      have h4 := Int.emod_lt_of_pos (d % 65536) (show (0 : Int) < (len : Int) by omega)
      omega
    have hmn := mask255 n
    have hmd := mask65535 d
    have HNe := Lib.hid hN; have HDe := Lib.hid hD
    clear hN hD
    go_upto_region 3 with fail
    go_cut [1, 2] from 24 to 32 (fun s t wx => s = .int .i64 N ∧ t = .int .i64 D ∧ ∃ nd, wx = w.drewN nd)
    case first =>
      go_quiet (fail)
      go_wp2
      go_meet
      exact ⟨by rw [HNe.out], by rw [← HDe.out]; congr 1; exact IntWalk.wrap64_in _ (by omega), _, rfl⟩
    case rest =>
    obtain ⟨rfl, rfl, nd, hw⟩ := hcut
    have hk0 : Kept NoB w wc := by rw [hw]; exact (Kept.refl _ _).drewN _
    have HK0 := Lib.hid hk0
    clear hw hk0 hmn hmd
    have HRc := Lib.hid (HR.out.keptNo HK0.out)
    have hcv0 := conv_reads HRc.out HLen.out.symm H0.out
    have hwf : ∀ D : Nat, D ≤ 1000 → (Tk.mk N D 0).wf := by intro D hd; unfold Tk.wf; simp only; omega
    have hok : ∀ D : Nat, 1 ≤ D → D ≤ 1000 → (Tk.mk N D 0).ok = true := by
      intro D hd1 hd2
      unfold Tk.ok
      rw [if_neg (show ¬ (N : Int) = 0 by omega)]
      exact decide_eq_true ⟨(by omega : (3 : Int) ≤ N), (by omega : (N : Int) ≤ 258), (by omega : (1 : Int) ≤ D), (by omega : (D : Int) ≤ 32768), rfl⟩
    have hnok : ∀ D : Nat, 1 ≤ D → D ≤ 1000 → ¬ (Tk.mk N D 0).ok = false := by intro D h1 h2; rw [hok D h1 h2]; decide
    have hno : (Tk.mk N D 0).no bs.length 10000 = 0 := by
      have := HLen.out
      unfold Tk.no; rw [if_neg (hnok D hD1.1 (by omega)), if_neg (by simp only; omega), if_neg (by simp only; split <;> omega)]
    have hpy := lput_yes (Tk.mk N D 0) ao cap bs 10000 wc HRc.out (by have := HLen.out; omega) (hwf D (by omega)) (by decide) hno
    have hpt : (Tk.mk N D 0).put bs = copyN D N bs := by unfold Tk.put; rw [if_neg (by simp only; omega)]; simp
    rw [hpt, HLen.out] at hpy
    have hno4 : (Tk.mk N (len + 1 : Nat) 0).no len 10000 = 4 := by
      unfold Tk.no; rw [if_neg (hnok (len + 1) (by omega) (by omega)), if_pos (by simp only; omega)]
    have hp4 := fun w => lput_no (Tk.mk N (len + 1 : Nat) 0) ao cap len 10000 w (by omega) (hwf (len + 1) (by omega)) (by decide) (by rw [hno4]; decide)
    have hno5 : (Tk.mk N D 0).no len ((len : Int) + N - 1) = 5 := by
      unfold Tk.no; rw [if_neg (hnok D hD1.1 (by omega)), if_neg (by simp only; omega), if_pos (by simp only; split <;> omega)]
    have hp5 := fun w => lput_no (Tk.mk N D 0) ao cap len ((len : Int) + N - 1) w (by omega) (hwf D (by omega)) (by omega) (by rw [hno5]; decide)
    rw [hno4] at hp4
    rw [hno5] at hp5
    unfold Tk.v at hpy hp4 hp5
    simp only [] at hpy hp4 hp5
    have HPy := Lib.hid hpy; have HP4 := Lib.hid hp4; have HP5 := Lib.hid hp5
    clear hpy hp4 hp5 hno hno4 hno5 hpt hwf hok hnok
    obtain ⟨xs, hxs⟩ : ∃ xs, xs = copyN D N bs := ⟨_, rfl⟩
    rw [← hxs] at HPy
    have HXs := Lib.hid hxs
    have hxl : xs.length = len + N := by rw [hxs, copyN_len, HLen.out]
    have HXl := Lib.hid hxl
    clear hxs
    go_wp2_with fail
    refine HPy.out.mono ?_
    rintro e w1 ⟨a1, c1, rfl, HM1⟩
    rw [hxl]
    have hbt : xs.take len = bs := by rw [HXs.out, ← HLen.out]; exact copyN_take _ _ _
    have hrx := HM1.out.reads
    have hcap1 := own_cap HM1.out.1
    have hc0 := own_nil HM1.out.1
    rw [hxl] at hcap1
    obtain ⟨g, hg⟩ : ∃ g, a1 = some ⟨g, 0, none⟩ := by
      rcases HM1.out.1.2 with ⟨_, hz⟩ | ⟨g, c, cur, hv, _⟩
      · omega
      · simp at hv; exact ⟨g, hv.1⟩
    subst hg
    have hcv1 : (convert 24 9 (.slice (some ⟨g, 0, none⟩) len c1)).run Try.prog w1 = .ok (.string (strOfNums bs)) w1 := by
      have := conv_reads (cap := c1) (n := len) (reads_take len hrx) (by rw [hbt]; exact HLen.out.symm) (fun h => by cases h)
      rw [hbt] at this
      exact this
    have HRd1 := Lib.hid (HRc.out.keptNo HM1.out.2.2)
    have hcv2 := conv_reads HRd1.out HLen.out.symm H0.out
    have hl1 : (len : Int) ≤ c1 := by omega
    have hl0 : (0 : Int) ≤ len := by omega
    have hcells : ∀ i, i < len + N → w1.cell? ⟨g, i, none⟩ = some (.int .u8 (xs.getD i 0)) := fun i hi => by
      rw [HM1.out.1.cellAt i (by omega)]; simp [List.getD, show i < xs.length from by omega]
    have HCe := Lib.hid hcells; have HCap := Lib.hid hcap1
    have HK1 := Lib.hid (HK0.out.trans HM1.out.2.2)
    have hget : ∀ i, len ≤ i → i < len + N → xs.getD i 0 = xs.getD (i - D) 0 := by
      rw [HXs.out, ← HLen.out]; exact copyN_get D N bs hD1.1 (by rw [HLen.out]; exact hD1.2)
    have HG := Lib.hid hget
    clear hbt hrx hcap1 hc0 hcells hget hxl
    go_wp2
    go_loopw [10] (fun i wr => ∃ j : Nat, len ≤ j ∧ j ≤ len + N ∧ i = .int .i64 j ∧ Kept NoB w1 wr) (fun i _ => len + N - (intOf i).toNat)
    case atStart => exact ⟨len, by omega, by omega, rfl, Kept.refl _ _⟩
    case round =>
      obtain ⟨j, hj1, hj2, rfl, hk⟩ := hrel
      have HKr := Lib.hid hk; clear hk
      by_cases hlt : (j : Int) < (len : Int) + N
      · obtain ⟨q, hq⟩ : ∃ q, q = j - D := ⟨_, rfl⟩
        have hjq : (j : Int) - D = q := by omega
        have hqw : IntKind.i64.wrap (q : Int) = q := IntWalk.i64_in _ (by omega)
        have hqb : q < len + N := by omega
        have hjb : j < len + N := by omega
        have hcj : wr.cell? ⟨g, j, none⟩ = some (.int .u8 (xs.getD j 0)) := HKr.out.cell (HCe.out j hjb)
        have hcq : wr.cell? ⟨g, q, none⟩ = some (.int .u8 (xs.getD j 0)) := by rw [HG.out j hj1 hjb, ← hq]; exact HKr.out.cell (HCe.out q hqb)
        generalize xs.getD j 0 = z at hcj hcq
        clear hq hcv1 hcv2
        go_wp2
        go_quiet (fail)
        clear hcj hcq
        go_wp2
        go_roundw
        case rel => exact ⟨j + 1, by omega, by omega, by go_num, HKr.out.drewN _⟩
        case measure => simp [intOf]; omega
      · have h4 : ((len : Int) + 1) = ((len + 1 : Nat) : Int) := by push_cast; rfl
        have HK2 := Lib.hid (HK1.out.trans HKr.out)
        have HP4' := HP4
        rw [← h4] at HP4'
        clear hcv1 hcv2 h4 HP4
        go_wp2_with fail
        refine (HP4'.out _).mono ?_
        rintro e w3 ⟨rfl, hk3⟩
        have HK3 := Lib.hid (HK2.out.trans hk3); clear hk3
        go_wp2_with fail
        refine (HP5.out _).mono ?_
        rintro e w4 ⟨rfl, hk4⟩
        have HK4 := Lib.hid (HK3.out.trans hk4); clear hk4
        go_wp2_with fail
        refine (awake6 _).mono ?_
        rintro e w5 ⟨rfl, hb5⟩
        have hfin := (HK4.out.ofBelow hb5).belowNo (Below.refl _ _)
        go_wp2
        go_ret
        exact ⟨rfl, hfin⟩

theorem lzCopies_law (v0 v1 v2 : Value) (w : World) (r0 : Arg w 24 v0) (r1 : Arg w 3 v1) (r2 : Arg w 3 v2) : Calls Try.prog 6 #[v0, v1, v2] w fun e w' => e = .returned (.bool true) ∧ Below w.heap.size w w' := by
  obtain ⟨ao, cap, bs, rfl, hc, hm, hr, hb, h0⟩ := r0.bytes Try.underlying24
  obtain ⟨a, rfl, ha⟩ := r1.int Try.underlying3
  obtain ⟨n, rfl, hn⟩ := r2.int Try.underlying3
  exact lzCopies_walk ao cap bs.length bs a n w rfl hr hb h0 hc hm
end Go.Proofs.Ytkhkcmekjjihkaa
