/-
  Codes on paper: none is another one's beginning; the lengths of the laws; what the document fixes.
-/
import Derived.Test.YtokdlmpnokmniaaCanC
import Derived.Test.YtokdlmpnokmniaaIntSt
import Derived.Test.YtokdlmpnokmniaaMask
namespace Go.Proofs.Ytokdlmpnokmniaa
open Go.RowKit
set_option linter.unusedVariables false
set_option linter.unusedSimpArgs false

theorem count_step (ls : List Int) (i : Nat) (h : i < ls.length) : (ls.take i).count (ls.getD i 0) + 1 = (ls.take (i + 1)).count (ls.getD i 0) := by
  rw [take_snoc ls i h, List.count_append]; simp
theorem count_mono (ls : List Int) (z : Int) (i j : Nat) (h : i ≤ j) : (ls.take i).count z ≤ (ls.take j).count z := by
  have e : ls.take i = (ls.take j).take i := by rw [List.take_take, Nat.min_eq_left h]
  rw [e]
  exact List.Sublist.count_le z (List.take_sublist _ _)
theorem count_all (ls : List Int) (z : Int) (i : Nat) : (ls.take i).count z ≤ ls.count z := List.Sublist.count_le z (List.take_sublist _ _)
theorem fC_grow (ls : List Int) (hl : ls.length ≤ 320) (a : Nat) (ha : 1 ≤ a) (ha15 : a ≤ 15) : ∀ d, a + 1 + d ≤ 16 → (fC (cntsL ls) a + ((ls.count (a : Int) : Nat) : Int)) * ((2 ^ (d + 1) : Nat) : Int) ≤ fC (cntsL ls) (a + 1 + d)
  | 0, _ => by
    rw [Nat.add_zero, fC_succ _ a ha, cnts_get _ _ (by omega)]
    simp
  | d + 1, h => by
    have ih := fC_grow ls hl a ha ha15 d (by omega)
    have hb := cnts_bd ls hl (a + 1 + d)
    rw [show a + 1 + (d + 1) = (a + 1 + d) + 1 by omega, fC_succ _ (a + 1 + d) (by omega), Nat.pow_succ, Int.natCast_mul, ← Int.mul_assoc]
    have : (((2 : Nat)) : Int) = 2 := rfl
    rw [this]
    omega
/-- No code is another one's beginning; those of one length rise. -/
theorem code_free (ls : List Int) (hl : ls.length ≤ 320) (hs : Small 15 ls) (i k : Nat) (hi : i < ls.length) (hk : k < ls.length) (hne : i ≠ k) (h0 : 0 < ls.getD i 0) (d : Nat) (hd : ls.getD i 0 + (d : Int) = ls.getD k 0) :
    ¬ codeAt ls k / 2 ^ d = codeAt ls i ∧ (d = 0 → (i < k ↔ codeAt ls i < codeAt ls k)) := by
  have hbi := hs.getD i hi
  have hbk := hs.getD k hk
  obtain ⟨a, ha⟩ : ∃ a : Nat, (a : Int) = ls.getD i 0 := ⟨(ls.getD i 0).toNat, by omega⟩
  have ci : codeAt ls i = fC (cntsL ls) a + (((ls.take i).count (a : Int) : Nat) : Int) := by
    unfold codeAt; rw [if_pos h0, ← ha, Int.toNat_natCast]
  have ck : codeAt ls k = fC (cntsL ls) (a + d) + (((ls.take k).count ((a + d : Nat) : Int) : Nat) : Int) := by
    unfold codeAt; rw [if_pos (by omega), ← hd, ← ha, ← Int.natCast_add, Int.toNat_natCast]
  have hri : (ls.take i).count (a : Int) < ls.count (a : Int) := by
    have h1 := count_step ls i hi
    rw [← ha] at h1
    have h2 := count_all ls (a : Int) (i + 1)
    omega
  by_cases hd0 : d = 0
  · subst hd0
    rw [Nat.add_zero] at ck
    have h1 := count_step ls i hi
    have h2 := count_step ls k hk
    rw [← hd, Int.natCast_zero, Int.add_zero] at h2
    rw [← ha] at h1 h2
    have key : i < k ↔ codeAt ls i < codeAt ls k := by
      rw [ci, ck]
      constructor
      · intro h
        have := count_mono ls (a : Int) (i + 1) k h
        omega
      · intro h
        refine Nat.lt_of_not_le (fun hle => ?_)
        have := count_mono ls (a : Int) k i hle
        omega
    refine ⟨?_, fun _ => key⟩
    simp only [Int.pow_zero, Int.ediv_one]
    intro e
    rcases Nat.lt_or_gt_of_ne hne with h | h
    · have := key.1 h; omega
    · have hk2 := count_mono ls (a : Int) (k + 1) i h
      rw [ci, ck] at e
      omega
  · obtain ⟨d', rfl⟩ : ∃ d', d = d' + 1 := ⟨d - 1, by omega⟩
    refine ⟨fun e => ?_, fun h => by omega⟩
    have hg := fC_grow ls hl a (by omega) (by omega) d' (by omega)
    have e2 : a + 1 + d' = a + (d' + 1) := by omega
    rw [e2] at hg
    have hck : fC (cntsL ls) (a + (d' + 1)) ≤ codeAt ls k := by rw [ck]; omega
    have hpow : (2 : Int) ^ (d' + 1) = ((2 ^ (d' + 1) : Nat) : Int) := by rw [Int.natCast_pow]; rfl
    rw [hpow] at e
    have hpp : (0 : Int) < ((2 ^ (d' + 1) : Nat) : Int) := by
      have := Nat.two_pow_pos (d' + 1); omega
    have h3 : fC (cntsL ls) a + ((ls.count (a : Int) : Nat) : Int) ≤ codeAt ls k / ((2 ^ (d' + 1) : Nat) : Int) := (Int.le_ediv_iff_mul_le hpp).2 (by omega)
    rw [e, ci] at h3
    omega
theorem codeAt_bd (ls : List Int) (hl : ls.length ≤ 320) (hs : Small 15 ls) (i : Nat) (hi : i < ls.length) : 0 ≤ codeAt ls i ∧ codeAt ls i ≤ 60000000 := by
  have hb := hs.getD i hi
  unfold codeAt
  split
  · have h1 := fC_bd (cntsL ls) (cnts_bd ls hl) (ls.getD i 0).toNat (by omega)
    have h2 := List.count_le_length (l := ls.take i) (a := ls.getD i 0)
    rw [List.length_take] at h2
    omega
  · omega

theorem count_rep0 : ∀ n : Nat, (List.replicate n (0 : Int)).count 0 = n := fun n => by simp
theorem count_set : ∀ n p : Nat, p < n → ((List.replicate n (0 : Int)).set p 1).count 0 + 1 = n ∧ ((List.replicate n (0 : Int)).set p 1).count 1 = 1
  | 0, p, h => by omega
  | n + 1, 0, _ => by
    rw [List.replicate_succ, List.set_cons_zero, List.count_cons, List.count_cons]
    have : (List.replicate n (0 : Int)).count 1 = 0 := List.count_eq_zero.2 (fun h => by have := List.eq_of_mem_replicate h; omega)
    rw [count_rep0, this]
    simp
  | n + 1, p + 1, h => by
    obtain ⟨h1, h2⟩ := count_set n p (by omega)
    rw [List.replicate_succ, List.set_cons_succ, List.count_cons, List.count_cons, h2]
    simp; omega
/-- Lengths of weights are not refused. -/
theorem ref_lens (ws : List Int) (lv : List Lf) (hok : LensOkP ws 15) (hs : SrtP lv (leavesL 0 ws)) : refS (lensOf lv ws.length 15) = 0 := by
  have hF := lensF ws 15 lv hok hs
  have e15 : (15 : Int).toNat = 15 := rfl
  rw [e15] at hF
  unfold refS
  rw [if_neg]
  by_cases n0 : lv.length = 0
  · have e : lensOf lv ws.length 15 = List.replicate ws.length 0 := by unfold lensOf; rw [if_pos n0]
    rw [e]
    unfold kindS
    rw [if_pos (by rw [count_rep0]; simp)]
    omega
  · by_cases n1 : lv.length = 1
    · have e : lensOf lv ws.length 15 = (List.replicate ws.length 0).set (lv.getD 0 (0, 0)).1.toNat 1 := by unfold lensOf; rw [if_neg n0, if_pos n1]
      have hm : lv.getD 0 (0, 0) ∈ lv := getD_mem lv 0 (by omega)
      obtain ⟨_, q, hq, hql⟩ := leaf_place hok.small hs _ hm
      have hc := count_set ws.length q hql
      rw [e, hq, Int.toNat_natCast]
      unfold kindS
      rw [List.length_set, List.length_replicate, if_neg (by omega), if_pos ⟨by omega, hc.2⟩]
      omega
    · have hk := hF.kraft
      rw [if_neg n0, if_neg n1] at hk
      unfold kindS
      rw [hk]
      split
      · omega
      · split
        · omega
        · simp

/-- Lengths of the laws: of weights. -/
structure GoodP (Z : List Int) : Prop where
  few : Z.length ≤ 60
  small : Small 15 Z
  ref : refS Z = 0
theorem good_of (A : List Int) (lv : List Lf) (hA : A.length ≤ 60) (hb : Small 299 A) (hs : SrtP lv (leavesL 0 A)) : LensOkP A 15 → GoodP (lensOf lv A.length 15) ∧ (lensOf lv A.length 15).length = A.length := by
  intro hok
  have hF := lensF A 15 lv hok hs
  have e15 : (15 : Int).toNat = 15 := rfl
  rw [e15] at hF
  refine ⟨⟨by rw [hF.len]; exact hA, fun z hz => ?_, ref_lens A lv hok hs⟩, hF.len⟩
  obtain ⟨p, hp, e⟩ := List.mem_iff_getElem.1 hz
  have h := hF.bd p (by rw [← hF.len]; exact hp)
  have e2 : (lensOf lv A.length 15).getD p 0 = z := by simp [List.getD, hp, e]
  rw [e2] at h
  omega

theorem range_take (f : Nat → Int) (P i : Nat) (h : i < P) : ((List.range P).map f).take (i + 1) = ((List.range P).map f).take i ++ [f i] := by
  rw [List.take_succ_eq_append_getElem (by simpa using h)]; simp
set_option maxRecDepth 20000 in
set_option maxHeartbeats 2000000 in
theorem good_calls (ao : Option Addr) (ca B : Nat) (ws : List Int) (w : World) (hx : RdI w B ao ws) :
    Calls Try.prog 8 #[.slice ao ws.length ca] w fun e w' => ∃ a c Z, GoodP Z ∧ e = .returned (.slice a Z.length c) ∧ RdI w' w'.heap.size a Z ∧ Kept NoB w w' := by
  have HX := Lib.hid hx
  have m1 := mask65535
  obtain ⟨i0, hi, hz0, hz1, hz2⟩ := info_parts infoI
  obtain ⟨n, hn⟩ : ∃ n, n = ws.length := ⟨_, rfl⟩
  have HN := Lib.hid hn
  rw [← hn]
  obtain ⟨P, hP⟩ : ∃ P, P = min n 60 := ⟨_, rfl⟩
  obtain ⟨A, hA⟩ : ∃ A, A = (List.range P).map (fun i => ws.getD i 0 % 65536 % 300) := ⟨_, rfl⟩
  have hAl : A.length = P := by rw [hA]; simp
  have hAb : Small 299 A := by
    intro z hz
    rw [hA] at hz
    obtain ⟨i, hi, e⟩ := List.mem_map.1 hz
    rw [← e]
    omega
  have hP60 : P ≤ 60 := by omega
  have HA := Lib.hid hA; have HAl := Lib.hid hAl; have HAb := Lib.hid hAb; have HP := Lib.hid hP
  clear hx hn hA hAl hAb hP
  go_enter Try.func8, Try.ntmps8
  go_wp2
  go_loopw [4, 3] (fun v4 v3 wr => ∃ (i : Nat) (a3 : Option Addr) (c3 : Nat), v4 = .int .i64 (i : Int) ∧ v3 = .slice a3 i c3 ∧ i ≤ P ∧ Hid (IntSt w wr a3 i c3 (A.take i))) (fun v4 _ _ => P - (intOf v4).toNat)
  case atStart => exact ⟨0, none, 0, rfl, rfl, by omega, Lib.hid (IntSt.nil w)⟩
  case round =>
    obtain ⟨i, a3, c3, rfl, rfl, hiP, HS⟩ := hrel
    by_cases hlt : i < P
    · have hin : (i : Int) < n := by have := HP.out; omega
      have hi12 : (i : Int) < 60 := by omega
      have hst := range_take (fun i => ws.getD i 0 % 65536 % 300) P i hlt
      rw [← HA.out] at hst
      obtain ⟨g, off, rfl, _, hc0⟩ := HX.out i (by have := HN.out; omega)
      have hc := HS.out.kept.cell hc0
      obtain ⟨z, hz⟩ : ∃ z, z = ws.getD i 0 := ⟨_, rfl⟩
      rw [← hz] at hc hst
      have HSt := Lib.hid hst
      clear hc0 hz hst
      have hrow := HS.out.own
      obtain ⟨cs, hcs⟩ : ∃ cs, cs = (A.take i).map (Value.int .i64) := ⟨_, rfl⟩
      rw [← hcs] at hrow
      have HRow := Lib.hid (hrow.alloc (.cells #[.int .i64 (z % 65536 % 300)] 3)); have HCs := Lib.hid hcs
      clear hrow hcs
      go_wp2_with (at_builtin; refine wpList_app _ rfl _ _ 22 rfl 3 i0 (.int .i64 0) 1 8 Try.underlying22 hi hz0 hz1 hz2 rfl (by decide) _ i cs rfl HRow.out ⟨wr.heap.size, 0, none⟩ 1 1 [.int .i64 (z % 65536 % 300)] rfl rfl (cell_one_new _ _ _) ?d2 ?d3 ?d4 ?_)
      case d2 => first | rfl | (intro u hu; simp at hu; subst hu; rfl)
      case d3 => unfold maxLen; omega
      case d4 => omega
      intro v' w2 hown' hgrow hnew
      obtain ⟨a2, c2, rfl⟩ := own_shape2 hown'
      rw [HCs.out] at hown'
      have hs2 := HS.out.app hown' hgrow hnew
      rw [← HSt.out] at hs2
      have HS2 := Lib.hid hs2
      clear hown' hgrow hnew hs2
      go_wp2
      go_roundw
      case rel => exact ⟨i + 1, a2, c2, by go_num, rfl, by omega, HS2⟩
      case measure => simp [intOf]; omega
    · have hiP2 : i = P := by omega
      subst hiP2
      have hsa := HS.out
      rw [List.take_of_length_le (by rw [HAl.out]; exact Nat.le_refl _)] at hsa
      have hl1 : Calls Try.prog 25 #[.slice a3 i c3, .int .i64 15] wr fun e w' => ∃ a c Z, (GoodP Z ∧ Z.length = i) ∧ e = .returned (.tuple #[.slice a i c, .int .i64 0]) ∧ RdI w' w'.heap.size a Z ∧ Kept NoB wr w' := by
        have hok : LensOkP A 15 := ⟨by rw [HAl.out]; omega, by omega, fun z hz => by have := HAb.out z hz; omega, by
          have := leaves_len A 0
          rw [HAl.out] at this
          have h2 : (2 : Nat) ^ (15 : Int).toNat = 32768 := by decide
          rw [h2]; omega⟩
        have hcall := lens_yes a3 c3 _ A 15 wr hsa.reads hok
        rw [HAl.out] at hcall
        refine hcall.mono ?_
        rintro e w' ⟨lv, hs, hL⟩
        obtain ⟨h1, h2⟩ := good_of A lv (by rw [HAl.out]; omega) HAb.out hs hok
        rw [HAl.out] at h1 h2
        obtain ⟨aa, c, h3, h4, h5⟩ := hL.reads
        have e15 : (15 : Int).toNat = 15 := rfl
        rw [e15] at h3 h4
        rw [h2] at h3
        exact ⟨aa, c, _, ⟨h1, h2⟩, h3, h4, h5⟩
      have HL1 := Lib.hid hl1; have HSk := Lib.hid hsa.kept
      have g1 : ((i : Int) < n ∧ ¬ (i : Int) < 60) ∨ ¬ (i : Int) < n := by have := HP.out; omega
      clear hsa hl1 HS
      rcases g1 with ⟨g1, g2⟩ | g1
      all_goals
        go_wp2_with fail
        refine HL1.out.mono ?_
        rintro e w2 ⟨a5, c5, Z, hZ, rfl, hr, hk⟩
        have HZ := Lib.hid hZ; have HR := Lib.hid hr; have HK := Lib.hid (HSk.out.trans hk)
        clear hZ hr hk
        go_wp2
        go_ret
        exact ⟨a5, c5, Z, HZ.out.1, by rw [HZ.out.2]; rfl, HR.out, HK.out⟩
end Go.Proofs.Ytokdlmpnokmniaa
