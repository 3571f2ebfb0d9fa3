/-
  NumBlanks: blanks ahead, and blanks and noughts behind, change no number; anything else does: there is none.
-/
import Derived.Test.YtligfngbmahdkaaDoorRefOct
import Derived.Test.YtligfngbmahdkaaDoorAwake16
import Derived.Test.YtligfngbmahdkaaDoorMark
namespace Go.Proofs.YtligfngbmahdkaaDoor
open Go.RowKit
set_option linter.unusedVariables false
set_option linter.unusedSimpArgs false

/-- The digits of n from place 4 on down to place i, i of them left out. -/
def dg (n : Int) (k : Nat) : List Int := ((pre (oc n) 5)).take k
theorem dg_succ (n : Int) (k : Nat) (hk : k < 5) : dg n (k + 1) = dg n k ++ [oc n (4 - k)] := by
  have hc : k = 0 ∨ k = 1 ∨ k = 2 ∨ k = 3 ∨ k = 4 := by omega
  rcases hc with rfl | rfl | rfl | rfl | rfl <;> rfl
theorem spOff_rep (a : Nat) (r : List Int) : spOff (List.replicate a 32 ++ r) = spOff r := by
  induction a with
  | zero => rfl
  | succ a ih => rw [List.replicate_succ, List.cons_append, spOff_sp, ih]
theorem rdD_pre5 (n : Int) (h0 : 0 ≤ n) (z : Int) (t : List Int) (hz : ¬ (48 ≤ z ∧ z ≤ 55)) : ∀ i, rdD (pre (oc n) i ++ z :: t) (sh 8 n i).toNat = (n.toNat, z :: t) := by
  intro i
  induction i with
  | zero => exact rdD_no hz
  | succ i ih =>
    have h1 := (sh_nonneg 8 n (by decide) h0 i).1
    have h2 : sh 8 n (i + 1) = sh 8 n i / 8 := rfl
    have hoc : 48 ≤ oc n i ∧ oc n i ≤ 55 := by unfold oc; omega
    show rdD (oc n i :: (pre (oc n) i ++ z :: t)) _ = _
    rw [rdD_yes hoc]
    have e : 8 * (sh 8 n (i + 1)).toNat + (oc n i - 48).toNat = (sh 8 n i).toNat := by unfold oc; omega
    rw [e]
    exact ih
/-- Blanks, five digits, and something that is no digit behind them. -/
theorem readS_blanks (n : Int) (h0 : 0 ≤ n) (h1 : n < 32768) (a : Nat) (ha : a ≤ 3) (z : Int) (t : List Int) (hz : ¬ (48 ≤ z ∧ z ≤ 55)) (ht : t.length ≤ 3) :
    readS (List.replicate a 32 ++ pre (oc n) 5 ++ z :: t) = if tailOk (z :: t) = true then (n, true) else (0, false) := by
  have hl : (List.replicate a (32 : Int) ++ pre (oc n) 5 ++ z :: t).length = a + 5 + (t.length + 1) := by simp only [List.length_append, List.length_replicate, pre_len, List.length_cons]
  have hoc : 48 ≤ oc n 4 ∧ oc n 4 ≤ 55 := by unfold oc; omega
  have hg : ∃ r, (List.replicate a (32 : Int) ++ pre (oc n) 5 ++ z :: t) = r ∧ r.getD 0 0 ≠ 128 ∧ r.getD 0 0 ≠ 255 := by
    refine ⟨_, rfl, ?_⟩
    cases a with
    | zero => simp [pre]; omega
    | succ a => simp [List.replicate_succ]
  obtain ⟨r, hr, hg1, hg2⟩ := hg
  rw [readS_in (by rw [hl]; omega), hr, if_neg hg1, if_neg hg2, ← hr]
  unfold rdO
  have hsp : spOff (List.replicate a 32 ++ pre (oc n) 5 ++ z :: t) = pre (oc n) 5 ++ z :: t := by
    rw [List.append_assoc, spOff_rep]
    exact spOff_no (z := oc n 4) (by omega)
  have hs5 : sh 8 n 5 = 0 := by simp only [sh]; omega
  have hrd := rdD_pre5 n h0 z t hz 5
  rw [hs5, show (0 : Int).toNat = 0 from rfl] at hrd
  rw [hsp, hrd]
  by_cases htl : tailOk (z :: t) = true
  · rw [if_pos htl, if_pos htl]; simp; omega
  · rw [if_neg htl, if_neg htl]

theorem blanks_lit (a : Nat) (ha : a ≤ 3) : (⟨#[32, 32, 32]⟩ : ByteArray).extract 0 a = strOfNums (List.replicate a 32) := by
  have hc : a = 0 ∨ a = 1 ∨ a = 2 ∨ a = 3 := by omega
  rcases hc with rfl | rfl | rfl | rfl <;> decide +kernel

set_option maxRecDepth 100000 in
set_option maxHeartbeats 4000000 in
theorem numBlanks_walk (n0 a0 c : Int) (w : World) (hc : 0 ≤ c ∧ c ≤ 255) (htab : Pow10 w) :
    Calls Tryd.prog 4 #[.int .i64 n0, .int .i64 a0, .int .u8 c] w fun e w' => e = .returned (.bool true) ∧ Below w.heap.size w w' := by
  have HT := Lib.hid htab
  clear htab
  obtain ⟨n, hn⟩ : ∃ n : Nat, (n : Int) = n0 % 32768 := ⟨(n0 % 32768).toNat, Int.toNat_of_nonneg (by omega)⟩
  obtain ⟨a, ha⟩ : ∃ a : Nat, (a : Int) = a0 % 4 := ⟨(a0 % 4).toNat, Int.toNat_of_nonneg (by omega)⟩
  have hn1 : n < 32768 := by omega
  have ha3 : a ≤ 3 := by omega
  have hm1 : bits .and .i64 n0 32767 = n0 % 32768 := i64_mask n0 15 (by decide)
  have hm2 : bits .and .i64 a0 3 = a0 % 4 := i64_mask a0 2 (by decide)
  go_enter Tryd.func4, Tryd.ntmps4
  go_upto_region 2 with fail
  rw [← hn, ← ha]
  have hbl := blanks_lit a ha3
  have HN := Lib.hid hn; have HA := Lib.hid ha
  clear hm1 hm2 hn ha
  have hsb : ((⟨#[32, 32, 32]⟩ : ByteArray).size : Int) = 3 := rfl
  go_upto_block 0 with fail
  go_cut [7, 8, 9] from 22 to 36 (fun v7 v8 v9 wx => w = wx ∧ v7 = .string (strOfNums (List.replicate a 32 ++ pre (oc n) 5)))
  case first =>
    go_wp2_with fail
    go_loopw [7, 8, 9] (fun v7 v8 v9 wr => w = wr ∧ ∃ k : Nat, k ≤ 5 ∧ v7 = .string (strOfNums (List.replicate a 32 ++ dg n k)) ∧ v8 = .int .i64 (4 - (k : Int))) (fun _ v8 _ _ => (intOf v8 + 1).toNat)
    case atStart => exact ⟨rfl, 0, by omega, by rw [show dg (n : Int) 0 = [] from rfl, List.append_nil], rfl⟩
    case round =>
      obtain ⟨rfl, k, hk, rfl, rfl⟩ := hrel
      by_cases hk5 : k < 5
      · obtain ⟨q, hq⟩ : ∃ q : Nat, (q : Int) = 4 - (k : Int) := ⟨4 - k, by omega⟩
        have hd := dg_succ n k hk5
        rw [show 4 - k = q by omega] at hd
        obtain ⟨d, hdd⟩ : ∃ d : Nat, (d : Int) = sh 8 n q % 8 := ⟨(sh 8 n q % 8).toNat, Int.toNat_of_nonneg (by omega)⟩
        have hd8 : d < 8 := by omega
        have hlit := digit_lit d hd8
        have hcat : strOfNums (List.replicate a 32 ++ dg n k) ++ strOfNums [48 + (d : Int)] = strOfNums (List.replicate a 32 ++ dg n (k + 1)) := by
          rw [str_append, hd, List.append_assoc, hdd]; rfl
        have hz : (strOfNums (List.replicate a 32 ++ dg n k)).size ≤ 8 := by rw [strOfNums_size, List.length_append, List.length_replicate]; simp [dg, pre_len]; omega
        have hz1 : (strOfNums [48 + (d : Int)]).size = 1 := strOfNums_size _
        have hm : bits .and .i64 ((n : Int) / 2 ^ (3 * q)) 7 = (d : Int) := by
          rw [mask7, hdd, sh_pow, show (8 : Nat) ^ q = 2 ^ (3 * q) from (Nat.pow_mul 2 3 q).symm]
          push_cast
          rfl
        have HCat := Lib.hid hcat
        have HD := Lib.hid hd; have HDD := Lib.hid hdd; have HQ := Lib.hid hq
        rw [← hq]
        clear hcat hd hdd hq
        generalize strOfNums (List.replicate a 32 ++ dg n k) = st at hz HCat
        have hq4 : q ≤ 4 := by have := HQ.out; omega
        go_wp2
        go_roundw
        case rel => exact ⟨trivial, k + 1, by omega, by rw [HCat.out], by have := HQ.out; congr 1; omega⟩
        case measure => simp [intOf]
      · have hk' : k = 5 := by omega
        subst hk'
        go_wp2
        go_meet
        exact ⟨rfl, rfl⟩
  case rest =>
  obtain ⟨rfl, rfl⟩ := hcut
  clear hbl hsb
  obtain ⟨R, hR⟩ : ∃ R, R = List.replicate a (32 : Int) ++ pre (oc n) 5 := ⟨_, rfl⟩
  have hRl : R.length = a + 5 := by rw [hR, List.length_append, List.length_replicate, pre_len]
  have hRb : AllB R := by
    rw [hR]
    intro b hb
    rcases List.mem_append.1 hb with h | h
    · have := List.eq_of_mem_replicate h; omega
    · obtain ⟨i, hi, rfl⟩ := List.getElem_of_mem h
      rw [pre_get]
      exact oc_lt _ _
  have hS : ∀ (z : Int) (t : List Int), ¬ (48 ≤ z ∧ z ≤ 55) → t.length ≤ 3 → readS (R ++ z :: t) = if tailOk (z :: t) = true then ((n : Int), true) else (0, false) := fun z t hz ht => by
    rw [hR]
    exact readS_blanks n (by omega) (by omega) a ha3 z t hz ht
  rw [← hR]
  have hs1 := hS 32 [0, 32] (by omega) (by decide)
  rw [if_pos (by decide)] at hs1
  have hs2 := hS 32 [c] (by omega) (by simp)
  have hb1 : AllB (R ++ [32, 0, 32]) := by
    intro b hb
    rcases List.mem_append.1 hb with h | h
    · exact hRb b h
    · simp at h; omega
  have hb2 : AllB (R ++ [32, c]) := by
    intro b hb
    rcases List.mem_append.1 hb with h | h
    · exact hRb b h
    · simp at h; omega
  have hcat1 : strOfNums R ++ ⟨#[32, 0, 32]⟩ = strOfNums (R ++ [32, 0, 32]) := str_append R [32, 0, 32]
  have hcat2 : strOfNums R ++ ⟨#[32]⟩ = strOfNums (R ++ [32]) := str_append R [32]
  have hcat3 : strOfNums (R ++ [32]) ++ strOfNums [c] = strOfNums (R ++ [32, c]) := by rw [str_append, List.append_assoc]; rfl
  have hzR : (strOfNums R).size = a + 5 := by rw [strOfNums_size, hRl]
  have hzR2 : (strOfNums (R ++ [32])).size = a + 6 := by rw [strOfNums_size, List.length_append, hRl]; rfl
  have hzc : (strOfNums [c]).size = 1 := strOfNums_size _
  have hl1 : (R ++ [32, 0, 32]).length = a + 8 := by rw [List.length_append, hRl]; rfl
  have hl2 : (R ++ [32, c]).length = a + 7 := by rw [List.length_append, hRl]; rfl
  have hne : (strOfNums (R ++ [32, 0, 32])).size = a + 8 := by rw [strOfNums_size, hl1]
  obtain ⟨cap1, w1, hrun1, hown1, hk1⟩ := conv_mark w (R ++ [32, 0, 32]) (by omega) hb1
  rw [hl1] at hrun1
  have hrd1 := read_any (some ⟨w.heap.size, 0, none⟩) cap1 (a + 8) (R ++ [32, 0, 32]) w1 hown1.reads hb1 hl1 (by
    rcases hown1 with ⟨h, _⟩ | ⟨g, cap, cur, fz, h, _, _, h1, h2, _⟩
    · simp at h
    · simp at h; omega) (by
    rcases hown1 with ⟨h, _⟩ | ⟨g, cap, cur, fz, h, _, _, h1, h2, _⟩
    · simp at h
    · simp at h; unfold maxLen at h2; omega)
  rw [hs1] at hrd1
  have HRd1 := Lib.hid hrd1; have HK1 := Lib.hid hk1; have HS2 := Lib.hid hs2; have HB2 := Lib.hid hb2
  clear hS hrd1 hs1 hs2 hb1 hb2 hRb hown1 hk1 hR
  go_wp2_with fail
  refine HRd1.out.mono ?_
  rintro e w2 ⟨rfl, rfl⟩
  clear HRd1 hrun1 hcat1 hne
  obtain ⟨q, hq⟩ : ∃ q : Bool, q = (c == 32 || c == 0) := ⟨_, rfl⟩
  have hs2 := HS2.out
  have htl : tailOk [32, c] = q := by
    rw [hq]
    simp only [tailOk]
    cases (c == 0) <;> cases (c == 32) <;> rfl
  rw [htl] at hs2
  obtain ⟨m, hm⟩ : ∃ m : Int, readS (R ++ [32, c]) = (m, q) := by
    cases q
    · exact ⟨0, by rw [hs2]; rfl⟩
    · exact ⟨n, by rw [hs2]; rfl⟩
  clear HS2 hs2 htl
  have hcv := conv_reads (w := w1.alloc (.cells #[.int .u8 c] 5)) (ao := some ⟨w1.heap.size, 0, none⟩) (n := 1) (cap := 1) (xs := [c]) (lit_reads (t := 5) (fr := (0, 0)) (cs := #[.int .u8 c]) _ (heap_alloc_new _ _) rfl) rfl (by intro h; cases h)
  have hkA : Kept NoB w (w1.alloc (.cells #[.int .u8 c] 5)) := HK1.out.alloc _
  obtain ⟨cap2, w3, hrun2, hown2, hk3⟩ := conv_mark (w1.alloc (.cells #[.int .u8 c] 5)) (R ++ [32, c]) (by omega) HB2.out
  rw [hl2] at hrun2
  obtain ⟨B2, hB2⟩ : ∃ B2, B2 = (w1.alloc (.cells #[.int .u8 c] 5)).heap.size := ⟨_, rfl⟩
  rw [← hB2] at hrun2 hown2
  clear hB2
  have hrd2 := read_any (some ⟨B2, 0, none⟩) cap2 (a + 7) (R ++ [32, c]) w3 hown2.reads HB2.out hl2 (by
    rcases hown2 with ⟨h, _⟩ | ⟨g, cap, cur, fz, h, _, _, h1, h2, _⟩
    · simp at h
    · simp at h; omega) (by
    rcases hown2 with ⟨h, _⟩ | ⟨g, cap, cur, fz, h, _, _, h1, h2, _⟩
    · simp at h
    · simp at h; unfold maxLen at h2; omega)
  rw [hm] at hrd2
  have HRd2 := Lib.hid hrd2; have HK3 := Lib.hid (hkA.trans hk3); have HQ := Lib.hid hq
  clear hrd2 hown2 hk3 hkA HK1 hm hq hl1
  go_wp2_with fail
  refine HRd2.out.mono ?_
  rintro e w4 ⟨rfl, rfl⟩
  clear HRd2 hrun2 hcat2 hcat3 hcv
  have hrd3 := read_any (some ⟨w3.heap.size, 0, none⟩) 2 2 [32, 0] (w3.alloc (.cells #[.int .u8 32, .int .u8 0] 5)) (lit_reads (t := 5) (fr := (0, 0)) (cs := #[.int .u8 32, .int .u8 0]) _ (heap_alloc_new _ _) rfl) (by intro b hb; simp at hb; omega) rfl (by omega) (by omega)
  rw [show readS [32, 0] = (0, true) from by decide +kernel] at hrd3
  have HRd3 := Lib.hid hrd3
  have HK4 := Lib.hid (HK3.out.alloc (.cells #[.int .u8 32, .int .u8 0] 5))
  clear hrd3 HK3
  go_wp2_with fail
  refine HRd3.out.mono ?_
  rintro e w5 ⟨rfl, rfl⟩
  clear HRd3
  have hAw := Lib.hid (awake16 _ (HT.out.keptNo HK4.out))
  generalize w3.alloc (.cells #[.int .u8 32, .int .u8 0] 5) = w5 at HK4 hAw ⊢
  have hc3 : c = 32 ∨ (c ≠ 32 ∧ c = 0) ∨ (c ≠ 32 ∧ c ≠ 0) := by omega
  rcases hc3 with rfl | ⟨h32, rfl⟩ | ⟨h32, h0⟩
  · have hq := HQ.out
    simp at hq
    subst hq
    go_wp2_with fail
    refine hAw.out.mono ?_
    rintro e w6 ⟨rfl, hb6⟩
    have hfin := (HK4.out.ofBelow hb6).belowNo (Below.refl _ _)
    go_wp2
    go_ret
    exact ⟨rfl, hfin⟩
  · have hq := HQ.out
    simp at hq
    subst hq
    go_wp2_with fail
    refine hAw.out.mono ?_
    rintro e w6 ⟨rfl, hb6⟩
    have hfin := (HK4.out.ofBelow hb6).belowNo (Below.refl _ _)
    go_wp2
    go_ret
    exact ⟨rfl, hfin⟩
  · have g1 : (c == 32) = false := by simp; exact h32
    have g2 : (c == 0) = false := by simp; exact h0
    have hq := HQ.out
    rw [g1, g2] at hq
    simp at hq
    subst hq
    clear h32 h0
    go_wp2_with fail
    refine hAw.out.mono ?_
    rintro e w6 ⟨rfl, hb6⟩
    have hfin := (HK4.out.ofBelow hb6).belowNo (Below.refl _ _)
    go_wp2
    go_ret
    exact ⟨rfl, hfin⟩


theorem numBlanks_law (v0 v1 v2 : Value) (w : World) (r0 : Arg w 3 v0) (r1 : Arg w 3 v1) (r2 : Arg w 5 v2) (htab : Pow10 w) : Calls Tryd.prog 4 #[v0, v1, v2] w fun e w' => e = .returned (.bool true) ∧ Below w.heap.size w w' := by
  obtain ⟨a, rfl, _⟩ := r0.int Tryd.underlying3
  obtain ⟨b, rfl, _⟩ := r1.int Tryd.underlying3
  obtain ⟨c, rfl, hc⟩ := r2.int Tryd.underlying5
  exact numBlanks_walk a b c w (u8_bd hc) htab
end Go.Proofs.YtligfngbmahdkaaDoor
