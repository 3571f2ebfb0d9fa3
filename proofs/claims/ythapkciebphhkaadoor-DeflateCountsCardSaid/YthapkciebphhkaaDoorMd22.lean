/-
  What layer 1's statements ask of themselves first: a few bits, put and taken.
  What the document fixes of stage 10: All of nothing at level 0, Most.
  The document's symbols: SymLen, SymDist, LenSym, DistSym.
  Tame: tokens that may be, made of some.
-/
import Derived.Test.YthapkciebphhkaaDoorMd21
import Derived.Laws.BytesArg
namespace Go.Proofs.YthapkciebphhkaaDoor
open Go.RowKit
set_option linter.unusedVariables false

theorem conv_own {w : World} {ao : Option Addr} {n cap : Nat} {xs : List Int} (h : w.ownsRow 0 5 1 (.slice ao n cap) n (xs.map (.int .u8))) (hn : n = xs.length) :
    (convert 44 9 (.slice ao n cap)).run Tryd.prog w = .ok (.string (strOfNums xs)) w := by
  subst hn
  have hr := own_reads h rfl
  cases ao with
  | none =>
    have : xs = [] := hr.1 rfl
    subst this
    exact run_convert_bytes_nil (P := Tryd.prog) w _ 5 Tryd.underlying44 Tryd.underlying5 _ _ _ Tryd.underlying9
  | some a =>
    obtain ⟨g, rfl⟩ : ∃ g, a = ⟨g, 0, none⟩ := by
      rcases h.2 with ⟨hv, _⟩ | ⟨g, c, cur, hv, _⟩
      · simp at hv
      · simp at hv; exact ⟨g, hv.1⟩
    exact run_convert_bytes_arg (P := Tryd.prog) w _ 5 Tryd.underlying44 Tryd.underlying5 g 0 xs.length cap xs rfl (fun i hi => by
      have := hr.2 _ rfl i hi
      rwa [addr_add] at this) _ Tryd.underlying9

theorem num_one (bs : List Int) (h : AllB bs) (hl : bs.length = 1) (x : Nat) (hx : num bs = x) : bs = [(x : Int)] := by
  match bs, hl with
  | [b], _ =>
    have hb := h b (by simp)
    simp [num] at hx
    simp; omega

end Go.Proofs.YthapkciebphhkaaDoor

namespace Go.Proofs.YthapkciebphhkaaDoor
open Go.RowKit
set_option linter.unusedVariables false
set_option linter.unusedSimpArgs false
set_option maxRecDepth 20000

set_option maxHeartbeats 2000000 in
theorem concat_no (w : World) : Calls Tryd.prog 27 #[.slice none 0 0] w fun e w' => e = .returned (.slice none 0 0) ∧ Kept NoB w w' := by
  have HG : Hid (∀ W, Calls Tryd.prog 35 #[.slice none 0 0, .int .i64 0] W fun e w' => e = .returned (.slice none 0 0) ∧ Kept NoB W w') := Lib.hid fun W => by
    go_enter Tryd.func35, Tryd.ntmps35
    go_wp2
    go_ret
    exact ⟨rfl, Kept.refl _ _⟩
  go_enter Tryd.func27, Tryd.ntmps27
  go_wp2_with fail
  go_loopw [11, 3, 5] (fun i s _ wr => i = .int .i64 0 ∧ s = .int .i64 0 ∧ w = wr) (fun _ _ _ _ => 0)
  case atStart => exact ⟨rfl, rfl, rfl⟩
  case round =>
    obtain ⟨rfl, rfl, rfl⟩ := hrel
    go_wp2_with fail
    refine (HG.out _).mono ?_
    rintro e w1 ⟨rfl, hk⟩
    have HK := Lib.hid hk
    clear hk
    go_wp2_with fail
    go_loopw [27, 6, 8] (fun i s _ wr => i = .int .i64 0 ∧ s = .slice none 0 0 ∧ w1 = wr) (fun _ _ _ _ => 0)
    case atStart => exact ⟨rfl, rfl, rfl⟩
    case round =>
      obtain ⟨rfl, rfl, rfl⟩ := hrel
      go_wp2
      go_ret
      exact ⟨rfl, HK.out⟩
set_option maxHeartbeats 2000000 in
theorem most0 (w : World) : Calls Tryd.prog 19 #[.int .i64 0] w fun e w' => e = .returned (.int .i64 10) ∧ w = w' := by
  go_enter Tryd.func19, Tryd.ntmps19
  go_wp2
  go_ret
  exact ⟨rfl, rfl⟩
set_option maxHeartbeats 2000000 in
theorem most65536 (w : World) : Calls Tryd.prog 19 #[.int .i64 65536] w fun e w' => e = .returned (.int .i64 65551) ∧ w = w' := by
  go_enter Tryd.func19, Tryd.ntmps19
  go_wp2
  go_ret
  exact ⟨rfl, rfl⟩
set_option maxHeartbeats 2000000 in
/-- Few bytes are stored as one block. -/
theorem storeAll_few (w : World) (R : Nat) (ao : Option Addr) (cap : Nat) (bs : List Int) (s : Nat) (last : Bool) (ba : Option Addr) (bc : Nat) (b : List Int) (h : Wtr w R ao cap bs s) (hs : s ≤ 700000000000) (hr : Reads w ba b) (hb : AllB b) (hl : b.length ≤ 65535)
    (hsep : ∀ a, ba = some a → a.block ≠ R ∧ (Value.slice ao bs.length cap).ownBlock ≠ some a.block) :
    Calls Tryd.prog 28 #[.pointer (some ⟨R, 0, none⟩), .slice ba b.length bc, .bool last] w fun e w' => ∃ ao' cap' bs', e = .returned (.tuple #[]) ∧ WroteP w R (.slice ao bs.length cap) bs s (storedW last (up8 (s + 3) - (s + 3)) b) w' ao' cap' bs' := by
  have HS := Lib.hid (stored_yes w R ao cap bs s last ba bc b h hs hr hb hl hsep)
  obtain ⟨n, hn⟩ : ∃ n, n = b.length := ⟨_, rfl⟩
  rw [← hn] at HS hl ⊢
  clear h hr hb hsep hn
  go_enter Tryd.func28, Tryd.ntmps28
  go_wp2_with fail
  go_loopw [1] (fun v wr => v = .slice ba n bc ∧ w = wr) (fun _ _ => 0)
  case atStart => exact ⟨rfl, rfl⟩
  case round =>
    obtain ⟨rfl, rfl⟩ := hrel
    have hg : ¬ ((65535 : Int) < (n : Int)) := by omega
    go_wp2_with fail
    refine HS.out.mono ?_
    rintro e w1 ⟨ao', cap', bs', rfl, hW⟩
    have HW := Lib.hid hW
    clear hW HS
    go_wp2
    refine bodyPost_end (results_none rfl _ _ _) rfl ?_
    exact ⟨ao', cap', bs', rfl, HW.out⟩
theorem num_inj5 (a b : List Int) (ha : AllB a) (hb : AllB b) (hl : a.length = b.length) (hn : num a = num b) : a = b := by
  induction a generalizing b with
  | nil => cases b with
    | nil => rfl
    | cons => simp at hl
  | cons x t ih =>
    cases b with
    | nil => simp at hl
    | cons y u =>
      have h1 := ha x (by simp)
      have h2 := hb y (by simp)
      simp only [num] at hn
      have : x = y := by omega
      subst this
      rw [ih u (fun z hz => ha z (by simp [hz])) (fun z hz => hb z (by simp [hz])) (by simpa using hl) (by omega)]

theorem nums_stored0 {bs : List Int} (hb : AllB bs) (hl : bs.length = 5) (hn : num bs = putsN (storedW true 5 [])) : bs = [1, 0, 0, 255, 255] :=
  num_inj5 _ _ hb (by unfold AllB; decide) (by rw [hl]; rfl) (by rw [hn]; decide)
theorem nums_fixed0 {bs : List Int} (hb : AllB bs) (hl : bs.length = 2) (hn : num bs = putsN ([(lastN true, 1), (1, 2)] ++ ([] ++ [wordZ fixL 256]))) : bs = [3, 0] :=
  num_inj5 _ _ hb (by unfold AllB; decide) (by rw [hl]; rfl) (by
    have e : wordZ fixL 256 = (0, 7) := by decide +kernel
    rw [hn, e]; decide)
set_option maxHeartbeats 4000000 in
theorem all0_none (w : World) : Calls Tryd.prog 17 #[.int .i64 0, .slice none 0 0] w fun e w' => ∃ ao c, e = .returned (.slice ao 5 c) ∧ Hid ((convert 44 9 (.slice ao 5 c)).run Tryd.prog w' = .ok (.string ⟨#[1, 0, 0, 255, 255]⟩) w') ∧ Kept NoB w w' := by
  have HC := Lib.hid (concat_no w)
  go_enter Tryd.func17, Tryd.ntmps17
  go_wp2_with fail
  refine HC.out.mono ?_
  rintro e w1 ⟨rfl, hk1⟩
  have HN := Lib.hid (neww_any w1)
  have HK1 := Lib.hid hk1
  clear hk1 HC
  go_wp2_with fail
  refine HN.out.mono ?_
  rintro e w2 ⟨R, rfl, hw, hR, hk2⟩
  have HW := Lib.hid hw
  have HR := Lib.hid hR
  have HK2 := Lib.hid (HK1.out.trans hk2)
  clear hw hR hk2 HN
  have hr0 : Reads w2 none ([] : List Int) := ⟨fun _ => rfl, fun a ha => by cases ha⟩
  have HS := Lib.hid (storeAll_few w2 R none 0 [] 0 true none 0 [] HW.out (by omega) hr0 (by intro b hb; cases hb) (by decide) (fun a ha => by cases ha))
  clear hr0
  go_wp2_with fail
  go_loopw [4, 5, 7] (fun _a v _b wr => v = .slice none 0 0 ∧ w2 = wr) (fun _ _ _ _ => 0)
  case atStart => exact ⟨rfl, rfl⟩
  case round =>
    obtain ⟨rfl, rfl⟩ := hrel
    go_wp2_with fail
    refine HS.out.mono ?_
    rintro e w3 ⟨a3, c3, b3, rfl, hW⟩
    have hb3 : b3 = [1, 0, 0, 255, 255] := nums_stored0 hW.1.2.2.1 (by have := hW.1.2.2.2.1; rw [this]; decide) (by have := hW.2.1; rw [this]; simp [num, up8])
    have HB := Lib.hid (wbytes_any w3 R a3 c3 b3 _ hW.1)
    have hk3 : Kept NoB w w3 := HK2.out.own hW.2.2.1 (fun i hi => by
      have h1 := HK1.out.size
      have h2 := HR.out
      rcases hi with e | e
      · unfold OneB at e; omega
      · simp [OwnB, Value.ownBlock] at e)
    have HK3 := Lib.hid hk3
    have HB3 := Lib.hid hb3
    clear hW hb3 hk3 HS
    go_wp2_with fail
    refine HB.out.mono ?_
    rintro e w4 ⟨a4, c4, rfl, ho, _, _, hk4⟩
    have HO := Lib.hid ho
    have HK4 := Lib.hid (HK3.out.trans hk4)
    have hl3 : b3.length = 5 := by rw [HB3.out]; rfl
    clear ho hk4 HB
    go_wp2
    go_ret
    refine ⟨a4, c4, rfl, ?_, HK4.out⟩
    have h := HO.out
    rw [HB3.out] at h
    have h2 := conv_own h rfl
    have e1 : strOfNums [1, 0, 0, 255, 255] = ⟨#[1, 0, 0, 255, 255]⟩ := by decide
    rw [e1] at h2
    exact Lib.hid h2
set_option maxHeartbeats 4000000 in
theorem awake10 (w : World) : Calls Tryd.prog 9 #[] w fun e w' => e = .returned (.bool true) ∧ Kept NoB w w' := by
  have HN := Lib.hid (neww_any w)
  have HA := Lib.hid all0_none
  have HM0 := Lib.hid most0
  have HM1 := Lib.hid most65536
  go_enter Tryd.func9, Tryd.ntmps9
  go_wp2_with fail
  refine HN.out.mono ?_
  rintro e w1 ⟨R, rfl, hw, hR, hk1⟩
  have HR := Lib.hid hR
  have HK1 := Lib.hid hk1
  have HF := Lib.hid (fixedBlock_yes w1 R none 0 [] 0 true none 0 [] hw (by omega) (fun j hj => absurd hj (by simp)) (fun h => absurd rfl h) (by decide) (fun t ht => by cases ht) rfl)
  clear hw hR hk1 HN
  go_wp2_with fail
  refine HF.out.mono ?_
  rintro e w2 ⟨ws, a2, c2, b2, rfl, hws, hW⟩
  obtain rfl : ws = [] := by cases hws; rfl
  have hb2 : b2 = [3, 0] := nums_fixed0 hW.1.2.2.1 (by have := hW.1.2.2.2.1; rw [this]; decide +kernel) (by have := hW.2.1; rw [this]; simp [num])
  have HB2 := Lib.hid hb2
  have hk2 : Kept NoB w w2 := HK1.out.own hW.2.2.1 (fun i hi => by
    have h2 := HR.out
    rcases hi with e | e
    · unfold OneB at e; omega
    · simp [OwnB, Value.ownBlock] at e)
  have HK2 := Lib.hid hk2
  have HW := Lib.hid hW.1
  clear hws hW hb2 hk2 HF
  go_wp2_with fail
  refine (HA.out _).mono ?_
  rintro e w3 ⟨a3, c3, rfl, hcv, hk3⟩
  have HK3 := Lib.hid (HK2.out.trans hk3)
  have HB := Lib.hid (wbytes_any w3 R a2 c2 b2 _ (HW.out.keptNo hk3))
  have hcv : (convert 44 9 (.slice a3 5 c3)).run Tryd.prog w3 = .ok (.string ⟨#[1, 0, 0, 255, 255]⟩) w3 := hcv.out
  clear hk3 HA
  go_wp2_with fail
  refine HB.out.mono ?_
  rintro e w4 ⟨a4, c4, rfl, ho, _, _, hk4⟩
  have hl3 : b2.length = 2 := by rw [HB2.out]; rfl
  have hcw : (convert 44 9 (.slice a4 2 c4)).run Tryd.prog w4 = .ok (.string ⟨#[3, 0]⟩) w4 := by
    rw [HB2.out] at ho
    have h2 := conv_own ho rfl
    have e1 : strOfNums [3, 0] = ⟨#[3, 0]⟩ := by decide
    rw [e1] at h2
    exact h2
  rw [hl3]
  have HK4 := Lib.hid (HK3.out.trans hk4)
  clear ho hk4 HB hcv hl3
  go_wp2_with fail
  refine (HM0.out _).mono ?_
  rintro e w5 ⟨rfl, rfl⟩
  go_wp2_with fail
  refine (HM1.out _).mono ?_
  rintro e w5 ⟨rfl, rfl⟩
  go_wp2
  go_ret
  exact ⟨rfl, HK4.out⟩
end Go.Proofs.YthapkciebphhkaaDoor

namespace Go.Proofs.YthapkciebphhkaaDoor
open Go.RowKit
set_option linter.unusedVariables false
set_option linter.unusedSimpArgs false
set_option maxRecDepth 20000

theorem infoSy : (Tryd.prog.info? 37).map (·.size) = some 2 := by kernel_rfl
set_option maxHeartbeats 1000000 in
theorem rsymLen_last (w : World) : Calls Tryd.prog 13 #[.int .i64 285] w fun e w' => e = .returned (.tuple #[.agg #[.int .i64 258, .int .i64 0], .bool true]) ∧ Kept NoB w w' := by
  go_enter Tryd.func13, Tryd.ntmps13
  go_wp2
  refine bodyPost_ret (results_cell_tmp rfl _ _ w.heap.size 37 #[.int .i64 258, .int .i64 0] (0, 0) _ rfl (heap_alloc_new _ _) Tryd.underlying37 rfl infoSy) rfl ?_
  exact ⟨rfl, (Kept.refl _ _).alloc _⟩
set_option maxHeartbeats 2000000 in
theorem rsymLen_any (i : Nat) (w : World) (hi : i < 28) : Calls Tryd.prog 13 #[.int .i64 ((257 + i : Nat) : Int)] w fun e w' => e = .returned (.tuple #[.agg #[.int .i64 ((lb i : Nat) : Int), .int .i64 ((le4 i : Nat) : Int)], .bool true]) ∧ Kept NoB w w' := by
  obtain ⟨s, hs⟩ : ∃ s, s = 257 + i := ⟨_, rfl⟩
  rw [← hs]
  have h1 : ¬ (s : Int) < 257 := by omega
  have h2 : ¬ (285 : Int) < (s : Int) := by omega
  have h3 : ((s : Int) == 285) = false := by simp; omega
  have hsb : s ≤ 300 := by omega
  by_cases h8 : i < 8
  · have h4 : (s : Int) < 265 := by omega
    have hb : lb i = 3 + i := by unfold lb gb; rw [if_pos (by omega)]
    have he : le4 i = 0 := by unfold le4 ge; omega
    have h5 : (s : Int) - 254 = ((3 + i : Nat) : Int) := by omega
    rw [hb, he]
    obtain ⟨b, hb2⟩ : ∃ b, b = 3 + i := ⟨_, rfl⟩
    rw [← hb2] at h5 ⊢
    have hbb : b ≤ 300 := by omega
    clear hb he hb2 hs
    go_enter Tryd.func13, Tryd.ntmps13
    go_wp2
    refine bodyPost_ret (results_cell_tmp rfl _ _ w.heap.size 37 #[.int .i64 (b : Int), .int .i64 0] (0, 0) _ rfl (heap_alloc_new _ _) Tryd.underlying37 rfl infoSy) rfl ?_
    exact ⟨rfl, (Kept.refl _ _).alloc _⟩
  · have h4 : ¬ (s : Int) < 265 := by omega
    obtain ⟨q, hq⟩ : ∃ q, q = i - 4 := ⟨_, rfl⟩
    obtain ⟨r, hr⟩ : ∃ r, r = i - 8 := ⟨_, rfl⟩
    have h5 : (s : Int) - 261 = (q : Int) := by omega
    have h6 : (s : Int) - 265 = (r : Int) := by omega
    obtain ⟨e, he⟩ : ∃ e, e = le4 i := ⟨_, rfl⟩
    have he2 : e = i / 4 - 1 := he
    have hdiv : (q : Int) / 4 = (e : Int) := by omega
    obtain ⟨m, hm⟩ : ∃ m, m = i % 4 := ⟨_, rfl⟩
    have hmod : (r : Int) % 4 = (m : Int) := by omega
    have hm4 : m < 4 := by omega
    have hb : lb i = 3 + (4 + m) * 2 ^ e := by unfold lb gb; rw [if_neg (by omega), ← he2, ← hm]
    have he13 : e ≤ 13 := by omega
    have hp : 2 ^ e ≤ 2 ^ 13 := Nat.pow_le_pow_right (by decide) he13
    have hmul : ((4 : Int) + m) * 2 ^ e = (((4 + m) * 2 ^ e : Nat) : Int) := by push_cast; rfl
    have hmb : (4 + m) * 2 ^ e ≤ 8 * 8192 := Nat.mul_le_mul (by omega) hp
    have hqb : q ≤ 300 := by omega
    have hrb : r ≤ 300 := by omega
    have hn : ¬ (e : Int) < 0 := by omega
    rw [hb, ← he]
    generalize (4 + m) * 2 ^ e = v at hmul hmb ⊢
    have hv3 : (3 : Int) + (v : Int) = ((3 + v : Nat) : Int) := by omega
    generalize 3 + v = b at hv3 ⊢
    clear hb he he2 hs hq hr hm hp h8
    go_enter Tryd.func13, Tryd.ntmps13
    go_wp2
    refine bodyPost_ret (results_cell_tmp rfl _ _ w.heap.size 37 #[.int .i64 (b : Int), .int .i64 (e : Int)] (0, 0) _ rfl (heap_alloc_new _ _) Tryd.underlying37 rfl infoSy) rfl ?_
    exact ⟨rfl, (Kept.refl _ _).alloc _⟩
set_option maxHeartbeats 2000000 in
theorem rsymDist_any (i : Nat) (w : World) (hi : i < 30) : Calls Tryd.prog 14 #[.int .i64 (i : Int)] w fun e w' => e = .returned (.tuple #[.agg #[.int .i64 ((db i : Nat) : Int), .int .i64 ((de i : Nat) : Int)], .bool true]) ∧ Kept NoB w w' := by
  have h1 : ¬ (i : Int) < 0 := by omega
  have h2 : ¬ (29 : Int) < (i : Int) := by omega
  by_cases h8 : i < 4
  · have h4 : (i : Int) < 4 := by omega
    have hb : db i = i + 1 := by unfold db gb; rw [if_pos (by omega)]; omega
    have he : de i = 0 := by unfold de ge; omega
    have h5 : (i : Int) + 1 = ((i + 1 : Nat) : Int) := by omega
    rw [hb, he]
    obtain ⟨b, hb2⟩ : ∃ b, b = i + 1 := ⟨_, rfl⟩
    rw [← hb2] at h5 ⊢
    have hbb : b ≤ 300 := by omega
    clear hb he hb2
    go_enter Tryd.func14, Tryd.ntmps14
    go_wp2
    refine bodyPost_ret (results_cell_tmp rfl _ _ w.heap.size 37 #[.int .i64 (b : Int), .int .i64 0] (0, 0) _ rfl (heap_alloc_new _ _) Tryd.underlying37 rfl infoSy) rfl ?_
    exact ⟨rfl, (Kept.refl _ _).alloc _⟩
  · have h4 : ¬ (i : Int) < 4 := by omega
    obtain ⟨q, hq⟩ : ∃ q, q = i - 2 := ⟨_, rfl⟩
    have h5 : (i : Int) - 2 = (q : Int) := by omega
    obtain ⟨e, he⟩ : ∃ e, e = de i := ⟨_, rfl⟩
    have he2 : e = i / 2 - 1 := he
    have hdiv : (q : Int) / 2 = (e : Int) := by omega
    obtain ⟨m, hm⟩ : ∃ m, m = i % 2 := ⟨_, rfl⟩
    have hmod : (i : Int) % 2 = (m : Int) := by omega
    have hm4 : m < 2 := by omega
    have hb : db i = 1 + (2 + m) * 2 ^ e := by unfold db gb; rw [if_neg (by omega), ← he2, ← hm]
    have he13 : e ≤ 13 := by omega
    have hp : 2 ^ e ≤ 2 ^ 13 := Nat.pow_le_pow_right (by decide) he13
    have hmul : ((2 : Int) + m) * 2 ^ e = (((2 + m) * 2 ^ e : Nat) : Int) := by push_cast; rfl
    have hmb : (2 + m) * 2 ^ e ≤ 4 * 8192 := Nat.mul_le_mul (by omega) hp
    have hqb : q ≤ 300 := by omega
    have hn : ¬ (e : Int) < 0 := by omega
    rw [hb, ← he]
    generalize (2 + m) * 2 ^ e = v at hmul hmb ⊢
    have hv3 : (1 : Int) + (v : Int) = ((1 + v : Nat) : Int) := by omega
    generalize 1 + v = b at hv3 ⊢
    clear hb he he2 hq hm hp h8
    go_enter Tryd.func14, Tryd.ntmps14
    go_wp2
    refine bodyPost_ret (results_cell_tmp rfl _ _ w.heap.size 37 #[.int .i64 (b : Int), .int .i64 (e : Int)] (0, 0) _ rfl (heap_alloc_new _ _) Tryd.underlying37 rfl infoSy) rfl ?_
    exact ⟨rfl, (Kept.refl _ _).alloc _⟩
def bX (i : Nat) : Nat := if i < 28 then lb i else 258
def eX (i : Nat) : Nat := if i < 28 then le4 i else 0
theorem bX_bd (i : Nat) (h : i ≤ 28) : bX i ≤ 300 ∧ eX i ≤ 13 := by
  unfold bX eX
  by_cases h2 : i < 28
  · rw [if_pos h2, if_pos h2]; have := lb_top i h2; have := Nat.one_le_two_pow (n := le4 i); omega
  · rw [if_neg h2, if_neg h2]; omega
theorem rsymLen_all (i : Nat) (w : World) (hi : i ≤ 28) : Calls Tryd.prog 13 #[.int .i64 ((257 + i : Nat) : Int)] w fun e w' => e = .returned (.tuple #[.agg #[.int .i64 ((bX i : Nat) : Int), .int .i64 ((eX i : Nat) : Int)], .bool true]) ∧ Kept NoB w w' := by
  by_cases h : i < 28
  · have := rsymLen_any i w h
    unfold bX eX
    rw [if_pos h, if_pos h]
    exact this
  · obtain rfl : i = 28 := by omega
    exact rsymLen_last w
set_option maxHeartbeats 4000000 in
theorem rlenSym_any (n : Nat) (w : World) (hn : 3 ≤ n ∧ n ≤ 258) : Calls Tryd.prog 6 #[.int .i64 (n : Int)] w fun e w' => ∃ i, i ≤ 28 ∧ bX i ≤ n ∧ (∀ k, i < k → k ≤ 28 → n < bX k) ∧ e = .returned (.tuple #[.int .i64 ((257 + i : Nat) : Int), .int .i64 ((eX i : Nat) : Int), .int .u32 ((n - bX i : Nat) : Int)]) ∧ Kept NoB w w' := by
  have h1 : ¬ (n : Int) < 3 := by omega
  have h2 : ¬ (258 : Int) < (n : Int) := by omega
  have HX := Lib.hid (fun i W hi => rsymLen_all i W hi)
  have hn2 := hn.2
  have hn1 := hn.1
  clear hn
  go_enter Tryd.func6, Tryd.ntmps6
  go_wp2_with fail
  go_loopw [5, 6, 7] (fun v _a _b wr => ∃ i : Nat, i ≤ 28 ∧ v = .int .i64 ((257 + i : Nat) : Int) ∧ Hid (∀ k, i < k → k ≤ 28 → n < bX k) ∧ Hid (Kept NoB w wr)) (fun v _ _ _ => (intOf v).toNat)
  case atStart => exact ⟨28, by omega, rfl, Lib.hid (fun k h1 h2 => absurd h1 (by omega)), Lib.hid (Kept.refl _ _)⟩
  case round =>
    obtain ⟨i, hi, rfl, HL, HK⟩ := hrel
    obtain ⟨s, hs⟩ : ∃ s, s = 257 + i := ⟨_, rfl⟩
    have hx := fun W => HX.out i W hi
    rw [← hs] at hx ⊢
    have hsb := bX_bd i hi
    obtain ⟨b, hb⟩ : ∃ b, b = bX i := ⟨_, rfl⟩
    obtain ⟨e, he⟩ : ∃ e, e = eX i := ⟨_, rfl⟩
    rw [← hb, ← he] at hx hsb
    have HXi := Lib.hid hx
    have HSs := Lib.hid hs
    have HBb := Lib.hid hb
    have HEe := Lib.hid he
    have hs1 : 257 ≤ s := by omega
    have hs2 : s ≤ 285 := by omega
    have hs3 : (257 : Int) ≤ (s : Int) := by omega
    have hbb := hsb.1
    have heb := hsb.2
    clear hx hs hb he hsb
    by_cases hbn : b ≤ n
    · have hle : (b : Int) ≤ (n : Int) := by omega
      obtain ⟨v, hv⟩ : ∃ v, v = n - b := ⟨_, rfl⟩
      have hsub : (n : Int) - (b : Int) = (v : Int) := by omega
      have hvb : v ≤ 40000 := by omega
      have hu : IntKind.u32.wrap (v : Int) = (v : Int) := IntWalk.u32_in _ (by omega)
      have HV := Lib.hid hv
      have HBn := Lib.hid hbn
      clear hv hbn
      go_wp2_with fail
      refine (HXi.out _).mono ?_
      rintro e1 w1 ⟨rfl, hk⟩
      have HK1 := Lib.hid (HK.out.trans hk)
      clear hk
      obtain ⟨B, hB⟩ : ∃ B, B = w1.heap.size := ⟨_, rfl⟩
      go_upto_region 8 with fail
      rw [← hB]
      obtain ⟨wb, hwb⟩ : ∃ wb, wb = w1.alloc (.cells #[.int .i64 (b : Int), .int .i64 (e : Int)] 37) := ⟨_, rfl⟩
      have hc0 : (w1.alloc (.cells #[.int .i64 (b : Int), .int .i64 (e : Int)] 37)).cell? ⟨B, 0, none⟩ = some (.int .i64 (b : Int)) := by rw [hB]; exact cell_new 0 rfl
      have hc1 : (w1.alloc (.cells #[.int .i64 (b : Int), .int .i64 (e : Int)] 37)).cell? ⟨B, 1, none⟩ = some (.int .i64 (e : Int)) := by rw [hB]; exact cell_new 1 rfl
      have hkb : Kept NoB w (w1.alloc (.cells #[.int .i64 (b : Int), .int .i64 (e : Int)] 37)) := HK1.out.alloc _
      rw [← hwb] at hc0 hc1 hkb ⊢
      have HKb := Lib.hid hkb
      clear hwb hB hkb
      go_quiet (fail)
      go_wp2
      go_ret3
      refine ⟨i, hi, by rw [← HBb.out]; exact HBn.out, HL.out, ?_, HKb.out.drewN _⟩
      rw [← HSs.out, ← HEe.out, ← HBb.out, ← HV.out]
      rfl
    · have hle : ¬ (b : Int) ≤ (n : Int) := by omega
      have hi0 : 0 < i := by
        rcases Nat.eq_zero_or_pos i with rfl | h
        · have h0 : bX 0 = 3 := by decide
          have := HBb.out
          omega
        · exact h
      have hs5 : (s : Int) - 1 = ((257 + (i - 1) : Nat) : Int) := by have := HSs.out; omega
      have HL2 : Hid (∀ k, i - 1 < k → k ≤ 28 → n < bX k) := Lib.hid (fun k h1 h2 => by
        by_cases hk : i < k
        · exact HL.out k hk h2
        · obtain rfl : k = i := by omega
          have := HBb.out
          omega)
      clear hbn
      go_wp2_with fail
      refine (HXi.out _).mono ?_
      rintro e1 w1 ⟨rfl, hk⟩
      have HK1 := Lib.hid (HK.out.trans hk)
      clear hk
      go_wp2
      go_roundw
      case rel => exact ⟨i - 1, by omega, by go_num, HL2, Lib.hid (HK1.out.alloc _)⟩
      case measure => simp [intOf]; omega
set_option maxHeartbeats 4000000 in
theorem rdistSym_any (n : Nat) (w : World) (hn : 1 ≤ n ∧ n ≤ 32768) : Calls Tryd.prog 7 #[.int .i64 (n : Int)] w fun e w' => ∃ i, i ≤ 29 ∧ db i ≤ n ∧ (∀ k, i < k → k ≤ 29 → n < db k) ∧ e = .returned (.tuple #[.int .i64 ((i : Nat) : Int), .int .i64 ((de i : Nat) : Int), .int .u32 ((n - db i : Nat) : Int)]) ∧ Kept NoB w w' := by
  have h1 : ¬ (n : Int) < 1 := by omega
  have h2 : ¬ (32768 : Int) < (n : Int) := by omega
  have HX := Lib.hid (fun i W hi => rsymDist_any i W (by omega))
  have hn2 := hn.2
  have hn1 := hn.1
  clear hn
  go_enter Tryd.func7, Tryd.ntmps7
  go_wp2_with fail
  go_loopw [5, 6, 7] (fun v _a _b wr => ∃ i : Nat, i ≤ 29 ∧ v = .int .i64 ((i : Nat) : Int) ∧ Hid (∀ k, i < k → k ≤ 29 → n < db k) ∧ Hid (Kept NoB w wr)) (fun v _ _ _ => (intOf v + 1).toNat)
  case atStart => exact ⟨29, by omega, rfl, Lib.hid (fun k h1 h2 => absurd h1 (by omega)), Lib.hid (Kept.refl _ _)⟩
  case round =>
    obtain ⟨i, hi, rfl, HL, HK⟩ := hrel
    obtain ⟨s, hs⟩ : ∃ s, s = i := ⟨_, rfl⟩
    have hx := fun W => HX.out i W (by omega)
    have hsb := db_top i (by omega)
    obtain ⟨b, hb⟩ : ∃ b, b = db i := ⟨_, rfl⟩
    obtain ⟨e, he⟩ : ∃ e, e = de i := ⟨_, rfl⟩
    rw [← hb, ← he] at hx hsb
    rw [← hs] at hx ⊢
    have HXi := Lib.hid hx
    have HSs := Lib.hid hs
    have HBb := Lib.hid hb
    have HEe := Lib.hid he
    have hs1 : 0 ≤ (s : Int) := by omega
    have hs2 : s ≤ 29 := by omega
    have hbb : b ≤ 40000 := by have := Nat.one_le_two_pow (n := e); omega
    have heb := hsb.2.2
    clear hx hs hb he hsb
    by_cases hbn : b ≤ n
    · have hle : (b : Int) ≤ (n : Int) := by omega
      obtain ⟨v, hv⟩ : ∃ v, v = n - b := ⟨_, rfl⟩
      have hsub : (n : Int) - (b : Int) = (v : Int) := by omega
      have hvb : v ≤ 40000 := by omega
      have hu : IntKind.u32.wrap (v : Int) = (v : Int) := IntWalk.u32_in _ (by omega)
      have HV := Lib.hid hv
      have HBn := Lib.hid hbn
      clear hv hbn
      go_wp2_with fail
      refine (HXi.out _).mono ?_
      rintro e1 w1 ⟨rfl, hk⟩
      have HK1 := Lib.hid (HK.out.trans hk)
      clear hk
      obtain ⟨B, hB⟩ : ∃ B, B = w1.heap.size := ⟨_, rfl⟩
      go_upto_region 8 with fail
      rw [← hB]
      obtain ⟨wb, hwb⟩ : ∃ wb, wb = w1.alloc (.cells #[.int .i64 (b : Int), .int .i64 (e : Int)] 37) := ⟨_, rfl⟩
      have hc0 : (w1.alloc (.cells #[.int .i64 (b : Int), .int .i64 (e : Int)] 37)).cell? ⟨B, 0, none⟩ = some (.int .i64 (b : Int)) := by rw [hB]; exact cell_new 0 rfl
      have hc1 : (w1.alloc (.cells #[.int .i64 (b : Int), .int .i64 (e : Int)] 37)).cell? ⟨B, 1, none⟩ = some (.int .i64 (e : Int)) := by rw [hB]; exact cell_new 1 rfl
      have hkb : Kept NoB w (w1.alloc (.cells #[.int .i64 (b : Int), .int .i64 (e : Int)] 37)) := HK1.out.alloc _
      rw [← hwb] at hc0 hc1 hkb ⊢
      have HKb := Lib.hid hkb
      clear hwb hB hkb
      go_quiet (fail)
      go_wp2
      go_ret3
      refine ⟨i, hi, by rw [← HBb.out]; exact HBn.out, HL.out, ?_, HKb.out.drewN _⟩
      rw [← HEe.out, ← HBb.out, ← HV.out, ← HSs.out]
      rfl
    · have hle : ¬ (b : Int) ≤ (n : Int) := by omega
      have hi0 : 0 < i := by
        rcases Nat.eq_zero_or_pos i with rfl | h
        · have h0 : db 0 = 1 := by decide
          have := HBb.out
          omega
        · exact h
      have hs5 : (s : Int) - 1 = ((i - 1 : Nat) : Int) := by have := HSs.out; omega
      have HL2 : Hid (∀ k, i - 1 < k → k ≤ 29 → n < db k) := Lib.hid (fun k h1 h2 => by
        by_cases hk : i < k
        · exact HL.out k hk h2
        · obtain rfl : k = i := by omega
          have := HBb.out
          omega)
      clear hbn
      go_wp2_with fail
      refine (HXi.out _).mono ?_
      rintro e1 w1 ⟨rfl, hk⟩
      have HK1 := Lib.hid (HK.out.trans hk)
      clear hk
      go_wp2
      go_roundw
      case rel => exact ⟨i - 1, by omega, by go_num, HL2, Lib.hid (HK1.out.alloc _)⟩
      case measure => simp [intOf]; omega
end Go.Proofs.YthapkciebphhkaaDoor

namespace Go.Proofs.YthapkciebphhkaaDoor
open Go.RowKit
set_option linter.unusedVariables false
set_option linter.unusedSimpArgs false

/-- What the made tokens are: few bytes each, and each may be put behind those ahead. -/
def TameS (ts : List Tk) (n : Nat) : Prop := AllT ts ∧ good 1048576 ts [] ∧ (putAll ts []).length = n ∧ n ≤ 52 * ts.length ∧ (0 < ts.length → 0 < n)
theorem tame_lit (ts : List Tk) (n : Nat) (c : Int) (h : TameS ts n) (hn : n ≤ 100000) (hc : 0 ≤ c ∧ c < 256) : TameS (ts ++ [⟨0, 0, c⟩]) (n + 1) := by
  obtain ⟨h1, h2, h3, h4, h5⟩ := h
  have hok : (Tk.mk 0 0 c).ok = true := by simp [Tk.ok]
  have hno : (Tk.mk 0 0 c).no (putAll ts []).length 1048576 = 0 := by
    unfold Tk.no; rw [if_neg (by rw [hok]; decide), if_neg (by simp only; omega), if_neg (by simp only; rw [h3]; omega)]
  refine ⟨?_, good_snoc _ _ _ _ h2 hno, ?_, by simp; omega, by simp⟩
  · intro t ht
    rcases List.mem_append.1 ht with ht | ht
    · exact h1 t ht
    · simp at ht; subst ht; unfold Tk.wf; simp only; omega
  · rw [putAll_snoc, put_len, h3]; rfl
theorem tame_copy (ts : List Tk) (n L D : Nat) (h : TameS ts n) (hn : n ≤ 100000) (hL : 3 ≤ L ∧ L ≤ 52) (hD : 1 ≤ D ∧ D ≤ n) (hD2 : D ≤ 32768) : TameS (ts ++ [⟨L, D, 0⟩]) (n + L) := by
  obtain ⟨h1, h2, h3, h4, h5⟩ := h
  have hl0 : ¬ ((L : Int) = 0) := by omega
  have hok : (Tk.mk L D 0).ok = true := by
    unfold Tk.ok
    rw [if_neg hl0]
    exact decide_eq_true ⟨(by omega : (3 : Int) ≤ L), (by omega : (L : Int) ≤ 258), (by omega : (1 : Int) ≤ D), (by omega : (D : Int) ≤ 32768), rfl⟩
  have hno : (Tk.mk L D 0).no (putAll ts []).length 1048576 = 0 := by
    unfold Tk.no; rw [if_neg (by rw [hok]; decide), if_neg (by simp only; omega), if_neg (by simp only; rw [h3, if_neg (by omega)]; omega)]
  refine ⟨?_, good_snoc _ _ _ _ h2 hno, ?_, by simp; omega, by simp; omega⟩
  · intro t ht
    rcases List.mem_append.1 ht with ht | ht
    · exact h1 t ht
    · simp at ht; subst ht; unfold Tk.wf; simp only; omega
  · rw [putAll_snoc, put_len, h3, if_neg hl0]; simp
theorem mask3 (n : Int) : bits .and .i64 n 3 = n % 4 := i64_mask n 2 (by decide)

theorem set3 {wr wa : World} {X : Nat} {a b c : Value} (hb : wa.heap[X]? = some (.cells #[a, b, c] 28 (0, 0))) (hk : Kept NoB wr wa) (hX : wr.heap.size ≤ X) (p q r : Value) :
    (((wa.setCell ⟨X, 0, none⟩ p).setCell ⟨X, 1, none⟩ q).setCell ⟨X, 2, none⟩ r).heap[X]? = some (.cells #[p, q, r] 28 (0, 0)) ∧ Kept NoB wr (((wa.setCell ⟨X, 0, none⟩ p).setCell ⟨X, 1, none⟩ q).setCell ⟨X, 2, none⟩ r) := by
  have h1 := obj_set hb 0 p
  have h2 := obj_set h1 1 q
  have h3 := obj_set h2 2 r
  exact ⟨by simpa using h3, Kept.setCell (p := ⟨X, 2, none⟩) (Kept.setCell (p := ⟨X, 1, none⟩) (Kept.setCell (p := ⟨X, 0, none⟩) hk (.inr hX) _) (.inr hX) _) (.inr hX) _⟩
/-- What Tame tells. -/
def Tamed (w : World) (M : Nat) (e : Ending) (w' : World) : Prop :=
  ∃ ao cap ts n, e = .returned (.slice ao ts.length cap) ∧ Hid (Toks w' ao ts) ∧ Hid (TameS ts n) ∧ ts.length ≤ M ∧ ts.length ≤ cap ∧ cap ≤ maxLen ∧ Hid (ao = none → cap = 0) ∧ Hid (Kept NoB w w')

set_option maxRecDepth 100000 in
set_option maxHeartbeats 4000000 in
theorem tame_any (ao : Option Addr) (cap len : Nat) (ts0 : List Tk) (M : Nat) (w : World) (hlen : ts0.length = len) (hr : Toks w ao ts0) (ha : AllT ts0) (hm : len ≤ maxLen) (hM : M ≤ 60) :
    Calls Tryd.prog 4 #[.slice ao len cap, .int .i64 M] w (Tamed w M) := by
  unfold maxLen at hm
  obtain ⟨i0, hi, hz0, hz1, hz2⟩ := info_parts infoT
  have HLen := Lib.hid hlen; have HR := Lib.hid hr; have HA := Lib.hid ha
  clear hlen hr ha
  go_enter Tryd.func4, Tryd.ntmps4
  go_wp2
  go_loopw [5, 6, 7] (fun v nn i wr => ∃ (ts : List Tk) (n : Nat) (ab : Option Addr) (cb : Nat), ts.length ≤ len ∧ ts.length ≤ M ∧ i = .int .i64 ts.length ∧ nn = .int .i64 n ∧ v = .slice ab ts.length cb ∧ Hid (TameS ts n) ∧ Hid (wr.ownsRow 0 28 3 (.slice ab ts.length cb) ts.length (tcells ts)) ∧
    Hid (∀ k, (Value.slice ab ts.length cb).ownBlock = some k → w.heap.size ≤ k) ∧ Hid (Kept NoB w wr)) (fun _ _ i _ => M + 1 - (intOf i).toNat)
  case atStart => exact ⟨[], 0, none, 0, by simp, by simp, rfl, rfl, rfl, ⟨(by intro t ht; cases ht), trivial, rfl, by simp, by simp⟩, World.ownsRow_nil _ _ _ _, (by intro k hk; simp [Value.ownBlock] at hk), Kept.refl _ _⟩
  case round =>
    obtain ⟨ts, n, ab, cb, hj1, hj2, rfl, rfl, rfl, HT, HOwn, HFr, HK⟩ := hrel
    have hn52 := HT.out.2.2.2.1
    obtain ⟨j, hj⟩ : ∃ j, j = ts.length := ⟨_, rfl⟩
    rw [← hj] at hj1 hj2 hn52 HOwn HFr ⊢
    have HJ := Lib.hid hj
    clear hj
    have hcase : ((j : Int) < len ∧ (j : Int) < M) ∨ ¬ (j : Int) < len ∨ ((j : Int) < len ∧ ¬ (j : Int) < M) := by omega
    rcases hcase with ⟨g1, g2⟩ | g1 | ⟨g1, g2⟩
    · obtain ⟨b, off, rfl, c0, c1, c2⟩ := (HR.out.keptNo HK.out) j (by have := HLen.out; omega)
      have hwf := HA.out.getD j
      generalize ts0.getD j ⟨0, 0, 0⟩ = t at c0 c1 c2 hwf
      obtain ⟨l, d, c⟩ := t
      have HWf := Lib.hid hwf
      simp only at c0 c1 c2
      clear hwf
      have hm3 := mask3 l
      have hm255 := mask255 l
      have hm65 := mask65535 d
      obtain ⟨q, hq⟩ : ∃ q : Bool, q = decide (l % 4 = 0 ∨ n = 0) := ⟨_, rfl⟩
      have HQ := Lib.hid hq; clear hq
      go_upto_region 7 with fail
      have hbx := heap_alloc_new wr (.cells #[.int .i64 l, .int .i64 d, .int .u8 c] 28)
      have hkx : Kept NoB wr (wr.alloc (.cells #[.int .i64 l, .int .i64 d, .int .u8 c] 28)) := (Kept.refl _ _).alloc _
      generalize wr.alloc (.cells #[.int .i64 l, .int .i64 d, .int .u8 c] 28) = wa at hbx hkx ⊢
      have e0 : wa.cell? ⟨wr.heap.size, 0, none⟩ = some (.int .i64 l) := by rw [obj_cell hbx 0]; rfl
      have e1 : wa.cell? ⟨wr.heap.size, 1, none⟩ = some (.int .i64 d) := by rw [obj_cell hbx 1]; rfl
      have e2 : wa.cell? ⟨wr.heap.size, 2, none⟩ = some (.int .u8 c) := by rw [obj_cell hbx 2]; rfl
      have f0 : wa.frozen? ⟨wr.heap.size, 0, none⟩ = false := obj_free hbx 0
      have f1 : wa.frozen? ⟨wr.heap.size, 1, none⟩ = false := obj_free hbx 1
      have f2 : wa.frozen? ⟨wr.heap.size, 2, none⟩ = false := obj_free hbx 2
      obtain ⟨X, hX⟩ : ∃ X, X = wr.heap.size := ⟨_, rfl⟩
      rw [← hX] at hbx e0 e1 e2 f0 f1 f2 ⊢
      have HXe := Lib.hid hX; have HBx := Lib.hid hbx; have HKx := Lib.hid hkx
      clear hX hbx hkx c0 c1 c2
      go_cut [31] from 24 to 31 (fun s wx => s = .bool q ∧ wa = wx)
      case first =>
        have hcq : ((l % 4 == 0) = true ∧ q = true) ∨ ((l % 4 == 0) = false ∧ ((n : Int) == 0) = true ∧ q = true) ∨ ((l % 4 == 0) = false ∧ ((n : Int) == 0) = false ∧ q = false) := by
          rw [HQ.out]
          by_cases h1 : l % 4 = 0
          · exact .inl ⟨by simp [h1], by simp [h1]⟩
          · by_cases h2 : n = 0
            · exact .inr (.inl ⟨by simp [h1], by simp [h2], by simp [h2]⟩)
            · exact .inr (.inr ⟨by simp [h1], by simp; omega, by simp [h1, h2]⟩)
        rcases hcq with ⟨k1, rfl⟩ | ⟨k1, k2, rfl⟩ | ⟨k1, k2, rfl⟩
        all_goals
          go_wp2
          go_meet
          exact ⟨rfl, rfl⟩
      case rest =>
      obtain ⟨rfl, hw⟩ := hcut
      subst hw
      go_upto_if 31 with fail
      go_cut [6] from 32 to 52 (fun s wx => ∃ (t' : Tk) (n' : Nat), s = .int .i64 n' ∧ wx.heap[X]? = some (.cells #[.int .i64 t'.l, .int .i64 t'.d, .int .u8 t'.c] 28 (0, 0)) ∧ Kept NoB wr wx ∧ Hid (TameS (ts ++ [t']) n'))
      case first =>
        cases q with
        | true =>
          have hwf := HWf.out
          have hs3 := set3 HBx.out HKx.out (by rw [HXe.out]; exact Nat.le_refl _) (.int .i64 0) (.int .i64 0) (.int .u8 c)
          have HS3 := Lib.hid hs3
          clear hs3 hwf
          go_wp2
          go_meet
          exact ⟨⟨0, 0, c⟩, n + 1, by push_cast; rfl, HS3.out.1, HS3.out.2, tame_lit _ _ _ HT.out (by omega) HWf.out.2.2⟩
        | false =>
          have hqf := of_decide_eq_false HQ.out.symm
          have hl4 : ¬ l % 4 = 0 := fun h => hqf (.inl h)
          have hn0 : ¬ n = 0 := fun h => hqf (.inr h)
          obtain ⟨L, hL⟩ : ∃ L : Nat, (L : Int) = l % 256 % 50 + 3 := ⟨(l % 256 % 50 + 3).toNat, by omega⟩
          have hLb : 3 ≤ L ∧ L ≤ 52 := by omega
          have hr1 := Int.emod_nonneg (d % 65536) (show (n : Int) ≠ 0 by omega)
          have hr2 := Int.emod_lt_of_pos (d % 65536) (show (0 : Int) < (n : Int) by omega)
          obtain ⟨D, hD⟩ : ∃ D : Nat, (D : Int) = d % 65536 % (n : Int) + 1 := ⟨(d % 65536 % (n : Int) + 1).toNat, by omega⟩
          have hDb : 1 ≤ D ∧ D ≤ n := by omega
          have hne : ((n : Int) == 0) = false := by simp; exact hn0
          have hLe : l % 256 % 50 + 3 = (L : Int) := hL.symm
          have hDe : d % 65536 % (n : Int) + 1 = (D : Int) := hD.symm
          have hDw : IntKind.i64.wrap (D : Int) = D := IntWalk.i64_in _ (by omega)
          have hLw : IntKind.i64.wrap (L : Int) = L := IntWalk.i64_in _ (by omega)
          have hDw2 : wrap64 (d % 65536 % (n : Int) + 1) = D := by rw [hDe]; exact IntWalk.wrap64_in _ (by omega)
          clear hqf hl4 hn0 hL hD hr1 hr2
          go_wp2
          go_region
          have hs3 := set3 HBx.out HKx.out (by rw [HXe.out]; exact Nat.le_refl _) (.int .i64 L) (.int .i64 D) (.int .u8 0)
          generalize ((wa.setCell ⟨X, 0, none⟩ (.int .i64 L)).setCell ⟨X, 1, none⟩ (.int .i64 D)).setCell ⟨X, 2, none⟩ (.int .u8 0) = wz at hs3 ⊢
          have e0' : wz.cell? ⟨X, 0, none⟩ = some (.int .i64 L) := by rw [obj_cell hs3.1 0]; rfl
          have HS3 := Lib.hid hs3
          clear hs3 hLe hDe hDw hLw hDw2 hm255 hm65 hm3 e0 e1 e2 f0 f1 f2
          go_wp2
          go_meet
          exact ⟨⟨L, D, 0⟩, n + L, by push_cast; rfl, HS3.out.1, HS3.out.2.drew, tame_copy _ _ _ _ HT.out (by omega) hLb hDb (by omega)⟩
      case rest =>
      obtain ⟨t', n', rfl, hbx, hkx, HT'⟩ := hcut
      obtain ⟨l', d', c'⟩ := t'
      simp only at hbx
      have e0' : wc.cell? ⟨X, 0, none⟩ = some (.int .i64 l') := by rw [obj_cell hbx 0]; rfl
      have e1' : wc.cell? ⟨X, 1, none⟩ = some (.int .i64 d') := by rw [obj_cell hbx 1]; rfl
      have e2' : wc.cell? ⟨X, 2, none⟩ = some (.int .u8 c') := by rw [obj_cell hbx 2]; rfl
      have HKw := Lib.hid (HK.out.trans hkx)
      have HOwn2 : Hid (wc.ownsRow 0 28 3 (.slice ab j cb) j (tcells ts)) := hkx.row HOwn.out (fun _ _ h => h)
      have hnews : ∀ (k : Nat) (u : Value), [Value.int .i64 l', .int .i64 d', .int .u8 c'][k]? = some u → (wc.alloc (.cells #[.int .i64 l', .int .i64 d', .int .u8 c'] 28)).cell? ((⟨wc.heap.size, 0, none⟩ : Addr).add k) = some u := by
        intro k u hk
        rw [addr_add, Nat.zero_add, cell_new k rfl]
        simpa using hk
      have hjb : j ≤ 60 := by omega
      clear hbx hkx hm3 hm255 hm65 e0 e1 e2 f0 f1 f2 HBx HKx HOwn
      go_wp2_with (at_builtin; refine wpList_app _ rfl _ _ 22 rfl 28 i0 (.agg #[.int .i64 0, .int .i64 0, .int .u8 0]) 3 24 Tryd.underlying22 hi hz0 hz1 hz2 rfl (by decide) _ j (tcells ts) rfl (HOwn2.out.alloc _) ⟨wc.heap.size, 0, none⟩ 1 1 [.int .i64 l', .int .i64 d', .int .u8 c'] rfl rfl hnews ?d2 ?d3 ?d4 ?_)
      case d2 => first | rfl | (intro u hu; simp at hu; rcases hu with rfl | rfl | rfl <;> rfl) | (simp [Value.oneCell'])
      case d3 => unfold maxLen; omega
      case d4 => omega
      intro v' w2 hown' hgrow hnew
      obtain ⟨ao2, cap2, rfl⟩ := own_shapeS hown'
      have hx1 : tcells ts ++ [.int .i64 l', .int .i64 d', .int .u8 c'] = tcells (ts ++ [Tk.mk l' d' c']) := (tcells_snoc ts ⟨l', d', c'⟩).symm
      have hx2 : j + 1 = (ts ++ [Tk.mk l' d' c']).length := by rw [HJ.out]; simp
      rw [hx1] at hown'
      have hfr2 : ∀ k, (Value.slice ao2 (j + 1) cap2).ownBlock = some k → w.heap.size ≤ k := by
        intro k hk
        rcases hnew k hk with h | h
        · exact HFr.out k h
        · have := HKw.out.size; first | omega | (simp at h; omega)
      have hk2 : Kept NoB w w2 := (HKw.out.alloc _).grown hgrow (by
        intro k hk e
        have := HFr.out k e
        omega)
      rw [hx2] at hown' hfr2
      have HF1 := Lib.hid hown'; have HF2 := Lib.hid hfr2; have HF3 := Lib.hid hk2; have HX2 := Lib.hid hx2
      clear hown' hfr2 hk2 hgrow hnew hx1 hx2 hnews e0' e1' e2'
      go_wp2
      go_roundw
      case rel => exact ⟨ts ++ [Tk.mk l' d' c'], n', ao2, cap2, by rw [← HX2.out]; omega, by rw [← HX2.out]; omega, by rw [← HX2.out]; go_num, rfl, by rw [← HX2.out], HT', HF1, HF2, HF3⟩
      case measure => simp [intOf]; omega
    · have HE : Hid (Tamed w M (.returned (.slice ab j cb)) wr) := by
        have hown := HOwn.out
        have hc : j ≤ cb ∧ cb ≤ maxLen ∧ (ab = none → cb = 0) := by
          rcases hown.2 with ⟨h1, h2⟩ | ⟨g, c, cur, h1, _, _, h2, h3, _⟩
          · simp at h1; unfold maxLen; exact ⟨by omega, by omega, fun _ => h1.2.2⟩
          · simp at h1; obtain ⟨h4, h5⟩ := h1; subst h5; exact ⟨h2, h3, fun h => by rw [h4] at h; cases h⟩
        have hj := HJ.out
        subst hj
        exact ⟨ab, cb, ts, n, rfl, toks_own hown, HT, hj2, hc.1, hc.2.1, hc.2.2, HK⟩
      go_wp2
      go_ret
      exact HE.out
    · have HE : Hid (Tamed w M (.returned (.slice ab j cb)) wr) := by
        have hown := HOwn.out
        have hc : j ≤ cb ∧ cb ≤ maxLen ∧ (ab = none → cb = 0) := by
          rcases hown.2 with ⟨h1, h2⟩ | ⟨g, c, cur, h1, _, _, h2, h3, _⟩
          · simp at h1; unfold maxLen; exact ⟨by omega, by omega, fun _ => h1.2.2⟩
          · simp at h1; obtain ⟨h4, h5⟩ := h1; subst h5; exact ⟨h2, h3, fun h => by rw [h4] at h; cases h⟩
        have hj := HJ.out
        subst hj
        exact ⟨ab, cb, ts, n, rfl, toks_own hown, HT, hj2, hc.1, hc.2.1, hc.2.2, HK⟩
      go_wp2
      go_ret
      exact HE.out
end Go.Proofs.YthapkciebphhkaaDoor
