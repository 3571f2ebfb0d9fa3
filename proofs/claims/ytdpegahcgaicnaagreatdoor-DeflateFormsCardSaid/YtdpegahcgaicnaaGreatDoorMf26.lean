/-
  What layer 1's statements ask of themselves first: a few bits, put and taken.
  What the document fixes of stage 10: All of nothing at level 0, Most.
  The document's symbols: SymLen, SymDist, LenSym, DistSym.
  A slice of calls (three numbers each) that came in; what was put is there to be taken.
  CRC-32 in numbers: one step, eight, a byte, a row of bytes; sums; no step takes a number to nought but nought. No Go in sight.
  Strings of numbers; the document's own Rev.
-/
import Derived.Test.YtdpegahcgaicnaaGreatDoorMf25
import Derived.Laws.BytesArg
import Derived.Deep.DeepCutAuto
namespace Go.Proofs.YtdpegahcgaicnaaGreatDoor
open Go.RowKit
set_option linter.unusedVariables false

theorem conv_own {w : World} {ao : Option Addr} {n cap : Nat} {xs : List Int} (h : w.ownsRow 0 5 1 (.slice ao n cap) n (xs.map (.int .u8))) (hn : n = xs.length) :
    (convert 22 9 (.slice ao n cap)).run Tryz.prog w = .ok (.string (strOfNums xs)) w := by
  subst hn
  have hr := own_reads h rfl
  cases ao with
  | none =>
    have : xs = [] := hr.1 rfl
    subst this
    exact run_convert_bytes_nil (P := Tryz.prog) w _ 5 Tryz.underlying22 Tryz.underlying5 _ _ _ Tryz.underlying9
  | some a =>
    obtain ⟨g, rfl⟩ : ∃ g, a = ⟨g, 0, none⟩ := by
      rcases h.2 with ⟨hv, _⟩ | ⟨g, c, cur, hv, _⟩
      · simp at hv
      · simp at hv; exact ⟨g, hv.1⟩
    exact run_convert_bytes_arg (P := Tryz.prog) w _ 5 Tryz.underlying22 Tryz.underlying5 g 0 xs.length cap xs rfl (fun i hi => by
      have := hr.2 _ rfl i hi
      rwa [addr_add] at this) _ Tryz.underlying9

theorem num_one (bs : List Int) (h : AllB bs) (hl : bs.length = 1) (x : Nat) (hx : num bs = x) : bs = [(x : Int)] := by
  match bs, hl with
  | [b], _ =>
    have hb := h b (by simp)
    simp [num] at hx
    simp; omega

theorem newr_n (ao : Option Addr) (cap n : Nat) (bs : List Int) (w : World) (hn : bs.length = n) (hr : Reads w ao bs) (hl : bs.length ≤ 140737488355328) (hb : AllB bs) :
    Calls Tryz.prog 104 #[.slice ao n cap] w (NewR w bs) := by
  subst hn; exact newr_any ao cap bs w hr hl hb

end Go.Proofs.YtdpegahcgaicnaaGreatDoor

namespace Go.Proofs.YtdpegahcgaicnaaGreatDoor
open Go.RowKit
set_option linter.unusedVariables false
set_option linter.unusedSimpArgs false
set_option maxRecDepth 20000

set_option maxHeartbeats 2000000 in
theorem concat_no (w : World) : Calls Tryz.prog 47 #[.slice none 0 0] w fun e w' => e = .returned (.slice none 0 0) ∧ Kept NoB w w' := by
  have HG : Hid (∀ W, Calls Tryz.prog 82 #[.slice none 0 0, .int .i64 0] W fun e w' => e = .returned (.slice none 0 0) ∧ Kept NoB W w') := Lib.hid fun W => by
    go_enter Tryz.func82, Tryz.ntmps82
    go_wp2
    go_ret
    exact ⟨rfl, Kept.refl _ _⟩
  go_enter Tryz.func47, Tryz.ntmps47
  go_wp2_with fail
  go_loopw [11, 3, 5] (fun i s _ wr => i = .int .i64 0 ∧ s = .int .i64 0 ∧ w = wr) (fun _ _ _ _ => 0)
  case atStart => exact ⟨rfl, rfl, rfl⟩
  case round =>
    obtain ⟨rfl, rfl, rfl⟩ := hrel
    go_wp2_with fail
    refine (HG.out _).mono ?_
    rintro e w1 ⟨rfl, hk⟩
    have HK := Lib.hid hk
    clear hk
    go_wp2_with fail
    go_loopw [27, 6, 8] (fun i s _ wr => i = .int .i64 0 ∧ s = .slice none 0 0 ∧ w1 = wr) (fun _ _ _ _ => 0)
    case atStart => exact ⟨rfl, rfl, rfl⟩
    case round =>
      obtain ⟨rfl, rfl, rfl⟩ := hrel
      go_wp2
      go_ret
      exact ⟨rfl, HK.out⟩
set_option maxHeartbeats 2000000 in
theorem most0 (w : World) : Calls Tryz.prog 18 #[.int .i64 0] w fun e w' => e = .returned (.int .i64 10) ∧ w = w' := by
  go_enter Tryz.func18, Tryz.ntmps18
  go_wp2
  go_ret
  exact ⟨rfl, rfl⟩
set_option maxHeartbeats 2000000 in
theorem most65536 (w : World) : Calls Tryz.prog 18 #[.int .i64 65536] w fun e w' => e = .returned (.int .i64 65551) ∧ w = w' := by
  go_enter Tryz.func18, Tryz.ntmps18
  go_wp2
  go_ret
  exact ⟨rfl, rfl⟩
set_option maxHeartbeats 2000000 in
/-- Few bytes are stored as one block. -/
theorem storeAll_few (w : World) (R : Nat) (ao : Option Addr) (cap : Nat) (bs : List Int) (s : Nat) (last : Bool) (ba : Option Addr) (bc : Nat) (b : List Int) (h : Wtr w R ao cap bs s) (hs : s ≤ 700000000000) (hr : Reads w ba b) (hb : AllB b) (hl : b.length ≤ 65535)
    (hsep : ∀ a, ba = some a → a.block ≠ R ∧ (Value.slice ao bs.length cap).ownBlock ≠ some a.block) :
    Calls Tryz.prog 48 #[.pointer (some ⟨R, 0, none⟩), .slice ba b.length bc, .bool last] w fun e w' => ∃ ao' cap' bs', e = .returned (.tuple #[]) ∧ WroteP w R (.slice ao bs.length cap) bs s (storedW last (up8 (s + 3) - (s + 3)) b) w' ao' cap' bs' := by
  have HS := Lib.hid (stored_yes w R ao cap bs s last ba bc b h hs hr hb hl hsep)
  obtain ⟨n, hn⟩ : ∃ n, n = b.length := ⟨_, rfl⟩
  rw [← hn] at HS hl ⊢
  clear h hr hb hsep hn
  go_enter Tryz.func48, Tryz.ntmps48
  go_wp2_with fail
  go_loopw [1] (fun v wr => v = .slice ba n bc ∧ w = wr) (fun _ _ => 0)
  case atStart => exact ⟨rfl, rfl⟩
  case round =>
    obtain ⟨rfl, rfl⟩ := hrel
    have hg : ¬ ((65535 : Int) < (n : Int)) := by omega
    go_wp2_with fail
    refine HS.out.mono ?_
    rintro e w1 ⟨ao', cap', bs', rfl, hW⟩
    have HW := Lib.hid hW
    clear hW HS
    go_wp2
    refine bodyPost_end (results_none rfl _ _ _) rfl ?_
    exact ⟨ao', cap', bs', rfl, HW.out⟩
theorem num_inj5 (a b : List Int) (ha : AllB a) (hb : AllB b) (hl : a.length = b.length) (hn : num a = num b) : a = b := by
  induction a generalizing b with
  | nil => cases b with
    | nil => rfl
    | cons => simp at hl
  | cons x t ih =>
    cases b with
    | nil => simp at hl
    | cons y u =>
      have h1 := ha x (by simp)
      have h2 := hb y (by simp)
      simp only [num] at hn
      have : x = y := by omega
      subst this
      rw [ih u (fun z hz => ha z (by simp [hz])) (fun z hz => hb z (by simp [hz])) (by simpa using hl) (by omega)]

theorem nums_stored0 {bs : List Int} (hb : AllB bs) (hl : bs.length = 5) (hn : num bs = putsN (storedW true 5 [])) : bs = [1, 0, 0, 255, 255] :=
  num_inj5 _ _ hb (by unfold AllB; decide) (by rw [hl]; rfl) (by rw [hn]; decide)
theorem nums_fixed0 {bs : List Int} (hb : AllB bs) (hl : bs.length = 2) (hn : num bs = putsN ([(lastN true, 1), (1, 2)] ++ ([] ++ [wordZ fixL 256]))) : bs = [3, 0] :=
  num_inj5 _ _ hb (by unfold AllB; decide) (by rw [hl]; rfl) (by
    have e : wordZ fixL 256 = (0, 7) := by decide +kernel
    rw [hn, e]; decide)
set_option maxHeartbeats 4000000 in
theorem all0_none (w : World) : Calls Tryz.prog 17 #[.int .i64 0, .slice none 0 0] w fun e w' => ∃ ao c, e = .returned (.slice ao 5 c) ∧ Hid ((convert 22 9 (.slice ao 5 c)).run Tryz.prog w' = .ok (.string ⟨#[1, 0, 0, 255, 255]⟩) w') ∧ Kept NoB w w' := by
  have HC := Lib.hid (concat_no w)
  go_enter Tryz.func17, Tryz.ntmps17
  go_wp2_with fail
  refine HC.out.mono ?_
  rintro e w1 ⟨rfl, hk1⟩
  have HN := Lib.hid (neww_any w1)
  have HK1 := Lib.hid hk1
  clear hk1 HC
  go_wp2_with fail
  refine HN.out.mono ?_
  rintro e w2 ⟨R, rfl, hw, hR, hk2⟩
  have HW := Lib.hid hw
  have HR := Lib.hid hR
  have HK2 := Lib.hid (HK1.out.trans hk2)
  clear hw hR hk2 HN
  have hr0 : Reads w2 none ([] : List Int) := ⟨fun _ => rfl, fun a ha => by cases ha⟩
  have HS := Lib.hid (storeAll_few w2 R none 0 [] 0 true none 0 [] HW.out (by omega) hr0 (by intro b hb; cases hb) (by decide) (fun a ha => by cases ha))
  clear hr0
  go_wp2_with fail
  go_loopw [4, 5, 7] (fun _a v _b wr => v = .slice none 0 0 ∧ w2 = wr) (fun _ _ _ _ => 0)
  case atStart => exact ⟨rfl, rfl⟩
  case round =>
    obtain ⟨rfl, rfl⟩ := hrel
    go_wp2_with fail
    refine HS.out.mono ?_
    rintro e w3 ⟨a3, c3, b3, rfl, hW⟩
    have hb3 : b3 = [1, 0, 0, 255, 255] := nums_stored0 hW.1.2.2.1 (by have := hW.1.2.2.2.1; rw [this]; decide) (by have := hW.2.1; rw [this]; simp [num, up8])
    have HB := Lib.hid (wbytes_any w3 R a3 c3 b3 _ hW.1)
    have hk3 : Kept NoB w w3 := HK2.out.own hW.2.2.1 (fun i hi => by
      have h1 := HK1.out.size
      have h2 := HR.out
      rcases hi with e | e
      · unfold OneB at e; omega
      · simp [OwnB, Value.ownBlock] at e)
    have HK3 := Lib.hid hk3
    have HB3 := Lib.hid hb3
    clear hW hb3 hk3 HS
    go_wp2_with fail
    refine HB.out.mono ?_
    rintro e w4 ⟨a4, c4, rfl, ho, _, _, hk4⟩
    have HO := Lib.hid ho
    have HK4 := Lib.hid (HK3.out.trans hk4)
    have hl3 : b3.length = 5 := by rw [HB3.out]; rfl
    clear ho hk4 HB
    go_wp2
    go_ret
    refine ⟨a4, c4, rfl, ?_, HK4.out⟩
    have h := HO.out
    rw [HB3.out] at h
    have h2 := conv_own h rfl
    have e1 : strOfNums [1, 0, 0, 255, 255] = ⟨#[1, 0, 0, 255, 255]⟩ := by decide
    rw [e1] at h2
    exact Lib.hid h2
set_option maxHeartbeats 4000000 in
theorem awake10 (w : World) : Calls Tryz.prog 9 #[] w fun e w' => e = .returned (.bool true) ∧ Kept NoB w w' := by
  have HN := Lib.hid (neww_any w)
  have HA := Lib.hid all0_none
  have HM0 := Lib.hid most0
  have HM1 := Lib.hid most65536
  go_enter Tryz.func9, Tryz.ntmps9
  go_wp2_with fail
  refine HN.out.mono ?_
  rintro e w1 ⟨R, rfl, hw, hR, hk1⟩
  have HR := Lib.hid hR
  have HK1 := Lib.hid hk1
  have HF := Lib.hid (fixedBlock_yes w1 R none 0 [] 0 true none 0 [] hw (by omega) (fun j hj => absurd hj (by simp)) (fun h => absurd rfl h) (by decide) (fun t ht => by cases ht) rfl)
  clear hw hR hk1 HN
  go_wp2_with fail
  refine HF.out.mono ?_
  rintro e w2 ⟨ws, a2, c2, b2, rfl, hws, hW⟩
  obtain rfl : ws = [] := by cases hws; rfl
  have hb2 : b2 = [3, 0] := nums_fixed0 hW.1.2.2.1 (by have := hW.1.2.2.2.1; rw [this]; decide +kernel) (by have := hW.2.1; rw [this]; simp [num])
  have HB2 := Lib.hid hb2
  have hk2 : Kept NoB w w2 := HK1.out.own hW.2.2.1 (fun i hi => by
    have h2 := HR.out
    rcases hi with e | e
    · unfold OneB at e; omega
    · simp [OwnB, Value.ownBlock] at e)
  have HK2 := Lib.hid hk2
  have HW := Lib.hid hW.1
  clear hws hW hb2 hk2 HF
  go_wp2_with fail
  refine (HA.out _).mono ?_
  rintro e w3 ⟨a3, c3, rfl, hcv, hk3⟩
  have HK3 := Lib.hid (HK2.out.trans hk3)
  have HB := Lib.hid (wbytes_any w3 R a2 c2 b2 _ (HW.out.keptNo hk3))
  have hcv : (convert 22 9 (.slice a3 5 c3)).run Tryz.prog w3 = .ok (.string ⟨#[1, 0, 0, 255, 255]⟩) w3 := hcv.out
  clear hk3 HA
  go_wp2_with fail
  refine HB.out.mono ?_
  rintro e w4 ⟨a4, c4, rfl, ho, _, _, hk4⟩
  have hl3 : b2.length = 2 := by rw [HB2.out]; rfl
  have hcw : (convert 22 9 (.slice a4 2 c4)).run Tryz.prog w4 = .ok (.string ⟨#[3, 0]⟩) w4 := by
    rw [HB2.out] at ho
    have h2 := conv_own ho rfl
    have e1 : strOfNums [3, 0] = ⟨#[3, 0]⟩ := by decide
    rw [e1] at h2
    exact h2
  rw [hl3]
  have HK4 := Lib.hid (HK3.out.trans hk4)
  clear ho hk4 HB hcv hl3
  go_wp2_with fail
  refine (HM0.out _).mono ?_
  rintro e w5 ⟨rfl, rfl⟩
  go_wp2_with fail
  refine (HM1.out _).mono ?_
  rintro e w5 ⟨rfl, rfl⟩
  go_wp2
  go_ret
  exact ⟨rfl, HK4.out⟩
end Go.Proofs.YtdpegahcgaicnaaGreatDoor

namespace Go.Proofs.YtdpegahcgaicnaaGreatDoor
open Go.RowKit
set_option linter.unusedVariables false
set_option linter.unusedSimpArgs false
set_option maxRecDepth 20000

theorem infoSy : (Tryz.prog.info? 96).map (·.size) = some 2 := by kernel_rfl
set_option maxHeartbeats 1000000 in
theorem rsymLen_last (w : World) : Calls Tryz.prog 54 #[.int .i64 285] w fun e w' => e = .returned (.tuple #[.agg #[.int .i64 258, .int .i64 0], .bool true]) ∧ Kept NoB w w' := by
  go_enter Tryz.func54, Tryz.ntmps54
  go_wp2
  refine bodyPost_ret (results_cell_tmp rfl _ _ w.heap.size 96 #[.int .i64 258, .int .i64 0] (0, 0) _ rfl (heap_alloc_new _ _) Tryz.underlying96 rfl infoSy) rfl ?_
  exact ⟨rfl, (Kept.refl _ _).alloc _⟩
set_option maxHeartbeats 2000000 in
theorem rsymLen_any (i : Nat) (w : World) (hi : i < 28) : Calls Tryz.prog 54 #[.int .i64 ((257 + i : Nat) : Int)] w fun e w' => e = .returned (.tuple #[.agg #[.int .i64 ((lb i : Nat) : Int), .int .i64 ((le4 i : Nat) : Int)], .bool true]) ∧ Kept NoB w w' := by
  obtain ⟨s, hs⟩ : ∃ s, s = 257 + i := ⟨_, rfl⟩
  rw [← hs]
  have h1 : ¬ (s : Int) < 257 := by omega
  have h2 : ¬ (285 : Int) < (s : Int) := by omega
  have h3 : ((s : Int) == 285) = false := by simp; omega
  have hsb : s ≤ 300 := by omega
  by_cases h8 : i < 8
  · have h4 : (s : Int) < 265 := by omega
    have hb : lb i = 3 + i := by unfold lb gb; rw [if_pos (by omega)]
    have he : le4 i = 0 := by unfold le4 ge; omega
    have h5 : (s : Int) - 254 = ((3 + i : Nat) : Int) := by omega
    rw [hb, he]
    obtain ⟨b, hb2⟩ : ∃ b, b = 3 + i := ⟨_, rfl⟩
    rw [← hb2] at h5 ⊢
    have hbb : b ≤ 300 := by omega
    clear hb he hb2 hs
    go_enter Tryz.func54, Tryz.ntmps54
    go_wp2
    refine bodyPost_ret (results_cell_tmp rfl _ _ w.heap.size 96 #[.int .i64 (b : Int), .int .i64 0] (0, 0) _ rfl (heap_alloc_new _ _) Tryz.underlying96 rfl infoSy) rfl ?_
    exact ⟨rfl, (Kept.refl _ _).alloc _⟩
  · have h4 : ¬ (s : Int) < 265 := by omega
    obtain ⟨q, hq⟩ : ∃ q, q = i - 4 := ⟨_, rfl⟩
    obtain ⟨r, hr⟩ : ∃ r, r = i - 8 := ⟨_, rfl⟩
    have h5 : (s : Int) - 261 = (q : Int) := by omega
    have h6 : (s : Int) - 265 = (r : Int) := by omega
    obtain ⟨e, he⟩ : ∃ e, e = le4 i := ⟨_, rfl⟩
    have he2 : e = i / 4 - 1 := he
    have hdiv : (q : Int) / 4 = (e : Int) := by omega
    obtain ⟨m, hm⟩ : ∃ m, m = i % 4 := ⟨_, rfl⟩
    have hmod : (r : Int) % 4 = (m : Int) := by omega
    have hm4 : m < 4 := by omega
    have hb : lb i = 3 + (4 + m) * 2 ^ e := by unfold lb gb; rw [if_neg (by omega), ← he2, ← hm]
    have he13 : e ≤ 13 := by omega
    have hp : 2 ^ e ≤ 2 ^ 13 := Nat.pow_le_pow_right (by decide) he13
    have hmul : ((4 : Int) + m) * 2 ^ e = (((4 + m) * 2 ^ e : Nat) : Int) := by push_cast; rfl
    have hmb : (4 + m) * 2 ^ e ≤ 8 * 8192 := Nat.mul_le_mul (by omega) hp
    have hqb : q ≤ 300 := by omega
    have hrb : r ≤ 300 := by omega
    have hn : ¬ (e : Int) < 0 := by omega
    rw [hb, ← he]
    generalize (4 + m) * 2 ^ e = v at hmul hmb ⊢
    have hv3 : (3 : Int) + (v : Int) = ((3 + v : Nat) : Int) := by omega
    generalize 3 + v = b at hv3 ⊢
    clear hb he he2 hs hq hr hm hp h8
    go_enter Tryz.func54, Tryz.ntmps54
    go_wp2
    refine bodyPost_ret (results_cell_tmp rfl _ _ w.heap.size 96 #[.int .i64 (b : Int), .int .i64 (e : Int)] (0, 0) _ rfl (heap_alloc_new _ _) Tryz.underlying96 rfl infoSy) rfl ?_
    exact ⟨rfl, (Kept.refl _ _).alloc _⟩
set_option maxHeartbeats 2000000 in
theorem rsymDist_any (i : Nat) (w : World) (hi : i < 30) : Calls Tryz.prog 55 #[.int .i64 (i : Int)] w fun e w' => e = .returned (.tuple #[.agg #[.int .i64 ((db i : Nat) : Int), .int .i64 ((de i : Nat) : Int)], .bool true]) ∧ Kept NoB w w' := by
  have h1 : ¬ (i : Int) < 0 := by omega
  have h2 : ¬ (29 : Int) < (i : Int) := by omega
  by_cases h8 : i < 4
  · have h4 : (i : Int) < 4 := by omega
    have hb : db i = i + 1 := by unfold db gb; rw [if_pos (by omega)]; omega
    have he : de i = 0 := by unfold de ge; omega
    have h5 : (i : Int) + 1 = ((i + 1 : Nat) : Int) := by omega
    rw [hb, he]
    obtain ⟨b, hb2⟩ : ∃ b, b = i + 1 := ⟨_, rfl⟩
    rw [← hb2] at h5 ⊢
    have hbb : b ≤ 300 := by omega
    clear hb he hb2
    go_enter Tryz.func55, Tryz.ntmps55
    go_wp2
    refine bodyPost_ret (results_cell_tmp rfl _ _ w.heap.size 96 #[.int .i64 (b : Int), .int .i64 0] (0, 0) _ rfl (heap_alloc_new _ _) Tryz.underlying96 rfl infoSy) rfl ?_
    exact ⟨rfl, (Kept.refl _ _).alloc _⟩
  · have h4 : ¬ (i : Int) < 4 := by omega
    obtain ⟨q, hq⟩ : ∃ q, q = i - 2 := ⟨_, rfl⟩
    have h5 : (i : Int) - 2 = (q : Int) := by omega
    obtain ⟨e, he⟩ : ∃ e, e = de i := ⟨_, rfl⟩
    have he2 : e = i / 2 - 1 := he
    have hdiv : (q : Int) / 2 = (e : Int) := by omega
    obtain ⟨m, hm⟩ : ∃ m, m = i % 2 := ⟨_, rfl⟩
    have hmod : (i : Int) % 2 = (m : Int) := by omega
    have hm4 : m < 2 := by omega
    have hb : db i = 1 + (2 + m) * 2 ^ e := by unfold db gb; rw [if_neg (by omega), ← he2, ← hm]
    have he13 : e ≤ 13 := by omega
    have hp : 2 ^ e ≤ 2 ^ 13 := Nat.pow_le_pow_right (by decide) he13
    have hmul : ((2 : Int) + m) * 2 ^ e = (((2 + m) * 2 ^ e : Nat) : Int) := by push_cast; rfl
    have hmb : (2 + m) * 2 ^ e ≤ 4 * 8192 := Nat.mul_le_mul (by omega) hp
    have hqb : q ≤ 300 := by omega
    have hn : ¬ (e : Int) < 0 := by omega
    rw [hb, ← he]
    generalize (2 + m) * 2 ^ e = v at hmul hmb ⊢
    have hv3 : (1 : Int) + (v : Int) = ((1 + v : Nat) : Int) := by omega
    generalize 1 + v = b at hv3 ⊢
    clear hb he he2 hq hm hp h8
    go_enter Tryz.func55, Tryz.ntmps55
    go_wp2
    refine bodyPost_ret (results_cell_tmp rfl _ _ w.heap.size 96 #[.int .i64 (b : Int), .int .i64 (e : Int)] (0, 0) _ rfl (heap_alloc_new _ _) Tryz.underlying96 rfl infoSy) rfl ?_
    exact ⟨rfl, (Kept.refl _ _).alloc _⟩
def bX (i : Nat) : Nat := if i < 28 then lb i else 258
def eX (i : Nat) : Nat := if i < 28 then le4 i else 0
theorem bX_bd (i : Nat) (h : i ≤ 28) : bX i ≤ 300 ∧ eX i ≤ 13 := by
  unfold bX eX
  by_cases h2 : i < 28
  · rw [if_pos h2, if_pos h2]; have := lb_top i h2; have := Nat.one_le_two_pow (n := le4 i); omega
  · rw [if_neg h2, if_neg h2]; omega
theorem rsymLen_all (i : Nat) (w : World) (hi : i ≤ 28) : Calls Tryz.prog 54 #[.int .i64 ((257 + i : Nat) : Int)] w fun e w' => e = .returned (.tuple #[.agg #[.int .i64 ((bX i : Nat) : Int), .int .i64 ((eX i : Nat) : Int)], .bool true]) ∧ Kept NoB w w' := by
  by_cases h : i < 28
  · have := rsymLen_any i w h
    unfold bX eX
    rw [if_pos h, if_pos h]
    exact this
  · obtain rfl : i = 28 := by omega
    exact rsymLen_last w
set_option maxHeartbeats 4000000 in
theorem rlenSym_any (n : Nat) (w : World) (hn : 3 ≤ n ∧ n ≤ 258) : Calls Tryz.prog 27 #[.int .i64 (n : Int)] w fun e w' => ∃ i, i ≤ 28 ∧ bX i ≤ n ∧ (∀ k, i < k → k ≤ 28 → n < bX k) ∧ e = .returned (.tuple #[.int .i64 ((257 + i : Nat) : Int), .int .i64 ((eX i : Nat) : Int), .int .u32 ((n - bX i : Nat) : Int)]) ∧ Kept NoB w w' := by
  have h1 : ¬ (n : Int) < 3 := by omega
  have h2 : ¬ (258 : Int) < (n : Int) := by omega
  have HX := Lib.hid (fun i W hi => rsymLen_all i W hi)
  have hn2 := hn.2
  have hn1 := hn.1
  clear hn
  go_enter Tryz.func27, Tryz.ntmps27
  go_wp2_with fail
  go_loopw [5, 6, 7] (fun v _a _b wr => ∃ i : Nat, i ≤ 28 ∧ v = .int .i64 ((257 + i : Nat) : Int) ∧ Hid (∀ k, i < k → k ≤ 28 → n < bX k) ∧ Hid (Kept NoB w wr)) (fun v _ _ _ => (intOf v).toNat)
  case atStart => exact ⟨28, by omega, rfl, Lib.hid (fun k h1 h2 => absurd h1 (by omega)), Lib.hid (Kept.refl _ _)⟩
  case round =>
    obtain ⟨i, hi, rfl, HL, HK⟩ := hrel
    obtain ⟨s, hs⟩ : ∃ s, s = 257 + i := ⟨_, rfl⟩
    have hx := fun W => HX.out i W hi
    rw [← hs] at hx ⊢
    have hsb := bX_bd i hi
    obtain ⟨b, hb⟩ : ∃ b, b = bX i := ⟨_, rfl⟩
    obtain ⟨e, he⟩ : ∃ e, e = eX i := ⟨_, rfl⟩
    rw [← hb, ← he] at hx hsb
    have HXi := Lib.hid hx
    have HSs := Lib.hid hs
    have HBb := Lib.hid hb
    have HEe := Lib.hid he
    have hs1 : 257 ≤ s := by omega
    have hs2 : s ≤ 285 := by omega
    have hs3 : (257 : Int) ≤ (s : Int) := by omega
    have hbb := hsb.1
    have heb := hsb.2
    clear hx hs hb he hsb
    by_cases hbn : b ≤ n
    · have hle : (b : Int) ≤ (n : Int) := by omega
      obtain ⟨v, hv⟩ : ∃ v, v = n - b := ⟨_, rfl⟩
      have hsub : (n : Int) - (b : Int) = (v : Int) := by omega
      have hvb : v ≤ 40000 := by omega
      have hu : IntKind.u32.wrap (v : Int) = (v : Int) := IntWalk.u32_in _ (by omega)
      have HV := Lib.hid hv
      have HBn := Lib.hid hbn
      clear hv hbn
      go_wp2_with fail
      refine (HXi.out _).mono ?_
      rintro e1 w1 ⟨rfl, hk⟩
      have HK1 := Lib.hid (HK.out.trans hk)
      clear hk
      obtain ⟨B, hB⟩ : ∃ B, B = w1.heap.size := ⟨_, rfl⟩
      go_upto_region 8 with fail
      rw [← hB]
      obtain ⟨wb, hwb⟩ : ∃ wb, wb = w1.alloc (.cells #[.int .i64 (b : Int), .int .i64 (e : Int)] 96) := ⟨_, rfl⟩
      have hc0 : (w1.alloc (.cells #[.int .i64 (b : Int), .int .i64 (e : Int)] 96)).cell? ⟨B, 0, none⟩ = some (.int .i64 (b : Int)) := by rw [hB]; exact cell_new 0 rfl
      have hc1 : (w1.alloc (.cells #[.int .i64 (b : Int), .int .i64 (e : Int)] 96)).cell? ⟨B, 1, none⟩ = some (.int .i64 (e : Int)) := by rw [hB]; exact cell_new 1 rfl
      have hkb : Kept NoB w (w1.alloc (.cells #[.int .i64 (b : Int), .int .i64 (e : Int)] 96)) := HK1.out.alloc _
      rw [← hwb] at hc0 hc1 hkb ⊢
      have HKb := Lib.hid hkb
      clear hwb hB hkb
      go_quiet (fail)
      go_wp2
      go_ret3
      refine ⟨i, hi, by rw [← HBb.out]; exact HBn.out, HL.out, ?_, HKb.out.drewN _⟩
      rw [← HSs.out, ← HEe.out, ← HBb.out, ← HV.out]
      rfl
    · have hle : ¬ (b : Int) ≤ (n : Int) := by omega
      have hi0 : 0 < i := by
        rcases Nat.eq_zero_or_pos i with rfl | h
        · have h0 : bX 0 = 3 := by decide
          have := HBb.out
          omega
        · exact h
      have hs5 : (s : Int) - 1 = ((257 + (i - 1) : Nat) : Int) := by have := HSs.out; omega
      have HL2 : Hid (∀ k, i - 1 < k → k ≤ 28 → n < bX k) := Lib.hid (fun k h1 h2 => by
        by_cases hk : i < k
        · exact HL.out k hk h2
        · obtain rfl : k = i := by omega
          have := HBb.out
          omega)
      clear hbn
      go_wp2_with fail
      refine (HXi.out _).mono ?_
      rintro e1 w1 ⟨rfl, hk⟩
      have HK1 := Lib.hid (HK.out.trans hk)
      clear hk
      go_wp2
      go_roundw
      case rel => exact ⟨i - 1, by omega, by go_num, HL2, Lib.hid (HK1.out.alloc _)⟩
      case measure => simp [intOf]; omega
set_option maxHeartbeats 4000000 in
theorem rdistSym_any (n : Nat) (w : World) (hn : 1 ≤ n ∧ n ≤ 32768) : Calls Tryz.prog 28 #[.int .i64 (n : Int)] w fun e w' => ∃ i, i ≤ 29 ∧ db i ≤ n ∧ (∀ k, i < k → k ≤ 29 → n < db k) ∧ e = .returned (.tuple #[.int .i64 ((i : Nat) : Int), .int .i64 ((de i : Nat) : Int), .int .u32 ((n - db i : Nat) : Int)]) ∧ Kept NoB w w' := by
  have h1 : ¬ (n : Int) < 1 := by omega
  have h2 : ¬ (32768 : Int) < (n : Int) := by omega
  have HX := Lib.hid (fun i W hi => rsymDist_any i W (by omega))
  have hn2 := hn.2
  have hn1 := hn.1
  clear hn
  go_enter Tryz.func28, Tryz.ntmps28
  go_wp2_with fail
  go_loopw [5, 6, 7] (fun v _a _b wr => ∃ i : Nat, i ≤ 29 ∧ v = .int .i64 ((i : Nat) : Int) ∧ Hid (∀ k, i < k → k ≤ 29 → n < db k) ∧ Hid (Kept NoB w wr)) (fun v _ _ _ => (intOf v + 1).toNat)
  case atStart => exact ⟨29, by omega, rfl, Lib.hid (fun k h1 h2 => absurd h1 (by omega)), Lib.hid (Kept.refl _ _)⟩
  case round =>
    obtain ⟨i, hi, rfl, HL, HK⟩ := hrel
    obtain ⟨s, hs⟩ : ∃ s, s = i := ⟨_, rfl⟩
    have hx := fun W => HX.out i W (by omega)
    have hsb := db_top i (by omega)
    obtain ⟨b, hb⟩ : ∃ b, b = db i := ⟨_, rfl⟩
    obtain ⟨e, he⟩ : ∃ e, e = de i := ⟨_, rfl⟩
    rw [← hb, ← he] at hx hsb
    rw [← hs] at hx ⊢
    have HXi := Lib.hid hx
    have HSs := Lib.hid hs
    have HBb := Lib.hid hb
    have HEe := Lib.hid he
    have hs1 : 0 ≤ (s : Int) := by omega
    have hs2 : s ≤ 29 := by omega
    have hbb : b ≤ 40000 := by have := Nat.one_le_two_pow (n := e); omega
    have heb := hsb.2.2
    clear hx hs hb he hsb
    by_cases hbn : b ≤ n
    · have hle : (b : Int) ≤ (n : Int) := by omega
      obtain ⟨v, hv⟩ : ∃ v, v = n - b := ⟨_, rfl⟩
      have hsub : (n : Int) - (b : Int) = (v : Int) := by omega
      have hvb : v ≤ 40000 := by omega
      have hu : IntKind.u32.wrap (v : Int) = (v : Int) := IntWalk.u32_in _ (by omega)
      have HV := Lib.hid hv
      have HBn := Lib.hid hbn
      clear hv hbn
      go_wp2_with fail
      refine (HXi.out _).mono ?_
      rintro e1 w1 ⟨rfl, hk⟩
      have HK1 := Lib.hid (HK.out.trans hk)
      clear hk
      obtain ⟨B, hB⟩ : ∃ B, B = w1.heap.size := ⟨_, rfl⟩
      go_upto_region 8 with fail
      rw [← hB]
      obtain ⟨wb, hwb⟩ : ∃ wb, wb = w1.alloc (.cells #[.int .i64 (b : Int), .int .i64 (e : Int)] 96) := ⟨_, rfl⟩
      have hc0 : (w1.alloc (.cells #[.int .i64 (b : Int), .int .i64 (e : Int)] 96)).cell? ⟨B, 0, none⟩ = some (.int .i64 (b : Int)) := by rw [hB]; exact cell_new 0 rfl
      have hc1 : (w1.alloc (.cells #[.int .i64 (b : Int), .int .i64 (e : Int)] 96)).cell? ⟨B, 1, none⟩ = some (.int .i64 (e : Int)) := by rw [hB]; exact cell_new 1 rfl
      have hkb : Kept NoB w (w1.alloc (.cells #[.int .i64 (b : Int), .int .i64 (e : Int)] 96)) := HK1.out.alloc _
      rw [← hwb] at hc0 hc1 hkb ⊢
      have HKb := Lib.hid hkb
      clear hwb hB hkb
      go_quiet (fail)
      go_wp2
      go_ret3
      refine ⟨i, hi, by rw [← HBb.out]; exact HBn.out, HL.out, ?_, HKb.out.drewN _⟩
      rw [← HEe.out, ← HBb.out, ← HV.out, ← HSs.out]
      rfl
    · have hle : ¬ (b : Int) ≤ (n : Int) := by omega
      have hi0 : 0 < i := by
        rcases Nat.eq_zero_or_pos i with rfl | h
        · have h0 : db 0 = 1 := by decide
          have := HBb.out
          omega
        · exact h
      have hs5 : (s : Int) - 1 = ((i - 1 : Nat) : Int) := by have := HSs.out; omega
      have HL2 : Hid (∀ k, i - 1 < k → k ≤ 29 → n < db k) := Lib.hid (fun k h1 h2 => by
        by_cases hk : i < k
        · exact HL.out k hk h2
        · obtain rfl : k = i := by omega
          have := HBb.out
          omega)
      clear hbn
      go_wp2_with fail
      refine (HXi.out _).mono ?_
      rintro e1 w1 ⟨rfl, hk⟩
      have HK1 := Lib.hid (HK.out.trans hk)
      clear hk
      go_wp2
      go_roundw
      case rel => exact ⟨i - 1, by omega, by go_num, HL2, Lib.hid (HK1.out.alloc _)⟩
      case measure => simp [intOf]; omega
end Go.Proofs.YtdpegahcgaicnaaGreatDoor

namespace Go.Proofs.YtdpegahcgaicnaaGreatDoor
open Go.RowKit
set_option linter.unusedVariables false

/-- The calls, each with its three numbers; where they lie. -/
def OpsAt (w : World) (ao : Option Addr) (len : Nat) (kd nn vv : Nat → Int) : Prop :=
  (ao = none → len = 0) ∧ ∀ b off, ao = some ⟨b, off, none⟩ → ∀ i, i < len →
    w.cell? ⟨b, off + i * 3, none⟩ = some (.int .i64 (kd i)) ∧ w.cell? ⟨b, off + i * 3 + 1, none⟩ = some (.int .i64 (nn i)) ∧ w.cell? ⟨b, off + i * 3 + 2, none⟩ = some (.int .u32 (vv i))

theorem choose3 {P : Nat → Int → Int → Int → Prop} (h : ∀ i, ∃ a b c, P i a b c) : ∃ f g k : Nat → Int, ∀ i, P i (f i) (g i) (k i) :=
  ⟨fun i => (h i).choose, fun i => (h i).choose_spec.choose, fun i => (h i).choose_spec.choose_spec.choose, fun i => (h i).choose_spec.choose_spec.choose_spec⟩

theorem OpsAt.below {w w' : World} {ao : Option Addr} {len : Nat} {kd nn vv : Nat → Int} (h : OpsAt w ao len kd nn vv) (hb : Below w.heap.size w w') : OpsAt w' ao len kd nn vv := by
  refine ⟨h.1, fun b off he i hi => ?_⟩
  obtain ⟨h1, h2, h3⟩ := h.2 b off he i hi
  have hlt := World.block_lt_of_cell? w _ h1
  exact ⟨(hb.cell hlt).trans h1, (hb.cell (p := ⟨b, off + i * 3 + 1, none⟩) hlt).trans h2, (hb.cell (p := ⟨b, off + i * 3 + 2, none⟩) hlt).trans h3⟩

/-- Where each number begins, when numbers of these widths are put one behind the other; the number that all of them make. -/
def posOf (n : Nat → Nat) : Nat → Nat
  | 0 => 0
  | i + 1 => posOf n i + n i
def allOf (n x : Nat → Nat) : Nat → Nat
  | 0 => 0
  | i + 1 => allOf n x i + x i % 2 ^ n i * 2 ^ posOf n i
theorem posOf_le (n : Nat → Nat) (i k : Nat) (h : i ≤ k) : posOf n i ≤ posOf n k := by
  induction k with
  | zero => have : i = 0 := by omega
            subst this; exact Nat.le_refl _
  | succ k ih =>
    by_cases hk : i = k + 1
    · subst hk; exact Nat.le_refl _
    · have := ih (by omega); simp only [posOf]; omega
theorem posOf_bd (n : Nat → Nat) (hn : ∀ i, n i ≤ 32) (k : Nat) : posOf n k ≤ 32 * k := by
  induction k with
  | zero => simp [posOf]
  | succ k ih => have := hn k; simp only [posOf]; omega
theorem allOf_lt (n x : Nat → Nat) (k : Nat) : allOf n x k < 2 ^ posOf n k := by
  induction k with
  | zero => simp [allOf, posOf]
  | succ k ih =>
    have h : x k % 2 ^ n k < 2 ^ n k := Nat.mod_lt _ (Nat.pow_pos (by decide))
    simp only [allOf, posOf, Nat.pow_add]
    have : (x k % 2 ^ n k + 1) * 2 ^ posOf n k ≤ 2 ^ n k * 2 ^ posOf n k := Nat.mul_le_mul_right _ (by omega)
    rw [Nat.add_mul, Nat.mul_comm (2 ^ n k)] at this
    omega
theorem allOf_split (n x : Nat → Nat) (i k : Nat) (h : i < k) : ∃ r, allOf n x k = allOf n x i + (x i % 2 ^ n i + r * 2 ^ n i) * 2 ^ posOf n i := by
  induction k with
  | zero => omega
  | succ k ih =>
    by_cases hk : i = k
    · subst hk; exact ⟨0, by simp [allOf]⟩
    · obtain ⟨r, hr⟩ := ih (by omega)
      have hp : posOf n (i + 1) ≤ posOf n k := posOf_le n (i + 1) k (by omega)
      obtain ⟨d, hd⟩ : ∃ d, posOf n k = posOf n (i + 1) + d := ⟨_, (Nat.add_sub_cancel' hp).symm⟩
      refine ⟨r + x k % 2 ^ n k * 2 ^ d, ?_⟩
      simp only [allOf, hr, hd, posOf, Nat.pow_add]
      rw [Nat.add_mul, Nat.add_mul, Nat.add_mul, Nat.add_mul]
      have : x k % 2 ^ n k * (2 ^ posOf n i * 2 ^ n i * 2 ^ d) = x k % 2 ^ n k * 2 ^ d * 2 ^ n i * 2 ^ posOf n i := by
        rw [Nat.mul_comm (2 ^ posOf n i) (2 ^ n i), Nat.mul_assoc (2 ^ n i), Nat.mul_comm (2 ^ posOf n i) (2 ^ d), ← Nat.mul_assoc, ← Nat.mul_assoc, Nat.mul_assoc (x k % 2 ^ n k), Nat.mul_comm (2 ^ n i) (2 ^ d), ← Nat.mul_assoc]
      omega
theorem allOf_take (n x : Nat → Nat) (i k : Nat) (h : i < k) : allOf n x k / 2 ^ posOf n i % 2 ^ n i = x i % 2 ^ n i := by
  obtain ⟨r, hr⟩ := allOf_split n x i k h
  rw [hr, Nat.add_mul_div_right _ _ (Nat.pow_pos (by decide)), Nat.div_eq_of_lt (allOf_lt n x i), Nat.zero_add, Nat.add_mul_mod_self_right, Nat.mod_mod]

set_option maxHeartbeats 1000000 in
theorem rev_all (v n : Nat) (w : World) (hv : v < 4294967296) (hn : n ≤ 32) : Calls Tryz.prog 95 #[.int .u32 v, .int .i64 n] w fun e w' => e = .returned (.int .u32 (revN n v : Nat)) ∧ w = w' := by
  by_cases h0 : n = 0
  · subst h0
    exact (rev_no (v : Int) ((0 : Nat) : Int) w (.inl (by decide))).mono fun _ _ h => ⟨by rw [h.1]; rfl, h.2⟩
  · exact rev_any v n w hv hn (by omega)
end Go.Proofs.YtdpegahcgaicnaaGreatDoor

namespace Go.Proofs.YtdpegahcgaicnaaGreatDoor

def poly : Nat := 3988292384
def step1 (r : Nat) : Nat := if r % 2 = 1 then r / 2 ^^^ poly else r / 2
def steps : Nat → Nat → Nat
  | 0, r => r
  | n + 1, r => step1 (steps n r)
def upd (r b : Nat) : Nat := r / 256 ^^^ steps 8 (r % 256 ^^^ b)
def flip (c : Nat) : Nat := 4294967295 - c
def regOf (r : Nat) (bs : List Nat) : Nat := bs.foldl upd r
def crcOf (c : Nat) (bs : List Nat) : Nat := flip (regOf (flip c) bs)

theorem poly_lt : poly < 4294967296 := by decide
theorem step1_lt (r : Nat) (h : r < 4294967296) : step1 r < 4294967296 := by
  unfold step1
  split
  · exact Nat.xor_lt_two_pow (n := 32) (by omega) poly_lt
  · omega
theorem steps_lt (n r : Nat) (h : r < 4294967296) : steps n r < 4294967296 := by
  induction n with
  | zero => exact h
  | succ n ih => exact step1_lt _ ih
theorem xor_div2 (a b : Nat) : (a ^^^ b) / 2 = a / 2 ^^^ b / 2 := by
  have := Nat.shiftRight_xor_distrib (a := a) (b := b) (i := 1)
  simpa [Nat.shiftRight_eq_div_pow] using this
theorem xor_div256 (a b : Nat) : (a ^^^ b) / 256 = a / 256 ^^^ b / 256 := by
  have := Nat.shiftRight_xor_distrib (a := a) (b := b) (i := 8)
  simpa [Nat.shiftRight_eq_div_pow] using this
theorem xor_mod2 (a b : Nat) : (a ^^^ b) % 2 = (a % 2 + b % 2) % 2 := by
  have h := Nat.testBit_xor a b 0
  simp only [Nat.testBit_zero] at h
  rcases Nat.mod_two_eq_zero_or_one a with ha | ha <;> rcases Nat.mod_two_eq_zero_or_one b with hb | hb <;> rcases Nat.mod_two_eq_zero_or_one (a ^^^ b) with hc | hc <;> simp [ha, hb, hc] at h ⊢
theorem xor_mod256 (a b : Nat) : (a ^^^ b) % 256 = a % 256 ^^^ b % 256 := Nat.xor_mod_two_pow (n := 8)
theorem step1_xor (a b : Nat) : step1 (a ^^^ b) = step1 a ^^^ step1 b := by
  unfold step1
  rw [xor_mod2, xor_div2]
  rcases Nat.mod_two_eq_zero_or_one a with ha | ha <;> rcases Nat.mod_two_eq_zero_or_one b with hb | hb <;> simp only [ha, hb]
  · simp
  · simp [Nat.xor_assoc]
  · simp only [if_true, Nat.zero_ne_one, if_false]
    rw [Nat.xor_assoc, Nat.xor_comm (b / 2) poly, ← Nat.xor_assoc]
  · simp only [if_true]
    have : ∀ x y p : Nat, x ^^^ p ^^^ (y ^^^ p) = x ^^^ y := by
      intro x y p
      rw [Nat.xor_assoc, ← Nat.xor_assoc p y p, Nat.xor_comm p y, Nat.xor_assoc y p p, Nat.xor_self, Nat.xor_zero]
    rw [this]; simp
theorem steps_xor (n a b : Nat) : steps n (a ^^^ b) = steps n a ^^^ steps n b := by
  induction n with
  | zero => rfl
  | succ n ih => simp only [steps, ih, step1_xor]
theorem xor4 (a b c d : Nat) : a ^^^ b ^^^ (c ^^^ d) = a ^^^ c ^^^ (b ^^^ d) := by
  rw [Nat.xor_assoc, ← Nat.xor_assoc b c d, Nat.xor_comm b c, Nat.xor_assoc c b d, ← Nat.xor_assoc]
theorem upd_xor (r s x y : Nat) : upd (r ^^^ s) (x ^^^ y) = upd r x ^^^ upd s y := by
  unfold upd
  rw [xor_div256, xor_mod256, xor4 (r % 256), steps_xor, xor4]
theorem upd_lt (r b : Nat) (hr : r < 4294967296) (hb : b < 256) : upd r b < 4294967296 := by
  unfold upd
  have h1 : r % 256 ^^^ b < 256 := Nat.xor_lt_two_pow (n := 8) (Nat.mod_lt _ (by decide)) hb
  exact Nat.xor_lt_two_pow (n := 32) (by omega) (steps_lt 8 _ (by omega))
theorem regOf_lt (bs : List Nat) (r : Nat) (hr : r < 4294967296) (hb : ∀ b ∈ bs, b < 256) : regOf r bs < 4294967296 := by
  induction bs generalizing r with
  | nil => exact hr
  | cons b t ih => exact ih (upd r b) (upd_lt r b hr (hb b (by simp))) (fun x hx => hb x (by simp [hx]))
theorem regOf_append (r : Nat) (a b : List Nat) : regOf r (a ++ b) = regOf (regOf r a) b := List.foldl_append
theorem flip_flip (c : Nat) (h : c < 4294967296) : flip (flip c) = c := by unfold flip; omega
theorem flip_lt (c : Nat) : flip c < 4294967296 := by unfold flip; omega
theorem crcOf_lt (c : Nat) (bs : List Nat) : crcOf c bs < 4294967296 := flip_lt _
theorem crcOf_append (c : Nat) (a b : List Nat) (ha : ∀ x ∈ a, x < 256) : crcOf c (a ++ b) = crcOf (crcOf c a) b := by
  unfold crcOf
  rw [regOf_append, flip_flip _ (regOf_lt a _ (flip_lt _) ha)]
theorem crcOf_nil (c : Nat) (h : c < 4294967296) : crcOf c [] = c := flip_flip c h

/-- Eight steps of a number are those of its lowest byte, and the rest moved down. -/
theorem steps_even (n y : Nat) : steps n (y * 2 ^ n) = y := by
  induction n generalizing y with
  | zero => simp [steps]
  | succ n ih =>
    have : y * 2 ^ (n + 1) = (y * 2) * 2 ^ n := by rw [Nat.pow_succ, Nat.mul_comm (2 ^ n) 2, Nat.mul_assoc]
    simp only [steps, this, ih, step1]
    simp
theorem steps8 (x : Nat) : steps 8 x = x / 256 ^^^ steps 8 (x % 256) := by
  have h : x = x / 256 * 2 ^ 8 ^^^ x % 256 := by
    have h2 := Nat.two_pow_add_eq_or_of_lt (i := 8) (b := x % 256) (Nat.mod_lt _ (by decide)) (x / 256)
    have h3 : 2 ^ 8 * (x / 256) ^^^ x % 256 = 2 ^ 8 * (x / 256) + x % 256 := by
      apply Nat.eq_of_testBit_eq
      intro i
      rw [Nat.testBit_xor, Nat.testBit_two_pow_mul_add _ (Nat.mod_lt _ (by decide)), Nat.testBit_two_pow_mul]
      by_cases hi : i < 8
      · have : ¬ i ≥ 8 := by omega
        simp [hi, this]
      · have h5 : (x % 256).testBit i = false := Nat.testBit_lt_two_pow (Nat.lt_of_lt_of_le (Nat.mod_lt x (show 0 < 256 by decide)) (Nat.pow_le_pow_right (n := 2) (i := 8) (by decide) (by omega)))
        have : i ≥ 8 := by omega
        simp [hi, this, h5]
    rw [Nat.mul_comm, h3]
    omega
  conv => lhs; rw [h]
  rw [steps_xor, steps_even]
theorem upd_steps (r b : Nat) (hb : b < 256) : upd r b = steps 8 (r ^^^ b) := by
  rw [steps8 (r ^^^ b), xor_div256, xor_mod256, Nat.div_eq_of_lt hb, Nat.mod_eq_of_lt hb, Nat.xor_zero]
  rfl
end Go.Proofs.YtdpegahcgaicnaaGreatDoor

namespace Go.Proofs.YtdpegahcgaicnaaGreatDoor
open Go.RowKit
set_option linter.unusedVariables false

def nats (bs : List Int) : List Nat := bs.map Int.toNat
theorem and1_u32 (r : Nat) (h : r < 4294967296) : bits .and .u32 (r : Int) 1 = ((r % 2 : Nat) : Int) := by
  have := u32_and_nat r 1 h (by decide)
  rw [nat_mask1] at this
  exact this
def bytesOf (s : ByteArray) : List Nat := s.data.toList.map UInt8.toNat
theorem bytesOf_lt (s : ByteArray) : ∀ x ∈ bytesOf s, x < 256 := by
  intro x hx
  obtain ⟨b, _, rfl⟩ := List.mem_map.1 hx
  exact b.toNat_lt
theorem bytesOf_nums (bs : List Int) (h : AllB bs) : bytesOf (strOfNums bs) = nats bs := by
  unfold bytesOf nats
  rw [strOfNums_data, List.map_map]
  apply List.map_congr_left
  intro b hb
  have := h b hb
  simp
  omega
theorem shl1_or (o b : Nat) (ho : o < 2147483648) (hb : b < 2) : bits .or .u32 ((o : Int) * 2 % 4294967296) (b : Int) = ((2 * o + b : Nat) : Int) := by
  have e : ((o : Int) * 2 % 4294967296) = ((o * 2 : Nat) : Int) := by omega
  rw [e, u32_or_nat _ _ (by omega) (by omega), Nat.or_comm, show o * 2 = o * 2 ^ 1 from by omega, or_shift b o 1 (by omega)]
  congr 1; omega

set_option maxHeartbeats 2000000 in
theorem refRev_any (v n : Nat) (w : World) (hv : v < 4294967296) (hn : n ≤ 32) :
    Calls Tryz.prog 53 #[.int .u32 v, .int .i64 n] w fun e w' => e = .returned (.int .u32 (revN n v : Nat)) ∧ w = w' := by
  go_enter Tryz.func53, Tryz.ntmps53
  go_wp2
  go_loop [5, 6] (fun o i => ∃ k : Nat, k ≤ n ∧ i = .int .i64 k ∧ o = .int .u32 (revN k v : Nat)) (fun _ i => n - (intOf i).toNat)
  case atStart => exact ⟨0, by omega, rfl, rfl⟩
  case round =>
    obtain ⟨k, hk, rfl, rfl⟩ := hrel
    by_cases hlt : k < n
    · have ho : revN k v < 2147483648 := Nat.lt_of_lt_of_le (revN_lt k v) (show 2 ^ k ≤ 2 ^ 31 from pow_le_pow2 (by omega))
      have HS : Hid (revN (k + 1) v = 2 * revN k v + v / 2 ^ k % 2) := rfl
      generalize revN k v = o at ho HS ⊢
      obtain ⟨b, hb⟩ : ∃ b, b = v / 2 ^ k % 2 := ⟨_, rfl⟩
      have hb2 : b < 2 := by omega
      have hv2 : v / 2 ^ k < 4294967296 := Nat.lt_of_le_of_lt (Nat.div_le_self _ _) hv
      have hbit : bits .and .u32 ((v : Int) / 2 ^ k) 1 = b := by
        have := and1_u32 (v / 2 ^ k) hv2
        rw [← hb] at this
        rw [← this]; push_cast; rfl
      have hor := shl1_or o b ho hb2
      have HB := Lib.hid hb; clear hb hv2 ho
      generalize hx : 2 * o + b = x at hor
      have HX := Lib.hid hx; clear hx
      go_wp2
      go_round
      case rel => exact ⟨k + 1, by omega, by go_num, by rw [HS.out, ← HB.out, HX.out]⟩
      case measure => simp [intOf]; omega
    · have hkn : k = n := by omega
      subst hkn
      go_wp2
      go_ret
      exact ⟨rfl, rfl⟩
theorem refRev_no (v : Nat) (n : Int) (w : World) (hn : n < 0 ∨ 32 < n) :
    Calls Tryz.prog 53 #[.int .u32 v, .int .i64 n] w fun e w' => e = .returned (.int .u32 0) ∧ w = w' := by
  go_enter Tryz.func53, Tryz.ntmps53
  rcases hn with h | h
  · go_wp2
    go_ret
    exact ⟨rfl, rfl⟩
  · have h0 : ¬ n < 0 := by omega
    go_wp2
    go_ret
    exact ⟨rfl, rfl⟩
end Go.Proofs.YtdpegahcgaicnaaGreatDoor
