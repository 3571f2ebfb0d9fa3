/-
  What the document fixes of stage 10: All of nothing at level 0, Most.
  The document's symbols: SymLen, SymDist, LenSym, DistSym.
  A slice of calls (three numbers each) that came in; what was put is there to be taken.
  CRC-32 in numbers: one step, eight, a byte, a row of bytes; sums; no step takes a number to nought but nought. No Go in sight.
  Strings of numbers; the document's own Rev.
  The table of the check, and a row of bytes through it.
  What layer 2's statements ask of themselves first: the check of a few bytes.
  The document's own check, bit by bit.
  A row of rows of bytes that came in.
  CrcParts: however bytes are parted, their check is the same.
  Slices of bytes as strings; the check of one part and of two.
  Two writers of bits, each with a row of its own; what is put by one leaves the other as it was.
  The document's own writer of bits: Put and Align, bit by bit.
  What the document's writer was given, put after put (as WroteP for the program's).
  What is put for tokens, as a function of them; the document's LenSym and DistSym tell just its parts.
-/
import Derived.Test.YtdpegahcgaicnaaGreatDoorMs25
import Derived.Laws.BytesArg
import Derived.Deep.DeepCutAuto
import Derived.Test.YtdpegahcgaicnaaGreatDoorRows
import Derived.BigRegion
import Derived.Deep.RegionWith
import Derived.Lib.SlBytesConst
import Derived.Laws.AppendOwnNone
namespace Go.Proofs.YtdpegahcgaicnaaGreatDoor
open Go.RowKit
set_option linter.unusedVariables false
set_option linter.unusedSimpArgs false
set_option maxRecDepth 20000

set_option maxHeartbeats 2000000 in
theorem concat_no (w : World) : Calls Tryz.prog 47 #[.slice none 0 0] w fun e w' => e = .returned (.slice none 0 0) ∧ Kept NoB w w' := by
  have HG : Hid (∀ W, Calls Tryz.prog 82 #[.slice none 0 0, .int .i64 0] W fun e w' => e = .returned (.slice none 0 0) ∧ Kept NoB W w') := Lib.hid fun W => by
    go_enter Tryz.func82, Tryz.ntmps82
    go_wp2
    go_ret
    exact ⟨rfl, Kept.refl _ _⟩
  go_enter Tryz.func47, Tryz.ntmps47
  go_wp2_with fail
  go_loopw [11, 3, 5] (fun i s _ wr => i = .int .i64 0 ∧ s = .int .i64 0 ∧ w = wr) (fun _ _ _ _ => 0)
  case atStart => exact ⟨rfl, rfl, rfl⟩
  case round =>
    obtain ⟨rfl, rfl, rfl⟩ := hrel
    go_wp2_with fail
    refine (HG.out _).mono ?_
    rintro e w1 ⟨rfl, hk⟩
    have HK := Lib.hid hk
    clear hk
    go_wp2_with fail
    go_loopw [27, 6, 8] (fun i s _ wr => i = .int .i64 0 ∧ s = .slice none 0 0 ∧ w1 = wr) (fun _ _ _ _ => 0)
    case atStart => exact ⟨rfl, rfl, rfl⟩
    case round =>
      obtain ⟨rfl, rfl, rfl⟩ := hrel
      go_wp2
      go_ret
      exact ⟨rfl, HK.out⟩
set_option maxHeartbeats 2000000 in
theorem most0 (w : World) : Calls Tryz.prog 18 #[.int .i64 0] w fun e w' => e = .returned (.int .i64 10) ∧ w = w' := by
  go_enter Tryz.func18, Tryz.ntmps18
  go_wp2
  go_ret
  exact ⟨rfl, rfl⟩
set_option maxHeartbeats 2000000 in
theorem most65536 (w : World) : Calls Tryz.prog 18 #[.int .i64 65536] w fun e w' => e = .returned (.int .i64 65551) ∧ w = w' := by
  go_enter Tryz.func18, Tryz.ntmps18
  go_wp2
  go_ret
  exact ⟨rfl, rfl⟩
set_option maxHeartbeats 2000000 in
/-- Few bytes are stored as one block. -/
theorem storeAll_few (w : World) (R : Nat) (ao : Option Addr) (cap : Nat) (bs : List Int) (s : Nat) (last : Bool) (ba : Option Addr) (bc : Nat) (b : List Int) (h : Wtr w R ao cap bs s) (hs : s ≤ 700000000000) (hr : Reads w ba b) (hb : AllB b) (hl : b.length ≤ 65535)
    (hsep : ∀ a, ba = some a → a.block ≠ R ∧ (Value.slice ao bs.length cap).ownBlock ≠ some a.block) :
    Calls Tryz.prog 48 #[.pointer (some ⟨R, 0, none⟩), .slice ba b.length bc, .bool last] w fun e w' => ∃ ao' cap' bs', e = .returned (.tuple #[]) ∧ WroteP w R (.slice ao bs.length cap) bs s (storedW last (up8 (s + 3) - (s + 3)) b) w' ao' cap' bs' := by
  have HS := Lib.hid (stored_yes w R ao cap bs s last ba bc b h hs hr hb hl hsep)
  obtain ⟨n, hn⟩ : ∃ n, n = b.length := ⟨_, rfl⟩
  rw [← hn] at HS hl ⊢
  clear h hr hb hsep hn
  go_enter Tryz.func48, Tryz.ntmps48
  go_wp2_with fail
  go_loopw [1] (fun v wr => v = .slice ba n bc ∧ w = wr) (fun _ _ => 0)
  case atStart => exact ⟨rfl, rfl⟩
  case round =>
    obtain ⟨rfl, rfl⟩ := hrel
    have hg : ¬ ((65535 : Int) < (n : Int)) := by omega
    go_wp2_with fail
    refine HS.out.mono ?_
    rintro e w1 ⟨ao', cap', bs', rfl, hW⟩
    have HW := Lib.hid hW
    clear hW HS
    go_wp2
    refine bodyPost_end (results_none rfl _ _ _) rfl ?_
    exact ⟨ao', cap', bs', rfl, HW.out⟩
theorem num_inj5 (a b : List Int) (ha : AllB a) (hb : AllB b) (hl : a.length = b.length) (hn : num a = num b) : a = b := by
  induction a generalizing b with
  | nil => cases b with
    | nil => rfl
    | cons => simp at hl
  | cons x t ih =>
    cases b with
    | nil => simp at hl
    | cons y u =>
      have h1 := ha x (by simp)
      have h2 := hb y (by simp)
      simp only [num] at hn
      have : x = y := by omega
      subst this
      rw [ih u (fun z hz => ha z (by simp [hz])) (fun z hz => hb z (by simp [hz])) (by simpa using hl) (by omega)]

theorem nums_stored0 {bs : List Int} (hb : AllB bs) (hl : bs.length = 5) (hn : num bs = putsN (storedW true 5 [])) : bs = [1, 0, 0, 255, 255] :=
  num_inj5 _ _ hb (by unfold AllB; decide) (by rw [hl]; rfl) (by rw [hn]; decide)
theorem nums_fixed0 {bs : List Int} (hb : AllB bs) (hl : bs.length = 2) (hn : num bs = putsN ([(lastN true, 1), (1, 2)] ++ ([] ++ [wordZ fixL 256]))) : bs = [3, 0] :=
  num_inj5 _ _ hb (by unfold AllB; decide) (by rw [hl]; rfl) (by
    have e : wordZ fixL 256 = (0, 7) := by decide +kernel
    rw [hn, e]; decide)
set_option maxHeartbeats 4000000 in
theorem all0_none (w : World) : Calls Tryz.prog 17 #[.int .i64 0, .slice none 0 0] w fun e w' => ∃ ao c, e = .returned (.slice ao 5 c) ∧ Hid ((convert 22 9 (.slice ao 5 c)).run Tryz.prog w' = .ok (.string ⟨#[1, 0, 0, 255, 255]⟩) w') ∧ Kept NoB w w' := by
  have HC := Lib.hid (concat_no w)
  go_enter Tryz.func17, Tryz.ntmps17
  go_wp2_with fail
  refine HC.out.mono ?_
  rintro e w1 ⟨rfl, hk1⟩
  have HN := Lib.hid (neww_any w1)
  have HK1 := Lib.hid hk1
  clear hk1 HC
  go_wp2_with fail
  refine HN.out.mono ?_
  rintro e w2 ⟨R, rfl, hw, hR, hk2⟩
  have HW := Lib.hid hw
  have HR := Lib.hid hR
  have HK2 := Lib.hid (HK1.out.trans hk2)
  clear hw hR hk2 HN
  have hr0 : Reads w2 none ([] : List Int) := ⟨fun _ => rfl, fun a ha => by cases ha⟩
  have HS := Lib.hid (storeAll_few w2 R none 0 [] 0 true none 0 [] HW.out (by omega) hr0 (by intro b hb; cases hb) (by decide) (fun a ha => by cases ha))
  clear hr0
  go_wp2_with fail
  go_loopw [4, 5, 7] (fun _a v _b wr => v = .slice none 0 0 ∧ w2 = wr) (fun _ _ _ _ => 0)
  case atStart => exact ⟨rfl, rfl⟩
  case round =>
    obtain ⟨rfl, rfl⟩ := hrel
    go_wp2_with fail
    refine HS.out.mono ?_
    rintro e w3 ⟨a3, c3, b3, rfl, hW⟩
    have hb3 : b3 = [1, 0, 0, 255, 255] := nums_stored0 hW.1.2.2.1 (by have := hW.1.2.2.2.1; rw [this]; decide) (by have := hW.2.1; rw [this]; simp [num, up8])
    have HB := Lib.hid (wbytes_any w3 R a3 c3 b3 _ hW.1)
    have hk3 : Kept NoB w w3 := HK2.out.own hW.2.2.1 (fun i hi => by
      have h1 := HK1.out.size
      have h2 := HR.out
      rcases hi with e | e
      · unfold OneB at e; omega
      · simp [OwnB, Value.ownBlock] at e)
    have HK3 := Lib.hid hk3
    have HB3 := Lib.hid hb3
    clear hW hb3 hk3 HS
    go_wp2_with fail
    refine HB.out.mono ?_
    rintro e w4 ⟨a4, c4, rfl, ho, _, _, hk4⟩
    have HO := Lib.hid ho
    have HK4 := Lib.hid (HK3.out.trans hk4)
    have hl3 : b3.length = 5 := by rw [HB3.out]; rfl
    clear ho hk4 HB
    go_wp2
    go_ret
    refine ⟨a4, c4, rfl, ?_, HK4.out⟩
    have h := HO.out
    rw [HB3.out] at h
    have h2 := conv_own h rfl
    have e1 : strOfNums [1, 0, 0, 255, 255] = ⟨#[1, 0, 0, 255, 255]⟩ := by decide
    rw [e1] at h2
    exact Lib.hid h2
set_option maxHeartbeats 4000000 in
theorem awake10 (w : World) : Calls Tryz.prog 9 #[] w fun e w' => e = .returned (.bool true) ∧ Kept NoB w w' := by
  have HN := Lib.hid (neww_any w)
  have HA := Lib.hid all0_none
  have HM0 := Lib.hid most0
  have HM1 := Lib.hid most65536
  go_enter Tryz.func9, Tryz.ntmps9
  go_wp2_with fail
  refine HN.out.mono ?_
  rintro e w1 ⟨R, rfl, hw, hR, hk1⟩
  have HR := Lib.hid hR
  have HK1 := Lib.hid hk1
  have HF := Lib.hid (fixedBlock_yes w1 R none 0 [] 0 true none 0 [] hw (by omega) (fun j hj => absurd hj (by simp)) (fun h => absurd rfl h) (by decide) (fun t ht => by cases ht) rfl)
  clear hw hR hk1 HN
  go_wp2_with fail
  refine HF.out.mono ?_
  rintro e w2 ⟨ws, a2, c2, b2, rfl, hws, hW⟩
  obtain rfl : ws = [] := by cases hws; rfl
  have hb2 : b2 = [3, 0] := nums_fixed0 hW.1.2.2.1 (by have := hW.1.2.2.2.1; rw [this]; decide +kernel) (by have := hW.2.1; rw [this]; simp [num])
  have HB2 := Lib.hid hb2
  have hk2 : Kept NoB w w2 := HK1.out.own hW.2.2.1 (fun i hi => by
    have h2 := HR.out
    rcases hi with e | e
    · unfold OneB at e; omega
    · simp [OwnB, Value.ownBlock] at e)
  have HK2 := Lib.hid hk2
  have HW := Lib.hid hW.1
  clear hws hW hb2 hk2 HF
  go_wp2_with fail
  refine (HA.out _).mono ?_
  rintro e w3 ⟨a3, c3, rfl, hcv, hk3⟩
  have HK3 := Lib.hid (HK2.out.trans hk3)
  have HB := Lib.hid (wbytes_any w3 R a2 c2 b2 _ (HW.out.keptNo hk3))
  have hcv : (convert 22 9 (.slice a3 5 c3)).run Tryz.prog w3 = .ok (.string ⟨#[1, 0, 0, 255, 255]⟩) w3 := hcv.out
  clear hk3 HA
  go_wp2_with fail
  refine HB.out.mono ?_
  rintro e w4 ⟨a4, c4, rfl, ho, _, _, hk4⟩
  have hl3 : b2.length = 2 := by rw [HB2.out]; rfl
  have hcw : (convert 22 9 (.slice a4 2 c4)).run Tryz.prog w4 = .ok (.string ⟨#[3, 0]⟩) w4 := by
    rw [HB2.out] at ho
    have h2 := conv_own ho rfl
    have e1 : strOfNums [3, 0] = ⟨#[3, 0]⟩ := by decide
    rw [e1] at h2
    exact h2
  rw [hl3]
  have HK4 := Lib.hid (HK3.out.trans hk4)
  clear ho hk4 HB hcv hl3
  go_wp2_with fail
  refine (HM0.out _).mono ?_
  rintro e w5 ⟨rfl, rfl⟩
  go_wp2_with fail
  refine (HM1.out _).mono ?_
  rintro e w5 ⟨rfl, rfl⟩
  go_wp2
  go_ret
  exact ⟨rfl, HK4.out⟩
end Go.Proofs.YtdpegahcgaicnaaGreatDoor

namespace Go.Proofs.YtdpegahcgaicnaaGreatDoor
open Go.RowKit
set_option linter.unusedVariables false
set_option linter.unusedSimpArgs false
set_option maxRecDepth 20000

end Go.Proofs.YtdpegahcgaicnaaGreatDoor

namespace Go.Proofs.YtdpegahcgaicnaaGreatDoor
open Go.RowKit
set_option linter.unusedVariables false

/-- The calls, each with its three numbers; where they lie. -/
def OpsAt (w : World) (ao : Option Addr) (len : Nat) (kd nn vv : Nat → Int) : Prop :=
  (ao = none → len = 0) ∧ ∀ b off, ao = some ⟨b, off, none⟩ → ∀ i, i < len →
    w.cell? ⟨b, off + i * 3, none⟩ = some (.int .i64 (kd i)) ∧ w.cell? ⟨b, off + i * 3 + 1, none⟩ = some (.int .i64 (nn i)) ∧ w.cell? ⟨b, off + i * 3 + 2, none⟩ = some (.int .u32 (vv i))

theorem OpsAt.below {w w' : World} {ao : Option Addr} {len : Nat} {kd nn vv : Nat → Int} (h : OpsAt w ao len kd nn vv) (hb : Below w.heap.size w w') : OpsAt w' ao len kd nn vv := by
  refine ⟨h.1, fun b off he i hi => ?_⟩
  obtain ⟨h1, h2, h3⟩ := h.2 b off he i hi
  have hlt := World.block_lt_of_cell? w _ h1
  exact ⟨(hb.cell hlt).trans h1, (hb.cell (p := ⟨b, off + i * 3 + 1, none⟩) hlt).trans h2, (hb.cell (p := ⟨b, off + i * 3 + 2, none⟩) hlt).trans h3⟩

end Go.Proofs.YtdpegahcgaicnaaGreatDoor

namespace Go.Proofs.YtdpegahcgaicnaaGreatDoor

def poly : Nat := 3988292384
def step1 (r : Nat) : Nat := if r % 2 = 1 then r / 2 ^^^ poly else r / 2
def steps : Nat → Nat → Nat
  | 0, r => r
  | n + 1, r => step1 (steps n r)
end Go.Proofs.YtdpegahcgaicnaaGreatDoor

namespace Go.Proofs.YtdpegahcgaicnaaGreatDoor
open Go.RowKit
set_option linter.unusedVariables false

theorem and1_u32 (r : Nat) (h : r < 4294967296) : bits .and .u32 (r : Int) 1 = ((r % 2 : Nat) : Int) := by
  have := u32_and_nat r 1 h (by decide)
  rw [nat_mask1] at this
  exact this
end Go.Proofs.YtdpegahcgaicnaaGreatDoor

namespace Go.Proofs.YtdpegahcgaicnaaGreatDoor
open Go.RowKit
set_option linter.unusedVariables false

/-- A row of parts, each a slice of bytes. -/
def Parts (w : World) (po : Option Addr) (ps : List (List Int)) : Prop :=
  ps = [] ∨ ∃ b off, po = some ⟨b, off, none⟩ ∧ b < w.heap.size ∧ ∀ i, i < ps.length → ∃ ao cap, w.cell? ⟨b, off + i, none⟩ = some (.slice ao (ps.getD i []).length cap) ∧ Reads w ao (ps.getD i []) ∧ (ps.getD i []).length ≤ cap ∧ cap ≤ maxLen ∧ (ao = none → cap = 0)
def AllP (ps : List (List Int)) : Prop := ∀ p ∈ ps, AllB p
theorem Parts.keptNo {w w' : World} {po : Option Addr} {ps : List (List Int)} (h : Parts w po ps) (hk : Kept NoB w w') : Parts w' po ps := by
  rcases h with h | ⟨b, off, h1, h2, h3⟩
  · exact .inl h
  · refine .inr ⟨b, off, h1, Nat.lt_of_lt_of_le h2 hk.size, fun i hi => ?_⟩
    obtain ⟨ao, cap, c, r, m⟩ := h3 i hi
    exact ⟨ao, cap, hk.cell c, r.keptNo hk, m⟩
theorem AllP.getD {ps : List (List Int)} (h : AllP ps) (i : Nat) : AllB (ps.getD i []) := by
  by_cases hi : i < ps.length
  · have : ps.getD i [] = ps[i] := by simp [List.getD, hi]
    rw [this]; exact h _ (List.getElem_mem hi)
  · have : ps.getD i [] = [] := by simp [List.getD, List.getElem?_eq_none (Nat.le_of_not_lt hi)]
    rw [this]; intro b hb; cases hb
theorem flat_succ (ps : List (List Int)) (j : Nat) (hj : j < ps.length) : (ps.take (j + 1)).flatten = (ps.take j).flatten ++ ps.getD j [] := by
  have e : ps.getD j [] = ps[j] := by simp [List.getD, hj]
  rw [e, List.take_succ_eq_append_getElem hj, List.flatten_append, List.flatten_cons, List.flatten_nil, List.append_nil]
end Go.Proofs.YtdpegahcgaicnaaGreatDoor

namespace Go.Proofs.YtdpegahcgaicnaaGreatDoor
open Go.RowKit
set_option linter.unusedVariables false

end Go.Proofs.YtdpegahcgaicnaaGreatDoor

namespace Go.Proofs.YtdpegahcgaicnaaGreatDoor
open Go.RowKit
set_option linter.unusedVariables false

end Go.Proofs.YtdpegahcgaicnaaGreatDoor

namespace Go.Proofs.YtdpegahcgaicnaaGreatDoor
open Go.RowKit
set_option linter.unusedVariables false

end Go.Proofs.YtdpegahcgaicnaaGreatDoor

namespace Go.Proofs.YtdpegahcgaicnaaGreatDoor
open Go.RowKit
set_option linter.unusedVariables false

theorem Parts.below {w w' : World} {po : Option Addr} {ps : List (List Int)} (h : Parts w po ps) (hb : Below w.heap.size w w') : Parts w' po ps :=
  h.keptNo ((Kept.refl NoB w).ofBelow hb)
end Go.Proofs.YtdpegahcgaicnaaGreatDoor

namespace Go.Proofs.YtdpegahcgaicnaaGreatDoor
open Go.RowKit
set_option linter.unusedVariables false

end Go.Proofs.YtdpegahcgaicnaaGreatDoor

namespace Go.Proofs.YtdpegahcgaicnaaGreatDoor
open Go.RowKit
set_option linter.unusedVariables false

structure Two (T1 T2 : TypeId) (w0 w : World) (A : Nat) (aoa : Option Addr) (capa : Nat) (ba : List Int) (sa : Nat) (B : Nat) (aob : Option Addr) (capb : Nat) (bb : List Int) (sb : Nat) : Prop where
  a : WtrT T1 w A aoa capa ba sa
  b : WtrT T2 w B aob capb bb sb
  ne : A ≠ B
  fa : w0.heap.size ≤ A
  fb : w0.heap.size ≤ B
  oa : ∀ k, (Value.slice aoa ba.length capa).ownBlock = some k → w0.heap.size ≤ k
  ob : ∀ k, (Value.slice aob bb.length capb).ownBlock = some k → w0.heap.size ≤ k
  ab : ∀ k, (Value.slice aoa ba.length capa).ownBlock = some k → (Value.slice aob bb.length capb).ownBlock ≠ some k
  ta : T1 ≠ 5
  tb : T2 ≠ 5
  bel : Below w0.heap.size w0 w
variable {T1 T2 : TypeId} {w0 w w' : World} {A : Nat} {aoa : Option Addr} {capa : Nat} {ba : List Int} {sa : Nat} {B : Nat} {aob : Option Addr} {capb : Nat} {bb : List Int} {sb : Nat}
theorem Two.swap (h : Two T1 T2 w0 w A aoa capa ba sa B aob capb bb sb) : Two T2 T1 w0 w B aob capb bb sb A aoa capa ba sa :=
  ⟨h.b, h.a, h.ne.symm, h.fb, h.fa, h.ob, h.oa, (fun k h1 h2 => h.ab k h2 h1), h.tb, h.ta, h.bel⟩
theorem Two.keptNo (h : Two T1 T2 w0 w A aoa capa ba sa B aob capb bb sb) (hk : Kept NoB w w') : Two T1 T2 w0 w' A aoa capa ba sa B aob capb bb sb :=
  ⟨h.a.kept hk (fun h => h) (fun _ _ h => h), h.b.kept hk (fun h => h) (fun _ _ h => h), h.ne, h.fa, h.fb, h.oa, h.ob, h.ab, h.ta, h.tb, hk.belowNo h.bel⟩
/-- The first one is written, its row where it was or new: the second stays. -/
theorem Two.put (h : Two T1 T2 w0 w A aoa capa ba sa B aob capb bb sb) {ao' : Option Addr} {cap' : Nat} {ba' : List Int} {sa' : Nat} (ha : WtrT T1 w' A ao' cap' ba' sa') (hk : Kept (OrB (OneB A) (OwnB (.slice aoa ba.length capa))) w w')
    (ho : ∀ k, (Value.slice ao' ba'.length cap').ownBlock = some k → (Value.slice aoa ba.length capa).ownBlock = some k ∨ w.heap.size ≤ k) : Two T1 T2 w0 w' A ao' cap' ba' sa' B aob capb bb sb := by
  have hbl := h.b.2.1.lt
  refine ⟨ha, h.b.kept hk ?_ ?_, h.ne, h.fa, h.fb, ?_, h.ob, ?_, h.ta, h.tb, hk.below h.bel ?_⟩
  · intro e
    rcases e with e | e
    · exact h.ne e.symm
    · exact row_ne h.a.2.1 h.b.1 h.tb B e rfl
  · intro k hk' e
    rcases e with e | e
    · exact row_ne h.b.2.1 h.a.1 h.ta k hk' e
    · exact h.ab k e hk'
  · intro k hk'
    rcases ho k hk' with e | e
    · exact h.oa k e
    · have := h.bel.size; omega
  · intro k hk' e
    rcases ho k hk' with e' | e'
    · exact h.ab k e' e
    · have := (hbl k e).2; omega
  · intro k e
    rcases e with e | e
    · have := h.fa; simp [OneB] at e; omega
    · exact h.oa k e
end Go.Proofs.YtdpegahcgaicnaaGreatDoor

namespace Go.Proofs.YtdpegahcgaicnaaGreatDoor
open Go.RowKit
set_option linter.unusedVariables false
set_option maxRecDepth 20000

/-- At the head of a round: m bits are put. -/
def OutR (w : World) (R : Nat) (v0 : Value) (bs : List Int) (s v n : Nat) (i : Value) (wr : World) (m : Nat) (ao' : Option Addr) (cap' : Nat) (bs' : List Int) : Prop :=
  m ≤ n ∧ i = .int .i64 m ∧ WtrT 45 wr R ao' cap' bs' (s + m) ∧ num bs' = num bs + v % 2 ^ m * 2 ^ s ∧ Kept (OrB (OneB R) (OwnB v0)) w wr ∧
    (∀ k, (Value.slice ao' bs'.length cap').ownBlock = some k → v0.ownBlock = some k ∨ w.heap.size ≤ k)
/-- There is a byte for the next bit. -/
def OutM (w : World) (R : Nat) (v0 : Value) (N T : Nat) (wx : World) (ao2 : Option Addr) (cap2 : Nat) (bs2 : List Int) : Prop :=
  wx.heap[R]? = some (.cells #[.slice ao2 bs2.length cap2, .int .i64 T] 45 (0, 0)) ∧ wx.ownsRow 0 5 1 (.slice ao2 bs2.length cap2) bs2.length (bs2.map (.int .u8)) ∧
    AllB bs2 ∧ bs2.length = T / 8 + 1 ∧ num bs2 = N ∧ Kept (OrB (OneB R) (OwnB v0)) w wx ∧
    (∀ k, (Value.slice ao2 bs2.length cap2).ownBlock = some k → v0.ownBlock = some k ∨ w.heap.size ≤ k)
def OutMx (w : World) (R : Nat) (v0 : Value) (N T : Nat) (wx : World) : Prop := ∃ ao2 cap2 bs2, OutM w R v0 N T wx ao2 cap2 bs2
def OutP (w : World) (R : Nat) (v0 : Value) (bs : List Int) (s x n : Nat) (e : Ending) (w' : World) : Prop :=
  ∃ ao' cap' bs', e = .returned (.bool true) ∧ WtrT 45 w' R ao' cap' bs' (s + n) ∧ num bs' = num bs + x * 2 ^ s ∧ Kept (OrB (OneB R) (OwnB v0)) w w' ∧
    (∀ k, (Value.slice ao' bs'.length cap').ownBlock = some k → v0.ownBlock = some k ∨ w.heap.size ≤ k)

theorem out_round {w wc : World} {R : Nat} {v0 : Value} {bs bs2 : List Int} {s v n m T q L b g cap2 : Nat} {z : Int} (hM : OutM w R v0 (num bs + v % 2 ^ m * 2 ^ s) T wc (some ⟨g, 0, none⟩) cap2 bs2)
    (hNlt : num bs + v % 2 ^ m * 2 ^ s < 2 ^ T) (hT : T = s + m) (hq : q = T % 8) (hL : L = T / 8) (hm : m < n) (hb : b = v / 2 ^ m % 2)
    (hz : bs2.getD L 0 = z) (hs : s ≤ 900000000000) (hn : n ≤ 32) :
    OutR w R v0 bs s v n (.int .i64 ((m : Int) + 1))
      ((wc.setCell ⟨g, L, none⟩ (.int .u8 (bits .or .u8 z ((b : Int) * 2 ^ q % 256)))).drew.setCell ⟨R, 1, none⟩ (.int .i64 ((T : Int) + 1)))
      (m + 1) (some ⟨g, 0, none⟩) cap2 (bs2.set L (putByte z b q)) := by
  obtain ⟨h1, h2, h3, h4, h5, h6, h7⟩ := hM
  have e8 : bits .or .u8 z ((b : Int) * 2 ^ q % 256) = putByte z b q := by
    unfold putByte; rw [IntKind.wrap_u8', IntKind.wrap_u64, Int.emod_emod_of_dvd _ (by decide)]
  have eT : ((T : Int) + 1) = ((T + 1 : Nat) : Int) := by push_cast; rfl
  have ps := put_step bs2 h3 L q b 1 1 (by omega) (by omega) (by rw [h5, show 8 * L + q = T from by omega]; exact hNlt) (by omega) (.inr ⟨rfl, by omega⟩)
  rw [hz, show 8 * L + q = T from by omega, h5] at ps
  have hlen : (bs2.set L (putByte z b q)).length = bs2.length := List.length_set
  have hne := row_ne h2 h1 (by decide) g rfl
  rw [e8, eT]
  have st := h2.stored L (.int .u8 (putByte z b q))
  have k1 : Kept (OneB g) wc (wc.setCell ⟨g, L, none⟩ (.int .u8 (putByte z b q))) := Kept.setCell (S := OneB g) (p := ⟨g, L, none⟩) (Kept.refl _ _) (.inl rfl) _
  have o1 := k1.obj h1 (fun e => hne e.symm)
  refine ⟨by omega, ?_, ⟨?_, ?_, ps.1, by rw [hlen]; omega, ?_, by omega⟩, ?_, ?_, ?_⟩
  · congr 1
  · rw [hlen]
    have o1d : (wc.setCell ⟨g, L, none⟩ (.int .u8 (putByte z b q))).drew.heap[R]? = some (.cells #[.slice (some ⟨g, 0, none⟩) bs2.length cap2, .int .i64 T] 45 (0, 0)) := o1
    have := obj_set o1d 1 (.int .i64 (T + 1 : Nat))
    rw [show s + (m + 1) = T + 1 from by omega]
    simpa using this
  · rw [hlen]
    have := (Kept.setCell (S := OneB R) (p := ⟨R, 1, none⟩) (Kept.refl _ (wc.setCell ⟨g, L, none⟩ (.int .u8 (putByte z b q))).drew) (.inl rfl) (.int .i64 (T + 1 : Nat))).row ((Kept.drew (Kept.refl NoB _)).row st.1 (fun k hk e => e)) (fun k hk e => by
      simp [Value.ownBlock] at hk; exact hne (hk.trans e))
    rw [List.map_set]
    exact this
  · rw [show s + (m + 1) = T + 1 from by omega]; exact ps.2.2
  · rw [ps.2.1, ← put_parts v m 1, hb, hT, Nat.add_mul, Nat.pow_add, Nat.mul_assoc, Nat.mul_comm (2 ^ m) (2 ^ s), Nat.pow_one, Nat.mod_mod]; omega
  · refine Kept.setCell (p := ⟨R, 1, none⟩) (Kept.drew (Kept.setCell (p := ⟨g, L, none⟩) h6 ?_ _)) (.inl (.inl rfl)) _
    rcases h7 g rfl with h | h
    · exact .inl (.inr h)
    · exact .inr h
  · intro k hk
    exact h7 k (by simpa [Value.ownBlock] using hk)

set_option maxHeartbeats 4000000 in
theorem outPut_any (w : World) (R : Nat) (ao : Option Addr) (cap : Nat) (bs : List Int) (s v n : Nat) (h : WtrT 45 w R ao cap bs s) (hv : v < 4294967296) (hn : n ≤ 32) (hs : s ≤ 900000000000) :
    Calls Tryz.prog 20 #[.pointer (some ⟨R, 0, none⟩), .int .u32 v, .int .i64 n] w (OutP w R (.slice ao bs.length cap) bs s (v % 2 ^ n) n) := by
  obtain ⟨i0, hi, hz0, hz1, hz2⟩ := info_parts info5
  have H := Lib.hid h; clear h
  go_enter Tryz.func20, Tryz.ntmps20
  go_wp2
  go_loopw [7] (fun i wr => ∃ m ao' cap' bs', OutR w R (.slice ao bs.length cap) bs s v n i wr m ao' cap' bs') (fun i _ => n - (intOf i).toNat)
  case atStart =>
    exact ⟨0, ao, cap, bs, by omega, by simp, by simpa using H.out, by simp [Nat.mod_one], Kept.refl _ _, fun k hk => .inl hk⟩
  case round =>
    obtain ⟨m, ao', cap', bs', hm, rfl, hW, hN, hK, hO⟩ := hrel
    obtain ⟨T, hT⟩ : ∃ T, T = s + m := ⟨_, rfl⟩
    have hTm : T ≤ 900000000032 := by omega
    rw [← hT] at hW
    obtain ⟨q, hq⟩ : ∃ q, q = T % 8 := ⟨_, rfl⟩
    have hq8 : q < 8 := by omega
    have hmod : (T : Int) % 8 = q := by omega
    have HQ := Lib.hid hq; clear hq
    have HT := Lib.hid hT; clear hT
    have HN := Lib.hid hN; clear hN
    have HW := Lib.hid hW
    have c0 : wr.cell? ⟨R, 0, none⟩ = some (.slice ao' bs'.length cap') := by simpa using obj_cell hW.1 0
    have c1 : wr.cell? ⟨R, 1, none⟩ = some (.int .i64 T) := by simpa using obj_cell hW.1 1
    have f0 : wr.frozen? ⟨R, 0, none⟩ = false := obj_free hW.1 0
    clear hW
    by_cases hlt : m < n
    · go_upto_if 24 with fail
      go_cut [7] from 19 to 33 (fun s wx => s = .int .i64 m ∧ OutMx w R (.slice ao bs.length cap) (num bs') T wx)
      case first =>
        by_cases hq0 : q = 0
        · have ht : ((T : Int) % 8 == 0) = true := by simp; omega
          have hown := HW.out.2.1
          have hlen := HW.out.2.2.2.1
          have hlb : bs'.length ≤ 112500000004 := by omega
          have HLen := Lib.hid hlen; clear hlen
          go_wp2_with (at_builtin; refine wpList_app _ rfl _ _ 22 rfl 5 i0 (.int .u8 0) 1 1 Tryz.underlying22 hi hz0 hz1 hz2 rfl (by decide) _ _ _ rfl (hown.alloc _) ⟨wr.heap.size, 0, none⟩ 1 1 [.int .u8 0] rfl rfl ?c1 ?c2 ?c3 ?c4 ?_)
          case c1 => exact cell_one_new _ _ _
          case c2 => intro u hu; simp at hu; subst hu; rfl
          case c3 => unfold maxLen; omega
          case c4 => omega
          intro v' w1 hown' hgrow hnew
          obtain ⟨ao2, cap2, rfl⟩ := own_shape hown'
          have hob := HW.out.1
          have hne := row_ne hown hob (by decide)
          have hob1 : w1.heap[R]? = some (.cells #[.slice ao' bs'.length cap', .int .i64 T] 45 (0, 0)) := by
            rw [hgrow.block R (by have := obj_lt hob; simp; omega) (fun e => hne R e.symm rfl), heap_alloc_old _ _ (obj_lt hob)]
            exact hob
          have d0 : w1.cell? ⟨R, 0, none⟩ = some (.slice ao' bs'.length cap') := by simpa using obj_cell hob1 0
          have g0 : w1.frozen? ⟨R, 0, none⟩ = false := obj_free hob1 0
          have F : OutMx w R (.slice ao bs.length cap) (num bs') T (w1.setCell ⟨R, 0, none⟩ (.slice ao2 (bs'.length + 1) cap2)) := by
            refine ⟨ao2, cap2, bs' ++ [0], ?_, ?_, HW.out.2.2.1.snoc 0 (by decide), ?_, num_zero_last _, ?_, ?_⟩
            · simpa using obj_set hob1 0 (.slice ao2 (bs'.length + 1) cap2)
            · have := (Kept.setCell (S := OneB R) (p := ⟨R, 0, none⟩) (Kept.refl _ w1) (.inl rfl) (.slice ao2 (bs'.length + 1) cap2)).row hown' (fun k hk e => row_ne hown' hob1 (by decide) k hk e)
              simpa using this
            · have := HLen.out; have := HQ.out; simp; omega
            · refine Kept.setCell (p := ⟨R, 0, none⟩) ?_ (.inl (.inl rfl)) _
              refine (hK.alloc _).grown hgrow ?_
              intro k hk e
              rcases hO k e with h1 | h1
              · exact .inr h1
              · omega
            · intro k hk
              have hk2 : (Value.slice ao2 (bs'.length + 1) cap2).ownBlock = some k := by
                cases ao2 with
                | none => simp [Value.ownBlock] at hk
                | some a => simpa [Value.ownBlock] using hk
              rcases hnew k hk2 with h1 | h1
              · exact hO k h1
              · have := hK.size; exact .inr (by omega)
          have HF := Lib.hid F; clear F
          clear hown' hgrow hnew hob1 hob hne
          go_wp2
          go_meet
          exact ⟨rfl, HF.out⟩
        · have ht : ((T : Int) % 8 == 0) = false := by simp; omega
          go_wp2
          go_meet
          obtain ⟨h1, h2, h3, h4, h5, h6⟩ := HW.out
          exact ⟨rfl, ao', cap', bs', h1, h2, h3, by have := HQ.out; omega, rfl, hK, hO⟩
      case rest =>
        obtain ⟨rfl, ao2, cap2, bs2, hM⟩ := hcut
        obtain ⟨h1, h2, h3, h4, h5, h6, h7⟩ := hM
        obtain ⟨g, rfl⟩ : ∃ g, ao2 = some ⟨g, 0, none⟩ := by
          rcases h2.2 with ⟨_, hz⟩ | ⟨g, c, cur, hv, _⟩
          · omega
          · simp at hv; exact ⟨g, hv.1⟩
        obtain ⟨L, hL⟩ : ∃ L, L = T / 8 := ⟨_, rfl⟩
        have hdiv : (T : Int) / 8 = L := by omega
        have hne := row_ne h2 h1 (by decide) g rfl
        have hcellz : wc.cell? ⟨g, L, none⟩ = some (.int .u8 (bs2.getD L 0)) := by
          rw [h2.cellAt L (by omega)]; simp [List.getD, show L < bs2.length from by omega]
        have hfz : wc.frozen? ⟨g, L, none⟩ = false := h2.frozenAt L
        have hzb := AllB.getD h3 L
        have d0 : wc.cell? ⟨R, 0, none⟩ = some (.slice (some ⟨g, 0, none⟩) bs2.length cap2) := by simpa using obj_cell h1 0
        have d1 : wc.cell? ⟨R, 1, none⟩ = some (.int .i64 T) := by simpa using obj_cell h1 1
        have g1 : wc.frozen? ⟨R, 1, none⟩ = false := obj_free h1 1
        have hlen : bs2.length = L + 1 := by omega
        have HM : Hid (OutM w R (.slice ao bs.length cap) (num bs') T wc (some ⟨g, 0, none⟩) cap2 bs2) := ⟨h1, h2, h3, h4, h5, h6, h7⟩
        rw [hlen] at d0
        have HLL2 := Lib.hid hL; clear hL
        have HLen := Lib.hid hlen; clear hlen
        generalize hz : bs2.getD L 0 = z at hcellz hzb
        have HZ := Lib.hid hz; clear hz
        have hLb : L ≤ 112500000004 := by have := HLL2.out; omega
        clear h1 h2 h3 h4 h5 h6 h7
        obtain ⟨b, hb⟩ : ∃ b, b = v / 2 ^ m % 2 := ⟨_, rfl⟩
        have hb2 : b < 2 := by omega
        have hv2 : v / 2 ^ m < 4294967296 := Nat.lt_of_le_of_lt (Nat.div_le_self _ _) hv
        have hbit : bits .and .u32 ((v : Int) / 2 ^ m) 1 = b := by
          have := and1_u32 (v / 2 ^ m) hv2
          rw [← hb] at this
          rw [← this]; push_cast; rfl
        have HB := Lib.hid hb; clear hb hv2
        go_wp2
        go_region
        all_goals go_wp2
        go_roundw
        case rel =>
          have hWn := HW.out.2.2.2.2.1
          rw [HN.out] at hWn
          have hM2 := HM.out
          rw [HN.out] at hM2
          exact ⟨m + 1, _, _, _, out_round hM2 hWn HT.out HQ.out HLL2.out hlt HB.out HZ.out hs hn⟩
        case measure => simp [intOf]; omega
    · have hl0 : m = n := by omega
      go_wp2
      go_ret
      refine ⟨ao', cap', bs', rfl, ?_, ?_, hK, hO⟩
      · have := HW.out
        rw [HT.out, hl0] at this
        exact this
      · rw [HN.out, hl0]
end Go.Proofs.YtdpegahcgaicnaaGreatDoor

namespace Go.Proofs.YtdpegahcgaicnaaGreatDoor
open Go.RowKit
set_option linter.unusedVariables false
set_option linter.unusedSimpArgs false

def WroteO (w : World) (R : Nat) (v0 : Value) (bs : List Int) (s : Nat) (ps : List (Nat × Nat)) (w' : World) (ao' : Option Addr) (cap' : Nat) (bs' : List Int) : Prop :=
  WtrT 45 w' R ao' cap' bs' (s + wdN ps) ∧ num bs' = num bs + putsN ps * 2 ^ s ∧ Kept (OrB (OneB R) (OwnB v0)) w w' ∧ (∀ k, (Value.slice ao' bs'.length cap').ownBlock = some k → v0.ownBlock = some k ∨ w.heap.size ≤ k)
theorem WroteO.nil {w : World} {R : Nat} {ao : Option Addr} {cap : Nat} {bs : List Int} {s : Nat} (h : WtrT 45 w R ao cap bs s) : WroteO w R (.slice ao bs.length cap) bs s [] w ao cap bs :=
  ⟨h, by simp [putsN], Kept.refl _ _, fun k hk => .inl hk⟩
theorem WroteO.keptNo {w w1 w2 : World} {R : Nat} {v0 : Value} {bs bs1 : List Int} {s : Nat} {ps : List (Nat × Nat)} {ao1 : Option Addr} {cap1 : Nat} (h : WroteO w R v0 bs s ps w1 ao1 cap1 bs1) (hk : Kept NoB w1 w2) : WroteO w R v0 bs s ps w2 ao1 cap1 bs1 :=
  ⟨h.1.kept hk (fun e => e) (fun _ _ e => e), h.2.1, h.2.2.1.transO hk (fun i hi h => h.elim), h.2.2.2⟩
theorem WroteO.put {w w1 w2 : World} {R : Nat} {v0 : Value} {bs bs1 : List Int} {s x n : Nat} {ps : List (Nat × Nat)} {ao1 : Option Addr} {cap1 : Nat} {e : Ending} (h : WroteO w R v0 bs s ps w1 ao1 cap1 bs1) (h2 : OutP w1 R (.slice ao1 bs1.length cap1) bs1 (s + wdN ps) x n e w2) :
    ∃ ao2 cap2 bs2, e = .returned (.bool true) ∧ WroteO w R v0 bs s (ps ++ [(x, n)]) w2 ao2 cap2 bs2 := by
  obtain ⟨hw1, hw2, hw3, hw4⟩ := h
  obtain ⟨ao2, cap2, bs2, rfl, p1, p2, p3, p4⟩ := h2
  refine ⟨ao2, cap2, bs2, rfl, ?_, ?_, ?_, ?_⟩
  · rw [wdN_append]
    simp only [wdN, Nat.add_zero]
    rw [← Nat.add_assoc]
    exact p1
  · rw [putsN_append]
    simp only [putsN, Nat.zero_mul, Nat.add_zero]
    rw [p2, hw2, Nat.add_mul, Nat.add_assoc, Nat.pow_add, Nat.mul_assoc, Nat.mul_comm (2 ^ wdN _) (2 ^ s)]
  · refine hw3.transO p3 ?_
    intro j hj e
    rcases e with e | e
    · exact .inl e
    · rcases hw4 j e with h | h
      · exact .inr h
      · omega
  · intro k hk'
    rcases p4 k hk' with h | h
    · exact hw4 k h
    · have := hw3.size; omega
/-- One Put of the document's. -/
theorem WroteO.puts {w w1 : World} {R : Nat} {v0 : Value} {bs bs1 : List Int} {s : Nat} {ps : List (Nat × Nat)} {ao1 : Option Addr} {cap1 : Nat} (h : WroteO w R v0 bs s ps w1 ao1 cap1 bs1) (x n : Nat) (hx : x < 2 ^ n) (hn : n ≤ 32) (hs : s + wdN ps ≤ 900000000000) (W : World) (hk : Kept NoB w1 W) :
    Calls Tryz.prog 20 #[.pointer (some ⟨R, 0, none⟩), .int .u32 (x : Int), .int .i64 (n : Int)] W fun e w' => e = .returned (.bool true) ∧ ∃ ao2 cap2 bs2, WroteO w R v0 bs s (ps ++ [(x, n)]) w' ao2 cap2 bs2 := by
  have hW := h.keptNo hk
  have h32 : 2 ^ n ≤ 2 ^ 32 := Nat.pow_le_pow_right (by decide) hn
  have hp := outPut_any W R ao1 cap1 bs1 _ x n hW.1 (by omega) hn hs
  rw [Nat.mod_eq_of_lt hx] at hp
  refine hp.mono ?_
  intro e w' hp
  obtain ⟨a2, c2, b2, rfl, h2⟩ := hW.put hp
  exact ⟨rfl, a2, c2, b2, h2⟩
end Go.Proofs.YtdpegahcgaicnaaGreatDoor

namespace Go.Proofs.YtdpegahcgaicnaaGreatDoor
open Go.RowKit
set_option linter.unusedVariables false
set_option linter.unusedSimpArgs false
set_option maxRecDepth 20000

def litX (t : Tk) : Nat := if t.l = 258 then 0 else le4 (lastI lb 27 t.l.toNat)
def litV (t : Tk) : Nat := if t.l = 258 then 0 else t.l.toNat - lb (lastI lb 27 t.l.toNat)
def distV (t : Tk) : Nat := t.d.toNat - db (distSy t)
def tokWd (lit dist : List Int) (t : Tk) : List (Nat × Nat) :=
  if t.l = 0 then [wordZ lit t.c] else [wordZ lit ((litSy t : Nat) : Int), (litV t, litX t), wordZ dist ((distSy t : Nat) : Int), (distV t, de (distSy t))]
theorem sy_long {j u : Nat} (hj : j < 30) (hu : u < 2 ^ de j) : litSy ⟨258, ((db j + u : Nat) : Int), 0⟩ = 285 ∧ litV ⟨258, ((db j + u : Nat) : Int), 0⟩ = 0 ∧ litX ⟨258, ((db j + u : Nat) : Int), 0⟩ = 0 ∧ distSy ⟨258, ((db j + u : Nat) : Int), 0⟩ = j ∧ distV ⟨258, ((db j + u : Nat) : Int), 0⟩ = u := by
  have hd : distSy ⟨258, ((db j + u : Nat) : Int), 0⟩ = j := by unfold distSy; rw [Int.toNat_natCast]; exact db_last hj hu
  refine ⟨rfl, rfl, rfl, hd, ?_⟩
  unfold distV
  rw [hd, Int.toNat_natCast]; omega
theorem sy_copy {i v j u : Nat} (hi : i < 28) (hv : v < 2 ^ le4 i) (hlv : lb i + v ≤ 257) (hj : j < 30) (hu : u < 2 ^ de j) : litSy ⟨((lb i + v : Nat) : Int), ((db j + u : Nat) : Int), 0⟩ = 257 + i ∧ litV ⟨((lb i + v : Nat) : Int), ((db j + u : Nat) : Int), 0⟩ = v ∧
    litX ⟨((lb i + v : Nat) : Int), ((db j + u : Nat) : Int), 0⟩ = le4 i ∧ distSy ⟨((lb i + v : Nat) : Int), ((db j + u : Nat) : Int), 0⟩ = j ∧ distV ⟨((lb i + v : Nat) : Int), ((db j + u : Nat) : Int), 0⟩ = u := by
  have h3 := lb_top i hi
  have hd : distSy ⟨((lb i + v : Nat) : Int), ((db j + u : Nat) : Int), 0⟩ = j := by unfold distSy; rw [Int.toNat_natCast]; exact db_last hj hu
  have hn : ¬ ((lb i + v : Nat) : Int) = 258 := by omega
  refine ⟨?_, ?_, ?_, hd, ?_⟩
  · unfold litSy
    rw [if_neg (by simp only; omega), if_neg (by simp only; omega), Int.toNat_natCast, lb_last hi hv]
  · unfold litV
    rw [if_neg hn, Int.toNat_natCast, lb_last hi hv]; omega
  · unfold litX
    rw [if_neg hn, Int.toNat_natCast, lb_last hi hv]
  · unfold distV
    rw [hd, Int.toNat_natCast]; omega
theorem TokW.eq {lit dist : List Int} {t : Tk} {ws : List (Nat × Nat)} (h : TokW lit dist t ws) : ws = tokWd lit dist t := by
  cases h with
  | one c _ _ _ => rfl
  | long j u hj hu _ _ =>
    obtain ⟨e1, e2, e3, e4, e5⟩ := sy_long hj hu
    unfold tokWd
    rw [if_neg (show ¬ (258 : Int) = 0 by decide), e1, e2, e3, e4, e5]
    rfl
  | copy i v j u hi hv hlv hj hu _ _ =>
    have h3 := lb_top i hi
    obtain ⟨e1, e2, e3, e4, e5⟩ := sy_copy hi hv hlv hj hu
    unfold tokWd
    rw [if_neg (by simp only; omega), e1, e2, e3, e4, e5]
theorem TokWs.eq {lit dist : List Int} {ts : List Tk} {ws : List (Nat × Nat)} (h : TokWs lit dist ts ws) : ws = ts.flatMap (tokWd lit dist) := by
  induction h with
  | nil => rfl
  | cons a _ ih => rw [List.flatMap_cons, ← a.eq, ← ih]
end Go.Proofs.YtdpegahcgaicnaaGreatDoor
