/-
  What the document fixes of stage 10: All of nothing at level 0, Most.
  The document's symbols: SymLen, SymDist, LenSym, DistSym.
  A slice of calls (three numbers each) that came in; what was put is there to be taken.
  CRC-32 in numbers: one step, eight, a byte, a row of bytes; sums; no step takes a number to nought but nought. No Go in sight.
  Strings of numbers; the document's own Rev.
  The table of the check, and a row of bytes through it.
  What layer 2's statements ask of themselves first: the check of a few bytes.
  The document's own check, bit by bit.
  A row of rows of bytes that came in.
  CrcParts: however bytes are parted, their check is the same.
  Slices of bytes as strings; the check of one part and of two.
  Two writers of bits, each with a row of its own; what is put by one leaves the other as it was.
  The document's own writer of bits: Put and Align, bit by bit.
  What the document's writer was given, put after put (as WroteP for the program's).
  What is put for tokens, as a function of them; the document's LenSym and DistSym tell just its parts.
  What tokens take, in bits, by codes: the cost of the counts and the bits behind.
-/
import Derived.Test.YtfmjfgmbjdhogaaGreatDoorMs25
import Derived.Laws.BytesArg
import Derived.Deep.DeepCutAuto
import Derived.Test.YtfmjfgmbjdhogaaGreatDoorRows
import Derived.BigRegion
import Derived.Deep.RegionWith
import Derived.Lib.SlBytesConst
import Derived.Laws.AppendOwnNone
namespace Go.Proofs.YtfmjfgmbjdhogaaGreatDoor
open Go.RowKit
set_option linter.unusedVariables false
set_option linter.unusedSimpArgs false
set_option maxRecDepth 20000

set_option maxHeartbeats 2000000 in
theorem concat_no (w : World) : Calls Tryz.prog 24 #[.slice none 0 0] w fun e w' => e = .returned (.slice none 0 0) ∧ Kept NoB w w' := by
  have HG : Hid (∀ W, Calls Tryz.prog 49 #[.slice none 0 0, .int .i64 0] W fun e w' => e = .returned (.slice none 0 0) ∧ Kept NoB W w') := Lib.hid fun W => by
    go_enter Tryz.func49, Tryz.ntmps49
    go_wp2
    go_ret
    exact ⟨rfl, Kept.refl _ _⟩
  go_enter Tryz.func24, Tryz.ntmps24
  go_wp2_with fail
  go_loopw [11, 3, 5] (fun i s _ wr => i = .int .i64 0 ∧ s = .int .i64 0 ∧ w = wr) (fun _ _ _ _ => 0)
  case atStart => exact ⟨rfl, rfl, rfl⟩
  case round =>
    obtain ⟨rfl, rfl, rfl⟩ := hrel
    go_wp2_with fail
    refine (HG.out _).mono ?_
    rintro e w1 ⟨rfl, hk⟩
    have HK := Lib.hid hk
    clear hk
    go_wp2_with fail
    go_loopw [27, 6, 8] (fun i s _ wr => i = .int .i64 0 ∧ s = .slice none 0 0 ∧ w1 = wr) (fun _ _ _ _ => 0)
    case atStart => exact ⟨rfl, rfl, rfl⟩
    case round =>
      obtain ⟨rfl, rfl, rfl⟩ := hrel
      go_wp2
      go_ret
      exact ⟨rfl, HK.out⟩
set_option maxHeartbeats 2000000 in
theorem most0 (w : World) : Calls Tryz.prog 11 #[.int .i64 0] w fun e w' => e = .returned (.int .i64 10) ∧ w = w' := by
  go_enter Tryz.func11, Tryz.ntmps11
  go_wp2
  go_ret
  exact ⟨rfl, rfl⟩
set_option maxHeartbeats 2000000 in
theorem most65536 (w : World) : Calls Tryz.prog 11 #[.int .i64 65536] w fun e w' => e = .returned (.int .i64 65551) ∧ w = w' := by
  go_enter Tryz.func11, Tryz.ntmps11
  go_wp2
  go_ret
  exact ⟨rfl, rfl⟩
set_option maxHeartbeats 2000000 in
/-- Few bytes are stored as one block. -/
theorem storeAll_few (w : World) (R : Nat) (ao : Option Addr) (cap : Nat) (bs : List Int) (s : Nat) (last : Bool) (ba : Option Addr) (bc : Nat) (b : List Int) (h : Wtr w R ao cap bs s) (hs : s ≤ 700000000000) (hr : Reads w ba b) (hb : AllB b) (hl : b.length ≤ 65535)
    (hsep : ∀ a, ba = some a → a.block ≠ R ∧ (Value.slice ao bs.length cap).ownBlock ≠ some a.block) :
    Calls Tryz.prog 26 #[.pointer (some ⟨R, 0, none⟩), .slice ba b.length bc, .bool last] w fun e w' => ∃ ao' cap' bs', e = .returned (.tuple #[]) ∧ WroteP w R (.slice ao bs.length cap) bs s (storedW last (up8 (s + 3) - (s + 3)) b) w' ao' cap' bs' := by
  have HS := Lib.hid (stored_yes w R ao cap bs s last ba bc b h hs hr hb hl hsep)
  obtain ⟨n, hn⟩ : ∃ n, n = b.length := ⟨_, rfl⟩
  rw [← hn] at HS hl ⊢
  clear h hr hb hsep hn
  go_enter Tryz.func26, Tryz.ntmps26
  go_wp2_with fail
  go_loopw [1] (fun v wr => v = .slice ba n bc ∧ w = wr) (fun _ _ => 0)
  case atStart => exact ⟨rfl, rfl⟩
  case round =>
    obtain ⟨rfl, rfl⟩ := hrel
    have hg : ¬ ((65535 : Int) < (n : Int)) := by omega
    go_wp2_with fail
    refine HS.out.mono ?_
    rintro e w1 ⟨ao', cap', bs', rfl, hW⟩
    have HW := Lib.hid hW
    clear hW HS
    go_wp2
    refine bodyPost_end (results_none rfl _ _ _) rfl ?_
    exact ⟨ao', cap', bs', rfl, HW.out⟩
theorem num_inj5 (a b : List Int) (ha : AllB a) (hb : AllB b) (hl : a.length = b.length) (hn : num a = num b) : a = b := by
  induction a generalizing b with
  | nil => cases b with
    | nil => rfl
    | cons => simp at hl
  | cons x t ih =>
    cases b with
    | nil => simp at hl
    | cons y u =>
      have h1 := ha x (by simp)
      have h2 := hb y (by simp)
      simp only [num] at hn
      have : x = y := by omega
      subst this
      rw [ih u (fun z hz => ha z (by simp [hz])) (fun z hz => hb z (by simp [hz])) (by simpa using hl) (by omega)]

theorem nums_stored0 {bs : List Int} (hb : AllB bs) (hl : bs.length = 5) (hn : num bs = putsN (storedW true 5 [])) : bs = [1, 0, 0, 255, 255] :=
  num_inj5 _ _ hb (by unfold AllB; decide) (by rw [hl]; rfl) (by rw [hn]; decide)
theorem nums_fixed0 {bs : List Int} (hb : AllB bs) (hl : bs.length = 2) (hn : num bs = putsN ([(lastN true, 1), (1, 2)] ++ ([] ++ [wordZ fixL 256]))) : bs = [3, 0] :=
  num_inj5 _ _ hb (by unfold AllB; decide) (by rw [hl]; rfl) (by
    have e : wordZ fixL 256 = (0, 7) := by decide +kernel
    rw [hn, e]; decide)
set_option maxHeartbeats 4000000 in
theorem all0_none (w : World) : Calls Tryz.prog 9 #[.int .i64 0, .slice none 0 0] w fun e w' => ∃ ao c, e = .returned (.slice ao 5 c) ∧ Hid ((convert 22 9 (.slice ao 5 c)).run Tryz.prog w' = .ok (.string ⟨#[1, 0, 0, 255, 255]⟩) w') ∧ Kept NoB w w' := by
  have HC := Lib.hid (concat_no w)
  go_enter Tryz.func9, Tryz.ntmps9
  go_wp2_with fail
  refine HC.out.mono ?_
  rintro e w1 ⟨rfl, hk1⟩
  have HN := Lib.hid (neww_any w1)
  have HK1 := Lib.hid hk1
  clear hk1 HC
  go_wp2_with fail
  refine HN.out.mono ?_
  rintro e w2 ⟨R, rfl, hw, hR, hk2⟩
  have HW := Lib.hid hw
  have HR := Lib.hid hR
  have HK2 := Lib.hid (HK1.out.trans hk2)
  clear hw hR hk2 HN
  have hr0 : Reads w2 none ([] : List Int) := ⟨fun _ => rfl, fun a ha => by cases ha⟩
  have HS := Lib.hid (storeAll_few w2 R none 0 [] 0 true none 0 [] HW.out (by omega) hr0 (by intro b hb; cases hb) (by decide) (fun a ha => by cases ha))
  clear hr0
  go_wp2_with fail
  go_loopw [4, 5, 7] (fun _a v _b wr => v = .slice none 0 0 ∧ w2 = wr) (fun _ _ _ _ => 0)
  case atStart => exact ⟨rfl, rfl⟩
  case round =>
    obtain ⟨rfl, rfl⟩ := hrel
    go_wp2_with fail
    refine HS.out.mono ?_
    rintro e w3 ⟨a3, c3, b3, rfl, hW⟩
    have hb3 : b3 = [1, 0, 0, 255, 255] := nums_stored0 hW.1.2.2.1 (by have := hW.1.2.2.2.1; rw [this]; decide) (by have := hW.2.1; rw [this]; simp [num, up8])
    have HB := Lib.hid (wbytes_any w3 R a3 c3 b3 _ hW.1)
    have hk3 : Kept NoB w w3 := HK2.out.own hW.2.2.1 (fun i hi => by
      have h1 := HK1.out.size
      have h2 := HR.out
      rcases hi with e | e
      · unfold OneB at e; omega
      · simp [OwnB, Value.ownBlock] at e)
    have HK3 := Lib.hid hk3
    have HB3 := Lib.hid hb3
    clear hW hb3 hk3 HS
    go_wp2_with fail
    refine HB.out.mono ?_
    rintro e w4 ⟨a4, c4, rfl, ho, _, _, hk4⟩
    have HO := Lib.hid ho
    have HK4 := Lib.hid (HK3.out.trans hk4)
    have hl3 : b3.length = 5 := by rw [HB3.out]; rfl
    clear ho hk4 HB
    go_wp2
    go_ret
    refine ⟨a4, c4, rfl, ?_, HK4.out⟩
    have h := HO.out
    rw [HB3.out] at h
    have h2 := conv_own h rfl
    have e1 : strOfNums [1, 0, 0, 255, 255] = ⟨#[1, 0, 0, 255, 255]⟩ := by decide
    rw [e1] at h2
    exact Lib.hid h2
set_option maxHeartbeats 4000000 in
theorem awake10 (w : World) : Calls Tryz.prog 12 #[] w fun e w' => e = .returned (.bool true) ∧ Kept NoB w w' := by
  have HN := Lib.hid (neww_any w)
  have HA := Lib.hid all0_none
  have HM0 := Lib.hid most0
  have HM1 := Lib.hid most65536
  go_enter Tryz.func12, Tryz.ntmps12
  go_wp2_with fail
  refine HN.out.mono ?_
  rintro e w1 ⟨R, rfl, hw, hR, hk1⟩
  have HR := Lib.hid hR
  have HK1 := Lib.hid hk1
  have HF := Lib.hid (fixedBlock_yes w1 R none 0 [] 0 true none 0 [] hw (by omega) (fun j hj => absurd hj (by simp)) (fun h => absurd rfl h) (by decide) (fun t ht => by cases ht) rfl)
  clear hw hR hk1 HN
  go_wp2_with fail
  refine HF.out.mono ?_
  rintro e w2 ⟨ws, a2, c2, b2, rfl, hws, hW⟩
  obtain rfl : ws = [] := by cases hws; rfl
  have hb2 : b2 = [3, 0] := nums_fixed0 hW.1.2.2.1 (by have := hW.1.2.2.2.1; rw [this]; decide +kernel) (by have := hW.2.1; rw [this]; simp [num])
  have HB2 := Lib.hid hb2
  have hk2 : Kept NoB w w2 := HK1.out.own hW.2.2.1 (fun i hi => by
    have h2 := HR.out
    rcases hi with e | e
    · unfold OneB at e; omega
    · simp [OwnB, Value.ownBlock] at e)
  have HK2 := Lib.hid hk2
  have HW := Lib.hid hW.1
  clear hws hW hb2 hk2 HF
  go_wp2_with fail
  refine (HA.out _).mono ?_
  rintro e w3 ⟨a3, c3, rfl, hcv, hk3⟩
  have HK3 := Lib.hid (HK2.out.trans hk3)
  have HB := Lib.hid (wbytes_any w3 R a2 c2 b2 _ (HW.out.keptNo hk3))
  have hcv : (convert 22 9 (.slice a3 5 c3)).run Tryz.prog w3 = .ok (.string ⟨#[1, 0, 0, 255, 255]⟩) w3 := hcv.out
  clear hk3 HA
  go_wp2_with fail
  refine HB.out.mono ?_
  rintro e w4 ⟨a4, c4, rfl, ho, _, _, hk4⟩
  have hl3 : b2.length = 2 := by rw [HB2.out]; rfl
  have hcw : (convert 22 9 (.slice a4 2 c4)).run Tryz.prog w4 = .ok (.string ⟨#[3, 0]⟩) w4 := by
    rw [HB2.out] at ho
    have h2 := conv_own ho rfl
    have e1 : strOfNums [3, 0] = ⟨#[3, 0]⟩ := by decide
    rw [e1] at h2
    exact h2
  rw [hl3]
  have HK4 := Lib.hid (HK3.out.trans hk4)
  clear ho hk4 HB hcv hl3
  go_wp2_with fail
  refine (HM0.out _).mono ?_
  rintro e w5 ⟨rfl, rfl⟩
  go_wp2_with fail
  refine (HM1.out _).mono ?_
  rintro e w5 ⟨rfl, rfl⟩
  go_wp2
  go_ret
  exact ⟨rfl, HK4.out⟩
end Go.Proofs.YtfmjfgmbjdhogaaGreatDoor

namespace Go.Proofs.YtfmjfgmbjdhogaaGreatDoor
open Go.RowKit
set_option linter.unusedVariables false
set_option linter.unusedSimpArgs false
set_option maxRecDepth 20000

end Go.Proofs.YtfmjfgmbjdhogaaGreatDoor

namespace Go.Proofs.YtfmjfgmbjdhogaaGreatDoor
open Go.RowKit
set_option linter.unusedVariables false

/-- The calls, each with its three numbers; where they lie. -/
def OpsAt (w : World) (ao : Option Addr) (len : Nat) (kd nn vv : Nat → Int) : Prop :=
  (ao = none → len = 0) ∧ ∀ b off, ao = some ⟨b, off, none⟩ → ∀ i, i < len →
    w.cell? ⟨b, off + i * 3, none⟩ = some (.int .i64 (kd i)) ∧ w.cell? ⟨b, off + i * 3 + 1, none⟩ = some (.int .i64 (nn i)) ∧ w.cell? ⟨b, off + i * 3 + 2, none⟩ = some (.int .u32 (vv i))

theorem OpsAt.below {w w' : World} {ao : Option Addr} {len : Nat} {kd nn vv : Nat → Int} (h : OpsAt w ao len kd nn vv) (hb : Below w.heap.size w w') : OpsAt w' ao len kd nn vv := by
  refine ⟨h.1, fun b off he i hi => ?_⟩
  obtain ⟨h1, h2, h3⟩ := h.2 b off he i hi
  have hlt := World.block_lt_of_cell? w _ h1
  exact ⟨(hb.cell hlt).trans h1, (hb.cell (p := ⟨b, off + i * 3 + 1, none⟩) hlt).trans h2, (hb.cell (p := ⟨b, off + i * 3 + 2, none⟩) hlt).trans h3⟩

end Go.Proofs.YtfmjfgmbjdhogaaGreatDoor

namespace Go.Proofs.YtfmjfgmbjdhogaaGreatDoor

def poly : Nat := 3988292384
def step1 (r : Nat) : Nat := if r % 2 = 1 then r / 2 ^^^ poly else r / 2
def steps : Nat → Nat → Nat
  | 0, r => r
  | n + 1, r => step1 (steps n r)
end Go.Proofs.YtfmjfgmbjdhogaaGreatDoor

namespace Go.Proofs.YtfmjfgmbjdhogaaGreatDoor
open Go.RowKit
set_option linter.unusedVariables false

end Go.Proofs.YtfmjfgmbjdhogaaGreatDoor

namespace Go.Proofs.YtfmjfgmbjdhogaaGreatDoor
open Go.RowKit
set_option linter.unusedVariables false

/-- The table, filled up to i. -/
def tblTo (i : Nat) : Array Value := ((List.range 256).map fun j => Value.int .u32 (if j < i then steps 8 j else 0 : Nat)).toArray
/-- A table that is whole. -/
def Tbl (w : World) (T : Nat) : Prop := w.heap[T]? = some (.cells (tblTo 256) 137 (0, 0))

/-- A row of parts, each a slice of bytes. -/
def Parts (w : World) (po : Option Addr) (ps : List (List Int)) : Prop :=
  ps = [] ∨ ∃ b off, po = some ⟨b, off, none⟩ ∧ b < w.heap.size ∧ ∀ i, i < ps.length → ∃ ao cap, w.cell? ⟨b, off + i, none⟩ = some (.slice ao (ps.getD i []).length cap) ∧ Reads w ao (ps.getD i []) ∧ (ps.getD i []).length ≤ cap ∧ cap ≤ maxLen ∧ (ao = none → cap = 0)
def AllP (ps : List (List Int)) : Prop := ∀ p ∈ ps, AllB p
theorem Parts.keptNo {w w' : World} {po : Option Addr} {ps : List (List Int)} (h : Parts w po ps) (hk : Kept NoB w w') : Parts w' po ps := by
  rcases h with h | ⟨b, off, h1, h2, h3⟩
  · exact .inl h
  · refine .inr ⟨b, off, h1, Nat.lt_of_lt_of_le h2 hk.size, fun i hi => ?_⟩
    obtain ⟨ao, cap, c, r, m⟩ := h3 i hi
    exact ⟨ao, cap, hk.cell c, r.keptNo hk, m⟩
theorem Tbl.keptNo {w w' : World} {T : Nat} (h : Tbl w T) (hk : Kept NoB w w') : Tbl w' T := hk.obj h (fun h => h)
theorem AllP.getD {ps : List (List Int)} (h : AllP ps) (i : Nat) : AllB (ps.getD i []) := by
  by_cases hi : i < ps.length
  · have : ps.getD i [] = ps[i] := by simp [List.getD, hi]
    rw [this]; exact h _ (List.getElem_mem hi)
  · have : ps.getD i [] = [] := by simp [List.getD, List.getElem?_eq_none (Nat.le_of_not_lt hi)]
    rw [this]; intro b hb; cases hb
theorem flat_succ (ps : List (List Int)) (j : Nat) (hj : j < ps.length) : (ps.take (j + 1)).flatten = (ps.take j).flatten ++ ps.getD j [] := by
  have e : ps.getD j [] = ps[j] := by simp [List.getD, hj]
  rw [e, List.take_succ_eq_append_getElem hj, List.flatten_append, List.flatten_cons, List.flatten_nil, List.append_nil]
end Go.Proofs.YtfmjfgmbjdhogaaGreatDoor

namespace Go.Proofs.YtfmjfgmbjdhogaaGreatDoor
open Go.RowKit
set_option linter.unusedVariables false

end Go.Proofs.YtfmjfgmbjdhogaaGreatDoor

namespace Go.Proofs.YtfmjfgmbjdhogaaGreatDoor
open Go.RowKit
set_option linter.unusedVariables false

end Go.Proofs.YtfmjfgmbjdhogaaGreatDoor

namespace Go.Proofs.YtfmjfgmbjdhogaaGreatDoor
open Go.RowKit
set_option linter.unusedVariables false

end Go.Proofs.YtfmjfgmbjdhogaaGreatDoor

namespace Go.Proofs.YtfmjfgmbjdhogaaGreatDoor
open Go.RowKit
set_option linter.unusedVariables false

theorem Parts.below {w w' : World} {po : Option Addr} {ps : List (List Int)} (h : Parts w po ps) (hb : Below w.heap.size w w') : Parts w' po ps :=
  h.keptNo ((Kept.refl NoB w).ofBelow hb)
end Go.Proofs.YtfmjfgmbjdhogaaGreatDoor

namespace Go.Proofs.YtfmjfgmbjdhogaaGreatDoor
open Go.RowKit
set_option linter.unusedVariables false

end Go.Proofs.YtfmjfgmbjdhogaaGreatDoor

namespace Go.Proofs.YtfmjfgmbjdhogaaGreatDoor
open Go.RowKit
set_option linter.unusedVariables false

structure Two (T1 T2 : TypeId) (w0 w : World) (A : Nat) (aoa : Option Addr) (capa : Nat) (ba : List Int) (sa : Nat) (B : Nat) (aob : Option Addr) (capb : Nat) (bb : List Int) (sb : Nat) : Prop where
  a : WtrT T1 w A aoa capa ba sa
  b : WtrT T2 w B aob capb bb sb
  ne : A ≠ B
  fa : w0.heap.size ≤ A
  fb : w0.heap.size ≤ B
  oa : ∀ k, (Value.slice aoa ba.length capa).ownBlock = some k → w0.heap.size ≤ k
  ob : ∀ k, (Value.slice aob bb.length capb).ownBlock = some k → w0.heap.size ≤ k
  ab : ∀ k, (Value.slice aoa ba.length capa).ownBlock = some k → (Value.slice aob bb.length capb).ownBlock ≠ some k
  ta : T1 ≠ 5
  tb : T2 ≠ 5
  bel : Below w0.heap.size w0 w
variable {T1 T2 : TypeId} {w0 w w' : World} {A : Nat} {aoa : Option Addr} {capa : Nat} {ba : List Int} {sa : Nat} {B : Nat} {aob : Option Addr} {capb : Nat} {bb : List Int} {sb : Nat}
theorem Two.swap (h : Two T1 T2 w0 w A aoa capa ba sa B aob capb bb sb) : Two T2 T1 w0 w B aob capb bb sb A aoa capa ba sa :=
  ⟨h.b, h.a, h.ne.symm, h.fb, h.fa, h.ob, h.oa, (fun k h1 h2 => h.ab k h2 h1), h.tb, h.ta, h.bel⟩
theorem Two.keptNo (h : Two T1 T2 w0 w A aoa capa ba sa B aob capb bb sb) (hk : Kept NoB w w') : Two T1 T2 w0 w' A aoa capa ba sa B aob capb bb sb :=
  ⟨h.a.kept hk (fun h => h) (fun _ _ h => h), h.b.kept hk (fun h => h) (fun _ _ h => h), h.ne, h.fa, h.fb, h.oa, h.ob, h.ab, h.ta, h.tb, hk.belowNo h.bel⟩
/-- The first one is written, its row where it was or new: the second stays. -/
theorem Two.put (h : Two T1 T2 w0 w A aoa capa ba sa B aob capb bb sb) {ao' : Option Addr} {cap' : Nat} {ba' : List Int} {sa' : Nat} (ha : WtrT T1 w' A ao' cap' ba' sa') (hk : Kept (OrB (OneB A) (OwnB (.slice aoa ba.length capa))) w w')
    (ho : ∀ k, (Value.slice ao' ba'.length cap').ownBlock = some k → (Value.slice aoa ba.length capa).ownBlock = some k ∨ w.heap.size ≤ k) : Two T1 T2 w0 w' A ao' cap' ba' sa' B aob capb bb sb := by
  have hbl := h.b.2.1.lt
  refine ⟨ha, h.b.kept hk ?_ ?_, h.ne, h.fa, h.fb, ?_, h.ob, ?_, h.ta, h.tb, hk.below h.bel ?_⟩
  · intro e
    rcases e with e | e
    · exact h.ne e.symm
    · exact row_ne h.a.2.1 h.b.1 h.tb B e rfl
  · intro k hk' e
    rcases e with e | e
    · exact row_ne h.b.2.1 h.a.1 h.ta k hk' e
    · exact h.ab k e hk'
  · intro k hk'
    rcases ho k hk' with e | e
    · exact h.oa k e
    · have := h.bel.size; omega
  · intro k hk' e
    rcases ho k hk' with e' | e'
    · exact h.ab k e' e
    · have := (hbl k e).2; omega
  · intro k e
    rcases e with e | e
    · have := h.fa; simp [OneB] at e; omega
    · exact h.oa k e
end Go.Proofs.YtfmjfgmbjdhogaaGreatDoor

namespace Go.Proofs.YtfmjfgmbjdhogaaGreatDoor
open Go.RowKit
set_option linter.unusedVariables false
set_option maxRecDepth 20000

end Go.Proofs.YtfmjfgmbjdhogaaGreatDoor

namespace Go.Proofs.YtfmjfgmbjdhogaaGreatDoor
open Go.RowKit
set_option linter.unusedVariables false
set_option linter.unusedSimpArgs false

end Go.Proofs.YtfmjfgmbjdhogaaGreatDoor

namespace Go.Proofs.YtfmjfgmbjdhogaaGreatDoor
open Go.RowKit
set_option linter.unusedVariables false
set_option linter.unusedSimpArgs false
set_option maxRecDepth 20000

def litX (t : Tk) : Nat := if t.l = 258 then 0 else le4 (lastI lb 27 t.l.toNat)
def litV (t : Tk) : Nat := if t.l = 258 then 0 else t.l.toNat - lb (lastI lb 27 t.l.toNat)
def distV (t : Tk) : Nat := t.d.toNat - db (distSy t)
def tokWd (lit dist : List Int) (t : Tk) : List (Nat × Nat) :=
  if t.l = 0 then [wordZ lit t.c] else [wordZ lit ((litSy t : Nat) : Int), (litV t, litX t), wordZ dist ((distSy t : Nat) : Int), (distV t, de (distSy t))]
theorem sy_long {j u : Nat} (hj : j < 30) (hu : u < 2 ^ de j) : litSy ⟨258, ((db j + u : Nat) : Int), 0⟩ = 285 ∧ litV ⟨258, ((db j + u : Nat) : Int), 0⟩ = 0 ∧ litX ⟨258, ((db j + u : Nat) : Int), 0⟩ = 0 ∧ distSy ⟨258, ((db j + u : Nat) : Int), 0⟩ = j ∧ distV ⟨258, ((db j + u : Nat) : Int), 0⟩ = u := by
  have hd : distSy ⟨258, ((db j + u : Nat) : Int), 0⟩ = j := by unfold distSy; rw [Int.toNat_natCast]; exact db_last hj hu
  refine ⟨rfl, rfl, rfl, hd, ?_⟩
  unfold distV
  rw [hd, Int.toNat_natCast]; omega
theorem sy_copy {i v j u : Nat} (hi : i < 28) (hv : v < 2 ^ le4 i) (hlv : lb i + v ≤ 257) (hj : j < 30) (hu : u < 2 ^ de j) : litSy ⟨((lb i + v : Nat) : Int), ((db j + u : Nat) : Int), 0⟩ = 257 + i ∧ litV ⟨((lb i + v : Nat) : Int), ((db j + u : Nat) : Int), 0⟩ = v ∧
    litX ⟨((lb i + v : Nat) : Int), ((db j + u : Nat) : Int), 0⟩ = le4 i ∧ distSy ⟨((lb i + v : Nat) : Int), ((db j + u : Nat) : Int), 0⟩ = j ∧ distV ⟨((lb i + v : Nat) : Int), ((db j + u : Nat) : Int), 0⟩ = u := by
  have h3 := lb_top i hi
  have hd : distSy ⟨((lb i + v : Nat) : Int), ((db j + u : Nat) : Int), 0⟩ = j := by unfold distSy; rw [Int.toNat_natCast]; exact db_last hj hu
  have hn : ¬ ((lb i + v : Nat) : Int) = 258 := by omega
  refine ⟨?_, ?_, ?_, hd, ?_⟩
  · unfold litSy
    rw [if_neg (by simp only; omega), if_neg (by simp only; omega), Int.toNat_natCast, lb_last hi hv]
  · unfold litV
    rw [if_neg hn, Int.toNat_natCast, lb_last hi hv]; omega
  · unfold litX
    rw [if_neg hn, Int.toNat_natCast, lb_last hi hv]
  · unfold distV
    rw [hd, Int.toNat_natCast]; omega
theorem TokW.eq {lit dist : List Int} {t : Tk} {ws : List (Nat × Nat)} (h : TokW lit dist t ws) : ws = tokWd lit dist t := by
  cases h with
  | one c _ _ _ => rfl
  | long j u hj hu _ _ =>
    obtain ⟨e1, e2, e3, e4, e5⟩ := sy_long hj hu
    unfold tokWd
    rw [if_neg (show ¬ (258 : Int) = 0 by decide), e1, e2, e3, e4, e5]
    rfl
  | copy i v j u hi hv hlv hj hu _ _ =>
    have h3 := lb_top i hi
    obtain ⟨e1, e2, e3, e4, e5⟩ := sy_copy hi hv hlv hj hu
    unfold tokWd
    rw [if_neg (by simp only; omega), e1, e2, e3, e4, e5]
theorem TokWs.eq {lit dist : List Int} {ts : List Tk} {ws : List (Nat × Nat)} (h : TokWs lit dist ts ws) : ws = ts.flatMap (tokWd lit dist) := by
  induction h with
  | nil => rfl
  | cons a _ ih => rw [List.flatMap_cons, ← a.eq, ← ih]
end Go.Proofs.YtfmjfgmbjdhogaaGreatDoor

namespace Go.Proofs.YtfmjfgmbjdhogaaGreatDoor
open Go.RowKit
set_option linter.unusedVariables false
set_option linter.unusedSimpArgs false

theorem cost_inc : ∀ (L Z : List Int) (k : Nat), k < L.length → costL (incAt L k) Z = costL L Z + Z.getD k 0
  | [], Z, k, h => absurd h (by simp)
  | a :: L, [], 0, h => by simp [incAt, costL]
  | a :: L, [], k + 1, h => by simp [incAt, costL]
  | a :: L, z :: Z, 0, h => by
    have e : incAt (a :: L) 0 = (a + 1) :: L := rfl
    rw [e, costL, costL, Int.add_mul]
    show a * z + 1 * z + costL L Z = a * z + costL L Z + z
    omega
  | a :: L, z :: Z, k + 1, h => by
    have e : incAt (a :: L) (k + 1) = a :: incAt L k := rfl
    rw [e, costL, costL, cost_inc L Z k (by simpa using h)]
    show a * z + (costL L Z + Z.getD k 0) = a * z + costL L Z + Z.getD k 0
    omega
def extraT (t : Tk) : Nat := if t.l = 0 then 0 else litX t + de (distSy t)
def extraS : List Tk → Nat
  | [] => 0
  | t :: r => extraT t + extraS r
theorem word_wd {L : List Int} {k : Nat} (h : HasC L (k : Int)) : (((wordZ L (k : Int)).2 : Nat) : Int) = L.getD k 0 := by
  obtain ⟨k', hk, hkl, h0⟩ := h
  obtain rfl : k = k' := by omega
  unfold wordZ; rw [Int.toNat_natCast]; simp only; omega
theorem TokW.cost {lit dist : List Int} {t : Tk} {ws : List (Nat × Nat)} (h : TokW lit dist t ws) :
    litSy t < 286 ∧ (t.l ≠ 0 → distSy t < 30) ∧ ((wdN ws : Nat) : Int) = lit.getD (litSy t) 0 + (if t.l = 0 then 0 else dist.getD (distSy t) 0) + (extraT t : Int) := by
  cases h with
  | one c h0 h1 hc =>
    obtain ⟨k, rfl⟩ : ∃ k : Nat, c = (k : Int) := ⟨c.toNat, by omega⟩
    have hw := word_wd hc
    have hs : litSy ⟨0, 0, (k : Int)⟩ = k := by simp [litSy]
    refine ⟨by rw [hs]; omega, fun h => absurd rfl h, ?_⟩
    rw [hs]
    simp only [wdN, extraT, if_pos]
    omega
  | long j u hj hu hc hd =>
    obtain ⟨e1, e2, e3, e4, e5⟩ := sy_long hj hu
    have hc2 : HasC lit ((285 : Nat) : Int) := hc
    have hw := word_wd hc2
    have hw2 := word_wd hd
    have h2 : ¬ (258 : Int) = 0 := by decide
    rw [e1, e4]
    refine ⟨by decide, fun _ => hj, ?_⟩
    unfold extraT
    rw [e3, e4]
    simp only [wdN, if_neg h2]
    have hw' : (((wordZ lit 285).2 : Nat) : Int) = lit.getD 285 0 := hw
    omega
  | copy i v j u hi hv hlv hj hu hc hd =>
    have h3 := lb_top i hi
    obtain ⟨e1, e2, e3, e4, e5⟩ := sy_copy hi hv hlv hj hu
    have hw := word_wd hc
    have hw2 := word_wd hd
    have h2 : ¬ ((lb i + v : Nat) : Int) = 0 := by omega
    rw [e1, e4]
    refine ⟨by omega, fun _ => hj, ?_⟩
    unfold extraT
    rw [e3, e4]
    simp only [wdN, if_neg h2]
    omega
theorem fold_cost {lit dist : List Int} : ∀ {ts : List Tk} {ws : List (Nat × Nat)}, TokWs lit dist ts ws → (∀ t ∈ ts, t.ok = true) → ∀ (p : List Int × List Int) (n : Nat), CntB p n →
    ((wdN ws : Nat) : Int) = costL (ts.foldl tally1 p).1 lit + costL (ts.foldl tally1 p).2 dist - costL p.1 lit - costL p.2 dist + (extraS ts : Int) := by
  intro ts ws h
  induction h with
  | nil => intro _ p n hp; simp [wdN, extraS]; omega
  | @cons t r ws vs a b ih =>
    intro hok p n hp
    have h1 := ih (fun x hx => hok x (List.mem_cons_of_mem _ hx)) (tally1 p t) (n + 1) (hp.one t)
    obtain ⟨h2, h3, h4⟩ := a.cost
    have ho := hok t (List.mem_cons_self ..)
    rw [List.foldl_cons, wdN_append, extraS]
    have h5 : costL (tally1 p t).1 lit = costL p.1 lit + lit.getD (litSy t) 0 := by
      unfold tally1; rw [if_pos ho]; exact cost_inc _ _ _ (by rw [hp.1]; exact h2)
    have h6 : costL (tally1 p t).2 dist = costL p.2 dist + (if t.l = 0 then 0 else dist.getD (distSy t) 0) := by
      unfold tally1; rw [if_pos ho]; simp only
      by_cases hl : t.l = 0
      · rw [if_pos hl, if_pos hl]; omega
      · rw [if_neg hl, if_neg hl]; exact cost_inc _ _ _ (by rw [hp.2.1]; exact h3 hl)
    rw [h5, h6] at h1
    omega
theorem cost_rep0 : ∀ (n : Nat) (Z : List Int), costL (List.replicate n 0) Z = 0
  | 0, Z => by simp [costL]
  | n + 1, [] => by simp [costL, List.replicate_succ]
  | n + 1, z :: Z => by rw [List.replicate_succ, costL, cost_rep0 n Z]; omega
/-- What is put for tokens and the end takes what the counts cost, and the bits behind. -/
theorem wd_cost {lit dist : List Int} {ts : List Tk} {ws : List (Nat × Nat)} (h : TokWs lit dist ts ws) (hok : allOkB ts = true) (he : HasC lit 256) :
    ((wdN (ws ++ [wordZ lit 256]) : Nat) : Int) = costL (tally ts).1 lit + costL (tally ts).2 dist + (extraS ts : Int) := by
  have h1 := fold_cost h (fun t ht => allOkB_mem hok t ht) tally0 0 tally0_b
  have he2 : HasC lit ((256 : Nat) : Int) := he
  have hw : (((wordZ lit 256).2 : Nat) : Int) = lit.getD 256 0 := word_wd he2
  have h2 : costL tally0.1 lit = lit.getD 256 0 := by
    have e : tally0.1 = incAt (List.replicate 286 0) 256 := by
      unfold tally0 incAt
      simp only
      have e0 : (List.replicate 286 (0 : Int)).getD 256 0 = 0 := by
        rw [List.getD, List.getElem?_replicate, if_pos (by omega)]; rfl
      rw [e0]; rfl
    rw [e, cost_inc _ _ _ (by rw [List.length_replicate]; omega), cost_rep0]; omega
  have h3 : costL tally0.2 dist = 0 := cost_rep0 30 dist
  rw [h2, h3] at h1
  rw [wdN_append]
  unfold tally
  simp only [wdN]
  omega
end Go.Proofs.YtfmjfgmbjdhogaaGreatDoor
