/-
  What layer 1's statements ask of themselves first: a few bits, put and taken.
-/
import Derived.Test.YtffoigacpnlkgaaBitsC
import Derived.Test.YtffoigacpnlkgaaPut
import Derived.Test.YtffoigacpnlkgaaRev
import Derived.Laws.BytesArg
namespace Go.Proofs.Ytffoigacpnlkgaa
open Go.RowKit
set_option linter.unusedVariables false

theorem conv_own {w : World} {ao : Option Addr} {n cap : Nat} {xs : List Int} (h : w.ownsRow 0 5 1 (.slice ao n cap) n (xs.map (.int .u8))) (hn : n = xs.length) :
    (convert 22 9 (.slice ao n cap)).run Try.prog w = .ok (.string (strOfNums xs)) w := by
  subst hn
  have hr := own_reads h rfl
  cases ao with
  | none =>
    have : xs = [] := hr.1 rfl
    subst this
    exact run_convert_bytes_nil (P := Try.prog) w _ 5 Try.underlying22 Try.underlying5 _ _ _ Try.underlying9
  | some a =>
    obtain ⟨g, rfl⟩ : ∃ g, a = ⟨g, 0, none⟩ := by
      rcases h.2 with ⟨hv, _⟩ | ⟨g, c, cur, hv, _⟩
      · simp at hv
      · simp at hv; exact ⟨g, hv.1⟩
    exact run_convert_bytes_arg (P := Try.prog) w _ 5 Try.underlying22 Try.underlying5 g 0 xs.length cap xs rfl (fun i hi => by
      have := hr.2 _ rfl i hi
      rwa [addr_add] at this) _ Try.underlying9

theorem num_one (bs : List Int) (h : AllB bs) (hl : bs.length = 1) (x : Nat) (hx : num bs = x) : bs = [(x : Int)] := by
  match bs, hl with
  | [b], _ =>
    have hb := h b (by simp)
    simp [num] at hx
    simp; omega

theorem newr_n (ao : Option Addr) (cap n : Nat) (bs : List Int) (w : World) (hn : bs.length = n) (hr : Reads w ao bs) (hl : bs.length ≤ 140737488355328) (hb : AllB bs) :
    Calls Try.prog 16 #[.slice ao n cap] w (NewR w bs) := by
  subst hn; exact newr_any ao cap bs w hr hl hb

set_option maxHeartbeats 2000000 in
theorem awake1 (w : World) : Calls Try.prog 15 #[] w fun e w' => e = .returned (.bool true) ∧ Below w.heap.size w w' := by
  go_enter Try.func15, Try.ntmps15
  go_wp2_with fail
  refine (newr_n (some ⟨w.heap.size, 0, none⟩) _ _ [5, 1] _ rfl ?_ (by decide) (by intro b hb; simp at hb; omega)).mono ?_
  · refine ⟨fun h => by (cases h), fun a ha i hi => ?_⟩
    cases ha
    match i, hi with
    | 0, _ => simp [addr_add]
    | 1, _ => simp [addr_add]
  rintro e w1 ⟨R, ao, cap, rfl, hR, hRf, hRo, hk1⟩
  have b1 : Below w.heap.size w w1 := hk1.belowNo ((Below.refl _ _).alloc (Nat.le_refl _) _)
  have HB1 := Lib.hid b1; have HR := Lib.hid hR; have HK1 := Lib.hid hk1
  clear b1 hR hRo hk1
  go_wp2_with fail
  refine (neww_any _).mono ?_
  rintro e w2 ⟨W, rfl, hW, hWf, hk2⟩
  have HR2 := Lib.hid (HR.out.keptNo hk2)
  have HB2 := Lib.hid (hk2.belowNo HB1.out)
  have HW := Lib.hid hW
  clear hW hk2
  go_wp2_with fail
  refine (take_yes _ _ _ _ _ _ 3 HR2.out (by decide) (by decide)).mono ?_
  rintro e w3 ⟨rfl, hR, hk3⟩
  have HR3 := Lib.hid hR
  have HB3 := Lib.hid (hk3.below HB2.out (by intro k hk; have := HK1.out.size; simp [OneB] at hk this; simp at hRf; omega))
  have HW3 := Lib.hid (HW.out.kept hk3 (by intro e; have := HR.out.1; have := obj_lt this; simp [OneB] at e; omega) (by intro k hk; simp [Value.ownBlock] at hk))
  clear hR hk3
  rw [show ((bitsAt [5, 1] 0 3 : Nat) : Int) = 5 from rfl]
  go_wp2_with fail
  refine (take_no _ _ _ _ _ _ 14 HR3.out (by right; right; decide)).mono ?_
  rintro e w4 ⟨rfl, hk4⟩
  have HR4 := Lib.hid (HR3.out.keptNo hk4)
  have HB4 := Lib.hid (hk4.belowNo HB3.out)
  have HW4 := Lib.hid (HW3.out.keptNo hk4)
  clear hk4
  go_wp2_with fail
  refine (put_any _ _ _ _ _ _ 5 3 HW4.out (by decide) (by decide) (by decide)).mono ?_
  rintro e w5 ⟨ao5, cap5, bs5, rfl, hW5, hN5, hk5, ho5⟩
  have HR5 := Lib.hid (HR4.out.kept hk5 (by
    intro e
    rcases e with e | e
    · have := obj_lt HR.out.1; simp [OneB] at e; omega
    · simp [OwnB, Value.ownBlock] at e) (by
    intro k hk e
    rcases e with e | e
    · have := HR.out.2.1.lt k hk; simp [OneB] at e; omega
    · simp [OwnB, Value.ownBlock] at e))
  have HB5 := Lib.hid (hk5.below HB4.out (by
    intro k e
    rcases e with e | e
    · have := HB1.out.size; simp [OneB] at e; omega
    · simp [OwnB, Value.ownBlock] at e))
  have hbs : bs5 = [5] := by
    have := num_one bs5 hW5.2.2.1 (by have := hW5.2.2.2.1; omega) 5 (by simpa [num] using hN5)
    simpa using this
  subst hbs
  have HW5 := Lib.hid hW5
  clear hW5 hk5 ho5 hN5
  go_wp2_with fail
  refine (left_any _ _ _ _ _ _ HR5.out).mono ?_
  rintro e w6 ⟨rfl, hk6⟩
  have HR6 := Lib.hid (HR5.out.keptNo hk6)
  have HB6 := Lib.hid (hk6.belowNo HB5.out)
  have HW6 := Lib.hid (HW5.out.keptNo hk6)
  clear hk6
  go_wp2_with fail
  refine (at_any _ _ _ _ _ _ HR6.out).mono ?_
  rintro e w7 ⟨rfl, hk7⟩
  have HB7 := Lib.hid (hk7.belowNo HB6.out)
  have HW7 := Lib.hid (HW6.out.keptNo hk7)
  clear hk7
  go_wp2_with fail
  refine (wbytes_any _ _ _ _ _ _ HW7.out).mono ?_
  rintro e w8 ⟨ao8, cap8, rfl, ho8, hf8, hn8, hk8⟩
  have HB8 := Lib.hid (hk8.belowNo HB7.out)
  have hcv : (convert 22 9 (.slice ao8 1 cap8)).run Try.prog w8 = .ok (.string ⟨#[5]⟩) w8 := conv_own ho8 rfl
  clear ho8 hf8 hn8 hk8
  go_wp2_with fail
  refine (rev_any 6 3 _ (by decide) (by decide) (by decide)).mono ?_
  rintro e w9 ⟨rfl, rfl⟩
  rw [show ((revN 3 6 : Nat) : Int) = 3 from rfl]
  go_wp2
  go_ret
  exact ⟨rfl, HB8.out⟩
end Go.Proofs.Ytffoigacpnlkgaa
