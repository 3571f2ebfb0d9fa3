/-
  Slices of bytes as strings; the check of one part and of two.
-/
import Derived.Test.YtffoigacpnlkgaaCrcR
import Derived.Test.YtffoigacpnlkgaaLawCrcParts
namespace Go.Proofs.Ytffoigacpnlkgaa
open Go.RowKit
set_option linter.unusedVariables false

theorem conv_reads {w : World} {ao : Option Addr} {n cap : Nat} {xs : List Int} (h : Reads w ao xs) (hn : n = xs.length) (h0 : ao = none → cap = 0) :
    (convert 22 9 (.slice ao n cap)).run Try.prog w = .ok (.string (strOfNums xs)) w := by
  subst hn
  by_cases hx : xs = []
  · subst hx
    cases ao with
    | none => exact run_convert_bytes_nil (P := Try.prog) w _ 5 Try.underlying22 Try.underlying5 _ _ _ Try.underlying9
    | some a =>
      show (convert 22 9 (.slice (some a) 0 cap)).run Try.prog w = .ok (.string (strOfNums [])) w
      rw [run_convert_bytes_string w 22 9 5 (some a) 0 cap Try.underlying22 Try.underlying5 Try.underlying9]
      simp [Conv.bytesToString, loadCells, loadCellsFrom]
      rfl
  · obtain ⟨b, off, rfl, _, hc⟩ := h.at (by cases xs with | nil => exact absurd rfl hx | cons => simp)
    exact run_convert_bytes_arg (P := Try.prog) w _ 5 Try.underlying22 Try.underlying5 b off xs.length cap xs rfl hc _ Try.underlying9

/-- The check of one part, and of two: the slice of parts lies in a block of its own. -/
theorem sum_one {W : World} {T k n cap : Nat} {ao : Option Addr} (bs : List Int) (hT : Tbl W T) (hc : W.cell? ⟨k, 0, none⟩ = some (.slice ao n cap)) (hn : bs.length = n) (hr : Reads W ao bs) (hb : AllB bs) (h1 : n ≤ cap) (h2 : cap ≤ maxLen) (h3 : ao = none → cap = 0) :
    Calls Try.prog 40 #[.pointer (some ⟨T, 0, none⟩), .slice (some ⟨k, 0, none⟩) 1 1] W fun e w' => e = .returned (.int .u32 (crcOf 0 (nats bs) : Nat)) ∧ Kept NoB W w' := by
  subst hn
  have h := sum_any W T (some ⟨k, 0, none⟩) 1 1 [bs] hT (.inr ⟨k, 0, rfl, World.block_lt_of_cell? W _ hc, fun i hi => by
    match i, hi with
    | 0, _ => exact ⟨ao, cap, hc, hr, h1, h2, h3⟩⟩) (by intro p hp; simp at hp; subst hp; exact hb) rfl (by decide)
  rwa [show [bs].flatten = bs from by simp] at h
theorem sum_two {W : World} {T k n cap n2 cap2 : Nat} {ao ao2 : Option Addr} (bs p q : List Int) (hpq : p ++ q = bs) (hT : Tbl W T) (hc : W.cell? ⟨k, 0, none⟩ = some (.slice ao n cap)) (hn : p.length = n) (hr : Reads W ao p) (h1 : n ≤ cap) (h2 : cap ≤ maxLen) (h3 : ao = none → cap = 0)
    (hc2 : W.cell? ⟨k, 1, none⟩ = some (.slice ao2 n2 cap2)) (hn2 : q.length = n2) (hr2 : Reads W ao2 q) (h12 : n2 ≤ cap2) (h22 : cap2 ≤ maxLen) (h32 : ao2 = none → cap2 = 0) (hb : AllB bs) :
    Calls Try.prog 40 #[.pointer (some ⟨T, 0, none⟩), .slice (some ⟨k, 0, none⟩) 2 2] W fun e w' => e = .returned (.int .u32 (crcOf 0 (nats bs) : Nat)) ∧ Kept NoB W w' := by
  subst hn hn2
  have h := sum_any W T (some ⟨k, 0, none⟩) 2 2 [p, q] hT (.inr ⟨k, 0, rfl, World.block_lt_of_cell? W _ hc, fun i hi => by
    match i, hi with
    | 0, _ => exact ⟨ao, cap, hc, hr, h1, h2, h3⟩
    | 1, _ => exact ⟨ao2, cap2, hc2, hr2, h12, h22, h32⟩⟩) (by
      intro x hx y hy
      simp at hx
      apply hb y
      rw [← hpq]
      rcases hx with rfl | rfl
      · exact List.mem_append_left _ hy
      · exact List.mem_append_right _ hy) rfl (by decide)
  rwa [show [p, q].flatten = bs from by simp [hpq]] at h
theorem reads_take {w : World} {x : Addr} {bs : List Int} (k : Nat) (h : Reads w (some x) bs) : Reads w (some x) (bs.take k) := by
  refine ⟨(fun h => by cases h), ?_⟩
  intro a ha i hi
  cases ha
  rw [List.length_take] at hi
  rw [h.2 x rfl i (by omega)]
  simp [List.getD, show i < k from by omega]
theorem reads_drop {w : World} {x : Addr} {bs : List Int} (k : Nat) (h : Reads w (some x) bs) : Reads w (some (x.add k)) (bs.drop k) := by
  refine ⟨(fun h => by cases h), ?_⟩
  intro a ha i hi
  cases ha
  rw [List.length_drop] at hi
  rw [Go.Deep.add_add, h.2 x rfl (k + i) (by omega)]
  simp [List.getD]
theorem reads_empty {w : World} {x : Addr} : Reads w (some x) [] := ⟨(fun h => by cases h), (fun a _ i hi => by simp at hi)⟩

end Go.Proofs.Ytffoigacpnlkgaa
