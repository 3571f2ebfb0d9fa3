/-
  Rows of bytes that a call may be given, as texts too.
-/
import Derived.Test.YtifoldonmmobpaaDoorOwnB
namespace Go.Proofs.YtifoldonmmobpaaDoor
open Go.RowKit
set_option linter.unusedVariables false
set_option linter.unusedSimpArgs false

theorem strOf_bytesM (l : List UInt8) : strOfNums (l.map fun b => (b.toNat : Int)) = ⟨l.toArray⟩ := by
  apply ByteArray.ext
  apply Array.ext'
  rw [strOfNums_data, List.map_map]
  have : (fun n : Int => UInt8.ofNat n.toNat) ∘ (fun b : UInt8 => (b.toNat : Int)) = id := by
    funext b
    simp
  rw [this, List.map_id]
/-- A row of bytes that a call may be given. -/
structure RowA (w : World) (a : Option Addr) (m c : Nat) (L : List UInt8) : Prop where
  len : m = L.length
  rd : Reads w a (nb L)
  cap : m ≤ c
  max : c ≤ maxLen
  nil : a = none → c = 0
theorem RowA.on {w w' : World} {a : Option Addr} {m c : Nat} {L : List UInt8} (h : RowA w a m c L) (hk : Kept NoB w w') : RowA w' a m c L := ⟨h.len, h.rd.keptNo hk, h.cap, h.max, h.nil⟩
theorem RowA.row {w : World} {a : Option Addr} {m c : Nat} {L : List UInt8} (h : RowA w a m c L) : RowB w w.heap.size a L := fun hl => by
  obtain ⟨b, off, h1, h2, h3⟩ := h.rd.at (by rw [nb_len]; exact hl)
  refine ⟨b, off, h1, h2, fun i hi => ?_⟩
  rw [h3 i (by rw [nb_len]; exact hi), Nat.zero_add]
  simp [nb, List.getD, hi]
theorem RowA.conv {w : World} {a : Option Addr} {m c : Nat} {L : List UInt8} (h : RowA w a m c L) : (convert 22 9 (.slice a m c)).run Tryd.prog w = .ok (.string ⟨L.toArray⟩) w := by
  rw [conv_reads h.rd (by rw [nb_len]; exact h.len) h.nil, nb, strOf_bytesM]
theorem BySt.rowA {w0 w : World} {a : Option Addr} {m c : Nat} {L : List UInt8} (h : BySt w0 w a m c L) : RowA w a m c L := ⟨h.len, h.reads, h.cap.1, h.cap.2.1, h.cap.2.2⟩
end Go.Proofs.YtifoldonmmobpaaDoor
