/-
  NewReader; the writer of bits: NewWriter, Bytes, Len, Align.
-/
import Derived.Test.YtokdlmpnokmniaaBitsB
import Derived.Test.YtokdlmpnokmniaaClone
namespace Go.Proofs.Ytokdlmpnokmniaa
open Go.RowKit
set_option linter.unusedVariables false

def NewR (w : World) (bs : List Int) (e : Ending) (w' : World) : Prop :=
  ∃ R ao cap, e = .returned (.pointer (some ⟨R, 0, none⟩)) ∧ Rdr w' R ao cap bs 0 ∧ w.heap.size ≤ R ∧ (∀ k, (Value.slice ao bs.length cap).ownBlock = some k → w.heap.size ≤ k) ∧ Kept NoB w w'

set_option maxHeartbeats 1000000 in
theorem newr_any (ao : Option Addr) (cap : Nat) (bs : List Int) (w : World) (hr : Reads w ao bs) (hl : bs.length ≤ 140737488355328) (hb : AllB bs) :
    Calls Try.prog 13 #[.slice ao bs.length cap] w (NewR w bs) := by
  have HR := Lib.hid hr; clear hr
  have HB := Lib.hid hb; clear hb
  go_enter Try.func13, Try.ntmps13
  go_wp2_with (go_at_call 29; refine (clone_any _ _ _ _ HR.out hl).mono ?_; rintro e w1 ⟨ao', cap', rfl, ho, hf, hn, hk⟩)
  go_ret
  refine ⟨w1.heap.size, ao', cap', rfl, ⟨?_, ?_, by omega, by omega, HB.out⟩, hk.size, hf, hk.alloc _⟩
  · exact heap_alloc_new _ _
  · exact ho.alloc _

/-- A writer: its bytes, in a row of its own, and how many bits were put. -/
def WtrT (T : TypeId) (w : World) (R : Nat) (ao : Option Addr) (cap : Nat) (bs : List Int) (s : Nat) : Prop :=
  w.heap[R]? = some (.cells #[.slice ao bs.length cap, .int .i64 s] T (0, 0)) ∧ w.ownsRow 0 5 1 (.slice ao bs.length cap) bs.length (bs.map (.int .u8)) ∧
  AllB bs ∧ bs.length = (s + 7) / 8 ∧ num bs < 2 ^ s ∧ s ≤ 1000000000000

def Wtr (w : World) (R : Nat) (ao : Option Addr) (cap : Nat) (bs : List Int) (s : Nat) : Prop := WtrT 76 w R ao cap bs s

theorem WtrT.kept {T : TypeId} {S : Nat → Prop} {w w' : World} {R : Nat} {ao : Option Addr} {cap : Nat} {bs : List Int} {p : Nat} (h : WtrT T w R ao cap bs p) (hk : Kept S w w') (h1 : ¬ S R) (h2 : ∀ k, (Value.slice ao bs.length cap).ownBlock = some k → ¬ S k) : WtrT T w' R ao cap bs p :=
  ⟨hk.obj h.1 h1, hk.row h.2.1 h2, h.2.2⟩
theorem Wtr.kept {S : Nat → Prop} {w w' : World} {R : Nat} {ao : Option Addr} {cap : Nat} {bs : List Int} {p : Nat} (h : Wtr w R ao cap bs p) (hk : Kept S w w') (h1 : ¬ S R) (h2 : ∀ k, (Value.slice ao bs.length cap).ownBlock = some k → ¬ S k) : Wtr w' R ao cap bs p :=
  ⟨hk.obj h.1 h1, hk.row h.2.1 h2, h.2.2⟩
theorem Wtr.keptNo {w w' : World} {R : Nat} {ao : Option Addr} {cap : Nat} {bs : List Int} {p : Nat} (h : Wtr w R ao cap bs p) (hk : Kept NoB w w') : Wtr w' R ao cap bs p :=
  h.kept hk (fun h => h) (fun _ _ h => h)

def NewW (w : World) (e : Ending) (w' : World) : Prop :=
  ∃ R, e = .returned (.pointer (some ⟨R, 0, none⟩)) ∧ Wtr w' R none 0 [] 0 ∧ w.heap.size ≤ R ∧ Kept NoB w w'
set_option maxHeartbeats 1000000 in
theorem neww_any (w : World) : Calls Try.prog 21 #[] w (NewW w) := by
  go_enter Try.func21, Try.ntmps21
  go_wp2
  go_ret
  refine ⟨w.heap.size, rfl, ⟨heap_alloc_new _ _, World.ownsRow_nil _ _ _ _, (by intro b hb; cases hb), by simp, by simp [num], by omega⟩, Nat.le_refl _, (Kept.refl _ _).alloc _⟩

set_option maxHeartbeats 1000000 in
theorem wlen_any (w : World) (R : Nat) (ao : Option Addr) (cap : Nat) (bs : List Int) (s : Nat) (h : Wtr w R ao cap bs s) :
    Calls Try.prog 23 #[.pointer (some ⟨R, 0, none⟩)] w fun e w' => e = .returned (.int .i64 s) ∧ Kept NoB w w' := by
  have c1 : w.cell? ⟨R, 1, none⟩ = some (.int .i64 s) := by simpa using obj_cell h.1 1
  clear h
  go_enter Try.func23, Try.ntmps23
  go_wp2
  go_ret
  exact ⟨rfl, Kept.refl _ _⟩

set_option maxHeartbeats 1000000 in
theorem wbytes_any (w : World) (R : Nat) (ao : Option Addr) (cap : Nat) (bs : List Int) (s : Nat) (h : Wtr w R ao cap bs s) :
    Calls Try.prog 24 #[.pointer (some ⟨R, 0, none⟩)] w (Copied w ao bs) := by
  have c0 : w.cell? ⟨R, 0, none⟩ = some (.slice ao bs.length cap) := by simpa using obj_cell h.1 0
  have hr := own_reads h.2.1 rfl
  have hl : bs.length ≤ 140737488355328 := by have := h.2.2.2.1; have := h.2.2.2.2.2; omega
  clear h
  have HR := Lib.hid hr; clear hr
  go_enter Try.func24, Try.ntmps24
  go_wp2_with (go_at_call 29; refine (clone_any _ _ _ _ HR.out hl).mono ?_; rintro e w1 ⟨ao', cap', rfl, ho, hf, hn, hk⟩)
  go_ret
  exact ⟨ao', cap', rfl, ho, hf, hn, hk⟩

end Go.Proofs.Ytokdlmpnokmniaa
