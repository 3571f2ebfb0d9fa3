/-
  The reader and the document's own, side by side.
-/
import Derived.Test.YtokdlmpnokmniaaRefB
namespace Go.Proofs.Ytokdlmpnokmniaa
open Go.RowKit
set_option linter.unusedVariables false

/-- The reader and the document's own, each at its place. -/
structure Rds (w wr : World) (R : Nat) (ao : Option Addr) (cap : Nat) (bs : List Int) (B p q : Nat) : Prop where
  a : Rdr wr R ao cap bs p
  b : Rfb wr B bs q
  fa : w.heap.size ≤ R
  fb : w.heap.size ≤ B
  oa : ∀ k, (Value.slice ao bs.length cap).ownBlock = some k → w.heap.size ≤ k
  bel : Below w.heap.size w wr
section
variable {w wr w' : World} {R : Nat} {ao : Option Addr} {cap : Nat} {bs : List Int} {B p q p' q' : Nat}
theorem Rds.keptNo (h : Rds w wr R ao cap bs B p q) (hk : Kept NoB wr w') : Rds w w' R ao cap bs B p q :=
  ⟨h.a.keptNo hk, h.b.kept hk (fun h => h), h.fa, h.fb, h.oa, hk.belowNo h.bel⟩
theorem Rds.ne (h : Rds w wr R ao cap bs B p q) : B ≠ R := by
  rintro rfl
  have h1 := h.a.1
  rw [h.b.1] at h1
  simp at h1
theorem Rds.stepA (h : Rds w wr R ao cap bs B p q) (hR : Rdr w' R ao cap bs p') (hk : Kept (OneB R) wr w') : Rds w w' R ao cap bs B p' q :=
  ⟨hR, h.b.kept hk h.ne, h.fa, h.fb, h.oa, hk.below h.bel (by intro k e; have := h.fa; simp [OneB] at e; omega)⟩
theorem Rds.stepB (h : Rds w wr R ao cap bs B p q) (hB : Rfb w' B bs q') (hk : Kept (OneB B) wr w') : Rds w w' R ao cap bs B p q' :=
  ⟨h.a.kept hk (fun e => h.ne e.symm) (fun k hk' e => row_ne h.a.2.1 h.b.1 (by decide) k hk' e), hB, h.fa, h.fb, h.oa, hk.below h.bel (by intro k e; have := h.fb; simp [OneB] at e; omega)⟩
end
set_option maxHeartbeats 1000000 in
theorem at_same (w : World) (R : Nat) (ao : Option Addr) (cap : Nat) (bs : List Int) (p : Nat) (h : Rdr w R ao cap bs p) :
    Calls Try.prog 15 #[.pointer (some ⟨R, 0, none⟩)] w fun e w' => e = .returned (.int .i64 p) ∧ w = w' := by
  have c1 : w.cell? ⟨R, 1, none⟩ = some (.int .i64 p) := by simpa using obj_cell h.1 1
  clear h
  go_enter Try.func15, Try.ntmps15
  go_wp2
  go_ret
  exact ⟨rfl, rfl⟩
/-- What Take tells, and where it stands then. -/
def tkY (bs : List Int) (p : Nat) (n : Int) : Bool := decide (0 ≤ n ∧ n ≤ 32 ∧ p + n ≤ 8 * bs.length)
def tkX (bs : List Int) (p : Nat) (n : Int) : Nat := if 0 ≤ n ∧ n ≤ 32 ∧ p + n ≤ 8 * bs.length then bitsAt bs p n.toNat else 0
def tkQ (bs : List Int) (p : Nat) (n : Int) : Nat := if 0 ≤ n ∧ n ≤ 32 ∧ p + n ≤ 8 * bs.length then p + n.toNat else p
theorem takeA_all (w : World) (R : Nat) (ao : Option Addr) (cap : Nat) (bs : List Int) (p : Nat) (n : Int) (h : Rdr w R ao cap bs p) :
    Calls Try.prog 18 #[.pointer (some ⟨R, 0, none⟩), .int .i64 n] w fun e w' => e = .returned (.tuple #[.int .u32 (tkX bs p n : Nat), .bool (tkY bs p n)]) ∧ Rdr w' R ao cap bs (tkQ bs p n) ∧ Kept (OneB R) w w' := by
  unfold tkX tkY tkQ
  by_cases hn : 0 ≤ n ∧ n ≤ 32 ∧ p + n ≤ 8 * bs.length
  · rw [if_pos hn, if_pos hn, decide_eq_true hn]
    obtain ⟨m, rfl⟩ := Int.eq_ofNat_of_zero_le hn.1
    exact take_yes w R ao cap bs p m h (by omega) (by omega)
  · rw [if_neg hn, if_neg hn, decide_eq_false hn]
    refine (take_no w R ao cap bs p n h (by omega)).mono ?_
    rintro e w' ⟨rfl, hk⟩
    exact ⟨rfl, h.keptNo hk, hk.mono (fun _ _ h => h.elim)⟩
theorem takeB_all (w : World) (R : Nat) (bs : List Int) (p : Nat) (n : Int) (h : Rfb w R bs p) :
    Calls Try.prog 19 #[.pointer (some ⟨R, 0, none⟩), .int .i64 n] w fun e w' => e = .returned (.tuple #[.int .u32 (tkX bs p n : Nat), .bool (tkY bs p n)]) ∧ Rfb w' R bs (tkQ bs p n) ∧ Kept (OneB R) w w' := by
  unfold tkX tkY tkQ
  by_cases hn : 0 ≤ n ∧ n ≤ 32 ∧ p + n ≤ 8 * bs.length
  · rw [if_pos hn, if_pos hn, decide_eq_true hn]
    obtain ⟨m, rfl⟩ := Int.eq_ofNat_of_zero_le hn.1
    exact refTake_yes w R bs p m h (by omega) (by omega)
  · rw [if_neg hn, if_neg hn, decide_eq_false hn]
    refine (refTake_no w R bs p n h (by omega)).mono ?_
    rintro e w' ⟨rfl, hk⟩
    exact ⟨rfl, h.kept hk (fun h => h), hk.mono (fun _ _ h => h.elim)⟩
end Go.Proofs.Ytokdlmpnokmniaa
