/-
  The reader of bits: Take, Align, At, Bytes, NewReader.
-/
import Derived.Test.YtokdlmpnokmniaaBitsA
namespace Go.Proofs.Ytokdlmpnokmniaa
open Go.RowKit
set_option linter.unusedVariables false

theorem Rdr.moved {w w' : World} {R : Nat} {ao : Option Addr} {cap : Nat} {bs : List Int} {p q : Nat} (h : Rdr w R ao cap bs p) (hk : Kept NoB w w') (hq : q ≤ 8 * bs.length) :
    Rdr (w'.setCell ⟨R, 1, none⟩ (.int .i64 q)) R ao cap bs q := by
  obtain ⟨ho, hr, hl, ha, hb⟩ := h
  have ho' := hk.obj ho (fun h => h)
  have hr' := hk.row hr (fun _ _ h => h)
  have hne := row_ne hr' ho' (by decide)
  refine ⟨?_, ?_, hl, hq, hb⟩
  · simpa using obj_set ho' 1 (.int .i64 q)
  · exact ((Kept.refl (OneB R) w').setCell (p := ⟨R, 1, none⟩) (.inl rfl) _).row hr' (fun k hk' e => hne k hk' e)
theorem Rdr.kept {S : Nat → Prop} {w w' : World} {R : Nat} {ao : Option Addr} {cap : Nat} {bs : List Int} {p : Nat} (h : Rdr w R ao cap bs p) (hk : Kept S w w') (h1 : ¬ S R) (h2 : ∀ k, (Value.slice ao bs.length cap).ownBlock = some k → ¬ S k) : Rdr w' R ao cap bs p :=
  ⟨hk.obj h.1 h1, hk.row h.2.1 h2, h.2.2⟩
theorem Rdr.keptNo {w w' : World} {R : Nat} {ao : Option Addr} {cap : Nat} {bs : List Int} {p : Nat} (h : Rdr w R ao cap bs p) (hk : Kept NoB w w') : Rdr w' R ao cap bs p :=
  h.kept hk (fun h => h) (fun _ _ h => h)

set_option maxHeartbeats 1000000 in
theorem take_yes (w : World) (R : Nat) (ao : Option Addr) (cap : Nat) (bs : List Int) (p : Nat) (n : Nat) (h : Rdr w R ao cap bs p) (hn : n ≤ 32) (hle : p + n ≤ 8 * bs.length) :
    Calls Try.prog 18 #[.pointer (some ⟨R, 0, none⟩), .int .i64 n] w fun e w' => e = .returned (.tuple #[.int .u32 (bitsAt bs p n : Nat), .bool true]) ∧ Rdr w' R ao cap bs (p + n) ∧ Kept (OneB R) w w' := by
  have hh := h.2.2.2.1
  have hm : min3 n (8 * bs.length - p) = n := by unfold min3; omega
  have HM := Lib.hid hm; clear hm
  have hlm : bs.length ≤ 1000000000000000 := h.2.2.1
  have H := Lib.hid h; clear h
  go_enter Try.func18, Try.ntmps18
  go_wp2_with (go_at_call 32; refine (left_any _ _ _ _ _ _ H.out).mono ?_; rintro e w1 ⟨rfl, hk1⟩)
  refine (peek_any _ _ _ _ _ _ _ (H.out.keptNo hk1) n HM.out).mono ?_
  rintro e w2 ⟨rfl, hk2⟩
  have hk := hk1.trans hk2
  have hr2 := H.out.keptNo hk
  have c1 : w2.cell? ⟨R, 1, none⟩ = some (.int .i64 p) := by simpa using obj_cell hr2.1 1
  have f1 : w2.frozen? ⟨R, 1, none⟩ = false := obj_free hr2.1 1
  have HR := Lib.hid hr2; clear hr2
  go_wp2
  go_ret2
  refine ⟨rfl, ?_, ?_⟩
  · exact HR.out.moved (Kept.refl _ _) hle
  · exact Kept.setCell (S := OneB R) (p := ⟨R, 1, none⟩) (hk.mono (fun _ _ h => h.elim)) (.inl rfl) _

set_option maxHeartbeats 1000000 in
theorem take_no (w : World) (R : Nat) (ao : Option Addr) (cap : Nat) (bs : List Int) (p : Nat) (n : Int) (h : Rdr w R ao cap bs p) (hn : n < 0 ∨ 32 < n ∨ 8 * bs.length < p + n) :
    Calls Try.prog 18 #[.pointer (some ⟨R, 0, none⟩), .int .i64 n] w fun e w' => e = .returned (.tuple #[.int .u32 0, .bool false]) ∧ Kept NoB w w' := by
  have hh := h.2.2.2.1
  have hlm : bs.length ≤ 1000000000000000 := h.2.2.1
  have H := Lib.hid h; clear h
  by_cases c1 : n < 0
  · clear hn
    go_enter Try.func18, Try.ntmps18
    go_wp2
    go_ret2
    exact ⟨rfl, Kept.refl _ _⟩
  · by_cases c2 : 32 < n
    · clear hn
      go_enter Try.func18, Try.ntmps18
      go_wp2
      go_ret2
      exact ⟨rfl, Kept.refl _ _⟩
    · have c3 : 8 * (bs.length : Int) - p < n := by omega
      clear hn
      go_enter Try.func18, Try.ntmps18
      go_wp2_with (go_at_call 32; refine (left_any _ _ _ _ _ _ H.out).mono ?_; rintro e w1 ⟨rfl, hk1⟩)
      go_ret2
      exact ⟨rfl, hk1⟩

set_option maxHeartbeats 1000000 in
theorem at_any (w : World) (R : Nat) (ao : Option Addr) (cap : Nat) (bs : List Int) (p : Nat) (h : Rdr w R ao cap bs p) :
    Calls Try.prog 15 #[.pointer (some ⟨R, 0, none⟩)] w fun e w' => e = .returned (.int .i64 p) ∧ Kept NoB w w' := by
  have c1 : w.cell? ⟨R, 1, none⟩ = some (.int .i64 p) := by simpa using obj_cell h.1 1
  clear h
  go_enter Try.func15, Try.ntmps15
  go_wp2
  go_ret
  exact ⟨rfl, Kept.refl _ _⟩

def up8 (p : Nat) : Nat := (p + 7) / 8 * 8
end Go.Proofs.Ytokdlmpnokmniaa
