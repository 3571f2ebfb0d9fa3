/-
  SymLen, SymDist; the last symbol whose least number is not above one; LenSym, DistSym.
  LenSym, DistSym: each length, and each distance, has just one symbol and rest.
  What layer 6's statements ask of themselves first.
  Tokens that came in; tokens that may be, made of some.
  Blocks that were put are read: stored, fixed, dynamic.
-/
import Derived.Test.YtdpegahcgaicnaaGreatDoorMf20
import Derived.OwnWalk
namespace Go.Proofs.YtdpegahcgaicnaaGreatDoor
open Go.RowKit
set_option linter.unusedVariables false
set_option linter.unusedSimpArgs false

theorem symLen_any (i : Nat) (w : World) (hi : i < 28) : Calls Tryz.prog 87 #[.int .i64 (257 + i : Nat)] w fun e w' => e = .returned (.tuple #[.int .i64 (lb i : Nat), .int .i64 (le4 i : Nat), .bool true]) ∧ w = w' := by
  have h1 : ¬ ((257 + i : Nat) : Int) < 257 := by omega
  have h2 : ¬ (285 : Int) < ((257 + i : Nat) : Int) := by omega
  have h3 : (((257 + i : Nat) : Int) == 285) = false := by simp; omega
  have h4 : ((257 + i : Nat) : Int) - 257 = i := by omega
  have hb := (lb_top i hi)
  have HG := Lib.hid (fun w => group4_any i w (by omega))
  have hlb : lb i = 3 + gb 4 i := rfl
  have hp := Nat.one_le_two_pow (n := le4 i)
  have hg : gb 4 i ≤ 259 := by omega
  have HB : Hid (lb i = 3 + gb 4 i) := rfl
  have HE : Hid (le4 i = ge 4 i) := rfl
  rw [HB.out, HE.out]
  clear hb hlb HB HE hp
  generalize gb 4 i = b at HG hg ⊢
  generalize ge 4 i = x at HG ⊢
  generalize 257 + i = s at h1 h2 h3 h4 ⊢
  go_enter Tryz.func87, Tryz.ntmps87
  go_wp2_with fail
  refine (HG.out _).mono ?_
  rintro e w' ⟨rfl, rfl⟩
  go_wp2
  go_ret3
  exact ⟨by push_cast; rfl, rfl⟩
theorem symLen_last (w : World) : Calls Tryz.prog 87 #[.int .i64 285] w fun e w' => e = .returned (.tuple #[.int .i64 258, .int .i64 0, .bool true]) ∧ w = w' := by
  go_enter Tryz.func87, Tryz.ntmps87
  go_wp2
  go_ret3
  exact ⟨rfl, rfl⟩
theorem symLen_no (w : World) : Calls Tryz.prog 87 #[.int .i64 256] w fun e w' => e = .returned (.tuple #[.int .i64 0, .int .i64 0, .bool false]) ∧ w = w' := by
  go_enter Tryz.func87, Tryz.ntmps87
  go_wp2
  go_ret3
  exact ⟨rfl, rfl⟩
theorem symDist_no (w : World) : Calls Tryz.prog 88 #[.int .i64 30] w fun e w' => e = .returned (.tuple #[.int .i64 0, .int .i64 0, .bool false]) ∧ w = w' := by
  go_enter Tryz.func88, Tryz.ntmps88
  go_wp2
  go_ret3
  exact ⟨rfl, rfl⟩
theorem symDist_any (i : Nat) (w : World) (hi : i < 30) : Calls Tryz.prog 88 #[.int .i64 i] w fun e w' => e = .returned (.tuple #[.int .i64 (db i : Nat), .int .i64 (de i : Nat), .bool true]) ∧ w = w' := by
  have h1 : ¬ (i : Int) < 0 := by omega
  have h2 : ¬ (29 : Int) < (i : Int) := by omega
  have hb := (db_top i hi)
  have HG := Lib.hid (fun w => group2_any i w (by omega))
  have hlb : db i = 1 + gb 2 i := rfl
  have hp := Nat.one_le_two_pow (n := de i)
  have hg : gb 2 i ≤ 32769 := by omega
  have HB : Hid (db i = 1 + gb 2 i) := rfl
  have HE : Hid (de i = ge 2 i) := rfl
  rw [HB.out, HE.out]
  clear hb hlb HB HE hp
  generalize gb 2 i = b at HG hg ⊢
  generalize ge 2 i = x at HG ⊢
  go_enter Tryz.func88, Tryz.ntmps88
  go_wp2_with fail
  refine (HG.out _).mono ?_
  rintro e w' ⟨rfl, rfl⟩
  go_wp2
  go_ret3
  exact ⟨by push_cast; rfl, rfl⟩

theorem symDistZ (i : Nat) (w : World) (hi : i < 30) : Calls Tryz.prog 88 #[.int .i64 (0 + i : Nat)] w fun e w' => e = .returned (.tuple #[.int .i64 (db i : Nat), .int .i64 (de i : Nat), .bool true]) ∧ w = w' := by
  rw [Nat.zero_add]; exact symDist_any i w hi
/-- The last symbol from o to o + H whose least number is not above n, for whatever tells least numbers that begin below n. -/
def LastP (o H : Nat) (B E : Nat → Nat) (n : Nat) (w : World) (e : Ending) (w' : World) : Prop :=
  ∃ l, l ≤ H ∧ B l ≤ n ∧ (l < H → n < B (l + 1)) ∧ e = .returned (.tuple #[.int .i64 (o + l : Nat), .int .i64 (E l : Nat), .int .u32 (n - B l : Nat)]) ∧ w = w'
set_option maxHeartbeats 2000000 in
theorem lastLen_any (n : Nat) (w : World) (hn : 3 ≤ n) (hn2 : n ≤ 257) :
    Calls Tryz.prog 86 #[.int .i64 n, .int .i64 257, .int .i64 284, .func (.func 87) #[] #[]] w (LastP 257 27 lb le4 n w) := by
  go_enter Tryz.func86, Tryz.ntmps86
  go_wp2
  go_loop [1, 2] (fun a b => ∃ l h : Nat, l ≤ h ∧ h ≤ 27 ∧ a = .int .i64 (257 + l : Nat) ∧ b = .int .i64 (257 + h : Nat) ∧ Hid (lb l ≤ n) ∧ Hid (h < 27 → n < lb (h + 1))) (fun a b => (intOf b).toNat - (intOf a).toNat)
  case atStart => exact ⟨0, 27, by omega, by omega, rfl, rfl, (by rw [lb0]; exact hn : lb 0 ≤ n), (fun h => absurd h (by omega) : 27 < 27 → n < lb (27 + 1))⟩
  case round =>
    obtain ⟨l, h, hlh, hh, rfl, rfl, HL, HH⟩ := hrel
    by_cases hlt : l < h
    · obtain ⟨m, hm⟩ : ∃ m, m = (l + h + 1) / 2 := ⟨_, rfl⟩
      have hmid : (((257 + l : Nat) : Int) + ((257 + h : Nat) : Int) + 1) / 2 = ((257 + m : Nat) : Int) := by omega
      have hlti : ((257 + l : Nat) : Int) < ((257 + h : Nat) : Int) := by omega
      have hml : l < m ∧ m ≤ h := by omega
      obtain ⟨A, hA⟩ : ∃ A, A = 257 + l := ⟨_, rfl⟩
      obtain ⟨C, hC⟩ : ∃ C, C = 257 + h := ⟨_, rfl⟩
      obtain ⟨M, hM⟩ : ∃ M, M = 257 + m := ⟨_, rfl⟩
      rw [← hA, ← hC, ← hM] at hmid
      rw [← hA, ← hC] at hlti ⊢
      have hAb : A ≤ 1000 := by omega
      have hCb : C ≤ 1000 := by omega
      have hMb : 1 ≤ M ∧ M ≤ 1000 := by omega
      have HF := Lib.hid (fun w => symLen_any m w (by omega))
      rw [← hM] at HF
      have HA := Lib.hid hA; have HC := Lib.hid hC; have HM := Lib.hid hM; have HMl := Lib.hid hml; have HLt := Lib.hid hlt
      clear hm hA hC hM hml
      by_cases hle : lb m ≤ n
      · have hlei : ((lb m : Nat) : Int) ≤ (n : Int) := by omega
        have HLe := Lib.hid hle
        clear hle
        generalize lb m = bm at HF hlei
        generalize le4 m = em at HF
        go_wp2_with fail
        refine (HF.out _).mono ?_
        rintro e w' ⟨rfl, rfl⟩
        go_wp2
        go_round
        case rel => exact ⟨m, h, HMl.out.2, hh, by rw [HM.out], by rw [HC.out], HLe.out, HH.out⟩
        case measure => have := HA.out; have := HC.out; have := HM.out; have := HMl.out; have := HLt.out; simp [intOf]; omega
      · have hlei : ¬ ((lb m : Nat) : Int) ≤ (n : Int) := by omega
        have HLe := Lib.hid hle
        clear hle
        generalize lb m = bm at HF hlei
        generalize le4 m = em at HF
        go_wp2_with fail
        refine (HF.out _).mono ?_
        rintro e w' ⟨rfl, rfl⟩
        go_wp2
        go_round
        case rel =>
          have h1 := HMl.out
          refine ⟨l, m - 1, by omega, by omega, by rw [HA.out], ?_, HL, ?_⟩
          · have := HM.out; congr 1; omega
          · intro _; have := HLe.out; rw [show m - 1 + 1 = m from by omega]; omega
        case measure => have := HA.out; have := HC.out; have := HM.out; have := HMl.out; have := HLt.out; simp [intOf]; omega
    · have hlhe : l = h := by omega
      subst hlhe
      have HF := Lib.hid (fun w => symLen_any l w (by omega))
      have hle := HL.out
      have hnlt : ¬ ((257 + l : Nat) : Int) < ((257 + l : Nat) : Int) := by omega
      obtain ⟨A, hA⟩ : ∃ A, A = 257 + l := ⟨_, rfl⟩
      rw [← hA] at HF ⊢
      have HA := Lib.hid hA
      obtain ⟨r, hr⟩ : ∃ r, r = n - lb l := ⟨_, rfl⟩
      have hsub : (n : Int) - ((lb l : Nat) : Int) = r := by omega
      have hr2 : r ≤ 257 := by omega
      have hwr : IntKind.u32.wrap (r : Int) = r := by rw [IntKind.wrap_u32']; omega
      have HRr := Lib.hid hr
      have hbl : lb l ≤ 257 := by omega
      clear hA hr hnlt hlt
      obtain ⟨bl, hbe⟩ : ∃ bl, bl = lb l := ⟨_, rfl⟩
      obtain ⟨el, hee⟩ : ∃ el, el = le4 l := ⟨_, rfl⟩
      rw [← hbe] at HF hsub hle hbl
      rw [← hee] at HF
      have HBe := Lib.hid hbe; have HEe := Lib.hid hee
      clear hbe hee
      go_wp2_with fail
      refine (HF.out _).mono ?_
      rintro e w' ⟨rfl, rfl⟩
      go_wp2
      go_ret3
      exact ⟨l, hh, HL.out, HH.out, by rw [← HRr.out, ← HEe.out, ← HA.out]; rfl, rfl⟩
set_option maxHeartbeats 2000000 in
theorem lastDist_any (n : Nat) (w : World) (hn : 1 ≤ n) (hn2 : n ≤ 32768) :
    Calls Tryz.prog 86 #[.int .i64 n, .int .i64 0, .int .i64 29, .func (.func 88) #[] #[]] w (LastP 0 29 db de n w) := by
  go_enter Tryz.func86, Tryz.ntmps86
  go_wp2
  go_loop [1, 2] (fun a b => ∃ l h : Nat, l ≤ h ∧ h ≤ 29 ∧ a = .int .i64 (0 + l : Nat) ∧ b = .int .i64 (0 + h : Nat) ∧ Hid (db l ≤ n) ∧ Hid (h < 29 → n < db (h + 1))) (fun a b => (intOf b).toNat - (intOf a).toNat)
  case atStart => exact ⟨0, 29, by omega, by omega, rfl, rfl, (by rw [db0]; exact hn : db 0 ≤ n), (fun h => absurd h (by omega) : 29 < 29 → n < db (29 + 1))⟩
  case round =>
    obtain ⟨l, h, hlh, hh, rfl, rfl, HL, HH⟩ := hrel
    by_cases hlt : l < h
    · obtain ⟨m, hm⟩ : ∃ m, m = (l + h + 1) / 2 := ⟨_, rfl⟩
      have hmid : (((0 + l : Nat) : Int) + ((0 + h : Nat) : Int) + 1) / 2 = ((0 + m : Nat) : Int) := by omega
      have hlti : ((0 + l : Nat) : Int) < ((0 + h : Nat) : Int) := by omega
      have hml : l < m ∧ m ≤ h := by omega
      obtain ⟨A, hA⟩ : ∃ A, A = 0 + l := ⟨_, rfl⟩
      obtain ⟨C, hC⟩ : ∃ C, C = 0 + h := ⟨_, rfl⟩
      obtain ⟨M, hM⟩ : ∃ M, M = 0 + m := ⟨_, rfl⟩
      rw [← hA, ← hC, ← hM] at hmid
      rw [← hA, ← hC] at hlti ⊢
      have hAb : A ≤ 1000 := by omega
      have hCb : C ≤ 1000 := by omega
      have hMb : 1 ≤ M ∧ M ≤ 1000 := by omega
      have HF := Lib.hid (fun w => symDistZ m w (by omega))
      rw [← hM] at HF
      have HA := Lib.hid hA; have HC := Lib.hid hC; have HM := Lib.hid hM; have HMl := Lib.hid hml; have HLt := Lib.hid hlt
      clear hm hA hC hM hml
      by_cases hle : db m ≤ n
      · have hlei : ((db m : Nat) : Int) ≤ (n : Int) := by omega
        have HLe := Lib.hid hle
        clear hle
        generalize db m = bm at HF hlei
        generalize de m = em at HF
        go_wp2_with fail
        refine (HF.out _).mono ?_
        rintro e w' ⟨rfl, rfl⟩
        go_wp2
        go_round
        case rel => exact ⟨m, h, HMl.out.2, hh, by rw [HM.out], by rw [HC.out], HLe.out, HH.out⟩
        case measure => have := HA.out; have := HC.out; have := HM.out; have := HMl.out; have := HLt.out; simp [intOf]; omega
      · have hlei : ¬ ((db m : Nat) : Int) ≤ (n : Int) := by omega
        have HLe := Lib.hid hle
        clear hle
        generalize db m = bm at HF hlei
        generalize de m = em at HF
        go_wp2_with fail
        refine (HF.out _).mono ?_
        rintro e w' ⟨rfl, rfl⟩
        go_wp2
        go_round
        case rel =>
          have h1 := HMl.out
          refine ⟨l, m - 1, by omega, by omega, by rw [HA.out], ?_, HL, ?_⟩
          · have := HM.out; congr 1; omega
          · intro _; have := HLe.out; rw [show m - 1 + 1 = m from by omega]; omega
        case measure => have := HA.out; have := HC.out; have := HM.out; have := HMl.out; have := HLt.out; simp [intOf]; omega
    · have hlhe : l = h := by omega
      subst hlhe
      have HF := Lib.hid (fun w => symDistZ l w (by omega))
      have hle := HL.out
      have hnlt : ¬ ((0 + l : Nat) : Int) < ((0 + l : Nat) : Int) := by omega
      obtain ⟨A, hA⟩ : ∃ A, A = 0 + l := ⟨_, rfl⟩
      rw [← hA] at HF ⊢
      have HA := Lib.hid hA
      obtain ⟨r, hr⟩ : ∃ r, r = n - db l := ⟨_, rfl⟩
      have hsub : (n : Int) - ((db l : Nat) : Int) = r := by omega
      have hr2 : r ≤ 32768 := by omega
      have hwr : IntKind.u32.wrap (r : Int) = r := by rw [IntKind.wrap_u32']; omega
      have HRr := Lib.hid hr
      have hbl : db l ≤ 32768 := by omega
      clear hA hr hnlt hlt
      obtain ⟨bl, hbe⟩ : ∃ bl, bl = db l := ⟨_, rfl⟩
      obtain ⟨el, hee⟩ : ∃ el, el = de l := ⟨_, rfl⟩
      rw [← hbe] at HF hsub hle hbl
      rw [← hee] at HF
      have HBe := Lib.hid hbe; have HEe := Lib.hid hee
      clear hbe hee
      go_wp2_with fail
      refine (HF.out _).mono ?_
      rintro e w' ⟨rfl, rfl⟩
      go_wp2
      go_ret3
      exact ⟨l, hh, HL.out, HH.out, by rw [← HRr.out, ← HEe.out, ← HA.out]; rfl, rfl⟩
end Go.Proofs.YtdpegahcgaicnaaGreatDoor

namespace Go.Proofs.YtdpegahcgaicnaaGreatDoor
open Go.RowKit
set_option linter.unusedVariables false
set_option linter.unusedSimpArgs false

theorem lenSym_last (w : World) : Calls Tryz.prog 57 #[.int .i64 258] w fun e w' => e = .returned (.tuple #[.int .i64 285, .int .i64 0, .int .u32 0]) ∧ w = w' := by
  go_enter Tryz.func57, Tryz.ntmps57
  go_wp2
  go_ret3
  exact ⟨rfl, rfl⟩
theorem lenSym_any (i v n : Nat) (w : World) (hi : i < 28) (hv : v < 2 ^ le4 i) (hn : n = lb i + v) (hn2 : n ≤ 257) :
    Calls Tryz.prog 57 #[.int .i64 n] w fun e w' => e = .returned (.tuple #[.int .i64 (257 + i : Nat), .int .i64 (le4 i : Nat), .int .u32 v]) ∧ w = w' := by
  have hn3 : 3 ≤ n := by have := (lb_top i hi).2.2.1; omega
  have h1 : ¬ (n : Int) < 3 := by omega
  have h2 : ¬ (258 : Int) < n := by omega
  have h3 : ((n : Int) == 258) = false := by simp; omega
  have HG : Hid (∀ w, Calls Tryz.prog 86 #[.int .i64 n, .int .i64 257, .int .i64 284, .func (.func 87) #[] #[]] w fun e w' => e = .returned (.tuple #[.int .i64 (257 + i : Nat), .int .i64 (le4 i : Nat), .int .u32 v]) ∧ w = w') := fun w => by
    refine (lastLen_any n w hn3 hn2).mono ?_
    rintro e w' ⟨l, hl, hb1, hb2, rfl, rfl⟩
    have := lb_only i l v hi (by omega) hv (by omega) (by intro h; have := hb2 h; omega)
    subst this
    rw [show n - lb l = v from by omega]
    exact ⟨rfl, rfl⟩
  clear hn hn3 hv hn2
  go_enter Tryz.func57, Tryz.ntmps57
  go_wp2_with fail
  refine (HG.out _).mono ?_
  rintro e w' ⟨rfl, rfl⟩
  go_wp2
  go_ret3
  exact ⟨rfl, rfl⟩
theorem distSym_any (i v n : Nat) (w : World) (hi : i < 30) (hv : v < 2 ^ de i) (hn : n = db i + v) :
    Calls Tryz.prog 58 #[.int .i64 n] w fun e w' => e = .returned (.tuple #[.int .i64 i, .int .i64 (de i : Nat), .int .u32 v]) ∧ w = w' := by
  have ht := db_top i hi
  have h1 : ¬ (n : Int) < 1 := by omega
  have h2 : ¬ (32768 : Int) < n := by omega
  have HG : Hid (∀ w, Calls Tryz.prog 86 #[.int .i64 n, .int .i64 0, .int .i64 29, .func (.func 88) #[] #[]] w fun e w' => e = .returned (.tuple #[.int .i64 i, .int .i64 (de i : Nat), .int .u32 v]) ∧ w = w') := fun w => by
    refine (lastDist_any n w (by omega) (by omega)).mono ?_
    rintro e w' ⟨l, hl, hb1, hb2, rfl, rfl⟩
    have := db_only i l v hi (by omega) hv (by omega) (by intro h; have := hb2 h; omega)
    subst this
    rw [show n - db l = v from by omega, Nat.zero_add]
    exact ⟨rfl, rfl⟩
  clear hn ht hv
  go_enter Tryz.func58, Tryz.ntmps58
  go_wp2_with fail
  refine (HG.out _).mono ?_
  rintro e w' ⟨rfl, rfl⟩
  go_wp2
  go_ret3
  exact ⟨rfl, rfl⟩
end Go.Proofs.YtdpegahcgaicnaaGreatDoor

namespace Go.Proofs.YtdpegahcgaicnaaGreatDoor
open Go.RowKit
set_option linter.unusedVariables false
set_option linter.unusedSimpArgs false

theorem toks_lit {w : World} {g : Nat} {cs : Array Value} {t : TypeId} (ts : List Tk) (h : w.heap[g]? = some (.cells cs t (0, 0))) (hc : ∀ i, i < ts.length → cs[i * 3]? = some (.int .i64 (ts.getD i ⟨0, 0, 0⟩).l) ∧ cs[i * 3 + 1]? = some (.int .i64 (ts.getD i ⟨0, 0, 0⟩).d) ∧ cs[i * 3 + 2]? = some (.int .u8 (ts.getD i ⟨0, 0, 0⟩).c)) : Toks w (some ⟨g, 0, none⟩) ts := by
  intro i hi
  obtain ⟨h1, h2, h3⟩ := hc i hi
  exact ⟨g, 0, rfl, by rw [obj_cell h, Nat.zero_add]; exact h1, by rw [obj_cell h, Nat.zero_add]; exact h2, by rw [obj_cell h, Nat.zero_add]; exact h3⟩

end Go.Proofs.YtdpegahcgaicnaaGreatDoor

namespace Go.Proofs.YtdpegahcgaicnaaGreatDoor
open Go.RowKit
set_option linter.unusedVariables false
set_option linter.unusedSimpArgs false

theorem cells_tok : Tryz.prog.cellsOf 32 = 3 := by kernel_rfl
theorem infoT : (Tryz.prog.info? 32).map (fun i => (i.zero, i.size, i.bytes)) = some (some (.agg #[.int .i64 0, .int .i64 0, .int .u8 0]), 3, 24) := by kernel_rfl
set_option maxRecDepth 20000 in
theorem toks_open {w : World} {v : Value} (h : Arg w 30 v) :
    ∃ (ao : Option Addr) (cap : Nat) (ts : List Tk), v = .slice ao ts.length cap ∧ Toks w ao ts ∧ AllT ts ∧ ts.length ≤ cap ∧ cap ≤ maxLen ∧ (ao = none → cap = 0) := by
  obtain ⟨ao, len, cap, rfl, hl, hm, hn, hc⟩ := h.slice Tryz.underlying30
  rw [cells_tok] at hc
  have key : ∀ i, ∃ t : Tk, t.wf ∧ (∀ x, ao = some x → i < len → w.cell? (x.add (i * 3)) = some (.int .i64 t.l) ∧ w.cell? (x.add (i * 3 + 1)) = some (.int .i64 t.d) ∧ w.cell? (x.add (i * 3 + 2)) = some (.int .u8 t.c)) := by
    intro i
    by_cases hi : i < len
    · cases ao with
      | none => exact ⟨⟨0, 0, 0⟩, by unfold Tk.wf; decide, (fun x hx => by cases hx)⟩
      | some x =>
        obtain ⟨cs, hr, hcl, hcc⟩ := hc x rfl i hi
        obtain ⟨_, hf⟩ := hr.struct Tryz.underlying32
        match cs, hcl with
        | [c0, c1, c2], _ =>
          have i64c : Tryz.prog.cellsOf 3 = 1 := by kernel_rfl
          have u8c : Tryz.prog.cellsOf 5 = 1 := by kernel_rfl
          have r0 := hf 0 _ rfl
          have r1 := hf 1 _ rfl
          have r2 := hf 2 _ rfl
          simp [i64c, u8c] at r0 r1 r2
          obtain ⟨a, ea, wa⟩ := r0.int Tryz.underlying3
          obtain ⟨b, eb, wb⟩ := r1.int Tryz.underlying3
          obtain ⟨c, ec, wc⟩ := r2.int Tryz.underlying5
          simp at ea eb ec
          subst ea eb ec
          have u := u8_bd wc
          refine ⟨⟨a, b, c⟩, ⟨i64_bd wa, i64_bd wb, u.1, by simp only; omega⟩, ?_⟩
          intro y hy _
          cases hy
          exact ⟨by simpa using hcc 0 (by simp), by simpa using hcc 1 (by simp), by simpa using hcc 2 (by simp)⟩
    · exact ⟨⟨0, 0, 0⟩, by unfold Tk.wf; decide, (fun x _ h => absurd h hi)⟩
  obtain ⟨f, hf⟩ := choose1 key
  refine ⟨ao, cap, (List.range len).map f, by simp, ?_, ?_, by simpa using hl, hm, (fun h => (hn h).2)⟩
  · intro i hi
    have hil : i < len := by simpa using hi
    cases ao with
    | none => have := (hn rfl).1; omega
    | some x =>
      obtain ⟨h0, _, _⟩ := (hf 0).2 x rfl (by omega)
      obtain ⟨b, off, spot⟩ := x
      have hs : spot = none := by
        have := World.cell?_spot h0
        simpa [Addr.add] using this
      subst hs
      obtain ⟨h1, h2, h3⟩ := (hf i).2 _ rfl hil
      rw [addr_add] at h1 h2 h3
      rw [range_getD f len i _ hil]
      exact ⟨b, off, rfl, h1, h2, h3⟩
  · intro t ht
    obtain ⟨i, _, rfl⟩ := List.mem_map.1 ht
    exact (hf i).1

/-- Each of a row of tokens may be put behind those ahead of it. -/
def good (most : Int) : List Tk → List Int → Prop
  | [], _ => True
  | t :: r, bs => t.no bs.length most = 0 ∧ good most r (t.put bs)
def putAll (ts : List Tk) (bs : List Int) : List Int := ts.foldl (fun b t => t.put b) bs
theorem putAll_snoc (ts : List Tk) (t : Tk) (bs : List Int) : putAll (ts ++ [t]) bs = t.put (putAll ts bs) := by unfold putAll; rw [List.foldl_append]; rfl
theorem good_snoc (most : Int) (ts : List Tk) (t : Tk) (bs : List Int) (h : good most ts bs) (ht : t.no (putAll ts bs).length most = 0) : good most (ts ++ [t]) bs := by
  induction ts generalizing bs with
  | nil => exact ⟨ht, trivial⟩
  | cons s r ih => exact ⟨h.1, ih (s.put bs) h.2 ht⟩
theorem good_exp (most : Int) (ts : List Tk) (bs : List Int) (i : Nat) (h : good most ts bs) : expF most ts bs i = (putAll ts bs, i + ts.length, 0) := by
  induction ts generalizing bs i with
  | nil => rfl
  | cons t r ih =>
    unfold expF
    rw [if_pos h.1, ih (t.put bs) (i + 1) h.2]
    show (putAll (t :: r) bs, i + 1 + r.length, (0 : Int)) = _
    rw [List.length_cons, show i + 1 + r.length = i + (r.length + 1) from by omega]
theorem good_take (most : Int) (ts : List Tk) (k : Nat) (bs : List Int) (h : good most ts bs) : good most (ts.take k) bs := by
  induction ts generalizing bs k with
  | nil => simp [good]
  | cons t r ih =>
    cases k with
    | zero => exact trivial
    | succ k => exact ⟨h.1, ih k (t.put bs) h.2⟩
theorem good_at (most : Int) (ts : List Tk) (bs : List Int) (h : good most ts bs) : ∀ j, j < ts.length → (ts.getD j ⟨0, 0, 0⟩).no (putAll (ts.take j) bs).length most = 0 := by
  induction ts generalizing bs with
  | nil => intro j hj; simp at hj
  | cons t r ih =>
    intro j hj
    cases j with
    | zero => exact h.1
    | succ j => exact ih (t.put bs) h.2 j (by simpa using hj)
theorem putAll_succ (ts : List Tk) (bs : List Int) (j : Nat) (hj : j < ts.length) : putAll (ts.take (j + 1)) bs = (ts.getD j ⟨0, 0, 0⟩).put (putAll (ts.take j) bs) := by
  rw [List.take_succ_eq_append_getElem hj, putAll_snoc]; simp [List.getD, hj]
theorem copyN_pre (D k : Nat) (bs : List Int) : bs <+: copyN D k bs := by
  induction k with
  | zero => exact List.prefix_refl _
  | succ k ih => exact ih.trans (List.prefix_append _ _)
theorem put_pre (t : Tk) (bs : List Int) : bs <+: t.put bs := by
  unfold Tk.put
  split
  · exact List.prefix_append _ _
  · exact copyN_pre _ _ _
theorem putAll_pre (ts : List Tk) (bs : List Int) : bs <+: putAll ts bs := by
  induction ts generalizing bs with
  | nil => exact List.prefix_refl _
  | cons t r ih => exact (put_pre t bs).trans (ih (t.put bs))
theorem putAll_take_pre (ts : List Tk) (k : Nat) (bs : List Int) : putAll (ts.take k) bs <+: putAll ts bs := by
  have : putAll ts bs = putAll (ts.drop k) (putAll (ts.take k) bs) := by unfold putAll; rw [← List.foldl_append, List.take_append_drop]
  rw [this]; exact putAll_pre _ _
theorem putAll_all (ts : List Tk) (bs : List Int) (h : AllB bs) (ht : AllT ts) : AllB (putAll ts bs) := by
  induction ts generalizing bs with
  | nil => exact h
  | cons t r ih => exact ih (t.put bs) (put_all t bs h (ht t (by simp))) (fun x hx => ht x (by simp [hx]))

/-- Tokens in a row of the call's own. -/
def tcells (ts : List Tk) : List Value := ts.flatMap fun t => [.int .i64 t.l, .int .i64 t.d, .int .u8 t.c]
theorem tcells_len (ts : List Tk) : (tcells ts).length = ts.length * 3 := by
  induction ts with
  | nil => rfl
  | cons t r ih => simp only [tcells, List.flatMap_cons, List.length_append, List.length_cons, List.length_nil] at ih ⊢; omega
theorem tcells_get (ts : List Tk) : ∀ i, i < ts.length → (tcells ts)[i * 3]? = some (.int .i64 (ts.getD i ⟨0, 0, 0⟩).l) ∧ (tcells ts)[i * 3 + 1]? = some (.int .i64 (ts.getD i ⟨0, 0, 0⟩).d) ∧ (tcells ts)[i * 3 + 2]? = some (.int .u8 (ts.getD i ⟨0, 0, 0⟩).c) := by
  induction ts with
  | nil => intro i hi; simp at hi
  | cons t r ih =>
    intro i hi
    have e : tcells (t :: r) = .int .i64 t.l :: .int .i64 t.d :: .int .u8 t.c :: tcells r := rfl
    rw [e]
    cases i with
    | zero => exact ⟨rfl, rfl, rfl⟩
    | succ i =>
      have := ih i (by simpa using hi)
      rw [show (i + 1) * 3 = i * 3 + 1 + 1 + 1 from by omega]
      exact this
theorem own_shapeS {w : World} {base e s : Nat} {v : Value} {n : Nat} {xs : List Value} (h : w.ownsRow base e s v n xs) : ∃ ao cap, v = .slice ao n cap := by
  rcases h.2 with ⟨rfl, rfl⟩ | ⟨g, cap, cur, rfl, _⟩
  · exact ⟨none, 0, rfl⟩
  · exact ⟨_, cap, rfl⟩
theorem toks_own {w : World} {ao : Option Addr} {cap : Nat} {ts : List Tk} (h : w.ownsRow 0 32 3 (.slice ao ts.length cap) ts.length (tcells ts)) : Toks w ao ts := by
  intro i hi
  rcases h.2 with ⟨_, hz⟩ | ⟨g, c, cur, hv, _⟩
  · omega
  · simp at hv
    obtain ⟨rfl, rfl⟩ := hv
    obtain ⟨h1, h2, h3⟩ := tcells_get ts i hi
    exact ⟨g, 0, rfl, by rw [Nat.zero_add, h.cellAt _ (by omega)]; exact h1, by rw [Nat.zero_add, h.cellAt _ (by omega)]; exact h2, by rw [Nat.zero_add, h.cellAt _ (by omega)]; exact h3⟩
theorem tcells_snoc (ts : List Tk) (t : Tk) : tcells (ts ++ [t]) = tcells ts ++ [.int .i64 t.l, .int .i64 t.d, .int .u8 t.c] := by
  unfold tcells; rw [List.flatMap_append]; rfl
end Go.Proofs.YtdpegahcgaicnaaGreatDoor

namespace Go.Proofs.YtdpegahcgaicnaaGreatDoor
open Go.RowKit
set_option linter.unusedVariables false
set_option linter.unusedSimpArgs false

theorem Steps.to {bs : List Int} {most p p1 q q1 : Nat} {m m1 : Md} {l l1 : Bool} {o o1 : List Int} (h : Steps bs most p m l o p1 m1 l1 o1) (e : p = q) (e1 : p1 = q1) : Steps bs most q m l o q1 m1 l1 o1 := by subst e; subst e1; exact h
theorem TokWs.steps {bs : List Int} {s most : Nat} {lit dist : List Int} {last : Bool} {ts : List Tk} {ws : List (Nat × Nat)} (hw : TokWs lit dist ts ws) (hl : CodeOk lit) (hd : CodeOk dist) : ∀ (pre post : List (Nat × Nat)) (out : List Int), Puts bs s (pre ++ ws ++ post) → good (most : Int) ts out →
    Steps bs most (s + wdN pre) (.sym lit dist) last out (s + wdN (pre ++ ws)) (.sym lit dist) last (putAll ts out) := by
  induction hw with
  | nil => intro pre post out h hg; rw [List.append_nil]; exact .refl
  | @cons t r ws vs ht hr ih =>
    intro pre post out h hg
    have h1 := ht.step (last := last) (post := vs ++ post) (by simpa using h) hl hd hg.1
    have h2 := ih (pre ++ ws) post (t.put out) (by simpa using h) hg.2
    rw [List.append_assoc] at h2
    exact .step h1 h2
/-- The end of a block's tokens. -/
theorem end_step {bs : List Int} {s most : Nat} {lit dist : List Int} {last : Bool} {pre post : List (Nat × Nat)} {out : List Int} (h : Puts bs s (pre ++ wordZ lit 256 :: post)) (hl : CodeOk lit) (hc : HasC lit 256) :
    ItemR bs most (s + wdN pre) (.sym lit dist) last out 0 (s + wdN (pre ++ [wordZ lit 256])) (endM last) last out := by
  have hs := h.sym hl hc
  unfold ItemR
  refine ⟨256, 0, _, hs, ?_⟩
  rw [if_neg (by decide), if_neg (by decide), if_pos rfl]
  exact ⟨rfl, rfl, rfl, rfl, rfl⟩
def lastN (last : Bool) : Nat := if last then 1 else 0
theorem lastN_lt (last : Bool) : lastN last < 2 := by unfold lastN; split <;> decide
/-- The three bits of a block's kind. -/
theorem kind_bits {bs : List Int} {s : Nat} {pre post : List (Nat × Nat)} {last : Bool} {k : Nat} (h : Puts bs s (pre ++ (lastN last, 1) :: (k, 2) :: post)) (hk : k < 4) : bitsAt bs (s + wdN pre) 3 = lastN last + 2 * k ∧ s + wdN pre + 3 ≤ 8 * bs.length := by
  have h1 := h.is
  have h2 := (show Puts bs s ((pre ++ [(lastN last, 1)]) ++ (k, 2) :: post) by simpa using h).is
  have h3 := h.room
  rw [wdN_append] at h2
  simp only [wdN, Nat.add_zero] at h2 h3
  rw [← Nat.add_assoc] at h2
  have hl := lastN_lt last
  refine ⟨?_, by omega⟩
  unfold bitsAt at h1 h2 ⊢
  rw [Nat.pow_succ, ← Nat.div_div_eq_div_mul] at h2
  generalize num bs / 2 ^ (s + wdN pre) = x at h1 h2 ⊢
  omega
theorem kind_step {bs : List Int} {s most : Nat} {pre post : List (Nat × Nat)} {last l0 : Bool} {out : List Int} {k : Nat} (h : Puts bs s (pre ++ (lastN last, 1) :: (k, 2) :: post)) (hk : k < 3) :
    ItemR bs most (s + wdN pre) .block l0 out 0 (s + wdN (pre ++ [(lastN last, 1), (k, 2)])) (if k = 0 then .stored else if k = 1 then .sym fixL fixD else .head) last out := by
  obtain ⟨h1, h2⟩ := kind_bits h (by omega)
  have hl := lastN_lt last
  have e : s + wdN (pre ++ [(lastN last, 1), (k, 2)]) = s + wdN pre + 3 := by rw [wdN_append]; simp only [wdN]; omega
  have el : last = ((lastN last + 2 * k) % 2 == 1) := by
    cases last
    · simp [lastN]
    · simp [lastN] <;> omega
  unfold ItemR
  dsimp only
  rw [h1, e, if_neg (by omega)]
  by_cases k0 : k = 0
  · rw [if_pos (by omega), if_pos k0]; exact ⟨rfl, rfl, rfl, el, rfl⟩
  · rw [if_neg (by omega), if_neg k0]
    by_cases k1 : k = 1
    · rw [if_pos (by omega), if_pos k1]; exact ⟨rfl, rfl, rfl, el, rfl⟩
    · rw [if_neg (by omega), if_neg k1, if_pos (by omega)]; exact ⟨rfl, rfl, rfl, el, rfl⟩
/-- Bytes, as they are put. -/
def bytesW (b : List Int) : List (Nat × Nat) := b.map fun x => (x.toNat, 8)
theorem bytesW_wd (b : List Int) : wdN (bytesW b) = 8 * b.length := by
  induction b with
  | nil => rfl
  | cons x r ih => rw [bytesW, List.map_cons, wdN, ← bytesW, ih, List.length_cons]; omega
theorem bytes_steps {bs : List Int} {s most : Nat} {last : Bool} : ∀ (b : List Int) (pre post : List (Nat × Nat)) (out : List Int), Puts bs s (pre ++ bytesW b ++ post) → AllB b → b ≠ [] → out.length + b.length ≤ most →
    Steps bs most (s + wdN pre) (.bytes b.length) last out (s + wdN (pre ++ bytesW b)) (endM last) last (out ++ b)
  | [], pre, post, out, h, ha, h0, hm => absurd rfl h0
  | x :: r, pre, post, out, h, ha, h0, hm => by
    have hx := ha x (List.mem_cons_self ..)
    have h1 := (show Puts bs s (pre ++ (x.toNat, 8) :: (bytesW r ++ post)) by simpa [bytesW] using h).is
    have h2 := (show Puts bs s (pre ++ (x.toNat, 8) :: (bytesW r ++ post)) by simpa [bytesW] using h).room
    simp only [wdN] at h2
    rw [List.length_cons] at hm
    have e : s + wdN (pre ++ [(x.toNat, 8)]) = s + wdN pre + 8 := by rw [wdN_append]; simp [wdN]; omega
    have hi : ItemR bs most (s + wdN pre) (.bytes (r.length + 1)) last out 0 (s + wdN (pre ++ [(x.toNat, 8)])) (if r.length + 1 ≤ 1 then endM last else .bytes r.length) last (out ++ [x]) := by
      unfold ItemR
      dsimp only
      rw [if_neg (by omega), if_neg (by omega), e, h1]
      exact ⟨rfl, rfl, rfl, rfl, by rw [Int.toNat_of_nonneg hx.1]⟩
    by_cases hr : r = []
    · subst hr
      refine Steps.one ?_
      rw [List.length_cons]
      exact hi
    · have hl : 0 < r.length := by cases r with | nil => exact absurd rfl hr | cons => simp
      have ih := bytes_steps (most := most) (last := last) r (pre ++ [(x.toNat, 8)]) post (out ++ [x]) (by simpa [bytesW] using h) (fun y hy => ha y (List.mem_cons_of_mem _ hy)) hr (by rw [List.length_append, List.length_singleton]; omega)
      rw [if_neg (by omega)] at hi
      refine .step hi ?_
      have e2 : pre ++ bytesW (x :: r) = pre ++ [(x.toNat, 8)] ++ bytesW r := by simp [bytesW]
      rw [e2]
      simpa using ih
/-- A stored block. -/
def storedW (last : Bool) (pad : Nat) (b : List Int) : List (Nat × Nat) := [(lastN last, 1), (0, 2), (0, pad), (b.length, 16), (65535 - b.length, 16)] ++ bytesW b
theorem stored_steps {bs : List Int} {s most pad : Nat} {pre post : List (Nat × Nat)} {last l0 : Bool} {out b : List Int} (h : Puts bs s (pre ++ storedW last pad b ++ post)) (hb : AllB b) (hl : b.length ≤ 65535) (hp : pad < 8) (hp8 : (s + wdN pre + 3 + pad) % 8 = 0) (hm : out.length + b.length ≤ most) :
    Steps bs most (s + wdN pre) .block l0 out (s + wdN (pre ++ storedW last pad b)) (endM last) last (out ++ b) := by
  unfold storedW at h ⊢
  have h1 := kind_step (most := most) (l0 := l0) (out := out) (show Puts bs s (pre ++ (lastN last, 1) :: (0, 2) :: ([(0, pad), (b.length, 16), (65535 - b.length, 16)] ++ bytesW b ++ post)) by simpa using h) (by decide)
  rw [if_pos rfl] at h1
  have x1 := (show Puts bs s ((pre ++ [(lastN last, 1), (0, 2), (0, pad)]) ++ (b.length, 16) :: ([(65535 - b.length, 16)] ++ bytesW b ++ post)) by simpa using h).is
  have x2 := (show Puts bs s ((pre ++ [(lastN last, 1), (0, 2), (0, pad), (b.length, 16)]) ++ (65535 - b.length, 16) :: (bytesW b ++ post)) by simpa using h).is
  have x3 := (show Puts bs s ((pre ++ [(lastN last, 1), (0, 2), (0, pad), (b.length, 16), (65535 - b.length, 16)]) ++ (bytesW b ++ post)) by simpa using h).room
  have w1 : wdN (pre ++ [(lastN last, 1), (0, 2), (0, pad)]) = wdN pre + 3 + pad := by rw [wdN_append]; simp only [wdN]; omega
  have w2 : wdN (pre ++ [(lastN last, 1), (0, 2), (0, pad), (b.length, 16)]) = wdN pre + 3 + pad + 16 := by rw [wdN_append]; simp only [wdN]; omega
  have w3 : wdN (pre ++ [(lastN last, 1), (0, 2), (0, pad), (b.length, 16), (65535 - b.length, 16)]) = wdN pre + 3 + pad + 32 := by rw [wdN_append]; simp only [wdN]; omega
  have w4 : wdN (pre ++ [(lastN last, 1), (0, 2)]) = wdN pre + 3 := by rw [wdN_append]; rfl
  rw [w1] at x1
  rw [w2] at x2
  rw [w3] at x3
  rw [w4] at h1
  have hu : up8 (s + (wdN pre + 3)) = s + wdN pre + 3 + pad := by unfold up8; omega
  have hi : ItemR bs most (s + (wdN pre + 3)) .stored last out 0 (s + (wdN pre + 3 + pad + 32)) (if b.length = 0 then endM last else .bytes b.length) last out := by
    unfold ItemR
    dsimp only
    rw [hu]
    have y1 : bitsAt bs (s + wdN pre + 3 + pad) 16 = b.length := by rw [← x1]; congr 1; omega
    have y2 : bitsAt bs (s + wdN pre + 3 + pad + 16) 16 = 65535 - b.length := by rw [← x2]; congr 1; omega
    rw [y1, y2, if_neg (by omega), if_neg (by omega)]
    exact ⟨rfl, by omega, rfl, rfl, rfl⟩
  refine .step h1 (.step hi ?_)
  by_cases hb0 : b = []
  · subst hb0
    simp only [List.length_nil, if_pos]
    refine (Steps.refl (p := s + (wdN pre + 3 + pad + 32)) (m := endM last) (last := last) (out := out)).trans ?_
    rw [List.append_nil]
    refine Steps.to .refl rfl ?_
    rw [← w3]
    simp [bytesW]
  · have hl0 : b.length ≠ 0 := fun e => hb0 (List.eq_nil_of_length_eq_zero e)
    rw [if_neg hl0, ← w3]
    have := bytes_steps (most := most) (last := last) b (pre ++ [(lastN last, 1), (0, 2), (0, pad), (b.length, 16), (65535 - b.length, 16)]) post out (by simpa using h) hb hb0 hm
    simpa using this
theorem fixL_ok : CodeOk fixL := by
  refine ⟨by decide +kernel, fun z hz => ?_, by decide +kernel⟩
  unfold fixL at hz
  simp only [List.mem_append, List.mem_replicate] at hz
  omega
theorem fixD_ok : CodeOk fixD := by
  refine ⟨by decide +kernel, fun z hz => ?_, by decide +kernel⟩
  unfold fixD at hz
  simp only [List.mem_replicate] at hz
  omega
theorem fixL_at (i : Nat) (h : i < 288) : 0 < fixL.getD i 0 := by
  have hm : fixL.getD i 0 ∈ fixL := by
    have hl : i < fixL.length := by have : fixL.length = 288 := by decide +kernel
                                    omega
    have : fixL.getD i 0 = fixL[i] := by simp [List.getD, hl]
    rw [this]; exact List.getElem_mem hl
  unfold fixL at hm
  simp only [List.mem_append, List.mem_replicate] at hm
  unfold fixL
  omega
theorem fixD_at (i : Nat) (h : i < 32) : 0 < fixD.getD i 0 := by
  unfold fixD List.getD
  rw [List.getElem?_replicate, if_pos h]
  decide
theorem fixL_len : fixL.length = 288 := by decide +kernel
theorem fixL_has (i : Nat) (h : i < 288) : HasC fixL (i : Int) := ⟨i, rfl, by rw [fixL_len]; exact h, fixL_at i h⟩
theorem fixD_has (i : Nat) (h : i < 32) : HasC fixD (i : Int) := ⟨i, rfl, by unfold fixD; rw [List.length_replicate]; exact h, fixD_at i h⟩
/-- A block of tokens, by codes; from behind its kind (and its head) on. -/
theorem toks_steps {bs : List Int} {s most : Nat} {lit dist : List Int} {last : Bool} {ts : List Tk} {ws pre post : List (Nat × Nat)} {out : List Int} (hw : TokWs lit dist ts ws) (hl : CodeOk lit) (hd : CodeOk dist) (hc : HasC lit 256) (h : Puts bs s (pre ++ (ws ++ [wordZ lit 256]) ++ post)) (hg : good (most : Int) ts out) :
    Steps bs most (s + wdN pre) (.sym lit dist) last out (s + wdN (pre ++ (ws ++ [wordZ lit 256]))) (endM last) last (putAll ts out) := by
  have h1 := hw.steps (last := last) hl hd pre ([wordZ lit 256] ++ post) out (by simpa using h) hg
  have h2 := end_step (most := most) (dist := dist) (last := last) (out := putAll ts out) (show Puts bs s ((pre ++ ws) ++ wordZ lit 256 :: post) by simpa using h) hl hc
  rw [List.append_assoc] at h2
  exact h1.trans (.one h2)
theorem fixed_steps {bs : List Int} {s most : Nat} {last l0 : Bool} {ts : List Tk} {ws pre post : List (Nat × Nat)} {out : List Int} (hw : TokWs fixL fixD ts ws) (h : Puts bs s (pre ++ ([(lastN last, 1), (1, 2)] ++ (ws ++ [wordZ fixL 256])) ++ post)) (hg : good (most : Int) ts out) :
    Steps bs most (s + wdN pre) .block l0 out (s + wdN (pre ++ ([(lastN last, 1), (1, 2)] ++ (ws ++ [wordZ fixL 256])))) (endM last) last (putAll ts out) := by
  have h1 := kind_step (most := most) (l0 := l0) (out := out) (show Puts bs s (pre ++ (lastN last, 1) :: (1, 2) :: ((ws ++ [wordZ fixL 256]) ++ post)) by simpa using h) (by decide)
  rw [if_neg (by decide), if_pos rfl] at h1
  have h2 := toks_steps (most := most) (last := last) (out := out) (pre := pre ++ [(lastN last, 1), (1, 2)]) (post := post) hw fixL_ok fixD_ok (fixL_has 256 (by decide)) (by simpa using h) hg
  rw [List.append_assoc] at h2
  exact .step h1 h2
theorem head_step {bs : List Int} {s most told : Nat} {lit dist code : List Int} {rs : List (Int × Int)} {last : Bool} {pre post : List (Nat × Nat)} {out : List Int} (h : Puts bs s (pre ++ headW lit dist code told rs ++ post)) (hc : CodeW code told rs (lit ++ dist)) (hb : headB lit dist = true) :
    ItemR bs most (s + wdN pre) .head last out 0 (s + wdN (pre ++ headW lit dist code told rs)) (.sym lit dist) last out := by
  unfold ItemR
  exact ⟨lit, dist, 0, _, head_backG h hc hb, by rw [if_pos rfl]; exact ⟨rfl, rfl, rfl, rfl, rfl⟩⟩
theorem dynamic_steps {bs : List Int} {s most told : Nat} {last l0 : Bool} {ts : List Tk} {lit dist code : List Int} {rs : List (Int × Int)} {ws pre post : List (Nat × Nat)} {out : List Int} (hw : TokWs lit dist ts ws) (hl : CodeOk lit) (hd : CodeOk dist) (h256 : HasC lit 256) (hc : CodeW code told rs (lit ++ dist)) (hb : headB lit dist = true)
    (h : Puts bs s (pre ++ ([(lastN last, 1), (2, 2)] ++ (headW lit dist code told rs ++ (ws ++ [wordZ lit 256]))) ++ post)) (hg : good (most : Int) ts out) :
    Steps bs most (s + wdN pre) .block l0 out (s + wdN (pre ++ ([(lastN last, 1), (2, 2)] ++ (headW lit dist code told rs ++ (ws ++ [wordZ lit 256]))))) (endM last) last (putAll ts out) := by
  have h1 := kind_step (most := most) (l0 := l0) (out := out) (show Puts bs s (pre ++ (lastN last, 1) :: (2, 2) :: (headW lit dist code told rs ++ (ws ++ [wordZ lit 256]) ++ post)) by simpa using h) (by decide)
  rw [if_neg (by decide), if_neg (by decide)] at h1
  have h2 := head_step (most := most) (last := last) (out := out) (pre := pre ++ [(lastN last, 1), (2, 2)]) (post := ws ++ [wordZ lit 256] ++ post) (by simpa using h) hc hb
  have h3 := toks_steps (most := most) (last := last) (out := out) (pre := pre ++ [(lastN last, 1), (2, 2)] ++ headW lit dist code told rs) (post := post) hw hl hd h256 (by simpa using h) hg
  have e : pre ++ [(lastN last, 1), (2, 2)] ++ headW lit dist code told rs ++ (ws ++ [wordZ lit 256]) = pre ++ ([(lastN last, 1), (2, 2)] ++ (headW lit dist code told rs ++ (ws ++ [wordZ lit 256]))) := by simp
  rw [e] at h3
  exact .step h1 (.step h2 h3)
end Go.Proofs.YtdpegahcgaicnaaGreatDoor
