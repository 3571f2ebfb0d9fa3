/-
  The document's own reader of bits: Left, Take, Align.
-/
import Derived.Test.YtokdlmpnokmniaaBitsB
import Derived.Test.YtokdlmpnokmniaaPutN
import Derived.Test.YtokdlmpnokmniaaStrN
namespace Go.Proofs.Ytokdlmpnokmniaa
open Go.RowKit
set_option linter.unusedVariables false

/-- The document's reader: its bytes, as a string, and how many bits were taken. -/
def Rfb (w : World) (R : Nat) (bs : List Int) (p : Nat) : Prop :=
  w.heap[R]? = some (.cells #[.string (strOfNums bs), .int .i64 p] 47 (0, 0)) ∧ AllB bs ∧ bs.length ≤ 1000000 ∧ p ≤ 8 * bs.length
theorem Rfb.kept {S : Nat → Prop} {w w' : World} {R : Nat} {bs : List Int} {p : Nat} (h : Rfb w R bs p) (hk : Kept S w w') (h1 : ¬ S R) : Rfb w' R bs p := ⟨hk.obj h.1 h1, h.2⟩
theorem Rfb.moved {w w' : World} {R : Nat} {bs : List Int} {p q : Nat} (h : Rfb w R bs p) (hk : Kept NoB w w') (hq : q ≤ 8 * bs.length) : Rfb (w'.setCell ⟨R, 1, none⟩ (.int .i64 q)) R bs q :=
  ⟨by simpa using obj_set (hk.obj h.1 (fun h => h)) 1 (.int .i64 q), h.2.1, h.2.2.1, hq⟩

theorem str_at (bs : List Int) (h : AllB bs) (L : Nat) (hL : L < (strOfNums bs).size) : ((strOfNums bs)[L]).toNat = (bs.getD L 0).toNat := by
  have e := congrArg (fun l => l[L]?) (bytesOf_nums bs h)
  have hl : L < bs.length := by rw [strOfNums_size] at hL; exact hL
  simp [bytesOf, nats, hl] at e
  obtain ⟨a, h1, h2⟩ := e
  obtain ⟨hh, h3⟩ := Array.getElem?_eq_some_iff.1 h1
  simp [List.getD, hl]
  show ((strOfNums bs).data[L]).toNat = _
  rw [h3, h2]
/-- One bit more. -/
theorem bitsAt_succ (bs : List Int) (h : AllB bs) (p m L q : Nat) (hL : L = (p + m) / 8) (hq : q = (p + m) % 8) (hl : L < bs.length) :
    bitsAt bs p m + (bs.getD L 0).toNat / 2 ^ q % 2 * 2 ^ m = bitsAt bs p (m + 1) := by
  have hw := bitsAt_window bs h L q 1 1 (by omega)
  have e1 : num ((bs.drop L).take 1) = (bs.getD L 0).toNat := by
    rw [List.drop_eq_getElem_cons hl, List.take_succ_cons, List.take_zero]
    simp [num, List.getD, hl]
  rw [e1, show 8 * L + q = p + m from by omega] at hw
  simp only [Nat.pow_one] at hw
  rw [hw]
  unfold bitsAt
  rw [← put_parts (num bs / 2 ^ p) m 1, Nat.pow_add 2 p m, ← Nat.div_div_eq_div_mul]
theorem shl_or (a b m : Nat) (ha : a < 2 ^ m) (hb : b < 2) (hm : m < 32) : bits .or .u32 (a : Int) ((b : Int) * 2 ^ m % 4294967296) = ((a + b * 2 ^ m : Nat) : Int) := by
  have e : ((b : Int) * 2 ^ m) = ((b * 2 ^ m : Nat) : Int) := by push_cast; rfl
  have h1 : 2 ^ m ≤ 2 ^ 31 := pow_le_pow2 (by omega)
  have h2 : b * 2 ^ m < 4294967296 := by
    rcases (show b = 0 ∨ b = 1 from by omega) with rfl | rfl <;> omega
  rw [e, show ((b * 2 ^ m : Nat) : Int) % 4294967296 = ((b * 2 ^ m : Nat) : Int) from by omega, u32_or_nat _ _ (by omega) h2, or_shift _ _ _ ha]

set_option maxHeartbeats 1000000 in
theorem refLeft_any (w : World) (R : Nat) (bs : List Int) (p : Nat) (h : Rfb w R bs p) :
    Calls Try.prog 33 #[.pointer (some ⟨R, 0, none⟩)] w fun e w' => e = .returned (.int .i64 (8 * bs.length - p)) ∧ Kept NoB w w' := by
  obtain ⟨ho, hb, hl, hp⟩ := h
  have c0 : w.cell? ⟨R, 0, none⟩ = some (.string (strOfNums bs)) := by simpa using obj_cell ho 0
  have c1 : w.cell? ⟨R, 1, none⟩ = some (.int .i64 p) := by simpa using obj_cell ho 1
  have hz : (strOfNums bs).size = bs.length := strOfNums_size bs
  clear ho hb
  go_enter Try.func33, Try.ntmps33
  go_wp2
  go_quiet (fail)
  go_wp2
  go_ret
  exact ⟨rfl, (Kept.refl _ _).drewN _⟩

set_option maxHeartbeats 4000000 in
theorem refTake_yes (w : World) (R : Nat) (bs : List Int) (p n : Nat) (h : Rfb w R bs p) (hn : n ≤ 32) (hle : p + n ≤ 8 * bs.length) :
    Calls Try.prog 19 #[.pointer (some ⟨R, 0, none⟩), .int .i64 n] w fun e w' => e = .returned (.tuple #[.int .u32 (bitsAt bs p n : Nat), .bool true]) ∧ Rfb w' R bs (p + n) ∧ Kept (OneB R) w w' := by
  have hlm := h.2.2.1
  have H := Lib.hid h; clear h
  have hnl : ¬ (8 * (bs.length : Int) - p) < n := by omega
  go_enter Try.func19, Try.ntmps19
  go_wp2_with (go_at_call 33; refine (refLeft_any _ _ _ _ H.out).mono ?_; rintro e w1 ⟨rfl, hk1⟩)
  have HK1 := Lib.hid hk1; clear hk1
  go_loopw [6, 7] (fun v i wr => ∃ m : Nat, m ≤ n ∧ i = .int .i64 m ∧ v = .int .u32 (bitsAt bs p m : Nat) ∧ Rfb wr R bs (p + m) ∧ Kept (OneB R) w wr) (fun _ i _ => n - (intOf i).toNat)
  case atStart => exact ⟨0, by omega, rfl, by simp [bitsAt, Nat.mod_one], H.out.kept HK1.out (fun h => h), HK1.out.mono (fun _ _ h => h.elim)⟩
  case round =>
    obtain ⟨m, hm, rfl, rfl, hR, hK⟩ := hrel
    by_cases hlt : m < n
    · obtain ⟨T, hT⟩ : ∃ T, T = p + m := ⟨_, rfl⟩
      rw [← hT] at hR
      obtain ⟨L, hL⟩ : ∃ L, L = T / 8 := ⟨_, rfl⟩
      obtain ⟨q, hq⟩ : ∃ q, q = T % 8 := ⟨_, rfl⟩
      have hdiv : (T : Int) / 8 = L := by omega
      have hmod : (T : Int) % 8 = q := by omega
      have hLl : L < bs.length := by omega
      have hsz : (strOfNums bs).size = bs.length := strOfNums_size bs
      have hLs : L < (strOfNums bs).size := by omega
      have c0 : wr.cell? ⟨R, 0, none⟩ = some (.string (strOfNums bs)) := by simpa using obj_cell hR.1 0
      have c1 : wr.cell? ⟨R, 1, none⟩ = some (.int .i64 T) := by simpa using obj_cell hR.1 1
      have f1 : wr.frozen? ⟨R, 1, none⟩ = false := obj_free hR.1 1
      have hsucc := bitsAt_succ bs hR.2.1 p m L q (by omega) (by omega) hLl
      have hsa := str_at bs hR.2.1 L hLs
      rw [← hsa] at hsucc
      have hz256 : ((strOfNums bs)[L]).toNat < 256 := ((strOfNums bs)[L]).toNat_lt
      have hal := bitsAt_lt bs p m
      have HS := Lib.hid hsucc; have HR := Lib.hid hR; have HK := Lib.hid hK; have HAl := Lib.hid hal
      clear hsucc hR hK hsa hal
      have HT := Lib.hid hT; clear hT hL hq
      obtain ⟨b, hb⟩ : ∃ b, b = ((strOfNums bs)[L]).toNat / 2 ^ q % 2 := ⟨_, rfl⟩
      have hb2 : b < 2 := by omega
      rw [← hb] at HS
      have hbit : bits .and .u8 ((((strOfNums bs)[L]).toNat : Int) / 2 ^ q) 1 = (b : Int) := by
        have h1 := u8_and_nat (((strOfNums bs)[L]).toNat / 2 ^ q) 1 (Nat.lt_of_le_of_lt (Nat.div_le_self _ _) hz256) (by decide)
        rw [Nat.and_one_is_mod, ← hb] at h1
        rw [← h1]; push_cast; rfl
      clear hb
      generalize bitsAt bs p m = a at HS HAl ⊢
      have hor := shl_or a b m HAl.out hb2 (by omega)
      have hwb : IntKind.u32.wrap (b : Int) = b := by rw [IntKind.wrap_u32]; omega
      generalize hx : a + b * 2 ^ m = x at HS hor
      clear hx
      go_wp2
      go_quiet (fail)
      clear hor hbit hwb
      go_wp2
      go_roundw
      case rel =>
        refine ⟨m + 1, by omega, by go_num, by rw [← HS.out], ?_, ?_⟩
        · have e : ((T : Int) + 1) = ((p + (m + 1) : Nat) : Int) := by have := HT.out; omega
          rw [e]
          exact HR.out.moved ((Kept.refl NoB wr).drewN nq) (by omega)
        · exact Kept.setCell (S := OneB R) (p := ⟨R, 1, none⟩) (HK.out.drewN nq) (.inl rfl) _
      case measure => simp [intOf]; omega
    · have hmn : m = n := by omega
      subst hmn
      have HR := Lib.hid hR; have HK := Lib.hid hK; clear hR hK
      go_wp2
      go_ret2
      exact ⟨rfl, HR.out, HK.out⟩
set_option maxHeartbeats 1000000 in
theorem refTake_no (w : World) (R : Nat) (bs : List Int) (p : Nat) (n : Int) (h : Rfb w R bs p) (hn : n < 0 ∨ 32 < n ∨ 8 * bs.length < p + n) :
    Calls Try.prog 19 #[.pointer (some ⟨R, 0, none⟩), .int .i64 n] w fun e w' => e = .returned (.tuple #[.int .u32 0, .bool false]) ∧ Kept NoB w w' := by
  have H := Lib.hid h; clear h
  go_enter Try.func19, Try.ntmps19
  by_cases h1 : n < 0
  · go_wp2
    go_ret2
    exact ⟨rfl, Kept.refl _ _⟩
  · by_cases h2 : 32 < n
    · go_wp2
      go_ret2
      exact ⟨rfl, Kept.refl _ _⟩
    · have h3 : (8 * (bs.length : Int) - p) < n := by omega
      go_wp2_with (go_at_call 33; refine (refLeft_any _ _ _ _ H.out).mono ?_; rintro e w1 ⟨rfl, hk1⟩)
      go_ret2
      exact ⟨rfl, hk1⟩

set_option maxHeartbeats 2000000 in
theorem refPeek_any (w : World) (R : Nat) (bs : List Int) (p : Nat) (n : Int) (h : Rfb w R bs p) (k : Nat) (hk : min3 n (8 * bs.length - p) = k) :
    Calls Try.prog 34 #[.pointer (some ⟨R, 0, none⟩), .int .i64 n] w fun e w' => e = .returned (.tuple #[.int .u32 (bitsAt bs p k : Nat), .int .i64 k]) ∧ Rfb w' R bs p ∧ Kept (OneB R) w w' := by
  have hb := min3_bd n _ k hk (by have := h.2.2.2; omega)
  have hlm := h.2.2.1
  have hpl := h.2.2.2
  obtain ⟨C, hC⟩ : ∃ C : Nat, (C : Int) = if 32 < (if n < 0 then 0 else n) then 32 else if n < 0 then 0 else n := ⟨(if 32 < (if n < 0 then 0 else n) then (32 : Int) else if n < 0 then 0 else n).toNat, by omega⟩
  have hC32 : C ≤ 32 := by omega
  have hkC : (k : Int) = if 8 * (bs.length : Int) - p < C then 8 * (bs.length : Int) - p else C := by unfold min3 at hk; omega
  have HC := Lib.hid hC; have HkC := Lib.hid hkC
  have H := Lib.hid h; clear h hk hC hkC
  go_enter Try.func34, Try.ntmps34
  go_upto_region 1 with fail
  go_cut [1] from 10 to 12 (fun s wx => s = .int .i64 C ∧ w = wx)
  case first =>
    go_wp2
    all_goals go_meet
    all_goals exact ⟨by have := HC.out; congr 1; omega, rfl⟩
  case rest =>
  obtain ⟨rfl, hw⟩ := hcut
  subst hw
  go_upto_region 2 with fail
  go_cut [6] from 13 to 16 (fun s wx => s = .int .i64 k ∧ Kept NoB w wx)
  case first =>
    go_wp2_with (go_at_call 33; refine (refLeft_any _ _ _ _ H.out).mono ?_; rintro e w1 ⟨rfl, hk1⟩)
    all_goals go_meet
    all_goals exact ⟨by have := HkC.out; congr 1; omega, hk1⟩
  case rest =>
  obtain ⟨rfl, hk1⟩ := hcut
  have hR := H.out.kept hk1 (fun h => h)
  have c1 : wc.cell? ⟨R, 1, none⟩ = some (.int .i64 p) := by simpa using obj_cell hR.1 1
  have HR := Lib.hid hR; clear hR
  go_wp2_with fail
  refine (refTake_yes _ _ _ _ k HR.out hb.1 (by omega)).mono ?_
  rintro e w2 ⟨rfl, hR2, hk2⟩
  have d1 : w2.cell? ⟨R, 1, none⟩ = some (.int .i64 (p + k : Nat)) := by simpa using obj_cell hR2.1 1
  have f2 : w2.frozen? ⟨R, 1, none⟩ = false := obj_free hR2.1 1
  have HR2 := Lib.hid hR2; have HK := Lib.hid ((hk1.mono (fun _ _ h => h.elim)).trans hk2 : Kept (OneB R) w w2); clear hR2 hk1 hk2 c1
  go_wp2
  go_ret2
  exact ⟨rfl, HR2.out.moved (Kept.refl _ _) hpl, Kept.setCell (S := OneB R) (p := ⟨R, 1, none⟩) HK.out (.inl rfl) _⟩
end Go.Proofs.Ytokdlmpnokmniaa
