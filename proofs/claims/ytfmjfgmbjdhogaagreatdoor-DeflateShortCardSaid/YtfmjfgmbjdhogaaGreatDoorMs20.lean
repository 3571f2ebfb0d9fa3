/-
  deflate: putType, Stored.
  deflate: allOk, putTokens.
-/
import Derived.Test.YtfmjfgmbjdhogaaGreatDoorMs19
namespace Go.Proofs.YtfmjfgmbjdhogaaGreatDoor
open Go.RowKit
set_option linter.unusedVariables false
set_option linter.unusedSimpArgs false

theorem not32 (x : Nat) (h : x < 4294967296) : bits .xor .u32 IntKind.u32.max (x : Int) = ((4294967295 - x : Nat) : Int) := by
  show IntKind.u32.wrap ((BitVec.ofInt 32 IntKind.u32.max ^^^ BitVec.ofInt 32 (x : Int)).toNat : Int) = _
  have h1 : (BitVec.ofInt 32 (x : Int)).toNat = x := by rw [BitVec.ofInt_natCast, BitVec.toNat_ofNat]; exact Nat.mod_eq_of_lt (by omega)
  have e : BitVec.ofInt 32 IntKind.u32.max = BitVec.allOnes 32 := by decide
  rw [e, ← BitVec.not_def, BitVec.toNat_not, h1, IntKind.wrap_u32']
  omega
/-- Behind noughts up to a byte's end. -/
theorem WroteP.align {w w1 w2 : World} {R : Nat} {v0 : Value} {bs bs1 : List Int} {s : Nat} {ps : List (Nat × Nat)} {ao1 : Option Addr} {cap1 : Nat} (h : WroteP w R v0 bs s ps w1 ao1 cap1 bs1) (hw : Wtr w2 R ao1 cap1 bs1 (up8 (s + wdN ps))) (hk : Kept (OneB R) w1 w2) :
    WroteP w R v0 bs s (ps ++ [(0, up8 (s + wdN ps) - (s + wdN ps))]) w2 ao1 cap1 bs1 := by
  obtain ⟨h1, h2, h3, h4⟩ := h
  have hu : s + wdN ps ≤ up8 (s + wdN ps) := by unfold up8; omega
  refine ⟨?_, ?_, h3.transO hk (fun i _ e => .inl e), h4⟩
  · rw [wdN_append]
    simp only [wdN, Nat.add_zero]
    rw [show s + (wdN ps + (up8 (s + wdN ps) - (s + wdN ps))) = up8 (s + wdN ps) by omega]
    exact hw
  · rw [putsN_append, h2]
    simp [putsN]
theorem WroteP.size {w w1 : World} {R : Nat} {v0 : Value} {bs bs1 : List Int} {s : Nat} {ps : List (Nat × Nat)} {ao1 : Option Addr} {cap1 : Nat} (h : WroteP w R v0 bs s ps w1 ao1 cap1 bs1) : Wtr w1 R ao1 cap1 bs1 (s + wdN ps) := h.1
set_option maxRecDepth 20000 in
set_option maxHeartbeats 4000000 in
theorem putType_any (w : World) (R : Nat) (ao : Option Addr) (cap : Nat) (bs : List Int) (s k : Nat) (last : Bool) (h : Wtr w R ao cap bs s) (hk : k < 4) (hs : s ≤ 800000000000) :
    Calls Tryz.prog 60 #[.pointer (some ⟨R, 0, none⟩), .int .u32 (k : Int), .bool last] w fun e w' => ∃ ao' cap' bs', e = .returned (.tuple #[]) ∧ WroteP w R (.slice ao bs.length cap) bs s [(lastN last, 1), (k, 2)] w' ao' cap' bs' := by
  have hl := lastN_lt last
  obtain ⟨b, hb⟩ : ∃ b, b = lastN last := ⟨_, rfl⟩
  have HP1 := put_any w R ao cap bs s b 1 h (by omega) (by decide) (by omega)
  rw [show b % 2 ^ 1 = b by omega] at HP1
  have HP := Lib.hid HP1
  have H0 := Lib.hid (WroteP.nil h)
  have HB := Lib.hid hb
  rw [← hb]
  clear h HP1 hl
  have hgo : ∀ e w1, PutP w R (.slice ao bs.length cap) bs s b 1 e w1 → ∃ ao2 cap2 bs2, e = .returned (.bool true) ∧ WroteP w R (.slice ao bs.length cap) bs s ([] ++ [(b, 1)]) w1 ao2 cap2 bs2 := fun e w1 hp => H0.out.put (by simpa [wdN] using hp)
  have HGo := Lib.hid hgo
  clear hgo
  cases last with
  | false =>
    have hb0 : b = 0 := hb
    subst hb0
    clear hb
    go_enter Tryz.func60, Tryz.ntmps60
    go_wp2_with fail
    refine HP.out.mono ?_
    intro e w1 hp
    obtain ⟨a2, c2, b2, rfl, hW⟩ := HGo.out e w1 hp
    have HP2 := put_any w1 R a2 c2 b2 _ k 2 hW.size (by omega) (by decide) (by simp only [List.nil_append, wdN]; omega)
    rw [show k % 2 ^ 2 = k by omega] at HP2
    have HP2 := Lib.hid HP2; have HW := Lib.hid hW
    clear hW hp
    go_wp2_with fail
    refine HP2.out.mono ?_
    intro e w2 hp2
    obtain ⟨a3, c3, b3, rfl, hW3⟩ := HW.out.put hp2
    have HW3 := Lib.hid hW3
    clear hW3 hp2
    go_wp2
    refine bodyPost_end (results_none rfl _ _ _) rfl ?_
    exact ⟨a3, c3, b3, rfl, HW3.out⟩
  | true =>
    have hb1 : b = 1 := hb
    subst hb1
    clear hb
    go_enter Tryz.func60, Tryz.ntmps60
    go_wp2_with fail
    refine HP.out.mono ?_
    intro e w1 hp
    obtain ⟨a2, c2, b2, rfl, hW⟩ := HGo.out e w1 hp
    have HP2 := put_any w1 R a2 c2 b2 _ k 2 hW.size (by omega) (by decide) (by simp only [List.nil_append, wdN]; omega)
    rw [show k % 2 ^ 2 = k by omega] at HP2
    have HP2 := Lib.hid HP2; have HW := Lib.hid hW
    clear hW hp
    go_wp2_with fail
    refine HP2.out.mono ?_
    intro e w2 hp2
    obtain ⟨a3, c3, b3, rfl, hW3⟩ := HW.out.put hp2
    have HW3 := Lib.hid hW3
    clear hW3 hp2
    go_wp2
    refine bodyPost_end (results_none rfl _ _ _) rfl ?_
    exact ⟨a3, c3, b3, rfl, HW3.out⟩
theorem bytesW_snoc (b : List Int) (j : Nat) (h : j < b.length) (z : Nat) (hz : b.getD j 0 = (z : Int)) : bytesW (b.take (j + 1)) = bytesW (b.take j) ++ [(z, 8)] := by
  unfold bytesW
  rw [List.take_add_one, List.getElem?_eq_getElem h]
  simp only [List.getD, List.getElem?_eq_getElem h, Option.getD_some] at hz
  simp [hz]
set_option maxRecDepth 20000 in
set_option maxHeartbeats 8000000 in
theorem stored_yes (w : World) (R : Nat) (ao : Option Addr) (cap : Nat) (bs : List Int) (s : Nat) (last : Bool) (ba : Option Addr) (bc : Nat) (b : List Int) (h : Wtr w R ao cap bs s) (hs : s ≤ 700000000000) (hr : Reads w ba b) (hb : AllB b) (hl : b.length ≤ 65535)
    (hsep : ∀ a, ba = some a → a.block ≠ R ∧ (Value.slice ao bs.length cap).ownBlock ≠ some a.block) :
    Calls Tryz.prog 50 #[.pointer (some ⟨R, 0, none⟩), .slice ba b.length bc, .bool last] w fun e w' => ∃ ao' cap' bs', e = .returned (.int .i64 0) ∧ WroteP w R (.slice ao bs.length cap) bs s (storedW last (up8 (s + 3) - (s + 3)) b) w' ao' cap' bs' := by
  have HT := Lib.hid (putType_any w R ao cap bs s 0 last h (by decide) (by omega))
  have HRd : Hid (∀ W, Kept (OrB (OneB R) (OwnB (.slice ao bs.length cap))) w W → Reads W ba b) := Lib.hid fun W hk => hr.kept hk (fun a ha e => by
    rcases e with e | e
    · exact (hsep a ha).1 e
    · exact (hsep a ha).2 e)
  have HBs : Hid (∀ j, j < b.length → ∃ (g off z : Nat), ba = some ⟨g, off, none⟩ ∧ b.getD j 0 = (z : Int) ∧ z < 256) := Lib.hid fun j hj => by
    obtain ⟨g, off, hba, _, _⟩ := hr.at (by omega)
    have := AllB.getD hb j
    exact ⟨g, off, (b.getD j 0).toNat, hba, by omega, by omega⟩
  obtain ⟨L, hL⟩ : ∃ L, L = b.length := ⟨_, rfl⟩
  have HL := Lib.hid hL
  have hLl : L ≤ 65535 := by rw [hL]; exact hl
  have hw32 : IntKind.u32.wrap (L : Int) = (L : Int) := IntWalk.u32_in _ (by omega)
  obtain ⟨Z, hZ⟩ : ∃ Z, Z = 4294967295 - L := ⟨_, rfl⟩
  have hx1 : bits .xor .u32 IntKind.u32.max (L : Int) = (Z : Int) := by rw [hZ]; exact not32 L (by omega)
  have hx2 : bits .xor .u32 (if IntKind.u32.signed = true then -1 else IntKind.u32.max) (L : Int) = (Z : Int) := hx1
  have hZb : Z < 4294967296 := by omega
  have hZ16 : Z % 2 ^ 16 = 65535 - L := by omega
  have HZ16 := Lib.hid hZ16
  rw [← hL]
  clear h hr hb hl hsep hL hZ hZ16
  go_enter Tryz.func50, Tryz.ntmps50
  go_wp2_with fail
  refine HT.out.mono ?_
  rintro e w1 ⟨a1, c1, b1, rfl, hW1⟩
  have HA := Lib.hid (walign_any w1 R a1 c1 b1 _ hW1.size (by simp only [wdN]; omega))
  have HW1 := Lib.hid hW1
  clear hW1 HT
  go_wp2_with fail
  refine HA.out.mono ?_
  rintro e w2 ⟨rfl, hw2, hk2⟩
  have hW2 := HW1.out.align hw2 hk2
  have hsz := hW2.size
  have hup : up8 (s + 3) - (s + 3) ≤ 7 := by unfold up8; omega
  have HP3 := put_any w2 R a1 c1 b1 _ L 16 hsz (by omega) (by decide) (by simp only [wdN, wdN_append, Nat.add_zero]; unfold up8; omega)
  rw [show L % 2 ^ 16 = L by omega] at HP3
  have HP3 := Lib.hid HP3; have HW2 := Lib.hid hW2
  clear hw2 hk2 hW2 hsz HA
  go_wp2_with fail
  refine HP3.out.mono ?_
  intro e w3 hp3
  obtain ⟨a3, c3, b3, rfl, hW3⟩ := HW2.out.put hp3
  have hsz := hW3.size
  have HP4 := put_any w3 R a3 c3 b3 _ Z 16 hsz hZb (by decide) (by simp only [wdN, wdN_append, Nat.add_zero]; unfold up8; omega)
  rw [HZ16.out] at HP4
  have HP4 := Lib.hid HP4; have HW3 := Lib.hid hW3
  clear hp3 hW3 hsz HP3
  go_wp2_with fail
  refine HP4.out.mono ?_
  intro e w4 hp4
  obtain ⟨a4, c4, b4, rfl, hW4⟩ := HW3.out.put hp4
  have HW4 := Lib.hid hW4
  clear hp4 hW4 HP4
  go_wp2_with fail
  go_loopw [9, 30] (fun _x i wr => ∃ (j : Nat) (ao' : Option Addr) (cap' : Nat) (bs' : List Int), j ≤ L ∧ i = .int .i64 (j : Int) ∧ Hid (WroteP w R (.slice ao bs.length cap) bs s ([(lastN last, 1), (0, 2), (0, up8 (s + 3) - (s + 3)), (L, 16), (65535 - L, 16)] ++ bytesW (b.take j)) wr ao' cap' bs')) (fun _ i _ => L - (intOf i).toNat)
  case atStart => exact ⟨0, a4, c4, b4, by omega, rfl, Lib.hid (by simpa [bytesW, wdN] using HW4.out)⟩
  case round =>
    obtain ⟨j, ao', cap', bs', hj, rfl, HW⟩ := hrel
    by_cases hlt : (j : Int) < (L : Int)
    · obtain ⟨g, off, z, rfl, hz, hz256⟩ := HBs.out j (by have := HL.out; omega)
      have hc := (HRd.out wr HW.out.2.2.1).2 _ rfl j (by have := HL.out; omega)
      rw [hz, addr_add] at hc
      have HSn := Lib.hid (bytesW_snoc b j (by have := HL.out; omega) z hz)
      have hwz : IntKind.u32.wrap (z : Int) = (z : Int) := IntWalk.u32_in _ (by omega)
      have hbw := bytesW_wd (b.take j)
      have hbl : (b.take j).length ≤ 65535 := by rw [List.length_take]; omega
      have HP := put_any wr R ao' cap' bs' _ z 8 HW.out.size (by omega) (by decide) (by rw [wdN_append]; simp only [wdN, Nat.add_zero]; omega)
      rw [show z % 2 ^ 8 = z by omega] at HP
      have HP := Lib.hid HP
      clear hz hbw hbl
      go_wp2_with fail
      refine HP.out.mono ?_
      intro e w5 hp5
      obtain ⟨a5, c5, b5, rfl, hW5⟩ := HW.out.put hp5
      rw [List.append_assoc, ← HSn.out] at hW5
      have HW5 := Lib.hid hW5
      clear hW5 hp5 HP hc
      go_wp2
      go_roundw
      case rel => exact ⟨j + 1, a5, c5, b5, by omega, by go_num, HW5⟩
      case measure => simp [intOf]; omega
    · obtain rfl : j = L := by omega
      go_wp2
      go_ret
      refine ⟨rfl, ao', cap', bs', ?_⟩
      have h := HW.out
      rw [List.take_of_length_le (by rw [← HL.out]; exact Nat.le_refl _)] at h
      unfold storedW
      rw [← HL.out]
      exact h
end Go.Proofs.YtfmjfgmbjdhogaaGreatDoor

namespace Go.Proofs.YtfmjfgmbjdhogaaGreatDoor
open Go.RowKit
set_option linter.unusedVariables false
set_option linter.unusedSimpArgs false

theorem WroteP.base {w w2 w1 : World} {R : Nat} {v0 : Value} {bs bs1 : List Int} {s : Nat} {ps : List (Nat × Nat)} {ao1 : Option Addr} {cap1 : Nat} (h : WroteP w2 R v0 bs s ps w1 ao1 cap1 bs1) (hk : Kept NoB w w2) : WroteP w R v0 bs s ps w1 ao1 cap1 bs1 :=
  ⟨h.1, h.2.1, (hk.mono (fun _ _ e => e.elim)).trans h.2.2.1, fun k hk2 => by
    rcases h.2.2.2 k hk2 with e | e
    · exact .inl e
    · have := hk.size; exact .inr (by omega)⟩
/-- One code word more. -/
theorem WroteP.code {w wr : World} {R : Nat} {v0 : Value} {bs bs' : List Int} {s : Nat} {ps : List (Nat × Nat)} {ao' : Option Addr} {cap' : Nat} (h : WroteP w R v0 bs s ps wr ao' cap' bs') {ls : List Int} (hs : Small 15 ls) (hl : ls.length ≤ 320) {k : Nat} (hk : k < ls.length) (h0 : 0 < ls.getD k 0) (hsz : s + wdN ps ≤ 800000000000) :
    ∃ ck lk : Nat, ls.getD k 0 = (lk : Int) ∧ codeAt ls k = (ck : Int) ∧ wdN [wordZ ls (k : Int)] ≤ 15 ∧ ∀ W, Kept NoB wr W → Calls Tryz.prog 101 #[.pointer (some ⟨R, 0, none⟩), .int .u32 (ck : Int), .int .i64 (lk : Int)] W fun e w' => e = .returned (.bool true) ∧ ∃ ao2 cap2 bs2, WroteP w R v0 bs s (ps ++ [wordZ ls (k : Int)]) w' ao2 cap2 bs2 := by
  have hb := hs.getD k hk
  obtain ⟨lk, hlk⟩ : ∃ lk : Nat, ls.getD k 0 = (lk : Int) := ⟨(ls.getD k 0).toNat, by omega⟩
  have hcb := codeAt_bd ls hl hs k hk
  obtain ⟨ck, hck⟩ : ∃ ck : Nat, codeAt ls k = (ck : Int) := ⟨(codeAt ls k).toNat, by omega⟩
  have hword : wordZ ls (k : Int) = (revN lk ck, lk) := by
    unfold wordZ; rw [Int.toNat_natCast, hlk, hck, Int.toNat_natCast, Int.toNat_natCast]
  rw [hlk] at hb h0
  refine ⟨ck, lk, hlk, hck, by rw [hword]; simp only [wdN]; omega, fun W hW => ?_⟩
  have hw := h.keptNo hW
  refine (code_calls W R ao' cap' bs' _ ck lk hw.1 (by rw [hck] at hcb; omega) (by omega) (by omega) (by omega)).mono ?_
  intro e w' hp
  obtain ⟨a2, c2, b2, rfl, hW2⟩ := hw.put hp
  rw [hword]
  exact ⟨rfl, a2, c2, b2, hW2⟩
def allOkB (ts : List Tk) : Bool := ts.all Tk.ok
set_option maxRecDepth 20000 in
set_option maxHeartbeats 4000000 in
theorem allOk_any (ta : Option Addr) (tc : Nat) (ts : List Tk) (w : World) (hr : Toks w ta ts) (hl : ts.length ≤ maxLen) :
    Calls Tryz.prog 59 #[.slice ta ts.length tc] w fun e w' => e = .returned (.bool (allOkB ts)) ∧ Kept NoB w w' := by
  have HR := Lib.hid hr
  obtain ⟨L, hL⟩ : ∃ L, L = ts.length := ⟨_, rfl⟩
  have HL := Lib.hid hL
  unfold maxLen at hl
  rw [← hL] at hl ⊢
  obtain ⟨A, hA⟩ : ∃ A, A = allOkB ts := ⟨_, rfl⟩
  have HA := Lib.hid hA
  rw [← hA]
  clear hr hL hA
  go_enter Tryz.func59, Tryz.ntmps59
  go_wp2_with fail
  go_loopw [4, 7] (fun _x i wr => ∃ j : Nat, j ≤ L ∧ i = .int .i64 (j : Int) ∧ Hid (∀ k, k < j → (ts.getD k ⟨0, 0, 0⟩).ok = true) ∧ Hid (Kept NoB w wr)) (fun _ i _ => L - (intOf i).toNat)
  case atStart => exact ⟨0, by omega, rfl, Lib.hid (fun k hk => absurd hk (by omega)), Kept.refl _ _⟩
  case round =>
    obtain ⟨j, hj, rfl, HO, HK⟩ := hrel
    by_cases hlt : (j : Int) < (L : Int)
    · have hjt : j < ts.length := by have := HL.out; omega
      have hjL : j < L := by omega
      obtain ⟨b, off, rfl, c0, c1, c2⟩ := (HR.out.keptNo HK.out) j hjt
      obtain ⟨t, ht⟩ : ∃ t, t = ts.getD j ⟨0, 0, 0⟩ := ⟨_, rfl⟩
      have HT := Lib.hid ht
      rw [← ht] at c0 c1 c2
      clear ht
      obtain ⟨l, d, c⟩ := t
      have HOk := Lib.hid (fun W => ok_any ⟨l, d, c⟩ W)
      unfold Tk.v at HOk
      simp only at c0 c1 c2 HOk
      obtain ⟨ob, hob⟩ : ∃ ob, ob = (Tk.mk l d c).ok := ⟨_, rfl⟩
      rw [← hob] at HOk
      have HOb := Lib.hid hob
      clear hob hjt
      go_wp2_with fail
      refine (HOk.out _).mono ?_
      rintro e w1 ⟨rfl, hk1⟩
      have HK1 := Lib.hid ((HK.out.alloc _).trans hk1)
      clear hk1 c0 c1 c2
      cases ob with
      | false =>
        have hAf : A = false := by
          rw [HA.out]
          unfold allOkB
          rw [List.all_eq_false]
          have hjl : j < ts.length := by have := HL.out; omega
          refine ⟨ts[j], List.getElem_mem hjl, ?_⟩
          have h1 := HT.out
          rw [List.getD, List.getElem?_eq_getElem hjl, Option.getD_some] at h1
          rw [← h1, ← HOb.out]
          decide
        subst hAf
        go_wp2
        go_ret
        exact ⟨rfl, HK1.out⟩
      | true =>
        go_wp2
        go_roundw
        case rel =>
          refine ⟨j + 1, by omega, by go_num, Lib.hid fun k hk => ?_, HK1⟩
          by_cases hkj : k < j
          · exact HO.out k hkj
          · obtain rfl : k = j := by omega
            rw [← HT.out]; exact HOb.out.symm
        case measure => simp [intOf]; omega
    · obtain rfl : j = L := by omega
      have hAt : A = true := by
        rw [HA.out]
        unfold allOkB
        rw [List.all_eq_true]
        intro t ht
        obtain ⟨i, hi, rfl⟩ := List.getElem_of_mem ht
        have := HO.out i (by have := HL.out; omega)
        rw [List.getD, List.getElem?_eq_getElem hi, Option.getD_some] at this
        exact this
      subst hAt
      go_wp2
      go_ret
      exact ⟨rfl, HK.out⟩
end Go.Proofs.YtfmjfgmbjdhogaaGreatDoor
