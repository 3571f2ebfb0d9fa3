/-
  match.Longest.
-/
import Derived.Test.YtifoldonmmobpaaDoorMatC
namespace Go.Proofs.YtifoldonmmobpaaDoor
open Go.RowKit
set_option linter.unusedVariables false
set_option linter.unusedSimpArgs false

/-- A row of bytes that came in or was made; its block is below n. -/
def RowB (w : World) (n : Nat) (ao : Option Addr) (L : List UInt8) : Prop := 0 < L.length → ∃ g o, ao = some ⟨g, o, none⟩ ∧ g < n ∧ RdB w g o L 0 L.length
theorem RowB.kept {w w' : World} {n : Nat} {ao : Option Addr} {L : List UInt8} (h : RowB w n ao L) (hk : Kept NoB w w') : RowB w' n ao L := fun hl => by
  obtain ⟨g, o, h1, h2, h3⟩ := h hl
  exact ⟨g, o, h1, h2, h3.kept hk⟩
theorem RowB.room {w : World} {n m : Nat} {ao : Option Addr} {L : List UInt8} (h : RowB w n ao L) (hm : n ≤ m) : RowB w m ao L := fun hl => by
  obtain ⟨g, o, h1, h2, h3⟩ := h hl
  exact ⟨g, o, h1, by omega, h3⟩
theorem RdB.keptS {S : Nat → Prop} {w w' : World} {g o p n : Nat} {L : List UInt8} (h : RdB w g o L p n) (hk : Kept S w w') (hs : ¬ S g) : RdB w' g o L p n := fun i hi => by
  have hc := h i hi
  exact (World.cell?_of_block (hk.block _ (World.block_lt_of_cell? w _ hc) hs)).trans hc
theorem DeB.keptS {S : Nat → Prop} {w w' : World} (h : DeB w) (hk : Kept S w w') (hs : ¬ S 0) : DeB w' := fun j hj => by
  have hc := h j hj
  exact (World.cell?_of_block (hk.block _ (World.block_lt_of_cell? w _ hc) hs)).trans hc
theorem BestP.all {c : Nat → Nat} {D D2 n0 n d m : Nat} (h : BestP c D n0 n d) (hD : D ≤ D2) (hm : m ≤ n) (hc : ∀ e, c e ≤ m) : BestP c D2 n0 n d := h.skip hD (fun e _ _ => Nat.le_trans (hc e) hm)
def longV (L : List UInt8) (at_ : Int) : Nat × Nat := if at_ < 0 ∨ (L.length : Int) ≤ at_ then (0, 0) else longN L at_.toNat
set_option maxRecDepth 100000 in
set_option maxHeartbeats 4000000 in
theorem longest_any (ao : Option Addr) (n c : Nat) (at_ : Int) (L : List UInt8) (w : World) (hr : RowB w w.heap.size ao L) (hn : n = L.length) (hc : n ≤ c) (hcm : c ≤ 9223372036854775807) (hT : DeB w) (hlo : -9223372036854775808 ≤ at_) (hhi : at_ ≤ 9223372036854775807) :
    Calls Tryd.prog 10 #[.slice ao n c, .int .i64 at_] w fun e w' => e = .returned (.tuple #[.int .i64 ((longV L at_).1 : Int), .int .i64 ((longV L at_).2 : Int)]) ∧ Kept NoB w w' := by
  by_cases hout : at_ < 0 ∨ (n : Int) ≤ at_
  · have hv : longV L at_ = (0, 0) := by rw [longV, if_pos (by omega)]
    rw [hv]
    clear hv hr hT
    by_cases h0 : at_ < 0
    · go_enter Tryd.func10, Tryd.ntmps10
      go_wp2
      go_ret2
      exact ⟨rfl, Kept.refl _ _⟩
    · have h1 : (n : Int) ≤ at_ := by omega
      go_enter Tryd.func10, Tryd.ntmps10
      go_wp2
      go_ret2
      exact ⟨rfl, Kept.refl _ _⟩
  · obtain ⟨a, rfl⟩ : ∃ a : Nat, at_ = (a : Int) := ⟨at_.toNat, by omega⟩
    have han : a < n := by omega
    have hv : longV L (a : Int) = longN L a := by rw [longV, if_neg (by omega), Int.toNat_natCast]
    rw [hv]
    obtain ⟨g, o, rfl, hg, hrd⟩ := hr (by omega)
    obtain ⟨D, hD⟩ : ∃ D, D = min a 32768 := ⟨_, rfl⟩
    have HLong := Lib.hid (fun k d (h : BestP (candN L a) D 2 k d) => long_of (hD ▸ h))
    obtain ⟨R, hR⟩ : ∃ R, R = longN L a := ⟨_, rfl⟩
    rw [← hR] at HLong ⊢
    have HR := Lib.hid hrd; have HN := Lib.hid hn; have HT := Lib.hid hT
    have HNew := Lib.hid (newbest_any (some ⟨g, o, none⟩) n c a w (by omega) (by omega))
    obtain ⟨m, hm⟩ : ∃ m, m = min 258 (n - a) := ⟨_, rfl⟩
    rw [← hm] at HNew
    have HM := Lib.hid hm
    have hm1 : 1 ≤ m ∧ m ≤ 258 := by omega
    have HCl : Hid (∀ d, candN L a d ≤ m) := Lib.hid (fun d => by have := cand_le L a d; rw [mostN, ← hn, ← hm] at this; exact this)
    have HCd : Hid (∀ d, candN L a d = shr L (a - d) a m) := Lib.hid (fun d => by rw [candN, mostN, ← hn, ← hm])
    have hDa : D ≤ a ∧ D ≤ 32768 := by omega
    have HD := Lib.hid hD
    have h0a : ¬ (a : Int) < 0 := by omega
    have h1a : ¬ (n : Int) ≤ (a : Int) := by omega
    clear hr hT hn hrd hv hR hm hD hout
    go_enter Tryd.func10, Tryd.ntmps10
    go_wp2_with fail
    with_reducible refine HNew.out.mono ?_
    rintro e w1 ⟨rfl, hk1⟩
    have HK1 := Lib.hid hk1
    clear hk1
    obtain ⟨r, hr⟩ : ∃ r, r = w1.heap.size := ⟨_, rfl⟩
    obtain ⟨w2, hw2⟩ : ∃ w2, w2 = w1.alloc (.cells #[.slice (some ⟨g, o, none⟩) n c, .int .i64 (a : Int), .int .i64 (m : Int), .int .i64 2, .int .i64 0] 47) := ⟨_, rfl⟩
    have hB : BestAt w2 r g o n c a m 2 0 := by rw [hw2, hr]; exact heap_alloc_new _ _
    have hgr : g < r := by have := HK1.out.size; omega
    have HK2 := Lib.hid (show Kept NoB w w2 by rw [hw2]; exact HK1.out.alloc _)
    have HB := Lib.hid hB
    have hrs : w.heap.size ≤ r := by have := HK1.out.size; omega
    clear hB
    go_upto_region 4 with fail
    rw [← hr, ← hw2]
    obtain ⟨lo, hlo2⟩ : ∃ lo, lo = a - D := ⟨_, rfl⟩
    have hmx : max ((a : Int) - 32768) 0 = (lo : Int) := by have := HD.out; omega
    have hmx2 : (if (a : Int) - 32768 < 0 then (0 : Int) else (a : Int) - 32768) = (lo : Int) := by have := HD.out; split <;> omega
    have hloD : lo + D = a := by omega
    clear hw2 hr hlo2
    go_wp2
    go_loopw [7] (fun v7 wr => ∃ (k z d : Nat), v7 = .int .i64 ((a : Int) - 1 - (k : Int)) ∧ k ≤ D ∧ Hid (BestP (candN L a) k 2 z d) ∧ Hid (BestAt wr r g o n c a m z d) ∧ Hid (Kept NoB w wr)) (fun v7 _ => ((intOf v7) + 1).toNat)
    case atStart => exact ⟨0, 2, 0, by go_num, by omega, Lib.hid (BestP.start _ _), HB, HK2⟩
    case round =>
      obtain ⟨k, z, d, rfl, hk, HP, HB, HK⟩ := hrel
      have HAn := Lib.hid (fun W (h : Kept NoB wr W) => answer_any r g o n c a m z d W (HB.out.kept h))
      have HFu := Lib.hid (full_any r g o n c a m z d wr HB.out)
      obtain ⟨f, hf⟩ : ∃ f : Int, f = (a : Int) - 1 - (k : Int) := ⟨_, rfl⟩
      rw [← hf]
      have hfb : -1 ≤ f ∧ f ≤ (a : Int) := by omega
      by_cases hkD : k < D
      · have hge : (lo : Int) ≤ f := by omega
        by_cases hfull : m ≤ z
        · rw [decide_eq_true hfull] at HFu
          have HF : Hid (R = if d = 0 then (0, 0) else (z, d)) := Lib.hid (HLong.out z d (HP.out.all (by omega) hfull HCl.out))
          clear hfull hf
          go_wp2_with fail
          with_reducible refine HFu.out.mono ?_
          rintro e w4 ⟨rfl, hk4⟩
          have HK4 := Lib.hid hk4
          have HK4b := Lib.hid (HK.out.trans hk4)
          clear hk4
          go_wp2_with fail
          with_reducible refine (HAn.out _ HK4.out).mono ?_
          rintro e w5 ⟨rfl, hk5⟩
          have HK5 := Lib.hid (HK4b.out.trans hk5)
          clear hk5
          have HE : Hid ((if d = 0 then (0 : Int) else (z : Int)) = ((R.1 : Nat) : Int) ∧ (d : Int) = ((R.2 : Nat) : Int)) := Lib.hid (by
            rw [HF.out]
            split
            · rename_i h; rw [h]; exact ⟨rfl, rfl⟩
            · exact ⟨rfl, rfl⟩)
          rw [HE.out.1]
          go_wp2
          go_ret2
          exact ⟨by rw [← HE.out.2]; rfl, HK5.out⟩
        · rw [decide_eq_false hfull] at HFu
          obtain ⟨p, hp⟩ : ∃ p : Nat, p = a - (k + 1) := ⟨_, rfl⟩
          have hfp : f = (p : Int) := by omega
          have HPk : Hid ((p : Int) = (a : Int) - 1 - (k : Int)) := Lib.hid (by omega)
          clear hf
          subst hfp
          have hst := HP.out.step
          rw [HCd.out (k + 1), ← hp] at hst
          have HSt := Lib.hid hst
          have hapk : a - p = k + 1 := by omega
          have HTry := Lib.hid (fun W (h : Kept NoB wr W) => try_any r g o n c a m z d p L W (HB.out.kept h) (HR.out.kept (HK.out.trans h) |> fun h => by rw [← HN.out] at h; exact h) HN.out hc hcm HM.out (by omega) (by omega) han (HT.out.kept (HK.out.trans h)))
          clear hst hp
          go_wp2_with fail
          with_reducible refine HFu.out.mono ?_
          rintro e w4 ⟨rfl, hk4⟩
          have HK4 := Lib.hid hk4
          clear hk4
          go_wp2_with fail
          with_reducible refine (HTry.out _ HK4.out).mono ?_
          rintro e w5 ⟨rfl, hk5, hb5⟩
          rw [hapk] at hb5
          have HB5 := Lib.hid hb5
          have HK5 : Hid (Kept NoB w w5) := Lib.hid ((((HK.out.trans HK4.out).mono (fun _ _ h => absurd h (fun h => h))).trans hk5).mono (fun q hq e => by have : q = r := e; omega))
          clear hk5 hb5
          obtain ⟨z2, hz2⟩ : ∃ z2, z2 = (if z < shr L p a m then shr L p a m else z) := ⟨_, rfl⟩
          obtain ⟨d2, hd2⟩ : ∃ d2, d2 = (if z < shr L p a m then k + 1 else d) := ⟨_, rfl⟩
          rw [← hz2, ← hd2] at HSt HB5
          clear hz2 hd2
          go_wp2
          go_roundw
          case rel => exact ⟨k + 1, z2, d2, by first | go_num | (have h := HPk.out; rw [show (a : Int) - 1 - ((k + 1 : Nat) : Int) = (p : Int) - 1 by omega]), by omega, HSt, HB5, HK5⟩
          case measure => simp [intOf] <;> omega
      · have hkD2 : k = D := by omega
        have HF : Hid (R = if d = 0 then (0, 0) else (z, d)) := Lib.hid (HLong.out z d (hkD2 ▸ HP.out))
        have hge : ¬ (lo : Int) ≤ f := by omega
        have hge2 : decide ((lo : Int) ≤ f) = false := decide_eq_false hge
        clear hkD2 hf
        go_wp2_with fail
        with_reducible refine (HAn.out _ (Kept.refl NoB wr)).mono ?_
        rintro e w5 ⟨rfl, hk5⟩
        have HK5 := Lib.hid (HK.out.trans hk5)
        clear hk5
        have HE : Hid ((if d = 0 then (0 : Int) else (z : Int)) = ((R.1 : Nat) : Int) ∧ (d : Int) = ((R.2 : Nat) : Int)) := Lib.hid (by
          rw [HF.out]
          split
          · rename_i h; rw [h]; exact ⟨rfl, rfl⟩
          · exact ⟨rfl, rfl⟩)
        rw [HE.out.1]
        go_wp2
        go_ret2
        exact ⟨by rw [← HE.out.2]; rfl, HK5.out⟩
end Go.Proofs.YtifoldonmmobpaaDoor
