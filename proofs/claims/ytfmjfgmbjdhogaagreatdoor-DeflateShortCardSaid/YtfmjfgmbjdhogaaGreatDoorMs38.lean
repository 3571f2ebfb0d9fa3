/-
  match: a chain's places are tried.
-/
import Derived.Test.YtfmjfgmbjdhogaaGreatDoorMs37
namespace Go.Proofs.YtfmjfgmbjdhogaaGreatDoor
open Go.RowKit
set_option linter.unusedVariables false
set_option linter.unusedSimpArgs false

/-- Where a place of a chain has no like, no row as long as a key is there. -/
theorem key_skip (L : List UInt8) (k W a p m : Nat) (ha : a + k ≤ L.length) (hp : p < a) (hm : m ≤ L.length - a) (hkm : k ≤ m) (hne : slotN W (keyN L k p) ≠ slotN W (keyN L k a)) : shr L p a m < k := by
  apply Nat.lt_of_not_le
  intro h
  have h2 := (shr_iff L m p a k hkm).1 h
  exact hne (by rw [(key_iff L k p a (by omega) ha).2 h2])
/-- All places between two of a chain are passed over. -/
theorem BestP.gap {L : List UInt8} {k W a m n0 z d i : Nat} {f : Int} (h : BestP (candN L a) (a - i) n0 z d) (hi : i ≤ a) (ha : a + k ≤ L.length) (hm : m = min 258 (L.length - a)) (hkm : k ≤ m) (hn0 : k ≤ n0 + 1) (hf : f = prevN (fun p => slotN W (keyN L k p)) (slotN W (keyN L k a)) i) :
    (f = -1 ∧ BestP (candN L a) a n0 z d) ∨ ∃ q : Nat, f = (q : Int) ∧ q < i ∧ slotN W (keyN L k q) = slotN W (keyN L k a) ∧ BestP (candN L a) (a - q - 1) n0 z d := by
  have hz := h.le
  have hc : ∀ e, a - i < e → e ≤ a → (∀ q, slotN W (keyN L k q) = slotN W (keyN L k a) → q ≠ a - e) → candN L a e ≤ z := by
    intro e h1 h2 h3
    have hk := key_skip L k W a (a - e) m ha (by omega) (by omega) hkm (fun he => h3 _ he rfl)
    have : candN L a e = shr L (a - e) a m := by rw [candN, mostN, hm]
    omega
  rcases prev_spec (fun p => slotN W (keyN L k p)) (slotN W (keyN L k a)) i with ⟨h1, h2⟩ | ⟨q, h1, h2, h3, h4⟩
  · refine .inl ⟨by rw [hf, h1], h.skip (by omega) (fun e e1 e2 => hc e e1 e2 (fun q hq hqe => h2 q (by omega) hq))⟩
  · refine .inr ⟨q, by rw [hf, h1], h2, h3, h.skip (by omega) (fun e e1 e2 => hc e e1 (by omega) (fun q2 hq hqe => h4 q2 (by omega) (by omega) hq))⟩
theorem BestAt.keptS {S : Nat → Prop} {w w' : World} {r g o N c a m n d : Nat} (h : BestAt w r g o N c a m n d) (hk : Kept S w w') (hs : ¬ S r) : BestAt w' r g o N c a m n d := hk.obj h hs
/-- What a chain's try gives back. -/
def ChTryP (w : World) (r g o N c a m : Nat) (L : List UInt8) (n0 : Nat) (e : Ending) (w' : World) : Prop :=
  e = .returned (.tuple #[]) ∧ Kept (OneB r) w w' ∧ ∃ z d, BestAt w' r g o N c a m z d ∧ BestP (candN L a) a n0 z d
set_option maxRecDepth 100000 in
set_option maxHeartbeats 4000000 in
theorem chtry_any (B f W gh gb K k r g o N c a m n0 : Nat) (hs bs : List Int) (L : List UInt8) (w : World) (hW : 4 ≤ W ∧ W ≤ 16) (hc : ChAt w B f W gh gb (2 ^ W) K) (hh : PlcAt w gh hs) (hb : PlcAt w gb bs) (hP : ChainP (fun p => slotN W (keyN L k p)) (2 ^ W) a hs bs)
    (hbl : bs.length = K) (hK : K ≤ 32768) (haK : a < K) (hBr : B ≠ r) (hhr : gh ≠ r) (hbr : gb ≠ r) (hgr : g ≠ r) (h0r : r ≠ 1) (hB : BestAt w r g o N c a m n0 0) (hr : RdB w g o L 0 N) (hN : N = L.length) (hcc : N ≤ c) (hcm : c ≤ 9223372036854775807) (hm : m = min 258 (N - a)) (hn0 : k = n0 + 1) (hkm : k ≤ m) (hk8 : k ≤ 8) (haN : a + k ≤ N) (hT : DeB w) :
    Calls Tryz.prog 117 #[.pointer (some ⟨B, f, none⟩), .pointer (some ⟨r, 0, none⟩), .int .u64 ((keyN L k a : Nat) : Int)] w (ChTryP w r g o N c a m L n0) := by
  have hkl : keyN L k a < 18446744073709551616 := Nat.lt_of_lt_of_le (key_lt L k a) (by
    have : 256 ^ k ≤ 256 ^ 8 := Nat.pow_le_pow_right (by omega) hk8
    omega)
  have HSl := Lib.hid (fun W2 (hk2 : Kept NoB w W2) => slot_any B f W (keyN L k a) W2 hW hkl (hk2.cell hc.c2))
  have hsl := slot_lt W (keyN L k a) (by omega)
  have HGap := Lib.hid (fun (z d i : Nat) (f : Int) (h : BestP (candN L a) (a - i) n0 z d) (hi : i ≤ a) (hf : f = prevN (fun p => slotN W (keyN L k p)) (slotN W (keyN L k a)) i) => BestP.gap h hi (by omega) (hN ▸ hm) hkm (by omega) hf)
  have HPb := Lib.hid (fun s i => prev_bd (fun p => slotN W (keyN L k p)) s i)
  have HPs := Lib.hid (fun i => prev_spec (fun p => slotN W (keyN L k p)) (slotN W (keyN L k a)) i)
  have hhead := hP.head (slotN W (keyN L k a)) hsl
  have HBk := Lib.hid hP.back
  obtain ⟨s, hse⟩ : ∃ s, s = slotN W (keyN L k a) := ⟨_, rfl⟩
  obtain ⟨H, hH⟩ : ∃ H, H = 2 ^ W := ⟨_, rfl⟩
  have hhl := hP.len
  rw [← hse] at HSl hsl hhead
  rw [← hH] at hsl hc hhl
  have hHb : H ≤ 65536 := by rw [hH]; exact (Nat.pow_le_pow_right (by omega) hW.2)
  have HC := Lib.hid hc; have HH := Lib.hid hh; have HB' := Lib.hid hb; have HBe := Lib.hid hB; have HR := Lib.hid hr; have HT := Lib.hid hT; have HN := Lib.hid hN; have HM := Lib.hid hm; have HBl := Lib.hid hbl; have HSe := Lib.hid hse
  have hz0 := hh.cell s (by omega)
  obtain ⟨f0, hf0⟩ : ∃ f0, f0 = hs.getD s 0 := ⟨_, rfl⟩
  rw [← hf0] at hz0 hhead
  have hfb := HPb.out s a
  rw [← hhead] at hfb
  have HHead : Hid (f0 = prevN (fun p => slotN W (keyN L k p)) (slotN W (keyN L k a)) a) := Lib.hid (by rw [← hse]; exact hhead)
  have g0 : ∀ W2, Kept NoB w W2 → W2.cell? ⟨B, f, none⟩ = some (.slice (some ⟨gh, 0, none⟩) H H) := fun W2 hk => hk.cell hc.c0
  have g2 : ∀ W2, Kept NoB w W2 → W2.cell? ⟨gh, s, none⟩ = some (.int .i32 f0) := fun W2 hk => hk.cell hz0
  have hsH : (s : Int) < (H : Int) := by omega
  have hfw : IntKind.i64.wrap f0 = f0 := IntWalk.i64_in _ (by omega)
  have hk0 := Kept.refl NoB w
  obtain ⟨key, hkey⟩ : ∃ key, key = keyN L k a := ⟨_, rfl⟩
  rw [← hkey] at HSl ⊢
  clear hc hh hb hB hr hT hN hm hbl hP hhl hH hse hf0 hz0 hhead hkl hkey
  go_enter Tryz.func117, Tryz.ntmps117
  go_wp2
  go_region_held3 (fun W2 => Kept NoB w W2) (first | assumption | exact Kept.drew (by assumption) | exact Kept.trans (by assumption) hkn)
    (first
      | (go_at_call 140; ((with_reducible refine (HSl.out _ (by assumption)).mono ?_); rintro e wn ⟨rfl, hkn0⟩; have hkn : Kept NoB w wn := by (rw [hkn0]; assumption))))
  have HK1 : Hid (Kept NoB w w.drew) := Lib.hid (Kept.drew (Kept.refl NoB w))
  obtain ⟨w1, hw1⟩ : ∃ w1, w1 = w.drew := ⟨_, rfl⟩
  have HSt := Lib.hid (HGap.out n0 0 a f0 (by rw [Nat.sub_self]; exact BestP.start _ _) (Nat.le_refl _) HHead.out)
  rw [← hw1] at HK1 ⊢
  have HB1 := Lib.hid (HBe.out.keptS HK1.out (fun h => h))
  clear hw1 g0 g2 hk0 HSl
  go_wp2
  go_loopw [6] (fun v6 wr => ∃ (fv : Int) (z d : Nat), v6 = .int .i64 fv ∧ -1 ≤ fv ∧ fv ≤ 32768 ∧ Hid ((fv = -1 ∧ BestP (candN L a) a n0 z d) ∨ ∃ q : Nat, fv = (q : Int) ∧ q < a ∧ slotN W (keyN L k q) = slotN W (keyN L k a) ∧ BestP (candN L a) (a - q - 1) n0 z d) ∧ Hid (BestAt wr r g o N c a m z d) ∧ Hid (Kept (OneB r) w wr)) (fun v6 _ => ((intOf v6) + 1).toNat)
  case atStart => exact ⟨f0, n0, 0, rfl, by omega, by omega, HSt, HB1, Lib.hid (HK1.out.mono (fun _ _ h => absurd h (fun h => h)))⟩
  case round =>
    obtain ⟨fv, z, d, rfl, hf1, hf2, HSt, HB, HK⟩ := hrel
    rcases HSt.out with ⟨hm1, hbp⟩ | ⟨q, rfl, hqa, hsq, hbp⟩
    · have HBp := Lib.hid hbp
      have hd : decide (fv = -1) = true := decide_eq_true hm1
      have y1 : (fv == -1) = true := by simp [hm1]
      have y2 : (fv != -1) = false := by simp [hm1]
      clear hm1 hbp hd
      go_wp2
      refine bodyPost_end (results_none rfl _ _ _) rfl ?_
      exact ⟨rfl, HK.out, z, d, HB.out, HBp.out⟩
    · have HBp := Lib.hid hbp; have HSq := Lib.hid hsq
      have y1 : ((q : Int) == -1) = false := by simp
      have y2 : ((q : Int) != -1) = true := by simp
      obtain ⟨c0, c1, c2, c3, c4⟩ := HB.out.cells
      have hdist : (a : Int) - (q : Int) ≤ 32768 := by omega
      have HFu := Lib.hid (bfull_any r g o N c a m z d wr HB.out)
      have hcl : ∀ e, candN L a e ≤ m := fun e => by have := cand_le L a e; rw [mostN, ← HN.out, ← HM.out] at this; exact this
      by_cases hfull : m ≤ z
      · rw [decide_eq_true hfull] at HFu
        have HE := Lib.hid (hbp.all (D2 := a) (by omega) hfull hcl)
        clear hfull hbp hsq hcl
        go_wp2_with fail
        with_reducible refine HFu.out.mono ?_
        rintro e w4 ⟨rfl, hk4⟩
        have HK4 := Lib.hid (HK.out.trans (hk4.mono (fun _ _ h => absurd h (fun h => h)) : Kept (OneB r) wr w4))
        have HB4 := Lib.hid (HB.out.kept hk4)
        clear hk4
        go_wp2
        refine bodyPost_end (results_none rfl _ _ _) rfl ?_
        exact ⟨rfl, HK4.out, z, d, HB4.out, HE.out⟩
      · rw [decide_eq_false hfull] at HFu
        have hst := hbp.step
        have hcd : candN L a (a - q - 1 + 1) = shr L q a m := by
          rw [candN, mostN, ← HN.out, ← HM.out]
          congr 1; omega
        rw [hcd, show a - q - 1 + 1 = a - q by omega] at hst
        have HStp := Lib.hid hst
        have HTry := Lib.hid (fun W2 (h : Kept NoB wr W2) => (have hk9 : Kept (OneB r) w W2 := HK.out.trans (h.mono (fun _ _ h => absurd h (fun h => h))); try_any r g o N c a m z d q L W2 (HB.out.kept h) (HR.out.keptS hk9 hgr) HN.out hcc hcm HM.out (by omega) hqa (by omega) (HT.out.keptS hk9 (fun e => h0r e.symm))))
        have HPq := Lib.hid (HPb.out (slotN W (keyN L k q)) q)
        have hbk := HBk.out q hqa
        clear hfull hbp hsq hcl hst hcd
        go_wp2_with fail
        with_reducible refine HFu.out.mono ?_
        rintro e w4 ⟨rfl, hk4⟩
        have HK4 := Lib.hid hk4
        clear hk4 c0 c1 c2 c3 c4
        go_wp2_with fail
        with_reducible refine (HTry.out _ HK4.out).mono ?_
        rintro e w5 ⟨rfl, hk5, hb5⟩
        have HB5 := Lib.hid hb5
        have HK5 : Hid (Kept (OneB r) w w5) := Lib.hid ((HK.out.trans (HK4.out.mono (fun _ _ h => absurd h (fun h => h)))).trans hk5)
        have hc1 := (HC.out.keptS HK5.out hBr).c1
        have hqb := (HB'.out.keptS HK5.out hbr).cell q (by have := HBl.out; omega)
        rw [hbk] at hqb
        have hpb := HPq.out
        obtain ⟨f2, hf2e⟩ : ∃ f2, f2 = prevN (fun p => slotN W (keyN L k p)) (slotN W (keyN L k q)) q := ⟨_, rfl⟩
        rw [← hf2e] at hqb hpb
        have HF2 := Lib.hid hf2e
        obtain ⟨z2, hz2⟩ : ∃ z2, z2 = (if z < shr L q a m then shr L q a m else z) := ⟨_, rfl⟩
        obtain ⟨d2, hd2⟩ : ∃ d2, d2 = (if z < shr L q a m then a - q else d) := ⟨_, rfl⟩
        rw [← hz2, ← hd2] at HStp HB5
        have HNx := Lib.hid (HGap.out z2 d2 q f2 HStp.out (by omega) (by rw [HF2.out, HSq.out]))
        have HNx2 : Hid ((f2 = -1 ∧ BestP (candN L a) a n0 z2 d2) ∨ ∃ q : Nat, f2 = (q : Int) ∧ q < a ∧ slotN W (keyN L k q) = slotN W (keyN L k a) ∧ BestP (candN L a) (a - q - 1) n0 z2 d2) := Lib.hid (by
          rcases HNx.out with h | ⟨q2, e1, e2, e3, e4⟩
          · exact .inl h
          · exact .inr ⟨q2, e1, by omega, e3, e4⟩)
        have hqK : (q : Int) < (K : Int) := by omega
        have hmod : (q : Int) % (K : Int) = (q : Int) := Int.emod_eq_of_lt (by omega) hqK
        have hmod2 : (q : Int).tmod (K : Int) = (q : Int) := by rw [Int.tmod_eq_emod_of_nonneg (by omega)]; exact hmod
        have hK0 : ¬ K = 0 := by omega
        have hf2w : IntKind.i64.wrap f2 = f2 := IntWalk.i64_in _ (by omega)
        have c0b := (HC.out.keptS HK5.out hBr).c0
        clear hk5 hb5 hbk hf2e hz2 hd2
        go_wp2_with fail
        go_quiet (fail)
        have HK6 := Lib.hid (HK5.out.drewN nq)
        have HB6 := Lib.hid (HB5.out.kept ((Kept.refl NoB w5).drewN nq))
        go_wp2
        go_roundw
        case rel => exact ⟨f2, z2, d2, rfl, by omega, by omega, HNx2, HB6, HK6⟩
        case measure => simp [intOf] <;> omega
end Go.Proofs.YtfmjfgmbjdhogaaGreatDoor
