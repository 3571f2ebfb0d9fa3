/-
  MatchTells: the longest row that was there before, the nearest of them, and how bytes are told by such, is as the document says, at each level.
-/
import Derived.Test.YtifoldonmmobpaaDoorMatU
import Derived.Test.YtifoldonmmobpaaDoorMatR
namespace Go.Proofs.YtifoldonmmobpaaDoor
open Go.RowKit
set_option linter.unusedVariables false
set_option linter.unusedSimpArgs false

theorem strOf_bytesM (l : List UInt8) : strOfNums (l.map fun b => (b.toNat : Int)) = ⟨l.toArray⟩ := by
  apply ByteArray.ext
  apply Array.ext'
  rw [strOfNums_data, List.map_map]
  have : (fun n : Int => UInt8.ofNat n.toNat) ∘ (fun b : UInt8 => (b.toNat : Int)) = id := by
    funext b
    simp
  rw [this, List.map_id]
/-- A row of bytes that a call may be given. -/
structure RowA (w : World) (a : Option Addr) (m c : Nat) (L : List UInt8) : Prop where
  len : m = L.length
  rd : Reads w a (nb L)
  cap : m ≤ c
  max : c ≤ maxLen
  nil : a = none → c = 0
theorem RowA.on {w w' : World} {a : Option Addr} {m c : Nat} {L : List UInt8} (h : RowA w a m c L) (hk : Kept NoB w w') : RowA w' a m c L := ⟨h.len, h.rd.keptNo hk, h.cap, h.max, h.nil⟩
theorem RowA.row {w : World} {a : Option Addr} {m c : Nat} {L : List UInt8} (h : RowA w a m c L) : RowB w w.heap.size a L := fun hl => by
  obtain ⟨b, off, h1, h2, h3⟩ := h.rd.at (by rw [nb_len]; exact hl)
  refine ⟨b, off, h1, h2, fun i hi => ?_⟩
  rw [h3 i (by rw [nb_len]; exact hi), Nat.zero_add]
  simp [nb, List.getD, hi]
theorem RowA.conv {w : World} {a : Option Addr} {m c : Nat} {L : List UInt8} (h : RowA w a m c L) : (convert 22 9 (.slice a m c)).run Tryd.prog w = .ok (.string ⟨L.toArray⟩) w := by
  rw [conv_reads h.rd (by rw [nb_len]; exact h.len) h.nil, nb, strOf_bytesM]
theorem BySt.rowA {w0 w : World} {a : Option Addr} {m c : Nat} {L : List UInt8} (h : BySt w0 w a m c L) : RowA w a m c L := ⟨h.len, h.reads, h.cap.1, h.cap.2.1, h.cap.2.2⟩
theorem tk_neq_same2 (W : World) (x y z : Int) : (binOp .neq 26 (.agg #[.int .i64 x, .int .i64 y, .int .u8 z]) (.agg #[.int .i64 x, .int .i64 y, .int .u8 z])).run Tryd.prog W = .ok (.bool false) W := by
  have := tk_neq W ⟨x, y, z⟩ ⟨x, y, z⟩
  simpa using this
set_option maxRecDepth 20000 in
set_option maxHeartbeats 8000000 in
theorem matchTells_walk (bo : Option Addr) (bl cb : Nat) (B : List UInt8) (lo : Option Addr) (nl cl : Nat) (zs : List Int) (at0 l0 : Int) (w : World) (hB : RowA w bo bl cb B) (hl : RdI w w.heap.size lo zs) (hnl : nl = zs.length) (hlc : nl ≤ cl) (hcm : cl ≤ maxLen) (ha0 : -9223372036854775808 ≤ at0 ∧ at0 ≤ 9223372036854775807) (hl0 : -9223372036854775808 ≤ l0 ∧ l0 ≤ 9223372036854775807) (hT : DeB w) :
    Calls Tryd.prog 5 #[.slice bo bl cb, .slice lo nl cl, .int .i64 at0, .int .i64 l0] w fun e w' => e = .returned (.bool true) ∧ Below w.heap.size w w' := by
  have HB := Lib.hid hB
  have HRw : Hid (∀ W, Kept NoB w W → Calls Tryd.prog 9 #[.slice bo bl cb, .slice lo nl cl] W fun e w' => ∃ (x : List UInt8) (a : Option Addr) (m c : Nat), e = .returned (.slice a m c) ∧ m ≤ 200 ∧ BySt W w' a m c x) := Lib.hid (fun W hk => rows7_any bo bl cb B lo nl cl zs W hB.len (hB.rd.keptNo hk) hB.nil hB.cap hB.max (fun i hi => by
    obtain ⟨g, off, h1, h2, h3⟩ := hl i hi
    exact ⟨g, off, h1, by have := hk.size; omega, hk.cell h3⟩) hnl hlc hcm)
  have HAw : Hid (∀ W, Kept NoB w W → Calls Tryd.prog 8 #[] W fun e w' => e = .returned (.bool true) ∧ Kept NoB W w') := Lib.hid (fun W hk => awake7 W (hT.kept hk))
  have HT := Lib.hid hT
  clear hB hl hnl hlc hcm hT
  go_enter Tryd.func5, Tryd.ntmps5
  by_cases h120 : (120 : Int) < (bl : Int)
  · have HA := Lib.hid (HAw.out w (Kept.refl _ _))
    go_wp2_with fail
    with_reducible refine HA.out.mono ?_
    rintro e w1 ⟨rfl, hk1⟩
    have hb1 : Below w.heap.size w w1 := hk1.belowNo (Below.refl _ _)
    clear hk1
    go_wp2
    go_ret
    exact ⟨rfl, hb1⟩
  · go_wp2_with fail
    go_loopw [9, 2] (fun v9 v2 wr => ∃ (q : Nat) (at_ : Int), v9 = .int .i64 (q : Int) ∧ v2 = .int .i64 at_ ∧ q ≤ 2 ∧ -9223372036854775808 ≤ at_ ∧ at_ ≤ 9223372036854775807 ∧ Hid (Kept NoB w wr)) (fun v9 _ _ => 2 - (intOf v9).toNat)
    case atStart => exact ⟨0, at0, rfl, rfl, by omega, ha0.1, ha0.2, Lib.hid (Kept.refl _ _)⟩
    case round =>
      obtain ⟨q, at_, rfl, rfl, hq, hat0, hat1, HK⟩ := hrel
      by_cases hq2 : q < 2
      · have hq2' : (q : Int) < 2 := by omega
        go_upto_if 30 with fail
        go_cut [10] from 30 to 34 (fun v10 wx => ∃ (a : Option Addr) (m c : Nat) (L : List UInt8), v10 = .slice a m c ∧ m ≤ 200 ∧ Hid (RowA wx a m c L) ∧ Hid (Kept NoB w wx))
        case first =>
          by_cases hq1 : q = 1
          · have g1 : ((q : Int) == 1) = true := by rw [hq1]; rfl
            have HC := Lib.hid (HRw.out wr HK.out)
            clear hq1
            go_wp2_with fail
            with_reducible refine HC.out.mono ?_
            rintro e w2 ⟨x, a, m, c, rfl, hm, hS⟩
            have HA := Lib.hid hS.rowA
            have HK2 := Lib.hid (HK.out.trans hS.kept)
            clear hS
            go_wp2
            go_meet
            exact ⟨a, m, c, x, rfl, hm, HA, HK2⟩
          · have g1 : ((q : Int) == 1) = false := by simp; omega
            clear hq1
            go_wp2
            go_meet
            exact ⟨bo, bl, cb, B, rfl, by omega, Lib.hid (HB.out.on HK.out), HK⟩
        case rest =>
        obtain ⟨a, m, c, L, rfl, hm, HA, HK1⟩ := hcut
        obtain ⟨w1, hw1⟩ : ∃ w1, w1 = wc := ⟨_, rfl⟩
        rw [← hw1] at HA HK1 ⊢
        clear hw1 HK
        have hcm : c ≤ 9223372036854775807 := by have := HA.out.max; unfold maxLen at this; omega
        obtain ⟨n, hn⟩ : ∃ n, n = (longV L at_).1 := ⟨_, rfl⟩
        obtain ⟨d, hd⟩ : ∃ d, d = (longV L at_).2 := ⟨_, rfl⟩
        have HLo := Lib.hid (longest_any a m c at_ L w1 HA.out.row HA.out.len HA.out.cap hcm (HT.out.kept HK1.out) hat0 hat1)
        rw [← hn, ← hd] at HLo
        go_wp2_with fail
        with_reducible refine HLo.out.mono ?_
        rintro e w2 ⟨rfl, hk2⟩
        have HA2 := Lib.hid (HA.out.on hk2)
        have HK2 := Lib.hid (HK1.out.trans hk2)
        have hcv := HA2.out.conv
        have HRl := Lib.hid (rlong_any ⟨L.toArray⟩ L m at_ w2 rfl HA2.out.len (by omega) hat0 hat1)
        rw [← hn, ← hd] at HRl
        obtain ⟨S, hS⟩ : ∃ S : ByteArray, S = ⟨L.toArray⟩ := ⟨_, rfl⟩
        rw [← hS] at HRl hcv
        have HS := Lib.hid hS
        clear hk2 HLo hn hd hS HA
        go_wp2_with fail
        with_reducible refine HRl.out.mono ?_
        rintro e w3 ⟨rfl, hk3⟩
        have HA3 := Lib.hid (HA2.out.on hk3)
        have HK3 := Lib.hid (HK2.out.trans hk3)
        have hnn : ((n : Int) != (n : Int)) = false := by simp
        have hdd : ((d : Int) != (d : Int)) = false := by simp
        clear hk3 HRl hcv HA2
        go_wp2_with fail
        go_loopw [15] (fun v15 wq => ∃ (k : Nat), v15 = .int .i64 (k : Int) ∧ k ≤ 2 ∧ Hid (RowA wq a m c L) ∧ Hid (Kept NoB w wq)) (fun v15 _ => 2 - (intOf v15).toNat)
        case atStart => exact ⟨0, rfl, by omega, HA3, HK3⟩
        case round =>
          clear HA3 HK3
          obtain ⟨k, rfl, hk, HA, HK⟩ := hrel
          by_cases hk2 : k < 2
          · have hk2' : (k : Int) < 2 := by omega
            go_upto_region 16 with fail
            go_cut [16] from 59 to 66 (fun v16 wx => ∃ X : Int, v16 = .int .i64 X ∧ -9223372036854775808 ≤ X ∧ X ≤ 9223372036854775807 ∧ Hid (Kept NoB wr wx))
            case first =>
              have hmF := maskF l0
              rcases (show k = 0 ∨ k = 1 by omega) with rfl | rfl
              · go_wp2
                go_meet
                exact ⟨l0, rfl, hl0.1, hl0.2, Lib.hid ((Kept.refl NoB wr).alloc _)⟩
              · go_wp2
                go_meet
                exact ⟨l0 % 16, rfl, by omega, by omega, Lib.hid ((Kept.refl NoB wr).alloc _)⟩
            case rest =>
            obtain ⟨X, rfl, hX0, hX1, HKc⟩ := hcut
            obtain ⟨w4, hw4⟩ : ∃ w4, w4 = wc := ⟨_, rfl⟩
            rw [← hw4] at HKc ⊢
            have HA4 := Lib.hid (HA.out.on HKc.out)
            have HK4 := Lib.hid (HK.out.trans HKc.out)
            obtain ⟨TS, hTS⟩ : ∃ TS, TS = restT X L 0 := ⟨_, rfl⟩
            obtain ⟨t, ht⟩ : ∃ t, t = TS.length := ⟨_, rfl⟩
            have htl := rest_len X L L.length 0 (by omega) (by omega)
            rw [← hTS, ← ht, ← HA4.out.len] at htl
            have HGo : Hid (∀ W, Kept NoB w4 W → Calls Tryd.prog 7 #[.slice a m c, .int .i64 X] W fun e w' => ∃ a2 c2, e = .returned (.slice a2 t c2) ∧ Toks w' a2 TS ∧ Kept NoB W w') := Lib.hid (fun W hkW => by
              have hA := HA4.out.on hkW
              have := tokens_all a m c X L W hA.row hA.len (by omega) hA.cap hcm (HT.out.kept (HK4.out.trans hkW)) ⟨hX0, hX1⟩
              rw [← hTS, ← ht] at this
              exact this.mono (fun e w' ⟨a2, c2, h1, h2, h3⟩ => ⟨a2, c2, h1, h2.reads, h3⟩))
            have HRf : Hid (∀ W, Kept NoB w4 W → Calls Tryd.prog 14 #[.string S, .int .i64 X] W fun e w' => ∃ a2 c2, e = .returned (.slice a2 t c2) ∧ Toks w' a2 TS ∧ Kept NoB W w') := Lib.hid (fun W hkW => by
              have := rtok_any S L m X W HS.out HA4.out.len (by omega) ⟨hX0, hX1⟩
              rw [← hTS, ← ht] at this
              exact this.mono (fun e w' ⟨a2, c2, h1, h2, h3⟩ => ⟨a2, c2, h1, h2.reads, h3⟩))
            have hcv : ∀ W, Kept NoB w4 W → (convert 22 9 (.slice a m c)).run Tryd.prog W = .ok (.string S) W := fun W hkW => by rw [(HA4.out.on hkW).conv, HS.out]
            have hkr := Kept.refl NoB w4
            have ht200 : t ≤ 200 := by omega
            have HTl := Lib.hid ht
            clear hw4 HA HK HKc hTS ht htl hX0 hX1
            go_upto_region 17 with fail
            go_region_held3 (fun W => Kept NoB w4 W) (first | assumption | exact Kept.drew (by assumption) | exact Kept.trans (by assumption) hkn | exact Kept.trans (by assumption) hkm)
              (first
                | (go_at_call 7; ((with_reducible refine (HGo.out _ (by assumption)).mono ?_); rintro e wm ⟨ga, gc, rfl, hgT, hkm⟩))
                | (go_at_call 14; ((with_reducible refine (HRf.out _ (by assumption)).mono ?_); rintro e wn ⟨ra, rc, rfl, hrT, hkn⟩)))
            have HKn := Lib.hid (HK4.out.trans (show Kept NoB w4 wn by assumption))
            have HAn := Lib.hid (HA4.out.on (show Kept NoB w4 wn by assumption))
            have HG := Lib.hid (hgT.keptNo hkn)
            have HR := Lib.hid hrT
            have htt : ((t : Int) != (t : Int)) = false := by simp
            have kq := fun (W : World) (x y z : Int) => tk_neq_same2 W x y z
            clear hgT hrT hkn hkm hcv hkr HA4 HK4 HGo HRf
            go_wp2_with fail
            go_loopw [19] (fun v19 wq => ∃ i : Nat, v19 = .int .i64 (i : Int) ∧ i ≤ t ∧ Hid (Kept NoB wn wq)) (fun v19 _ => t - (intOf v19).toNat)
            case atStart => exact ⟨0, rfl, by omega, Lib.hid (Kept.refl _ _)⟩
            case round =>
              obtain ⟨i, rfl, hi, HKi⟩ := hrel
              by_cases hit : i < t
              · have hit' : (i : Int) < (t : Int) := by omega
                have hiT : i < TS.length := by have h := HTl.out; omega
                obtain ⟨b, off, rfl, e0, e1, e2⟩ := (HG.out.keptNo HKi.out) i hiT
                obtain ⟨b', off', rfl, f0, f1, f2⟩ := (HR.out.keptNo HKi.out) i hiT
                generalize (TS.getD i ⟨0, 0, 0⟩).l = x at e0 f0
                generalize (TS.getD i ⟨0, 0, 0⟩).d = y at e1 f1
                generalize (TS.getD i ⟨0, 0, 0⟩).c = z at e2 f2
                have HKw := HKi
                clear HKi
                go_upto_region 23 with fail
                go_region
                go_wp2
                go_roundw
                case rel => exact ⟨i + 1, by go_num, by omega, Lib.hid HKw.out.drew⟩
                case measure => simp [intOf]; omega
              · have hit' : ¬ (i : Int) < (t : Int) := by omega
                have HKe := Lib.hid (HKn.out.trans HKi.out)
                have HAe := Lib.hid (HAn.out.on HKi.out)
                go_wp2
                go_roundw
                case rel => exact ⟨k + 1, by go_num, by omega, HAe, HKe⟩
                case measure => simp [intOf]; omega
          · have hk2' : ¬ (k : Int) < 2 := by omega
            have hm255 := mask255 at_
            go_wp2
            go_roundw
            case rel => exact ⟨q + 1, at_ % 256, by go_num, rfl, by omega, by omega, by omega, HK⟩
            case measure => simp [intOf]; omega
      · have hq2' : ¬ (q : Int) < 2 := by omega
        have HA := Lib.hid (HAw.out wr HK.out)
        go_wp2_with fail
        with_reducible refine HA.out.mono ?_
        rintro e w4 ⟨rfl, hk4⟩
        have hb4 : Below w.heap.size w w4 := (HK.out.trans hk4).belowNo (Below.refl _ _)
        clear hk4
        go_wp2
        go_ret
        exact ⟨rfl, hb4⟩
theorem matchTells_law (v0 v1 v2 v3 : Value) (w : World) (r0 : Arg w 22 v0) (r1 : Arg w 29 v1) (r2 : Arg w 3 v2) (r3 : Arg w 3 v3) (hT : DeB w) :
    Calls Tryd.prog 5 #[v0, v1, v2, v3] w fun e w' => e = .returned (.bool true) ∧ Below w.heap.size w w' := by
  obtain ⟨bo, cb, bs, rfl, hc, hm, hr, hb, h0⟩ := r0.bytes Tryd.underlying22
  obtain ⟨lo, cl, zs, rfl, hlc, hlm, hrl, _, _⟩ := r1.ints
  obtain ⟨x, rfl, hx⟩ := r2.int Tryd.underlying3
  obtain ⟨y, rfl, hy⟩ := r3.int Tryd.underlying3
  exact matchTells_walk bo bs.length cb (un bs) lo zs.length cl zs x y w ⟨by simp [un], by rw [nb_un hb]; exact hr, hc, hm, h0⟩ hrl rfl hlc hlm (i64_bd hx) (i64_bd hy) hT
end Go.Proofs.YtifoldonmmobpaaDoor
