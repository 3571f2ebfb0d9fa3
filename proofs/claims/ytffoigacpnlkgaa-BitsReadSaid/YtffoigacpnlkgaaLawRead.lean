/-
  BitsRead: bits are taken, looked at and passed over as the document says.
-/
import Derived.Test.YtffoigacpnlkgaaBytesB
import Derived.Test.YtffoigacpnlkgaaBoth
import Derived.Test.YtffoigacpnlkgaaLawBParts
namespace Go.Proofs.Ytffoigacpnlkgaa
open Go.RowKit
set_option linter.unusedVariables false
set_option linter.unusedSimpArgs false

/-- The reader and the document's own, each at its place. -/
structure Rds (w wr : World) (R : Nat) (ao : Option Addr) (cap : Nat) (bs : List Int) (B p q : Nat) : Prop where
  a : Rdr wr R ao cap bs p
  b : Rfb wr B bs q
  fa : w.heap.size ≤ R
  fb : w.heap.size ≤ B
  oa : ∀ k, (Value.slice ao bs.length cap).ownBlock = some k → w.heap.size ≤ k
  bel : Below w.heap.size w wr
section
variable {w wr w' : World} {R : Nat} {ao : Option Addr} {cap : Nat} {bs : List Int} {B p q p' q' : Nat}
theorem Rds.keptNo (h : Rds w wr R ao cap bs B p q) (hk : Kept NoB wr w') : Rds w w' R ao cap bs B p q :=
  ⟨h.a.keptNo hk, h.b.kept hk (fun h => h), h.fa, h.fb, h.oa, hk.belowNo h.bel⟩
theorem Rds.ne (h : Rds w wr R ao cap bs B p q) : B ≠ R := by
  rintro rfl
  have h1 := h.a.1
  rw [h.b.1] at h1
  simp at h1
theorem Rds.stepA (h : Rds w wr R ao cap bs B p q) (hR : Rdr w' R ao cap bs p') (hk : Kept (OneB R) wr w') : Rds w w' R ao cap bs B p' q :=
  ⟨hR, h.b.kept hk h.ne, h.fa, h.fb, h.oa, hk.below h.bel (by intro k e; have := h.fa; simp [OneB] at e; omega)⟩
theorem Rds.stepB (h : Rds w wr R ao cap bs B p q) (hB : Rfb w' B bs q') (hk : Kept (OneB B) wr w') : Rds w w' R ao cap bs B p q' :=
  ⟨h.a.kept hk (fun e => h.ne e.symm) (fun k hk' e => row_ne h.a.2.1 h.b.1 (by decide) k hk' e), hB, h.fa, h.fb, h.oa, hk.below h.bel (by intro k e; have := h.fb; simp [OneB] at e; omega)⟩
theorem Rds.opA (h : Rds w wr R ao cap bs B p q) (hk : Kept (OneB R) wr w') {O : Nat} {D N : Int} {v : Nat} (hO : OpIn wr O D N v) : OpIn w' O D N v := by
  refine hk.obj hO ?_
  intro e
  have h1 := h.a.1
  rw [← show O = R from e, show wr.heap[O]? = _ from hO] at h1
  simp at h1
end
/-- What Take tells, and where it stands then. -/
def tkY (bs : List Int) (p : Nat) (n : Int) : Bool := decide (0 ≤ n ∧ n ≤ 32 ∧ p + n ≤ 8 * bs.length)
def tkX (bs : List Int) (p : Nat) (n : Int) : Nat := if 0 ≤ n ∧ n ≤ 32 ∧ p + n ≤ 8 * bs.length then bitsAt bs p n.toNat else 0
def tkQ (bs : List Int) (p : Nat) (n : Int) : Nat := if 0 ≤ n ∧ n ≤ 32 ∧ p + n ≤ 8 * bs.length then p + n.toNat else p
theorem takeA_all (w : World) (R : Nat) (ao : Option Addr) (cap : Nat) (bs : List Int) (p : Nat) (n : Int) (h : Rdr w R ao cap bs p) :
    Calls Try.prog 17 #[.pointer (some ⟨R, 0, none⟩), .int .i64 n] w fun e w' => e = .returned (.tuple #[.int .u32 (tkX bs p n : Nat), .bool (tkY bs p n)]) ∧ Rdr w' R ao cap bs (tkQ bs p n) ∧ Kept (OneB R) w w' := by
  unfold tkX tkY tkQ
  by_cases hn : 0 ≤ n ∧ n ≤ 32 ∧ p + n ≤ 8 * bs.length
  · rw [if_pos hn, if_pos hn, decide_eq_true hn]
    obtain ⟨m, rfl⟩ := Int.eq_ofNat_of_zero_le hn.1
    exact take_yes w R ao cap bs p m h (by omega) (by omega)
  · rw [if_neg hn, if_neg hn, decide_eq_false hn]
    refine (take_no w R ao cap bs p n h (by omega)).mono ?_
    rintro e w' ⟨rfl, hk⟩
    exact ⟨rfl, h.keptNo hk, hk.mono (fun _ _ h => h.elim)⟩
theorem takeB_all (w : World) (R : Nat) (bs : List Int) (p : Nat) (n : Int) (h : Rfb w R bs p) :
    Calls Try.prog 24 #[.pointer (some ⟨R, 0, none⟩), .int .i64 n] w fun e w' => e = .returned (.tuple #[.int .u32 (tkX bs p n : Nat), .bool (tkY bs p n)]) ∧ Rfb w' R bs (tkQ bs p n) ∧ Kept (OneB R) w w' := by
  unfold tkX tkY tkQ
  by_cases hn : 0 ≤ n ∧ n ≤ 32 ∧ p + n ≤ 8 * bs.length
  · rw [if_pos hn, if_pos hn, decide_eq_true hn]
    obtain ⟨m, rfl⟩ := Int.eq_ofNat_of_zero_le hn.1
    exact refTake_yes w R bs p m h (by omega) (by omega)
  · rw [if_neg hn, if_neg hn, decide_eq_false hn]
    refine (refTake_no w R bs p n h (by omega)).mono ?_
    rintro e w' ⟨rfl, hk⟩
    exact ⟨rfl, h.kept hk (fun h => h), hk.mono (fun _ _ h => h.elim)⟩

set_option maxRecDepth 100000 in
set_option maxHeartbeats 4000000 in
theorem bitsRead_walk (aob : Option Addr) (capb lenb : Nat) (bs : List Int) (ao : Option Addr) (cap len : Nat) (kd nn vv : Nat → Int) (w : World)
    (hlb : lenb = bs.length) (hr : Reads w aob bs) (hb : AllB bs) (h0 : aob = none → capb = 0) (hcb : lenb ≤ capb) (hmb : capb ≤ maxLen)
    (hm : len ≤ maxLen) (hops : OpsAt w ao len kd nn vv) (hao : 0 < len → ∃ b off, ao = some ⟨b, off, none⟩ ∧ b < w.heap.size)
    (hbd : ∀ i, (-9223372036854775808 ≤ kd i ∧ kd i ≤ 9223372036854775807) ∧ (-9223372036854775808 ≤ nn i ∧ nn i ≤ 9223372036854775807) ∧ 0 ≤ vv i ∧ vv i < 4294967296) :
    Calls Try.prog 5 #[.slice aob lenb capb, .slice ao len cap] w fun e w' => e = .returned (.bool true) ∧ Below w.heap.size w w' := by
  unfold maxLen at hm hmb
  obtain ⟨K, hK⟩ : ∃ K, K = min len 60 := ⟨_, rfl⟩
  have hK60 : K ≤ 60 := by omega
  have hlm : lenb ≤ 9223372036854775807 := by omega
  have HR := Lib.hid hr; have HB := Lib.hid hb; have H0 := Lib.hid h0; have HLen := Lib.hid hlb
  have HK := Lib.hid hK; have HOps := Lib.hid hops; have HAo := Lib.hid hao; have HBd := Lib.hid hbd
  clear hr hb h0 hlb hK hops hao hbd
  by_cases hl : 200 < lenb
  · have hl2 : (200 : Int) < lenb := by omega
    go_enter Try.func5, Try.ntmps5
    go_wp2_with fail
    refine (awake1 _).mono ?_
    rintro e w2 ⟨rfl, hb2⟩
    go_wp2
    go_ret
    exact ⟨rfl, hb2⟩
  · have hl2 : ¬ (200 : Int) < lenb := by omega
    have hb200 : bs.length ≤ 200 := by have := HLen.out; omega
    go_enter Try.func5, Try.ntmps5
    go_upto_region 3 with fail
    go_cut [5, 6] from 25 to 30 (fun s t wx => ∃ R B aoR capR, s = .pointer (some ⟨R, 0, none⟩) ∧ t = .pointer (some ⟨B, 0, none⟩) ∧ Rds w wx R aoR capR bs B 0 0)
    case first =>
      have hcv : ∀ W, Kept NoB w W → (convert 22 9 (.slice aob lenb capb)).run Try.prog W = .ok (.string (strOfNums bs)) W := fun W hk => conv_reads (HR.out.kept hk (fun _ _ h => h)) HLen.out H0.out
      have HN : Hid (∀ W, Kept NoB w W → Calls Try.prog 16 #[.slice aob lenb capb] W (NewR W bs)) := fun W hk => by
        have h := newr_any aob capb bs W (HR.out.kept hk (fun _ _ h => h)) (by omega) HB.out
        rwa [← HLen.out] at h
      have hk0 := Kept.refl NoB w
      go_wp2_with fail
      go_region_held3 (fun W => Kept NoB w W) (first | assumption | exact Kept.drew (by assumption) | exact Kept.alloc (by assumption) _ | exact Kept.trans (by assumption) hkn)
        (first
          | (go_at_call 16; ((with_reducible refine (HN.out _ (by assumption)).mono ?_); rintro e wn ⟨R, aoR, capR, rfl, hR, hRf, hRo, hkn⟩; have HRn := Lib.hid hR; have HRf := Lib.hid hRf; have HRo := Lib.hid hRo; clear hR hRf hRo)))
      · go_wp2
        go_meet
        have hk1 : Kept NoB w wn := ((Kept.refl NoB w).drew).trans hkn
        exact ⟨R, wn.heap.size, aoR, capR, rfl, rfl, HRn.out.keptNo ((Kept.refl NoB wn).alloc _), ⟨heap_alloc_new _ _, HB.out, by omega, by omega⟩, HRf.out, hk1.size, HRo.out, (hk1.alloc _).belowNo (Below.refl _ _)⟩
      · go_wp2
        go_meet
        have hk1 : Kept NoB w wn := by assumption
        exact ⟨R, w.heap.size, aoR, capR, rfl, rfl, HRn.out, ⟨hkn.obj (heap_alloc_new _ _) (fun h => h), HB.out, by omega, by omega⟩, Nat.le_trans (Kept.alloc (Kept.refl NoB w) _).size HRf.out, Nat.le_refl _, (fun k hk => Nat.le_trans (Kept.alloc (Kept.refl NoB w) _).size (HRo.out k hk)), hk1.belowNo (Below.refl _ _)⟩
    case rest =>
    obtain ⟨R, B, aoR, capR, rfl, rfl, hS⟩ := hcut
    have HS := Lib.hid hS; clear hS
    go_wp2_with fail
    refine (awake1 _).mono ?_
    rintro e w2 ⟨rfl, hb2⟩
    have HS2 := Lib.hid (HS.out.keptNo (Kept.ofBelow (Kept.refl NoB _) hb2))
    clear hb2 HS
    go_wp2
    go_loopw [7] (fun i wr => ∃ k p : Nat, k ≤ K ∧ i = .int .i64 k ∧ Rds w wr R aoR capR bs B p p) (fun i _ => K - (intOf i).toNat)
    case atStart => exact ⟨0, 0, by omega, rfl, HS2.out⟩
    case round =>
      obtain ⟨k, p, hk, rfl, hT⟩ := hrel
      have HT := Lib.hid hT
      have HBel := Lib.hid hT.bel
      have hp : p ≤ 8 * bs.length := hT.a.2.2.2.1
      clear hT HS2
      by_cases hlt : k < K
      · have h1 : (k : Int) < len := by have := HK.out; omega
        have h2 : (k : Int) < 60 := by omega
        obtain ⟨b, off, hao, hbl⟩ := HAo.out (by omega)
        obtain ⟨c0, c1, c2⟩ := (HOps.out.below HBel.out).2 b off hao k (by omega)
        have hbk := HBd.out k
        subst hao
        obtain ⟨v, hv⟩ := Int.eq_ofNat_of_zero_le hbk.2.2.1
        rw [hv] at c2
        generalize nn k = N at c1 hbk
        generalize kd k = D at c0 hbk
        have hbN := hbk.2.1; have hbD := hbk.1
        clear hv hbk
        have HT3 : Hid (∀ o, Rds w (wr.alloc o) R aoR capR bs B p p) := fun o => HT.out.keptNo ((Kept.refl NoB wr).alloc o)
        have hOp3 : OpIn (wr.alloc (.cells #[.int .i64 D, .int .i64 N, .int .u32 v] 44 (0, 0))) wr.heap.size D N v := heap_alloc_new _ _
        go_upto_region 9 with fail
        go_wp2_with fail
        · refine (takeA_all _ _ _ _ _ _ N (HT3.out _).a).mono ?_
          rintro e w4 ⟨rfl, hR4, hk4⟩
          have HS4 := Lib.hid ((HT3.out _).stepA hR4 hk4)
          have hcN : w4.cell? ⟨wr.heap.size, 1, none⟩ = some (.int .i64 N) := by simpa using obj_cell ((HT3.out _).opA hk4 hOp3) 1
          clear hR4 hk4
          go_wp2_with fail
          refine (takeB_all _ _ _ _ N HS4.out.b).mono ?_
          rintro e w5 ⟨rfl, hR5, hk5⟩
          have HS5 := Lib.hid (HS4.out.stepB hR5 hk5)
          clear hR5 hk5 hcN HS4
          generalize tkQ bs p N = p5 at HS5
          have hc1 : ∀ W, Kept NoB w5 W → W.cell? ⟨B, 1, none⟩ = some (.int .i64 p5) := fun W hk => by simpa using obj_cell (HS5.out.keptNo hk).b.1 1
          have hk55 := Kept.refl NoB w5
          go_wp2_with fail
          go_region_held3 (fun W => Kept NoB w5 W) (first | assumption | exact Kept.drew (by assumption) | exact Kept.trans (by assumption) hkn)
            (first
              | (go_at_call 30; ((with_reducible refine (at_any _ _ _ _ _ _ (HS5.out.keptNo (by assumption)).a).mono ?_); rintro e wn ⟨rfl, hkn⟩))
              | (go_at_call 18; ((with_reducible refine (left_any _ _ _ _ _ _ (HS5.out.keptNo (by assumption)).a).mono ?_); rintro e wn ⟨rfl, hkn⟩))
              | (go_at_call 31; ((with_reducible refine (refLeft_any _ _ _ _ (HS5.out.keptNo (by assumption)).b).mono ?_); rintro e wn ⟨rfl, hkn⟩)))
          have HK5 : Hid (Kept NoB w5 wn) := by assumption
          clear hc1 hk55
          go_wp2
          go_roundw
          case rel => exact ⟨k + 1, p5, by omega, by go_num, HS5.out.keptNo HK5.out⟩
          case measure => simp [intOf]; omega
        · obtain ⟨kk, hkk⟩ : ∃ kk : Nat, min3 N (8 * bs.length - p) = kk := ⟨(min3 N (8 * bs.length - p)).toNat, by unfold min3; omega⟩
          refine (peek_any _ _ _ _ _ _ N (HT3.out _).a kk hkk).mono ?_
          rintro e w4 ⟨rfl, hk4⟩
          have HS4 := Lib.hid ((HT3.out _).keptNo hk4)
          have hcN : w4.cell? ⟨wr.heap.size, 1, none⟩ = some (.int .i64 N) := by simpa using obj_cell ((HT3.out _).opA (hk4.mono (fun _ _ h => h.elim)) hOp3) 1
          have HKk := Lib.hid hkk; clear hk4 hkk
          go_wp2_with fail
          refine (refPeek_any _ _ _ _ N HS4.out.b kk HKk.out).mono ?_
          rintro e w5 ⟨rfl, hR5, hk5⟩
          have HS5 := Lib.hid (HS4.out.stepB hR5 hk5)
          clear hR5 hk5 hcN HS4
          generalize hp5 : p = p5 at HS5
          clear hp5
          have hc1 : ∀ W, Kept NoB w5 W → W.cell? ⟨B, 1, none⟩ = some (.int .i64 p5) := fun W hk => by simpa using obj_cell (HS5.out.keptNo hk).b.1 1
          have hk55 := Kept.refl NoB w5
          go_wp2_with fail
          go_region_held3 (fun W => Kept NoB w5 W) (first | assumption | exact Kept.drew (by assumption) | exact Kept.trans (by assumption) hkn)
            (first
              | (go_at_call 30; ((with_reducible refine (at_any _ _ _ _ _ _ (HS5.out.keptNo (by assumption)).a).mono ?_); rintro e wn ⟨rfl, hkn⟩))
              | (go_at_call 18; ((with_reducible refine (left_any _ _ _ _ _ _ (HS5.out.keptNo (by assumption)).a).mono ?_); rintro e wn ⟨rfl, hkn⟩))
              | (go_at_call 31; ((with_reducible refine (refLeft_any _ _ _ _ (HS5.out.keptNo (by assumption)).b).mono ?_); rintro e wn ⟨rfl, hkn⟩)))
          have HK5 : Hid (Kept NoB w5 wn) := by assumption
          clear hc1 hk55
          go_wp2
          go_roundw
          case rel => exact ⟨k + 1, p5, by omega, by go_num, HS5.out.keptNo HK5.out⟩
          case measure => simp [intOf]; omega
        · refine (ralign_any _ _ _ _ _ _ (HT3.out _).a).mono ?_
          rintro e w4 ⟨rfl, hR4, hk4⟩
          have HS4 := Lib.hid ((HT3.out _).stepA hR4 hk4)
          clear hR4 hk4
          go_wp2_with fail
          refine (refAlign_any _ _ _ _ HS4.out.b).mono ?_
          rintro e w5 ⟨rfl, hR5, hk5⟩
          have HS5 := Lib.hid (HS4.out.stepB hR5 hk5)
          clear hR5 hk5 HS4
          generalize up8 p = p5 at HS5
          have hc1 : ∀ W, Kept NoB w5 W → W.cell? ⟨B, 1, none⟩ = some (.int .i64 p5) := fun W hk => by simpa using obj_cell (HS5.out.keptNo hk).b.1 1
          have hk55 := Kept.refl NoB w5
          go_wp2_with fail
          go_region_held3 (fun W => Kept NoB w5 W) (first | assumption | exact Kept.drew (by assumption) | exact Kept.trans (by assumption) hkn)
            (first
              | (go_at_call 30; ((with_reducible refine (at_any _ _ _ _ _ _ (HS5.out.keptNo (by assumption)).a).mono ?_); rintro e wn ⟨rfl, hkn⟩))
              | (go_at_call 18; ((with_reducible refine (left_any _ _ _ _ _ _ (HS5.out.keptNo (by assumption)).a).mono ?_); rintro e wn ⟨rfl, hkn⟩))
              | (go_at_call 31; ((with_reducible refine (refLeft_any _ _ _ _ (HS5.out.keptNo (by assumption)).b).mono ?_); rintro e wn ⟨rfl, hkn⟩)))
          have HK5 : Hid (Kept NoB w5 wn) := by assumption
          clear hc1 hk55
          go_wp2
          go_roundw
          case rel => exact ⟨k + 1, p5, by omega, by go_num, HS5.out.keptNo HK5.out⟩
          case measure => simp [intOf]; omega
        · by_cases hy : 0 ≤ N ∧ up8 p + 8 * N ≤ 8 * bs.length
          · obtain ⟨m, rfl⟩ := Int.eq_ofNat_of_zero_le hy.1
            have hym : up8 p + 8 * m ≤ 8 * bs.length := by omega
            have hgA := fun o => bytes_yes (wr.alloc o) R aoR capR bs p m (HT3.out o).a (by omega) hym
            have hgB := fun W (h : Rfb W B bs p) => refBytes_yes W B bs p m h hym
            generalize (bs.drop (up8 p / 8)).take m = xs at hgA hgB
            have HgA := Lib.hid hgA; have HgB := Lib.hid hgB; clear hgA hgB hy
            refine (HgA.out _).mono ?_
            rintro e w4 ⟨ao4, cap4, rfl, Hc4, Hr4, Ho4, hR4, hk4⟩
            have HS4 := Lib.hid ((HT3.out _).stepA hR4 hk4)
            have hcN : w4.cell? ⟨wr.heap.size, 1, none⟩ = some (.int .i64 m) := by simpa using obj_cell ((HT3.out _).opA hk4 hOp3) 1
            clear hR4 hk4
            go_wp2_with fail
            refine (HgB.out _ HS4.out.b).mono ?_
            rintro e w5 ⟨rfl, hR5, hk5⟩
            have HS5 := Lib.hid (HS4.out.stepB hR5 hk5)
            have ho5 := hk5.row Ho4.out (fun kk hk' e => row_ne Ho4.out HS4.out.b.1 (by decide) kk hk' e)
            have hc5 := conv_reads (own_reads ho5 rfl) rfl (own_nil_cap ho5)
            clear hR5 hk5 hcN HS4 ho5
            generalize up8 p + 8 * m = p5 at HS5
            clear hym
            have hc1 : ∀ W, Kept NoB w5 W → W.cell? ⟨B, 1, none⟩ = some (.int .i64 p5) := fun W hk => by simpa using obj_cell (HS5.out.keptNo hk).b.1 1
            have hk55 := Kept.refl NoB w5
            go_wp2_with fail
            go_region_held3 (fun W => Kept NoB w5 W) (first | assumption | exact Kept.drew (by assumption) | exact Kept.trans (by assumption) hkn)
              (first
                | (go_at_call 30; ((with_reducible refine (at_any _ _ _ _ _ _ (HS5.out.keptNo (by assumption)).a).mono ?_); rintro e wn ⟨rfl, hkn⟩))
                | (go_at_call 18; ((with_reducible refine (left_any _ _ _ _ _ _ (HS5.out.keptNo (by assumption)).a).mono ?_); rintro e wn ⟨rfl, hkn⟩))
                | (go_at_call 31; ((with_reducible refine (refLeft_any _ _ _ _ (HS5.out.keptNo (by assumption)).b).mono ?_); rintro e wn ⟨rfl, hkn⟩)))
            have HK5 : Hid (Kept NoB w5 wn) := by assumption
            clear hc1 hk55
            go_wp2
            go_roundw
            case rel => exact ⟨k + 1, p5, by omega, by go_num, HS5.out.keptNo HK5.out⟩
            case measure => simp [intOf]; omega
          · have hyn : N < 0 ∨ 8 * (bs.length : Int) < up8 p + 8 * N := by omega
            have HY := Lib.hid hyn; clear hy hyn
            refine (bytes_no _ _ _ _ _ _ N (HT3.out _).a (by have := HY.out; omega)).mono ?_
            rintro e w4 ⟨rfl, hR4, hk4⟩
            have HS4 := Lib.hid ((HT3.out _).stepA hR4 hk4)
            have hcN : w4.cell? ⟨wr.heap.size, 1, none⟩ = some (.int .i64 N) := by simpa using obj_cell ((HT3.out _).opA hk4 hOp3) 1
            clear hR4 hk4
            go_wp2_with fail
            refine (refBytes_no _ _ _ _ N HS4.out.b (by have := HY.out; omega)).mono ?_
            rintro e w5 ⟨rfl, hR5, hk5⟩
            have HS5 := Lib.hid (HS4.out.stepB hR5 hk5)
            have hc5 : (convert 22 9 (.slice none 0 0)).run Try.prog w5 = .ok (.string (strOfNums [])) w5 := conv_reads (xs := []) ⟨(fun _ => rfl), (fun a ha => by cases ha)⟩ rfl (fun _ => rfl)
            clear hR5 hk5 hcN HS4
            generalize up8 p = p5 at HS5
            have hc1 : ∀ W, Kept NoB w5 W → W.cell? ⟨B, 1, none⟩ = some (.int .i64 p5) := fun W hk => by simpa using obj_cell (HS5.out.keptNo hk).b.1 1
            have hk55 := Kept.refl NoB w5
            go_wp2_with fail
            go_region_held3 (fun W => Kept NoB w5 W) (first | assumption | exact Kept.drew (by assumption) | exact Kept.trans (by assumption) hkn)
              (first
                | (go_at_call 30; ((with_reducible refine (at_any _ _ _ _ _ _ (HS5.out.keptNo (by assumption)).a).mono ?_); rintro e wn ⟨rfl, hkn⟩))
                | (go_at_call 18; ((with_reducible refine (left_any _ _ _ _ _ _ (HS5.out.keptNo (by assumption)).a).mono ?_); rintro e wn ⟨rfl, hkn⟩))
                | (go_at_call 31; ((with_reducible refine (refLeft_any _ _ _ _ (HS5.out.keptNo (by assumption)).b).mono ?_); rintro e wn ⟨rfl, hkn⟩)))
            have HK5 : Hid (Kept NoB w5 wn) := by assumption
            clear hc1 hk55
            go_wp2
            go_roundw
            case rel => exact ⟨k + 1, p5, by omega, by go_num, HS5.out.keptNo HK5.out⟩
            case measure => simp [intOf]; omega
      · have g0 : ¬ ((k : Int) < len) ∨ ((k : Int) < len ∧ ¬ (k : Int) < 60) := by have := HK.out; omega
        rcases g0 with g1 | ⟨g1, g2⟩
        all_goals
          go_wp2
          go_ret
          exact ⟨rfl, HBel.out⟩

theorem bitsRead_law (v0 v1 : Value) (w : World) (r0 : Arg w 22 v0) (r1 : Arg w 39 v1) :
    Calls Try.prog 5 #[v0, v1] w fun e w' => e = .returned (.bool true) ∧ Below w.heap.size w w' := by
  obtain ⟨aob, capb, bs, rfl, hc, hmb, hr, hbb, h0⟩ := r0.bytes Try.underlying22
  obtain ⟨ao, len, cap, kd, nn, vv, rfl, hm, ho, ha, hb⟩ := ops_open r1
  exact bitsRead_walk aob capb bs.length bs ao cap len kd nn vv w rfl hr hbb h0 hc hmb hm ho ha hb
end Go.Proofs.Ytffoigacpnlkgaa
