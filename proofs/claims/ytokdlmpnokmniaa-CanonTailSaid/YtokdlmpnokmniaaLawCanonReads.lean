/-
  CanonReads: from any bits the place is read that the document says, as long as there is one; else it says why, and nothing is taken.
-/
import Derived.Test.YtokdlmpnokmniaaLawCanonKinds
import Derived.Test.YtokdlmpnokmniaaRRead
import Derived.Test.YtokdlmpnokmniaaRds
namespace Go.Proofs.Ytokdlmpnokmniaa
open Go.RowKit
set_option linter.unusedVariables false
set_option linter.unusedSimpArgs false

theorem min3_at (L p : Nat) (h : p ≤ L) : ∃ T : Nat, min3 15 ((L : Int) - p) = T ∧ T ≤ 15 ∧ p + T ≤ L ∧ (T = 0 → p = L) := by
  refine ⟨min 15 (L - p), ?_, by omega, by omega, by omega⟩
  unfold min3; omega
theorem ReadS.step {ls : List Int} {T v p : Nat} {s f : Int} {q : Nat} (h : ReadS ls T v p s f q) : (f = 0 ∧ p < q ∧ q ≤ p + T ∧ 0 < T) ∨ (f ≠ 0 ∧ q = p) := by
  rcases h with ⟨n, i, h1, h2, _, _, _, _, _, rfl, rfl⟩ | ⟨_, _, rfl, rfl⟩
  · exact .inl ⟨rfl, by omega, by omega, by omega⟩
  · refine .inr ⟨?_, rfl⟩
    split <;> omega

/-- Lengths that a law reads by. -/
structure ReadP (Z : List Int) : Prop where
  few : Z.length ≤ 60
  small : Small 15 Z
  ref : refS Z = 0

set_option maxRecDepth 20000 in
set_option maxHeartbeats 8000000 in
theorem canonReads_walk (ao : Option Addr) (ca : Nat) (ws : List Int) (few : Int) (bo : Option Addr) (cb lb : Nat) (bs : List Int) (fr : Int) (w : World) (hx : RdI w w.heap.size ao ws)
    (hlb : lb = bs.length) (hy : Reads w bo bs) (hbb : AllB bs) (h0 : bo = none → cb = 0) (hm : lb ≤ maxLen) :
    Calls Try.prog 5 #[.slice ao ws.length ca, .int .i64 few, .slice bo lb cb, .int .i64 fr] w fun e w' => e = .returned (.bool true) ∧ Below w.heap.size w w' := by
  unfold maxLen at hm
  have HG := Lib.hid (good_calls ao ca w.heap.size ws w hx)
  have HAw := Lib.hid awake_any
  have m7 := mask7
  obtain ⟨n1, hn1⟩ : ∃ n, n = ws.length := ⟨_, rfl⟩
  rw [← hn1] at HG ⊢
  have HY := Lib.hid hy; have HBb := Lib.hid hbb; have H0 := Lib.hid h0; have HLb := Lib.hid hlb
  clear hx hy hn1 hbb h0 hlb
  by_cases hlong : (100 : Int) < lb
  · go_enter Try.func5, Try.ntmps5
    go_wp2_with fail
    refine (HAw.out _).mono ?_
    rintro e w1 ⟨rfl, hk⟩
    have HK := Lib.hid hk
    clear hk
    go_wp2
    go_ret
    exact ⟨rfl, HK.out.belowNo (Below.refl _ _)⟩
  · go_enter Try.func5, Try.ntmps5
    go_wp2_with fail
    refine HG.out.mono ?_
    rintro e w1 ⟨a9, c9, L, hgp, rfl, hr, hk⟩
    have HGp := Lib.hid hgp; have HRl := Lib.hid hr; have HK1 := Lib.hid hk
    obtain ⟨m, hm'⟩ : ∃ m, m = L.length := ⟨_, rfl⟩
    have HM := Lib.hid hm'
    have hm60 : m ≤ 60 := by have := hgp.few; omega
    rw [← hm']
    clear hgp hr hk hm' HG
    go_upto_block 0 with fail
    go_cut [9] from 27 to 33 (fun v9 wx => ∃ (a : Option Addr) (c : Nat) (Z : List Int), v9 = .slice a Z.length c ∧ Hid (ReadP Z) ∧ Hid (RdI wx wx.heap.size a Z) ∧ Hid (Kept NoB w1 wx))
    case first =>
      by_cases k0 : few % 8 = 0
      · go_wp2
        go_meet
        exact ⟨_, 4, [0, 0, 1, 0], rfl, Lib.hid ⟨by decide, (fun z hz => by simp at hz; omega), by decide +kernel⟩, Lib.hid (rd_new w1 _ _ rfl).room, Lib.hid ((Kept.refl _ _).alloc _)⟩
      · by_cases k1 : few % 8 = 1
        · go_wp2
          go_meet
          exact ⟨_, 2, [0, 0], rfl, Lib.hid ⟨by decide, (fun z hz => by simp at hz; omega), by decide +kernel⟩, Lib.hid (rd_new w1 _ _ rfl).room, Lib.hid ((Kept.refl _ _).alloc _)⟩
        · go_wp2
          go_meet
          exact ⟨a9, c9, L, by rw [← HM.out], Lib.hid ⟨HGp.out.few, HGp.out.small, HGp.out.ref⟩, HRl, Lib.hid (Kept.refl _ _)⟩
    case rest =>
    obtain ⟨a, c, Z, rfl, HRp, HRz, HK2⟩ := hcut
    have HNw := Lib.hid (new_calls a c _ Z wc HRz.out HRp.out.small (by have := HRp.out.few; omega) HRp.out.ref)
    have HY2 := Lib.hid ((HY.out.keptNo HK1.out).keptNo HK2.out)
    have HK := Lib.hid (HK1.out.trans HK2.out)
    obtain ⟨nz, hnz⟩ : ∃ n, n = Z.length := ⟨_, rfl⟩
    have HNz := Lib.hid hnz
    rw [← hnz] at HNw ⊢
    clear hnz HK1 HK2 HRl HGp HM HY
    go_wp2_with fail
    refine HNw.out.mono ?_
    rintro e w4 ⟨D, rfl, _, hD, hk⟩
    have HD := Lib.hid hD.toB
    have HRz4 := Lib.hid (HRz.out.keptNo hk).room
    have HK4 := Lib.hid (HK.out.trans hk)
    have HY4 := Lib.hid (HY2.out.keptNo hk)
    clear hD hk HNw HRz HK HY2
    go_upto_region 10 with fail
    go_cut [12, 13] from 38 to 44 (fun s t wx => ∃ R B aoR capR, s = .pointer (some ⟨R, 0, none⟩) ∧ t = .pointer (some ⟨B, 0, none⟩) ∧ Rds w4 wx R aoR capR bs B 0 0)
    case first =>
      have hb100 : bs.length ≤ 100 := by have := HLb.out; omega
      have hcv : ∀ W, Kept NoB w4 W → (convert 23 9 (.slice bo lb cb)).run Try.prog W = .ok (.string (strOfNums bs)) W := fun W hk => conv_reads (HY4.out.kept hk (fun _ _ h => h)) HLb.out H0.out
      have HN : Hid (∀ W, Kept NoB w4 W → Calls Try.prog 13 #[.slice bo lb cb] W (NewR W bs)) := fun W hk => by
        have h := newr_any bo cb bs W (HY4.out.kept hk (fun _ _ h => h)) (by omega) HBb.out
        rwa [← HLb.out] at h
      have hk0 := Kept.refl NoB w4
      go_wp2_with fail
      go_region_held3 (fun W => Kept NoB w4 W) (first | assumption | exact Kept.drew (by assumption) | exact Kept.alloc (by assumption) _ | exact Kept.trans (by assumption) hkn)
        (first
          | (go_at_call 13; ((with_reducible refine (HN.out _ (by assumption)).mono ?_); rintro e wn ⟨R, aoR, capR, rfl, hR, hRf, hRo, hkn⟩; have HRn := Lib.hid hR; have HRf := Lib.hid hRf; have HRo := Lib.hid hRo; clear hR hRf hRo)))
      · go_wp2
        go_meet
        have hk1 : Kept NoB w4 wn := ((Kept.refl NoB w4).drew).trans hkn
        exact ⟨R, wn.heap.size, aoR, capR, rfl, rfl, HRn.out.keptNo ((Kept.refl NoB wn).alloc _), ⟨heap_alloc_new _ _, HBb.out, by omega, by omega⟩, HRf.out, hk1.size, HRo.out, (hk1.alloc _).belowNo (Below.refl _ _)⟩
      · go_wp2
        go_meet
        have hk1 : Kept NoB w4 wn := by assumption
        exact ⟨R, w4.heap.size, aoR, capR, rfl, rfl, HRn.out, ⟨hkn.obj (heap_alloc_new _ _) (fun h => h), HBb.out, by omega, by omega⟩, Nat.le_trans (Kept.alloc (Kept.refl NoB w4) _).size HRf.out, Nat.le_refl _, (fun k hk => Nat.le_trans (Kept.alloc (Kept.refl NoB w4) _).size (HRo.out k hk)), hk1.belowNo (Below.refl _ _)⟩
    case rest =>
    obtain ⟨R, B, aoR, capR, rfl, rfl, hS⟩ := hcut
    have HS := Lib.hid hS; clear hS
    have HTa := Lib.hid (takeA_all _ _ _ _ _ _ (fr % 8) HS.out.a)
    go_wp2_with fail
    refine HTa.out.mono ?_
    rintro e w6 ⟨rfl, hR6, hk6⟩
    have HS6 := Lib.hid (HS.out.stepA hR6 hk6)
    clear hR6 hk6 HTa HS
    have HTb := Lib.hid (takeB_all _ _ _ _ (fr % 8) HS6.out.b)
    go_wp2_with fail
    refine HTb.out.mono ?_
    rintro e w7 ⟨rfl, hR7, hk7⟩
    have HS7 := Lib.hid (HS6.out.stepB hR7 hk7)
    clear hR7 hk7 HTb HS6
    obtain ⟨p0, hp0⟩ : ∃ p0, p0 = tkQ bs 0 (fr % 8) := ⟨_, rfl⟩
    rw [← hp0] at HS7
    clear hp0
    go_wp2
    go_loopw [14, 15, 16, 17, 18] (fun v14 _ _ _ _ wr => ∃ i p : Nat, v14 = .int .i64 (i : Int) ∧ i ≤ p ∧ Hid (Rds w4 wr R aoR capR bs B p p)) (fun v14 _ _ _ _ _ => 8 * bs.length + 1 - (intOf v14).toNat)
    case atStart => exact ⟨0, p0, rfl, by omega, HS7⟩
    case round =>
      obtain ⟨i, p, rfl, hip, HS8⟩ := hrel
      have hpl := HS8.out.a.2.2.2.1
      have hbl := HLb.out
      have hlt : (i : Int) < 8 * (lb : Int) + 1 := by omega
      obtain ⟨T, hT, hT15, hTp, hT0⟩ := min3_at (8 * bs.length) p hpl
      rw [show ((8 * bs.length : Nat) : Int) = 8 * (bs.length : Int) from by omega] at hT
      have hl320 : Z.length ≤ 320 := by have := HRp.out.few; omega
      have HKw := Lib.hid (Kept.ofBelow (Kept.refl NoB _) HS8.out.bel)
      have HRa := Lib.hid (read_calls Z D _ R aoR capR bs p T wr (HD.out.kept HKw.out (fun _ _ h => h)) HS8.out.a HS8.out.fa HRp.out.small hl320 hT)
      have HT := Lib.hid hT
      obtain ⟨V, hV⟩ : ∃ V, V = bitsAt bs p T := ⟨_, rfl⟩
      rw [← hV] at HRa
      have HVe := Lib.hid hV
      clear hT hV
      go_wp2_with fail
      refine HRa.out.mono ?_
      rintro e w8 ⟨s, f, q, rfl, hrs, hR8, hk8⟩
      have HS9 := Lib.hid (HS8.out.stepA hR8 hk8)
      have HRs := Lib.hid hrs
      clear hR8 hk8 hrs HRa HS8
      have HKw2 := Lib.hid (Kept.ofBelow (Kept.refl NoB _) HS9.out.bel)
      have HRb := Lib.hid (rread_calls Z a c w4.heap.size B bs p T w8 HS9.out.b (HRz4.out.keptNo HKw2.out) HS9.out.fb HRp.out.small hl320 HRp.out.ref HT.out)
      rw [← HVe.out, ← HNz.out] at HRb
      go_wp2_with fail
      refine HRb.out.mono ?_
      rintro e w9 ⟨s', f', q', rfl, hrs', hR9, hk9⟩
      obtain ⟨rfl, rfl, rfl⟩ := read_det Z hl320 HRp.out.small T V p _ _ _ _ _ _ HRs.out hrs'
      have HS10 := Lib.hid (HS9.out.stepB hR9 hk9)
      have hstep := HRs.out.step
      have HStp := Lib.hid hstep
      clear hR9 hk9 hrs' HRb HS9 hstep HRs
      have hc1 : w9.cell? ⟨B, 1, none⟩ = some (.int .i64 q) := by simpa using obj_cell HS10.out.b.1 1
      have hAt := Lib.hid (fun n => at_same _ _ _ _ _ _ (HS10.out.keptNo ((Kept.refl NoB w9).drewN n)).a)
      have q1 : (s != s) = false := by simp
      have q2 : (f != f) = false := by simp
      have q3 : ((q : Int) != (q : Int)) = false := by simp
      go_upto_region 20 with fail
      go_quiet ((go_at_call 15; exact Calls.quiet_of_same ((hAt.out _).mono fun _ _ h => ⟨h.1, h.2.symm⟩)))
      have HS11 := Lib.hid (HS10.out.keptNo ((Kept.refl NoB w9).drewN nq))
      clear HS10 hAt hc1
      rcases HStp.out with ⟨hf0, hpq, hqT, hT1⟩ | ⟨hf0, hqp⟩
      · subst hf0
        go_wp2
        go_roundw
        case rel => exact ⟨i + 1, by go_num, q, by omega, HS11⟩
        case measure => simp [intOf]; omega
      · have q4 : (f != 0) = true := by simpa using hf0
        go_wp2_with fail
        refine (HAw.out _).mono ?_
        rintro e w11 ⟨rfl, hk⟩
        have HKz := Lib.hid (hk.belowNo (HS11.out.bel))
        clear hk
        go_wp2
        go_ret
        exact ⟨rfl, by
          have hb4 := HK4.out.belowNo (Below.refl _ _)
          exact (Kept.ofBelow HK4.out HKz.out).belowNo (Below.refl _ _)⟩

theorem canonReads_law (v0 v1 v2 v3 : Value) (w : World) (r0 : Arg w 22 v0) (r1 : Arg w 3 v1) (r2 : Arg w 23 v2) (r3 : Arg w 3 v3) : Calls Try.prog 5 #[v0, v1, v2, v3] w fun e w' => e = .returned (.bool true) ∧ Below w.heap.size w w' := by
  obtain ⟨ao, ca, ws, rfl, _, _, hx, _, _⟩ := r0.ints
  obtain ⟨few, rfl, _⟩ := r1.int rfl
  obtain ⟨bo, cb, bs, rfl, hc, hmb, hr, hbb, h0⟩ := r2.bytes Try.underlying23
  obtain ⟨fr, rfl, _⟩ := r3.int rfl
  exact canonReads_walk ao ca ws few bo cb bs.length bs fr w hx rfl hr hbb h0 (by omega)
end Go.Proofs.Ytokdlmpnokmniaa
