/-
  HeadReads: any bytes are the block that the document says, or refused, by what is wrong first; a block's with any byte turned, or cut.
-/
import Derived.Test.YtnhfbpikfkncpaaHeadX
import Derived.Test.YtnhfbpikfkncpaaHeadV
import Derived.Test.YtnhfbpikfkncpaaHeadY
import Derived.Test.YtnhfbpikfkncpaaMarkC
namespace Go.Proofs.Ytnhfbpikfkncpaa
open Go.RowKit
set_option linter.unusedVariables false
set_option linter.unusedSimpArgs false

theorem zero_store4 {w : World} {R : Nat} (hR : R = w.heap.size) (h : HdP) : ((w.alloc (.cells #[.string ⟨#[]⟩, .string ⟨#[]⟩, .string ⟨#[]⟩, .int .u8 0, .bool false, .int .i64 0, .int .i64 0, .int .i64 0, .int .i64 0, .int .i64 0, .int .i64 0, .int .i64 0] 23)).setRow R (hdC h)).heap[R]? = some (.cells (hdC h) 23 (0, 0)) ∧ Kept NoB w ((w.alloc (.cells #[.string ⟨#[]⟩, .string ⟨#[]⟩, .string ⟨#[]⟩, .int .u8 0, .bool false, .int .i64 0, .int .i64 0, .int .i64 0, .int .i64 0, .int .i64 0, .int .i64 0, .int .i64 0] 23)).setRow R (hdC h)) := by
  refine ⟨by rw [hR]; exact setRow_heap _ _ _ _ _ _ (heap_alloc_new _ _), kept_setRow ((Kept.refl NoB w).alloc _) (by omega) _⟩
theorem exec_load {P : Program} {a : Act} {o : Oper} {ty : TypeId} {x : Operand} {p : Addr} {v : Value} {w : World} (ho : o.op = .load ty x) (hx : a.eval x = .pointer (some p)) (hl : (loadVar ty p).run P w = .ok v w) : (execOp a.eval o).run P w = .ok (.value v) w := by
  unfold execOp
  simp only [ho, hx, Instr.loadAt, Instr.sureAddr, Sem.run_bind, Sem.run_pure, Result.andThen_ok, hl]
theorem rOct_row {E : List Int} (hE : AllB E) (hl : E.length = 512) : (rOct (sumL E) 7).1.length = 7 ∧ AllB (rOct (sumL E) 7).1 ∧ 0 ≤ sumL E ∧ sumL E ≤ 130560 := by
  have hs : sumL E = sumTo E 512 := by rw [sumL, if_pos hl]
  have hb := sumTo_bd hE 512
  rw [hs]
  obtain ⟨h1, h2⟩ := sum_small hE
  have e : octS (sumTo E 512) 7 = (fld (oc (sumTo E 512)) 6 6 true, true) := if_pos ⟨by omega, by omega, h1, h2⟩
  have t := octS_told (sumTo E 512) 7
  have hr : (rOct (sumTo E 512) 7).1 = (octS (sumTo E 512) 7).1 := by
    rw [t]
    rw [e] at t
    unfold told at t ⊢
    split at t
    · rename_i hc; rw [if_pos hc]
    · cases t
  rw [hr]
  refine ⟨?_, octS_all _ _, by omega, by omega⟩
  rw [e]
  show (fld _ _ _ _).length = 7
  rw [fld_len]
theorem u8_xor_bd (a b : Int) (ha : 0 ≤ a ∧ a < 256) (hb : 0 ≤ b ∧ b < 256) : 0 ≤ bits .xor .u8 a b ∧ bits .xor .u8 a b < 256 := by
  unfold bits
  simp [IntKind.wrap_u8]
  omega
set_option maxRecDepth 100000 in
set_option maxHeartbeats 16000000 in
theorem headReads_walk (ao : Option Addr) (cap n : Nat) (bs : List Int) (h : HdP) (at0 by0 ct : Int) (rg : Bool) (w : World) (k : HdOk h) (hn : n = bs.length) (hb : AllB bs) (hr : Reads w ao bs) (hc : n ≤ cap) (hm : cap ≤ maxLen) (h00 : ao = none → cap = 0) (hby : 0 ≤ by0 ∧ by0 ≤ 255) :
    Calls Try.prog 5 #[.slice ao n cap, hdV h, .int .i64 at0, .int .u8 by0, .bool rg, .int .i64 ct] w fun e w' => e = .returned (.bool true) ∧ Below w.heap.size w w' := by
  obtain ⟨L1, hL1⟩ : ∃ L, L = h.nm.length := ⟨_, rfl⟩
  obtain ⟨L2, hL2⟩ : ∃ L, L = h.lk.length := ⟨_, rfl⟩
  obtain ⟨L3, hL3⟩ : ∃ L, L = h.px.length := ⟨_, rfl⟩
  have z1 : (strOfNums h.nm).size = L1 := by rw [strOfNums_size, hL1]
  have z2 : (strOfNums h.lk).size = L2 := by rw [strOfNums_size, hL2]
  have z3 : (strOfNums h.px).size = L3 := by rw [strOfNums_size, hL3]
  have HL1 := Lib.hid hL1; have HL2 := Lib.hid hL2; have HL3 := Lib.hid hL3
  clear hL1 hL2 hL3
  obtain ⟨X, hX⟩ : ∃ X, X = w.heap.size := ⟨_, rfl⟩
  obtain ⟨wA, hwA⟩ : ∃ y, y = w.alloc (.cells #[.string (strOfNums h.nm), .string (strOfNums h.lk), .string (strOfNums h.px), .int .u8 h.ty, .bool h.gn, .int .i64 h.md, .int .i64 h.us, .int .i64 h.gr, .int .i64 h.sz, .int .i64 h.tm, .int .i64 h.ma, .int .i64 h.mi] 23) := ⟨_, rfl⟩
  have hkA : Kept NoB w wA := by rw [hwA]; exact (Kept.refl NoB w).alloc _
  have hxA : wA.heap[X]? = some (.cells (hdC h) 23 (0, 0)) := by rw [hwA, hX]; exact heap_alloc_new _ _
  have HXA := Lib.hid hxA; have HKA := Lib.hid hkA; have HX := Lib.hid hX; have HWA := Lib.hid hwA
  have HRd := Lib.hid hr; have HAl := Lib.hid hb; have HN := Lib.hid hn; have HCm := Lib.hid hm; have HCn := Lib.hid hc; have H00 := Lib.hid h00
  clear hX hwA hkA hxA hr hb hn hm hc h00
  unfold hdV
  go_enter Try.func5, Try.ntmps5
  go_upto_region 1 with fail
  rw [← HX.out, ← HWA.out]
  have c0 : wA.cell? ⟨X, 0, none⟩ = some (.string (strOfNums h.nm)) := by rw [obj_cell HXA.out 0]; rfl
  have c1 : wA.cell? ⟨X, 1, none⟩ = some (.string (strOfNums h.lk)) := by rw [obj_cell HXA.out 1]; rfl
  have c2 : wA.cell? ⟨X, 2, none⟩ = some (.string (strOfNums h.px)) := by rw [obj_cell HXA.out 2]; rfl
  have HA := Lib.hid (awake17 wA)
  by_cases h0 : (600 : Int) < (n : Int)
  · go_wp2_with fail
    with_reducible refine HA.out.mono ?_
    rintro e w1 ⟨rfl, hk1⟩
    have HK1 := Lib.hid (HKA.out.trans hk1)
    clear hk1
    go_wp2
    go_ret
    exact ⟨rfl, HK1.out.belowNo (Below.refl _ _)⟩
  by_cases h1 : (400 : Int) < (L1 : Int)
  · go_wp2_with fail
    with_reducible refine HA.out.mono ?_
    rintro e w1 ⟨rfl, hk1⟩
    have HK1 := Lib.hid (HKA.out.trans hk1)
    clear hk1
    go_wp2
    go_ret
    exact ⟨rfl, HK1.out.belowNo (Below.refl _ _)⟩
  by_cases h2 : (400 : Int) < (L2 : Int)
  · go_wp2_with fail
    with_reducible refine HA.out.mono ?_
    rintro e w1 ⟨rfl, hk1⟩
    have HK1 := Lib.hid (HKA.out.trans hk1)
    clear hk1
    go_wp2
    go_ret
    exact ⟨rfl, HK1.out.belowNo (Below.refl _ _)⟩
  by_cases h3 : (400 : Int) < (L3 : Int)
  · go_wp2_with fail
    with_reducible refine HA.out.mono ?_
    rintro e w1 ⟨rfl, hk1⟩
    have HK1 := Lib.hid (HKA.out.trans hk1)
    clear hk1
    go_wp2
    go_ret
    exact ⟨rfl, HK1.out.belowNo (Below.refl _ _)⟩
  clear HA
  have hlen : h.nm.length ≤ 400 ∧ h.lk.length ≤ 400 ∧ h.px.length ≤ 400 := by have := HL1.out; have := HL2.out; have := HL3.out; omega
  obtain ⟨th, hth⟩ : ∃ D, D = tameH h := ⟨_, rfl⟩
  have HT : Hid (Calls Try.prog 11 #[.agg (hdC h)] wA fun e w' => e = .returned (.agg (hdC th)) ∧ Kept NoB wA w') := Lib.hid (by rw [hth]; exact tame17_any h wA k (by omega))
  have HTk : Hid (HdOk th) := Lib.hid (by rw [hth]; exact tame_ok k)
  have HTo : Hid (EncO th) := Lib.hid (by rw [hth]; exact tame_o h)
  have HTh : Hid (∀ W, Calls Try.prog 12 #[.agg (hdC th)] W (RHeadR th W)) := Lib.hid (fun W => by
    rw [hth]
    exact rhead_any (tameH h) W (tame_ok k) (by have := tame_len h; omega))
  clear hlen k hth HL1 HL2 HL3 HX HWA
  go_wp2_with (refine wpList_load_row rfl 23 (.tmp 7) rfl X rfl 23 (hdC h) (0, 0) _ HXA.out Try.underlying23 rfl infoHd ?_)
  with_reducible refine HT.out.mono ?_
  rintro e w1 ⟨rfl, hk1⟩
  have HK1 := Lib.hid (HKA.out.trans hk1)
  clear hk1 HT HXA HKA c0 c1 c2
  go_wp2_with fail
  with_reducible refine (HTh.out _).mono ?_
  rintro e w2 ⟨⟨S0, f, rfl, hf1, _⟩, hk2⟩
  obtain ⟨rfl, hS0⟩ := hf1 (o_enc HTo.out)
  have HK2 := Lib.hid (HK1.out.trans hk2)
  obtain ⟨E, hE⟩ : ∃ E, E = encL th := ⟨_, rfl⟩
  rw [← hE] at hS0
  have HEl : Hid (E.length = 512) := Lib.hid (by rw [hE]; exact enc_len HTk.out HTo.out)
  have HEa : Hid (AllB E) := Lib.hid (by rw [hE]; exact enc_all HTk.out)
  clear hE hf1 hk2 HTh
  subst hS0
  obtain ⟨cap2, w3, hcv, hown, hk3⟩ := conv_mark w2 E (by have := HEl.out; omega) HEa.out
  obtain ⟨g, hg⟩ : ∃ g, g = w2.heap.size := ⟨_, rfl⟩
  rw [← hg] at hcv hown
  rw [HEl.out] at hcv hown
  have HOw := Lib.hid hown; have HK3 := Lib.hid (HK2.out.trans hk3); have HGw : Hid (w.heap.size ≤ g) := Lib.hid (by rw [hg]; exact HK2.out.size)
  clear hown hk3 hg
  have hmk : bits .and .i64 at0 65535 = at0 % 65536 := i64_mask at0 16 (by decide)
  obtain ⟨A, hA⟩ : ∃ A, A = at0 % 65536 := ⟨_, rfl⟩
  rw [← hA] at hmk
  obtain ⟨N, hN⟩ : ∃ N : Nat, A.tmod 512 = (N : Int) := ⟨(A.tmod 512).toNat, by rw [Int.tmod_eq_emod_of_nonneg (by omega)]; omega⟩
  have hN5 : N < 512 := by rw [Int.tmod_eq_emod_of_nonneg (by omega)] at hN; omega
  clear hA
  obtain ⟨z, hz⟩ : ∃ z, z = E.getD N 0 := ⟨_, rfl⟩
  have hzb := AllB.getD HEa.out N
  rw [← hz] at hzb
  have hcell : w3.cell? ⟨g, N, none⟩ = some (.int .u8 z) := by
    rw [hz]
    have h1 := HOw.out
    rw [← HEl.out] at h1
    exact h1.cellAt N (by have := HEl.out; omega)
  have hfr : w3.frozen? ⟨g, N, none⟩ = false := HOw.out.free N hN5
  obtain ⟨v, hv⟩ : ∃ v, v = bits .xor .u8 z by0 := ⟨_, rfl⟩
  have hvb : 0 ≤ v ∧ v < 256 := by
    rw [hv]
    exact u8_xor_bd z by0 (by omega) (by omega)
  have HOs : Hid (OwnM (w3.setCell ⟨g, N, none⟩ (.int .u8 v)) (.slice (some ⟨g, 0, none⟩) 512 cap2) (E.set N v)) := Lib.hid (HOw.out.set N v hN5)
  have HKs := Lib.hid (Kept.setCell (p := ⟨g, N, none⟩) HK3.out (.inr HGw.out) (.int .u8 v))
  have HV := Lib.hid hv
  have HE2a := Lib.hid (allB_set HEa.out N v hvb)
  have HE2l : Hid ((E.set N v).length = 512) := Lib.hid (by rw [List.length_set]; exact HEl.out)
  clear hz hv hvb hzb
  go_upto_region 8 with fail
  rw [← HV.out]
  clear hcv hcell hfr HOw HK3 hmk hN hN5
  generalize w3.setCell ⟨g, N, none⟩ (.int .u8 v) = w4 at HOs HKs ⊢
  generalize E.set N v = E2 at HOs HE2a HE2l
  go_upto_if 66 with fail
  go_cut [] from 67 to 77 (fun wy => ∃ F, Hid (OwnM wy (.slice (some ⟨g, 0, none⟩) 512 cap2) F) ∧ Hid (AllB F) ∧ Hid (F.length = 512) ∧ Hid (Kept NoB w wy))
  case first =>
    cases rg with
    | false =>
      go_wp2
      go_meet
      exact ⟨E2, HOs, HE2a, HE2l, HKs⟩
    | true =>
      have hcp : 512 ≤ cap2 ∧ cap2 ≤ maxLen := by
        obtain ⟨hl, cur, fz, _, _, h1, h2, _⟩ := HOs.out.at
        exact ⟨by omega, h2⟩
      have hc148 : ¬ cap2 = 148 := by omega
      have hcm2 : cap2 ≤ 9223372036854775807 := by have := hcp.2; unfold maxLen at this; omega
      have h1 := HOs.out
      have hrd : Reads w4 (some ⟨g, 0, none⟩) E2 := by rw [← HE2l.out] at h1; exact h1.reads
      have hcv := conv_reads (n := 512) (cap := cap2) hrd HE2l.out.symm (fun h => by cases h)
      clear h1 hrd
      obtain ⟨sm, hsm⟩ : ∃ x, x = sumL E2 := ⟨_, rfl⟩
      have HSm : Hid (∀ W, Calls Try.prog 15 #[.string (strOfNums E2)] W fun e w' => e = .returned (.int .i64 sm) ∧ W = w') := Lib.hid (fun W => by rw [hsm]; exact rsum_any E2 W HE2a.out (by have := HE2l.out; omega))
      obtain ⟨o1, o2, o3, o4⟩ := rOct_row HE2a.out HE2l.out
      rw [← hsm] at o1 o2 o3 o4
      obtain ⟨ys, hys⟩ : ∃ y, y = (rOct sm 7).1 := ⟨_, rfl⟩
      obtain ⟨ob, hob⟩ : ∃ x, x = (rOct sm 7).2 := ⟨_, rfl⟩
      rw [← hys] at o1 o2
      have HOc : Hid (∀ W, Calls Try.prog 16 #[.int .i64 sm, .int .i64 7] W fun e w' => e = .returned (.tuple #[.string (strOfNums ys), .bool ob]) ∧ Kept NoB W w') := Lib.hid (fun W => by
        rw [hys, hob]
        exact rOctal_any sm 7 W ⟨by omega, by omega⟩)
      clear hsm hys hob o3 o4
      go_wp2_with fail
      with_reducible refine (HSm.out _).mono ?_
      rintro e w5 ⟨rfl, rfl⟩
      go_wp2_with fail
      with_reducible refine (HOc.out _).mono ?_
      rintro e w5 ⟨rfl, hk5⟩
      have HO5 : Hid (OwnM w5 (.slice (some ⟨g, 0, none⟩) 512 cap2) E2) := Lib.hid (HOs.out.kept hk5 (fun _ _ h => h))
      have hcy := copy_mark HO5.out o2 148 364 (cap2 - 148) (by omega) (by omega)
      have HK5 := Lib.hid (kept_cells (ys.map (.int .u8)) 148 w5 (HKs.out.trans hk5) (.inr HGw.out))
      have HO6 := Lib.hid (HO5.out.cells ys E2 148 w5 (by omega))
      have HA6 := Lib.hid (putL_all ys E2 148 HE2a.out o2)
      have HL6 : Hid ((putL E2 148 ys).length = 512) := Lib.hid (by rw [putL_len]; exact HE2l.out)
      rw [o1] at hcy
      clear hcv hk5 o2
      go_wp2
      go_meet
      exact ⟨_, HO6, HA6, HL6, HK5⟩
  case rest =>
  obtain ⟨F, HOf, HFa, HFl, HKf⟩ := hcut
  clear HOs HKs HE2a HE2l HV z1 z2 z3 h1 h2 h3
  have hn6 : n ≤ 600 := by omega
  have hcp : 512 ≤ cap2 ∧ cap2 ≤ maxLen := by
    obtain ⟨hl, cur, fz, _, _, h1, h2, _⟩ := HOf.out.at
    exact ⟨by omega, h2⟩
  have hcm2 : cap2 ≤ 9223372036854775807 := by have := hcp.2; unfold maxLen at this; omega
  have HCp := Lib.hid hcp.2
  have hc5 := hcp.1
  clear hcp h0
  have hmk : bits .and .i64 ct 65535 = ct % 65536 := i64_mask ct 16 (by decide)
  obtain ⟨C, hC⟩ : ∃ A, A = ct % 65536 := ⟨_, rfl⟩
  rw [← hC] at hmk
  obtain ⟨M, hM⟩ : ∃ N : Nat, C.tmod 513 = (N : Int) := ⟨(C.tmod 513).toNat, by rw [Int.tmod_eq_emod_of_nonneg (by omega)]; omega⟩
  have hM5 : M ≤ 512 := by rw [Int.tmod_eq_emod_of_nonneg (by omega)] at hM; omega
  clear hC
  go_wp2
  go_loopw [18] (fun v18 wr => ∃ i : Nat, v18 = .int .i64 (i : Int) ∧ i ≤ 3 ∧ Hid (Kept NoB wc wr)) (fun v18 _ => 3 - (intOf v18).toNat)
  case atStart => exact ⟨0, rfl, by omega, Lib.hid (Kept.refl _ _)⟩
  case round =>
    obtain ⟨i, rfl, hi, HKr⟩ := hrel
    by_cases hlt : (i : Int) < 3
    · have hi3 : i < 3 := by omega
      have HKw := Lib.hid (HKf.out.trans HKr.out)
      have hrow : ∃ xo xn xc xs, (#[Value.slice ao n cap, .slice (some ⟨g, 0, none⟩) 512 cap2, .slice (some ⟨g, 0, none⟩) M cap2] : Array Value)[i]? = some (.slice xo xn xc) ∧ Hid (Reads wr xo xs) ∧ xn = xs.length ∧ Hid (AllB xs) ∧ xn ≤ xc ∧ xc ≤ maxLen ∧ (xo = none → xc = 0) ∧ xn ≤ 600 := by
        have hF1 : OwnM wr (.slice (some ⟨g, 0, none⟩) F.length cap2) F := by rw [HFl.out]; exact HOf.out.kept HKr.out (fun _ _ h => h)
        rcases (by omega : i = 0 ∨ i = 1 ∨ i = 2) with rfl | rfl | rfl
        · exact ⟨ao, n, cap, bs, rfl, Lib.hid (HRd.out.keptNo HKw.out), HN.out, HAl, HCn.out, HCm.out, H00.out, hn6⟩
        · exact ⟨_, 512, cap2, F, rfl, Lib.hid hF1.reads, HFl.out.symm, HFa, hc5, HCp.out, (fun h => by cases h), by omega⟩
        · exact ⟨_, M, cap2, F.take M, rfl, Lib.hid (reads_take M hF1.reads), by have := HFl.out; simp; omega, Lib.hid (fun x hx => HFa.out x (List.mem_of_mem_take hx)), by omega, HCp.out, (fun h => by cases h), by omega⟩
      obtain ⟨xo, xn, xc, xs, hget, HRx, hxn, HXa, hxc, hxm, hx0, hx6⟩ := hrow
      have hcell : (wr.alloc (.cells #[Value.slice ao n cap, .slice (some ⟨g, 0, none⟩) 512 cap2, .slice (some ⟨g, 0, none⟩) M cap2] 24)).cell? ⟨wr.heap.size, i, none⟩ = some (.slice xo xn xc) := by
        rw [cell_new i rfl]; exact hget
      obtain ⟨wx, hwx⟩ : ∃ y, y = wr.alloc (.cells #[Value.slice ao n cap, .slice (some ⟨g, 0, none⟩) 512 cap2, .slice (some ⟨g, 0, none⟩) M cap2] 24) := ⟨_, rfl⟩
      have hkx : Kept NoB wr wx := by rw [hwx]; exact (Kept.refl NoB wr).alloc _
      have HR1 := Lib.hid (HRx.out.keptNo hkx); have HKx := Lib.hid (HKr.out.trans hkx)
      have HWx := Lib.hid hwx; have HXn := Lib.hid hxn; have HXm := Lib.hid hxm; have HX0 := Lib.hid hx0
      clear hget hkx hwx hxn hxm hx0
      go_upto_region 15 with fail
      rw [← HWx.out]
      clear hcell HWx
      have hx9 : xc ≤ 9223372036854775807 := by have := HXm.out; unfold maxLen at this; omega
      have HD1 := Lib.hid (hdec_any xo xn xc xs wx HXn.out HXa.out HR1.out hxc hx9)
      have HD2 : Hid (∀ W, Calls Try.prog 13 #[.string (strOfNums xs)] W (DecHR W xs)) := Lib.hid (fun W => rreadhead_any xs W HXa.out (by have := HXn.out; omega))
      obtain ⟨De, kk, hdl⟩ : ∃ De kk, decL xs = (De, kk) := ⟨_, _, rfl⟩
      have HDc : Hid (∀ W e w', DecHR W xs e w' → e = .returned (.tuple #[hdV De, .int .i64 kk]) ∧ Kept NoB W w') := Lib.hid (fun W e w' h => by unfold DecHR at h; rw [hdl] at h; exact h)
      clear hdl
      go_wp2_with fail
      with_reducible refine HD1.out.mono ?_
      intro e w4 h4
      obtain ⟨rfl, hk4⟩ := HDc.out _ _ _ h4
      have HR4 := Lib.hid (HR1.out.keptNo hk4); have HK4 := Lib.hid (HKx.out.trans hk4)
      clear h4 hk4 HD1
      obtain ⟨R9, hR9⟩ : ∃ R, R = w4.heap.size := ⟨_, rfl⟩
      obtain ⟨wb9, hwb9⟩ : ∃ y, y = (w4.alloc (.cells #[.string ⟨#[]⟩, .string ⟨#[]⟩, .string ⟨#[]⟩, .int .u8 0, .bool false, .int .i64 0, .int .i64 0, .int .i64 0, .int .i64 0, .int .i64 0, .int .i64 0, .int .i64 0] 23)).setRow R9 (hdC De) := ⟨_, rfl⟩
      have hzs9 := zero_store4 hR9 De
      rw [← hwb9] at hzs9
      have HZ9 := Lib.hid (heap_alloc_new w4 (.cells #[.string ⟨#[]⟩, .string ⟨#[]⟩, .string ⟨#[]⟩, .int .u8 0, .bool false, .int .i64 0, .int .i64 0, .int .i64 0, .int .i64 0, .int .i64 0, .int .i64 0, .int .i64 0] 23))
      have HR9 := Lib.hid hR9; have HWb9 := Lib.hid hwb9
      have HBx9 := Lib.hid hzs9.1; have HBk9 := Lib.hid hzs9.2
      clear hR9 hwb9 hzs9
      go_upto_region 16 with (refine wpList_store_row rfl 23 (.tmp 20) (.tmp 96) rfl w4.heap.size (hdC De) rfl rfl _ _ HZ9.out infoHd rfl (hdC_one _) ?_)
      rw [← HR9.out, ← HWb9.out]
      clear HZ9 HR9 HWb9
      have HR5 := Lib.hid (HR4.out.keptNo HBk9.out); have HK5 := Lib.hid (HK4.out.trans HBk9.out)
      have hcv := conv_reads (n := xn) (cap := xc) HR5.out HXn.out HX0.out
      go_wp2_with fail
      with_reducible refine (HD2.out _).mono ?_
      intro e w6 h6
      obtain ⟨rfl, hk6⟩ := HDc.out _ _ _ h6
      have HR6 := Lib.hid (HR5.out.keptNo hk6); have HK6 := Lib.hid (HK5.out.trans hk6); have HB6 := Lib.hid (hk6.obj HBx9.out (fun h => h))
      clear h6 hk6 hcv
      obtain ⟨R11, hR11⟩ : ∃ R, R = w6.heap.size := ⟨_, rfl⟩
      obtain ⟨wb11, hwb11⟩ : ∃ y, y = (w6.alloc (.cells #[.string ⟨#[]⟩, .string ⟨#[]⟩, .string ⟨#[]⟩, .int .u8 0, .bool false, .int .i64 0, .int .i64 0, .int .i64 0, .int .i64 0, .int .i64 0, .int .i64 0, .int .i64 0] 23)).setRow R11 (hdC De) := ⟨_, rfl⟩
      have hzs11 := zero_store4 hR11 De
      rw [← hwb11] at hzs11
      have HZ11 := Lib.hid (heap_alloc_new w6 (.cells #[.string ⟨#[]⟩, .string ⟨#[]⟩, .string ⟨#[]⟩, .int .u8 0, .bool false, .int .i64 0, .int .i64 0, .int .i64 0, .int .i64 0, .int .i64 0, .int .i64 0, .int .i64 0] 23))
      have HR11 := Lib.hid hR11; have HWb11 := Lib.hid hwb11
      have HBx11 := Lib.hid hzs11.1; have HBk11 := Lib.hid hzs11.2
      clear hR11 hwb11 hzs11
      go_upto_region 17 with (refine wpList_store_row rfl 23 (.tmp 22) (.tmp 102) rfl w6.heap.size (hdC De) rfl rfl _ _ HZ11.out infoHd rfl (hdC_one _) ?_)
      rw [← HR11.out, ← HWb11.out]
      clear HZ11 HR11 HWb11
      have HR7 := Lib.hid (HR6.out.keptNo HBk11.out); have HK7 := Lib.hid (HK6.out.trans HBk11.out); have HB7 := Lib.hid (HBk11.out.obj HB6.out (fun h => h))
      have HL9 : Hid (∀ W, Kept NoB wb11 W → (loadVar 23 ⟨R9, 0, none⟩).run Try.prog W = .ok (.agg (hdC De)) W) := Lib.hid (fun W hk => run_loadVar_row W R9 23 23 (hdC De) (0, 0) _ (hk.obj HB7.out (fun h => h)) Try.underlying23 rfl infoHd)
      have HL11 : Hid (∀ W, Kept NoB wb11 W → (loadVar 23 ⟨R11, 0, none⟩).run Try.prog W = .ok (.agg (hdC De)) W) := Lib.hid (fun W hk => run_loadVar_row W R11 23 23 (hdC De) (0, 0) _ (hk.obj HBx11.out (fun h => h)) Try.underlying23 rfl infoHd)
      have HNe : Hid (∀ W, (binOp .neq 23 (.agg (hdC De)) (.agg (hdC De))).run Try.prog W = .ok (.bool false) W) := Lib.hid (fun W => hd_neq_self W De)
      have HEg : Hid (∀ W x y, (eqGuard .neq 23 x y (.agg (hdC De)) (.agg (hdC De))).run Try.prog W = .ok () W) := Lib.hid (fun W x y => hd_guard W x y De De)
      obtain ⟨SX, hSX⟩ : ∃ S, S = strOfNums xs := ⟨_, rfl⟩
      have HCv : Hid (∀ W, Kept NoB wb11 W → (convert 24 9 (.slice xo xn xc)).run Try.prog W = .ok (.string SX) W) := Lib.hid (fun W hk => by rw [hSX]; exact conv_reads (HR7.out.keptNo hk) HXn.out HX0.out)
      obtain ⟨sx, hsx⟩ : ∃ s, s = sumL xs := ⟨_, rfl⟩
      obtain ⟨zb, hzb⟩ : ∃ s, s = zeroL xs := ⟨_, rfl⟩
      have hzz : (xs == zero512) = zb := by rw [hzb, Bool.eq_iff_iff]; simp [zeroL, zero512]
      have HS1 : Hid (∀ W, Kept NoB wb11 W → Calls Try.prog 14 #[.slice xo xn xc] W fun e w' => e = .returned (.int .i64 sx) ∧ W = w') := Lib.hid (fun W hk => by rw [hsx]; exact hsum_any xo xn xc xs W (HR7.out.keptNo hk) HXa.out HXn.out (by omega))
      have HZ1 : Hid (∀ W, Kept NoB wb11 W → Calls Try.prog 17 #[.slice xo xn xc] W fun e w' => e = .returned (.bool zb) ∧ Kept NoB W w') := Lib.hid (fun W hk => by rw [hzb]; exact hzero_any xo xn xc xs W (HR7.out.keptNo hk) HXa.out HXn.out)
      have HS2 : Hid (∀ W, Calls Try.prog 15 #[.string SX] W fun e w' => e = .returned (.int .i64 sx) ∧ W = w') := Lib.hid (fun W => by rw [hsx, hSX]; exact rsum_any xs W HXa.out (by have := HXn.out; omega))
      have HZ2 : Hid (∀ W, Calls Try.prog 18 #[.string SX] W fun e w' => e = .returned (.bool zb) ∧ Kept NoB W w') := Lib.hid (fun W => by rw [← hzz, hSX]; exact rzero16_any xs W HXa.out)
      have hkk : (kk != kk) = false := by simp
      have hsn : (sx != sx) = false := by simp
      have hzn : (zb != zb) = false := by simp
      clear hSX hsx hzb hzz
      go_wp2_with fail
      refine wp_region_noPanic ?_
      refine wp_region_held_drew (S := fun W => Kept NoB wb11 W) (by kernel_rfl) (Kept.drew (Kept.refl _ _)) (fun hHeld => ?_)
      obtain ⟨wd, hwd⟩ : ∃ x, x = wb11.drew := ⟨_, rfl⟩
      rw [← hwd] at hHeld ⊢
      clear hwd
      refine wpAnyH_take (i := 0) (v := .agg (hdC De)) (by rw [List.getElem?_toArray]; rfl) (by kernel_rfl) (by kernel_rfl) (by kernel_rfl) (fun _ _ _ h => h) (Or.inl ⟨by rfl, ?hyq1_⟩) (by assumption) ?restq1_
      case hyq1_ => (intro w hSw; exact exec_load rfl rfl (HL9.out w hSw))
      try simp only [Act.put, List.setIfInBounds_toArray, List.set_cons_zero, List.set_cons_succ]
      refine wpAnyH_take (i := 1) (v := .agg (hdC De)) (by rw [List.getElem?_toArray]; rfl) (by kernel_rfl) (by kernel_rfl) (by kernel_rfl) (fun _ _ _ h => h) (Or.inl ⟨by rfl, ?hyq2_⟩) (by assumption) ?restq2_
      case hyq2_ => (intro w hSw; exact exec_load rfl rfl (HL11.out w hSw))
      try simp only [Act.put, List.setIfInBounds_toArray, List.set_cons_zero, List.set_cons_succ]
      refine wpAnyH_take (i := 2) (v := ?_) (by rw [List.getElem?_toArray]; rfl) (by kernel_rfl) (by kernel_rfl) (by kernel_rfl) (fun _ _ _ h => h) (Or.inl ⟨by rfl, ?hyq3_⟩) (by assumption) ?restq3_
      case hyq3_ => (intro w hSw; (try dsimp only at hSw); have e1 := HNe.out; have e2 := HEg.out; go_simp; (try with_reducible rfl))
      try simp only [Act.put, List.setIfInBounds_toArray, List.set_cons_zero, List.set_cons_succ]
      refine wpAnyH_take (i := 3) (v := ?_) (by rw [List.getElem?_toArray]; rfl) (by kernel_rfl) (by kernel_rfl) (by kernel_rfl) (fun _ _ _ h => h) (Or.inl ⟨by rfl, ?hyq4_⟩) (by assumption) ?restq4_
      case hyq4_ => (intro w hSw; (try dsimp only at hSw); go_simp; (try with_reducible rfl))
      try simp only [Act.put, List.setIfInBounds_toArray, List.set_cons_zero, List.set_cons_succ]
      refine wpAnyH_take (i := 4) (v := ?_) (by rw [List.getElem?_toArray]; rfl) (by kernel_rfl) (by kernel_rfl) (by kernel_rfl) (fun _ _ _ h => h) (Or.inl ⟨by rfl, ?hyq5_⟩) (by assumption) ?restq5_
      case hyq5_ => (intro w hSw; (try dsimp only at hSw); go_simp; (try with_reducible rfl))
      try simp only [Act.put, List.setIfInBounds_toArray, List.set_cons_zero, List.set_cons_succ]
      refine wpAnyH_take (i := 5) (v := ?_) (by rw [List.getElem?_toArray]; rfl) (by kernel_rfl) (by kernel_rfl) (by kernel_rfl) (fun _ _ _ h => h) (Or.inl ⟨by rfl, ?hyq6_⟩) (by assumption) ?restq6_
      case hyq6_ => (intro w hSw; (try dsimp only at hSw); go_simp; (try with_reducible rfl))
      try simp only [Act.put, List.setIfInBounds_toArray, List.set_cons_zero, List.set_cons_succ]
      refine wpAnyH_take (i := 6) (v := ?_) (by rw [List.getElem?_toArray]; rfl) (by kernel_rfl) (by kernel_rfl) (by kernel_rfl) (fun _ _ _ h => h) (Or.inl ⟨by rfl, ?hyq7_⟩) (by assumption) ?restq7_
      case hyq7_ => (intro w hSw; (try dsimp only at hSw); go_simp; (try with_reducible rfl))
      try simp only [Act.put, List.setIfInBounds_toArray, List.set_cons_zero, List.set_cons_succ]
      refine wpAnyH_take (i := 7) (v := ?_) (by rw [List.getElem?_toArray]; rfl) (by kernel_rfl) (by kernel_rfl) (by kernel_rfl) (fun _ _ _ h => h) (Or.inl ⟨by rfl, ?hyq8_⟩) (by assumption) ?restq8_
      case hyq8_ => (intro w hSw; (try dsimp only at hSw); go_simp; (try with_reducible rfl))
      try simp only [Act.put, List.setIfInBounds_toArray, List.set_cons_zero, List.set_cons_succ]
      refine wpAnyH_take (i := 8) (v := ?_) (by rw [List.getElem?_toArray]; rfl) (by kernel_rfl) (by kernel_rfl) (by kernel_rfl) (fun _ _ _ h => h) (Or.inl ⟨by rfl, ?hyq9_⟩) (by assumption) ?restq9_
      case hyq9_ => (intro w hSw; (try dsimp only at hSw); go_simp; (try with_reducible rfl))
      try simp only [Act.put, List.setIfInBounds_toArray, List.set_cons_zero, List.set_cons_succ]
      refine wpAnyH_take (i := 9) (v := ?_) (by rw [List.getElem?_toArray]; rfl) (by kernel_rfl) (by kernel_rfl) (by kernel_rfl) (fun _ _ _ h => h) (Or.inl ⟨by rfl, ?hyq10_⟩) (by assumption) ?restq10_
      case hyq10_ => (intro w hSw; (try dsimp only at hSw); go_simp; (try with_reducible rfl))
      try simp only [Act.put, List.setIfInBounds_toArray, List.set_cons_zero, List.set_cons_succ]
      refine wpAnyH_take (i := 11) (v := ?_) (by rw [List.getElem?_toArray]; rfl) (by kernel_rfl) (by kernel_rfl) (by kernel_rfl) (fun _ _ _ h => h) (Or.inl ⟨by rfl, ?hyq11_⟩) (by assumption) ?restq11_
      case hyq11_ => (intro w hSw; (try dsimp only at hSw); go_simp; (try with_reducible rfl))
      try simp only [Act.put, List.setIfInBounds_toArray, List.set_cons_zero, List.set_cons_succ]
      refine wpAnyH_take (i := 12) (v := ?_) (by rw [List.getElem?_toArray]; rfl) (by kernel_rfl) (by kernel_rfl) (by kernel_rfl) (fun _ _ _ h => h) (Or.inl ⟨by rfl, ?hyq12_⟩) (by assumption) ?restq12_
      case hyq12_ => (intro w hSw; (try dsimp only at hSw); have e1 := HCv.out w hSw; go_simp; (try with_reducible rfl))
      try simp only [Act.put, List.setIfInBounds_toArray, List.set_cons_zero, List.set_cons_succ]
      refine wpAnyH_ready (rs := [10]) (by kernel_rfl) (by simp) ?_
      refine AllReadyH.cons (by rw [List.getElem?_toArray]; rfl) (fun K hK => ?_) AllReadyH.nil
      go_simp
      go_at_call 14
      (with_reducible refine (HS1.out _ hHeld).mono ?_)
      rintro e w_1 ⟨rfl, rfl⟩
      have hSn := hHeld
      go_wp2_with fail
      refine hK.out _ _ hSn (fun hHeld => ?_)
      clear hK K hSn
      try simp only [Act.put, List.setIfInBounds_toArray, List.set_cons_zero, List.set_cons_succ]
      refine wpAnyH_ready (rs := [13]) (by kernel_rfl) (by simp) ?_
      refine AllReadyH.cons (by rw [List.getElem?_toArray]; rfl) (fun K hK => ?_) AllReadyH.nil
      go_simp
      go_at_call 15
      (with_reducible refine (HS2.out _).mono ?_)
      rintro e w_2 ⟨rfl, rfl⟩
      have hSn := hHeld
      go_wp2_with fail
      refine hK.out _ _ hSn (fun hHeld => ?_)
      clear hK K hSn
      try simp only [Act.put, List.setIfInBounds_toArray, List.set_cons_zero, List.set_cons_succ]
      refine wpAnyH_take (i := 14) (v := ?_) (by rw [List.getElem?_toArray]; rfl) (by kernel_rfl) (by kernel_rfl) (by kernel_rfl) (fun _ _ _ h => h) (Or.inl ⟨by rfl, ?hyq13_⟩) (by assumption) ?restq13_
      case hyq13_ => (intro w hSw; (try dsimp only at hSw); go_simp; (try with_reducible rfl))
      try simp only [Act.put, List.setIfInBounds_toArray, List.set_cons_zero, List.set_cons_succ]
      refine wpAnyH_take (i := 15) (v := ?_) (by rw [List.getElem?_toArray]; rfl) (by kernel_rfl) (by kernel_rfl) (by kernel_rfl) (fun _ _ _ h => h) (Or.inl ⟨by rfl, ?hyq14_⟩) (by assumption) ?restq14_
      case hyq14_ => (intro w hSw; (try dsimp only at hSw); go_simp; (try with_reducible rfl))
      try simp only [Act.put, List.setIfInBounds_toArray, List.set_cons_zero, List.set_cons_succ]
      refine wpAnyH_take (i := 16) (v := ?_) (by rw [List.getElem?_toArray]; rfl) (by kernel_rfl) (by kernel_rfl) (by kernel_rfl) (fun _ _ _ h => h) (Or.inl ⟨by rfl, ?hyq15_⟩) (by assumption) ?restq15_
      case hyq15_ => (intro w hSw; (try dsimp only at hSw); go_simp; (try with_reducible rfl))
      try simp only [Act.put, List.setIfInBounds_toArray, List.set_cons_zero, List.set_cons_succ]
      refine wpAnyH_take (i := 17) (v := ?_) (by rw [List.getElem?_toArray]; rfl) (by kernel_rfl) (by kernel_rfl) (by kernel_rfl) (fun _ _ _ h => h) (Or.inl ⟨by rfl, ?hyq16_⟩) (by assumption) ?restq16_
      case hyq16_ => (intro w hSw; (try dsimp only at hSw); go_simp; (try with_reducible rfl))
      try simp only [Act.put, List.setIfInBounds_toArray, List.set_cons_zero, List.set_cons_succ]
      refine wpAnyH_take (i := 19) (v := ?_) (by rw [List.getElem?_toArray]; rfl) (by kernel_rfl) (by kernel_rfl) (by kernel_rfl) (fun _ _ _ h => h) (Or.inl ⟨by rfl, ?hyq17_⟩) (by assumption) ?restq17_
      case hyq17_ => (intro w hSw; (try dsimp only at hSw); go_simp; (try with_reducible rfl))
      try simp only [Act.put, List.setIfInBounds_toArray, List.set_cons_zero, List.set_cons_succ]
      refine wpAnyH_take (i := 20) (v := ?_) (by rw [List.getElem?_toArray]; rfl) (by kernel_rfl) (by kernel_rfl) (by kernel_rfl) (fun _ _ _ h => h) (Or.inl ⟨by rfl, ?hyq18_⟩) (by assumption) ?restq18_
      case hyq18_ => (intro w hSw; (try dsimp only at hSw); have e1 := HCv.out w hSw; go_simp; (try with_reducible rfl))
      try simp only [Act.put, List.setIfInBounds_toArray, List.set_cons_zero, List.set_cons_succ]
      refine wpAnyH_ready (rs := [18]) (by kernel_rfl) (by simp) ?_
      refine AllReadyH.cons (by rw [List.getElem?_toArray]; rfl) (fun K hK => ?_) AllReadyH.nil
      go_simp
      go_at_call 17
      (with_reducible refine (HZ1.out _ hHeld).mono ?_)
      rintro e w_3 ⟨rfl, hkn⟩
      have hSn := hHeld.trans hkn
      clear hkn
      go_wp2_with fail
      refine hK.out _ _ hSn (fun hHeld => ?_)
      clear hK K hSn
      try simp only [Act.put, List.setIfInBounds_toArray, List.set_cons_zero, List.set_cons_succ]
      refine wpAnyH_ready (rs := [21]) (by kernel_rfl) (by simp) ?_
      refine AllReadyH.cons (by rw [List.getElem?_toArray]; rfl) (fun K hK => ?_) AllReadyH.nil
      go_simp
      go_at_call 18
      (with_reducible refine (HZ2.out _).mono ?_)
      rintro e w_4 ⟨rfl, hkn⟩
      have hSn := hHeld.trans hkn
      clear hkn
      go_wp2_with fail
      refine hK.out _ _ hSn (fun hHeld => ?_)
      clear hK K hSn
      try simp only [Act.put, List.setIfInBounds_toArray, List.set_cons_zero, List.set_cons_succ]
      refine wpAnyH_take (i := 22) (v := ?_) (by rw [List.getElem?_toArray]; rfl) (by kernel_rfl) (by kernel_rfl) (by kernel_rfl) (fun _ _ _ h => h) (Or.inl ⟨by rfl, ?hyq19_⟩) (by assumption) ?restq19_
      case hyq19_ => (intro w hSw; (try dsimp only at hSw); go_simp; (try with_reducible rfl))
      try simp only [Act.put, List.setIfInBounds_toArray, List.set_cons_zero, List.set_cons_succ]
      refine wpAnyH_take (i := 23) (v := ?_) (by rw [List.getElem?_toArray]; rfl) (by kernel_rfl) (by kernel_rfl) (by kernel_rfl) (fun _ _ _ h => h) (Or.inl ⟨by rfl, ?hyq20_⟩) (by assumption) ?restq20_
      case hyq20_ => (intro w hSw; (try dsimp only at hSw); go_simp; (try with_reducible rfl))
      try simp only [Act.put, List.setIfInBounds_toArray, List.set_cons_zero, List.set_cons_succ]
      refine wpAnyH_done (by kernel_rfl) ?_ _
      refine NoPanic.normal ?_
      have HKe := Lib.hid (HK7.out.trans hHeld)
      go_wp2
      go_roundw
      case rel => exact ⟨i + 1, by go_num, by omega, HKe⟩
      case measure => simp [intOf]; omega
    · have hi3 : i = 3 := by omega
      subst hi3
      have HA := Lib.hid (awake17 wr)
      go_wp2_with fail
      with_reducible refine HA.out.mono ?_
      rintro e w7 ⟨rfl, hk7⟩
      have HK7 := Lib.hid ((HKf.out.trans HKr.out).trans hk7)
      clear hk7
      go_wp2
      go_ret
      exact ⟨rfl, HK7.out.belowNo (Below.refl _ _)⟩

theorem headReads_law (v0 v1 v2 v3 v4 v5 : Value) (w : World) (r0 : Arg w 24 v0) (r1 : Arg w 23 v1) (r2 : Arg w 3 v2) (r3 : Arg w 5 v3) (r4 : Arg w 4 v4) (r5 : Arg w 3 v5) :
    Calls Try.prog 5 #[v0, v1, v2, v3, v4, v5] w fun e w' => e = .returned (.bool true) ∧ Below w.heap.size w w' := by
  obtain ⟨ao, cap, bs, rfl, h1, h2, h3, h4, h5⟩ := r0.bytes Try.underlying24
  obtain ⟨h, rfl, k, _⟩ := head_open r1
  obtain ⟨x2, rfl, hx2⟩ := r2.int Try.underlying3
  obtain ⟨x3, rfl, hx3⟩ := r3.int Try.underlying5
  obtain ⟨b4, rfl⟩ : ∃ b, v4 = .bool b := by
    obtain ⟨⟨base, hv⟩, _⟩ := r4
    exact Go.WideShapes.okWide_bool Try.underlying4 hv
  obtain ⟨x5, rfl, hx5⟩ := r5.int Try.underlying3
  exact headReads_walk ao cap bs.length bs h x2 x3 x5 b4 w k rfl h4 h3 h1 h2 h5 (u8_bd hx3)
end Go.Proofs.Ytnhfbpikfkncpaa
