/-
  CanonTail: places without a code, ahead of others or behind them, change no other one's code, nor what is read.
-/
import Derived.Test.YtokdlmpnokmniaaTailA
namespace Go.Proofs.Ytokdlmpnokmniaa
open Go.RowKit
set_option linter.unusedVariables false
set_option linter.unusedSimpArgs false

theorem own_reads_int {w : World} {a : Option Addr} {l c : Nat} {zs : List Int} (hl : l = zs.length) (h : w.ownsRow 0 3 1 (.slice a l c) l (zs.map (.int .i64))) : RdI w w.heap.size a zs := by
  intro i hi
  rcases h.2 with ⟨_, hz⟩ | ⟨g, cc, cur, hv, _⟩
  · omega
  · simp at hv
    obtain ⟨rfl, rfl⟩ := hv
    have hc : w.cell? ⟨g, i, none⟩ = some (.int .i64 (zs.getD i 0)) := by
      rw [h.cellAt i (by omega)]; simp [List.getD, hi]
    exact ⟨g, 0, rfl, World.block_lt_of_cell? w _ hc, by rw [Nat.zero_add]; exact hc⟩
/-- Two readers of the same bytes. -/
structure Rd2 (w wr : World) (R : Nat) (ao : Option Addr) (c : Nat) (S : Nat) (bo : Option Addr) (d : Nat) (bs : List Int) (p q : Nat) : Prop where
  a : Rdr wr R ao c bs p
  b : Rdr wr S bo d bs q
  fa : w.heap.size ≤ R
  fb : w.heap.size ≤ S
  ne : R ≠ S
  bel : Below w.heap.size w wr
section
variable {w wr w' : World} {R : Nat} {ao : Option Addr} {c : Nat} {S : Nat} {bo : Option Addr} {d : Nat} {bs : List Int} {p q p' q' : Nat}
theorem Rd2.keptNo (h : Rd2 w wr R ao c S bo d bs p q) (hk : Kept NoB wr w') : Rd2 w w' R ao c S bo d bs p q :=
  ⟨h.a.keptNo hk, h.b.keptNo hk, h.fa, h.fb, h.ne, hk.belowNo h.bel⟩
theorem Rd2.stepA (h : Rd2 w wr R ao c S bo d bs p q) (hR : Rdr w' R ao c bs p') (hk : Kept (OneB R) wr w') : Rd2 w w' R ao c S bo d bs p' q :=
  ⟨hR, h.b.kept hk (fun e => h.ne e.symm) (fun k hk' e => row_ne h.b.2.1 h.a.1 (by decide) k hk' e), h.fa, h.fb, h.ne, hk.below h.bel (by intro k e; have := h.fa; simp [OneB] at e; omega)⟩
theorem Rd2.stepB (h : Rd2 w wr R ao c S bo d bs p q) (hR : Rdr w' S bo d bs q') (hk : Kept (OneB S) wr w') : Rd2 w w' R ao c S bo d bs p q' :=
  ⟨h.a.kept hk h.ne (fun k hk' e => row_ne h.a.2.1 h.b.1 (by decide) k hk' e), hR, h.fa, h.fb, h.ne, hk.below h.bel (by intro k e; have := h.fb; simp [OneB] at e; omega)⟩
end

set_option maxRecDepth 20000 in
set_option maxHeartbeats 8000000 in
theorem wide_walk (ao : Option Addr) (ca : Nat) (ws : List Int) (nn : Int) (bo : Option Addr) (cb lb : Nat) (bs : List Int) (w : World) (hx : RdI w w.heap.size ao ws)
    (hlb : lb = bs.length) (hy : Reads w bo bs) (hbb : AllB bs) (h0 : bo = none → cb = 0) (hm : lb ≤ maxLen) :
    Calls Try.prog 3 #[.slice ao ws.length ca, .int .i64 nn, .slice bo lb cb] w fun e w' => e = .returned (.bool true) ∧ Below w.heap.size w w' := by
  unfold maxLen at hm
  have HG := Lib.hid (good_calls2 ao ca w.heap.size ws w hx)
  have HAw := Lib.hid awake_any
  have m1 := mask15
  obtain ⟨n1, hn1⟩ : ∃ n, n = ws.length := ⟨_, rfl⟩
  rw [← hn1] at HG ⊢
  have HY := Lib.hid hy; have HBb := Lib.hid hbb; have H0 := Lib.hid h0; have HLb := Lib.hid hlb
  obtain ⟨n, hn⟩ : ∃ n : Nat, nn % 16 = (n : Int) := ⟨(nn % 16).toNat, by omega⟩
  have hn15 : n ≤ 15 := by omega
  clear hx hy hn1 hbb h0 hlb
  by_cases hlong : (60 : Int) < lb
  · go_enter Try.func3, Try.ntmps3
    go_wp2_with fail
    refine HG.out.mono ?_
    rintro e w1 ⟨a9, c9, L, hgp, rfl, hr, hk⟩
    have HK := Lib.hid hk
    clear hk hgp hr
    go_wp2_with fail
    refine (HAw.out _).mono ?_
    rintro e w1 ⟨rfl, hk⟩
    have HK2 := Lib.hid (HK.out.trans hk)
    clear hk
    go_wp2
    go_ret
    exact ⟨rfl, HK2.out.belowNo (Below.refl _ _)⟩
  · go_enter Try.func3, Try.ntmps3
    go_wp2_with fail
    refine HG.out.mono ?_
    rintro e w1 ⟨a9, c9, L, ⟨hgp, hnn⟩, rfl, hr, hk⟩
    have HGp := Lib.hid hgp; have HRl := Lib.hid hr; have HK1 := Lib.hid hk
    obtain ⟨m, hm'⟩ : ∃ m, m = L.length := ⟨_, rfl⟩
    have HM := Lib.hid hm'
    have hm60 : m ≤ 60 := by have := hgp.few; omega
    rw [← hm'] at hnn ⊢
    have HNn := Lib.hid hnn
    clear hgp hr hk hm' hnn HG
    go_upto_region 5 with fail
    go_cut [8] from 33 to 39 (fun v8 wx => ∃ (a : Option Addr) (c q : Nat), v8 = .slice a q c ∧ q = n + m + n ∧ Hid (RdI wx wx.heap.size a (padZ n L)) ∧ Hid (Kept NoB w1 wx))
    case first =>
      obtain ⟨i0, hi, hz0, hz1, hz2⟩ := info_parts infoI
      have h16 : ∀ k, 1 ≤ k → k ≤ 2 → True := fun _ _ _ => trivial
      go_wp2_with (at_make; refine wpList_make_full _ rfl _ _ _ rfl 0 3 i0 (.int .i64 0) 1 Try.underlying22 hi hz0 hz1 .i64 .i64 _ _ n rfl rfl rfl rfl (by rw [hz2]; omega) (by unfold maxLen; omega) (Nat.zero_le _) ?_)
      intro w2 hown hgrow
      rw [toList_madeCells_one] at hown
      have hk2 : Kept NoB w1 w2 := (Kept.refl NoB w1).grown hgrow (fun k _ e => by cases e)
      have HOwn := Lib.hid hown; have HK2 := Lib.hid hk2
      clear hown hgrow hk2
      have hafter : ∀ (ta : Option Addr) (c' : Nat) (w3 : World), w3.ownsRow 0 3 1 (.slice ta (n + m) c') (n + m) (List.replicate n (.int .i64 0) ++ L.map (.int .i64)) → Kept NoB w1 w3 → (∀ k, (Value.slice ta (n + m) c').ownBlock = some k → w1.heap.size ≤ k) →
          ∃ (a'' : Option Addr) (c'' : Nat) (w4 : World), (Builtin.append_ #[22, 3] 22 #[.slice ta (n + m) c', .int .i64 (n : Int)]).run Try.prog w3 = .ok (.slice a'' (n + m + n) c'') w4 ∧
            Hid (RdI w4 w4.heap.size a'' (padZ n L)) ∧ Hid (Kept NoB w1 w4) := by
        intro ta c' w3 ho hk hf
        have e : List.replicate n (Value.int .i64 0) ++ L.map (Value.int .i64) ++ List.replicate n (Value.int .i64 0) = (padZ n L).map (.int .i64) := by unfold padZ; simp
        cases ta with
        | none =>
          rcases ho.2 with ⟨hv, hz⟩ | ⟨g, cc, cur, hv, _⟩
          · simp at hv
            have hn0 : n = 0 := by omega
            have hm0 : m = 0 := by omega
            obtain ⟨_, rfl⟩ := hv
            subst hn0
            subst hm0
            refine ⟨none, 0, w3, ?_, Lib.hid ?_, Lib.hid hk⟩
            · have ht : Try.prog.underlying 22 = some (.slice 3) := Try.underlying22
              have htn : Try.prog.underlying 3 = some (.int .i64) := rfl
              simp [Builtin.append_, run_underlying ht, run_underlying htn, sizeOf, typeInfo, hi, asInt, asIntOf, IntKind.wrap_i64]
            · intro i hi'
              have hp := pad_len 0 L
              have := HM.out
              omega
          · simp at hv
        | some ad' =>
          have hA : ∃ a', ad' = ⟨a', 0, none⟩ := by
            rcases ho.2 with ⟨hv, hz⟩ | ⟨g, cc, cur, hv, _⟩
            · simp at hv
            · simp at hv; exact ⟨g, hv.1⟩
          obtain ⟨a', rfl⟩ := hA
          have hf' := hf a' rfl
          obtain ⟨a'', c'', w4, h1, h2, h3, h4⟩ := run_app_zeros w3 22 a' (n + m) c' _ n ho (by omega) (by omega)
          refine ⟨some ⟨a'', 0, none⟩, c'', w4, h1, Lib.hid ?_, Lib.hid (hk.grown h3 (fun k hk e => by cases e; omega))⟩
          rw [e] at h2
          exact own_reads_int (by rw [pad_len, ← HM.out]) h2
      have HAf := Lib.hid hafter
      clear hafter
      cases a9 with
      | none =>
        obtain ⟨hm0, hc0⟩ := HNn.out rfl
        subst hm0
        subst hc0
        have hL0 : L = [] := List.eq_nil_of_length_eq_zero HM.out.symm
        obtain ⟨a'', c'', w4, hr, hR, hK⟩ := HAf.out _ n w2 (by rw [hL0]; simpa using HOwn.out) HK2.out (fun k hk => by simp [Value.ownBlock] at hk; omega)
        have HR := Lib.hid hr
        clear hr
        go_wp2_with (at_builtin; first | refine wpList_app_none rfl _ _ 22 rfl 3 i0 1 Try.underlying22 hi _ n _ rfl HOwn.out rfl ?_ | refine Lib.wpList_append_run _ rfl _ _ _ _ rfl _ _ rfl rfl _ _ HR.out ?_)
        go_meet
        exact ⟨_, _, _, rfl, rfl, hR, hK⟩
      | some ad =>
        have hrn : ∀ j u, (L.map (Value.int .i64))[j]? = some u → w2.cell? (ad.add j) = some u := by
          intro j u hu
          have hj : j < L.length := by have := (List.getElem?_eq_some_iff.1 hu).1; simpa using this
          obtain ⟨g, off, he, _, hc⟩ := HRl.out j hj
          cases he
          have := HK2.out.cell hc
          rw [addr_add, this, ← hu]
          simp [List.getD, hj]
        have HRn := Lib.hid hrn
        have hml : (L.map (Value.int .i64)).length = m * 1 := by rw [List.length_map, Nat.mul_one]; exact HM.out.symm
        have HMl := Lib.hid hml
        clear hrn hml
        go_wp2_with (at_builtin; refine wpList_app _ rfl _ _ 22 rfl 3 i0 (.int .i64 0) 1 8 Try.underlying22 hi hz0 hz1 hz2 rfl (by decide) _ n (List.replicate n (.int .i64 0)) rfl HOwn.out ad m c9 (L.map (.int .i64)) rfl HMl.out HRn.out ?d2 ?d3 ?d4 ?_)
        case d2 => intro u hu; obtain ⟨x, _, rfl⟩ := List.mem_map.1 hu; rfl
        case d3 => unfold maxLen; omega
        case d4 => omega
        intro v' w3 hown' hgrow hnew
        obtain ⟨ta, tc, rfl⟩ := own_shape2 hown'
        obtain ⟨a'', c'', w4, hr, hR, hK⟩ := HAf.out ta tc w3 hown' (HK2.out.grown hgrow (fun k hk e => by simp [Value.ownBlock] at e; omega)) (fun k hk => by
          rcases hnew k hk with h | h
          · simp [Value.ownBlock] at h; omega
          · have := HK2.out.size; omega)
        have HR := Lib.hid hr
        clear hr hown' hgrow hnew
        go_wp2_with (at_builtin; refine Lib.wpList_append_run _ rfl _ _ _ _ rfl _ _ rfl rfl _ _ HR.out ?_)
        go_meet
        exact ⟨_, _, _, rfl, rfl, hR, hK⟩
    case rest =>
    obtain ⟨a8, c8, q, rfl, hq, HRw, HKw⟩ := hcut
    obtain ⟨Z, hZ⟩ : ∃ Z, Z = padZ n L := ⟨_, rfl⟩
    have hZl : q = Z.length := by rw [hZ, pad_len, ← HM.out]; exact hq
    have hZs : Small 15 Z := by rw [hZ]; exact pad_small n L HGp.out.small
    have hZr : refS Z = 0 := by rw [hZ, pad_ref]; exact HGp.out.ref
    have hZk : kindS Z = kindS L := by rw [hZ, pad_kind]
    have hZ320 : Z.length ≤ 320 := by omega
    have hL320 : L.length ≤ 320 := by have := HM.out; omega
    have HPr := Lib.hid (fun T v p s f q => pad_read n L HGp.out.small T v p s f q)
    have HPc := Lib.hid (fun i hi => pad_code n L HGp.out.small i hi)
    rw [← hZ] at HRw HPr HPc
    have HZs := Lib.hid hZs; have HZr := Lib.hid hZr; have HZk := Lib.hid hZk; have HZl := Lib.hid hZl; have HQ := Lib.hid hq
    have hq90 : q ≤ 90 := by omega
    have HK0 := Lib.hid (HK1.out.trans HKw.out)
    have HRl0 := Lib.hid (HRl.out.keptNo HKw.out).room
    have HY0 := Lib.hid (HY.out.keptNo HK0.out)
    clear hZ hZl hZs hZr hZk hq HRl HKw HK1 HY HNn
    have HC1 := Lib.hid (codes_calls a9 c9 _ L wc HRl0.out HGp.out.small hL320 HGp.out.ref)
    rw [← HM.out] at HC1
    go_wp2_with fail
    refine HC1.out.mono ?_
    intro e w2 hp
    obtain ⟨a4, c4, rfl, _, hr4, hk⟩ := codes_read2 hp
    have hcl : (codesL L).length = m := by unfold codesL; rw [codesP_len]; exact HM.out.symm
    rw [hcl] at hr4 ⊢
    have HR4 := Lib.hid hr4; have HK2 := Lib.hid hk
    have HRw2 := Lib.hid (HRw.out.keptNo hk).room
    clear hp hr4 hk hcl HC1
    have HC2 := Lib.hid (codes_calls a8 c8 _ Z w2 HRw2.out HZs.out hZ320 HZr.out)
    rw [← HZl.out] at HC2
    go_wp2_with fail
    refine HC2.out.mono ?_
    intro e w3 hp
    obtain ⟨a5, c5, rfl, _, hr5, hk⟩ := codes_read2 hp
    have hcl : (codesL Z).length = q := by unfold codesL; rw [codesP_len]; exact HZl.out.symm
    rw [hcl] at hr5 ⊢
    have HR5 := Lib.hid hr5; have HK3 := Lib.hid (HK2.out.trans hk); have HK23 := Lib.hid hk
    clear hp hr5 hk hcl HC2 HRw2
    have HKd1 := Lib.hid (kind_calls a9 c9 _ L w3 (HRl0.out.keptNo HK3.out) HGp.out.small hL320)
    rw [← HM.out] at HKd1
    go_wp2_with fail
    refine HKd1.out.mono ?_
    rintro e w4 ⟨rfl, hk⟩
    have HK4 := Lib.hid (HK3.out.trans hk); have HK34 := Lib.hid hk
    clear hk HKd1
    have HKd2 := Lib.hid (kind_calls a8 c8 _ Z w4 (HRw.out.keptNo HK4.out) HZs.out hZ320)
    rw [← HZl.out, HZk.out] at HKd2
    go_wp2_with fail
    refine HKd2.out.mono ?_
    rintro e w5 ⟨rfl, hk⟩
    have HK5 := Lib.hid (HK4.out.trans hk); have HK35 := Lib.hid (HK34.out.trans hk); have HK25 := Lib.hid (HK23.out.trans (HK34.out.trans hk))
    clear hk HKd2 HK34 HK23
    have q1 : (kindS L != kindS L) = false := by simp
    go_wp2
    go_loopw [13] (fun v13 wr => ∃ i : Nat, v13 = .int .i64 (i : Int) ∧ i ≤ m ∧ Hid (Kept NoB w5 wr)) (fun v13 _ => m - (intOf v13).toNat)
    case atStart => exact ⟨0, rfl, by omega, Kept.refl _ _⟩
    case round =>
      obtain ⟨i, rfl, him, HKi⟩ := hrel
      by_cases hlt : (i : Int) < m
      · have hil : i < L.length := by have := HM.out; omega
        obtain ⟨g4, rfl, x0⟩ := HR4.out i (by omega)
        obtain ⟨g5, rfl, x1⟩ := HR5.out (n + i) (by have := HQ.out; omega)
        rw [codesL_get _ _ hil] at x0
        rw [codesL_get _ _ (by have := HZl.out; have := HQ.out; omega), HPc.out i hil] at x1
        have d0 := HKi.out.cell (HK25.out.cell x0)
        have d1 := HKi.out.cell (HK35.out.cell x1)
        obtain ⟨ci, hci⟩ : ∃ x, x = codeAt L i := ⟨_, rfl⟩
        rw [← hci] at d0 d1
        obtain ⟨j, hj⟩ : ∃ j, j = n + i := ⟨_, rfl⟩
        have e1 : IntKind.i64.wrap ((n : Int) + (i : Int)) = (j : Int) := by rw [IntWalk.i64_in _ (by omega)]; omega
        have hjq : j < q := by have := HQ.out; omega
        rw [← hj] at d1
        have q2 : (ci != ci) = false := by simp
        clear x0 x1 hci hj
        go_upto_region 13 with fail
        go_quiet (fail)
        have HKq := Lib.hid (HKi.out.drewN nq)
        go_wp2
        go_roundw
        case rel => exact ⟨i + 1, by go_num, by omega, HKq⟩
        case measure => simp [intOf]; omega
      · have HK6 := Lib.hid (HK5.out.trans HKi.out)
        clear HR4 HR5 HK25 HK35
        have HNa := Lib.hid (new_calls a9 c9 _ L wr (HRl0.out.keptNo HK6.out) HGp.out.small hL320 HGp.out.ref)
        rw [← HM.out] at HNa
        go_wp2_with fail
        refine HNa.out.mono ?_
        rintro e w7 ⟨D1, rfl, _, hD, hk⟩
        have HD1 := Lib.hid hD.toB; have HK7 := Lib.hid (HK6.out.trans hk)
        clear hD hk HNa HK5 HKi HK2 HK3 HK4 HK6
        have HNb := Lib.hid (new_calls a8 c8 _ Z w7 (HRw.out.keptNo HK7.out) HZs.out hZ320 HZr.out)
        rw [← HZl.out] at HNb
        go_wp2_with fail
        refine HNb.out.mono ?_
        rintro e w8 ⟨D2, rfl, _, hD, hk⟩
        have HD2 := Lib.hid hD.toB; have HK8 := Lib.hid (HK7.out.trans hk); have HD1' := Lib.hid ((HD1.out.kept hk (fun _ _ h => h)))
        have hsz8 := hk.size
        clear hD hk HNb HD1 HK7
        have HY8 := Lib.hid (HY0.out.keptNo HK8.out)
        have HN : Hid (∀ W, Kept NoB w8 W → Calls Try.prog 13 #[.slice bo lb cb] W (NewR W bs)) := fun W hk => by
          have h := newr_any bo cb bs W (HY8.out.kept hk (fun _ _ h => h)) (by have := HLb.out; omega) HBb.out
          rwa [← HLb.out] at h
        go_wp2_with fail
        refine (HN.out _ (Kept.refl _ _)).mono ?_
        rintro e w9 ⟨R, aoR, capR, rfl, hR, hRf, hRo, hk⟩
        have HRa := Lib.hid hR; have HK9 := Lib.hid hk
        have hRf1 := hRf
        have hRlt := obj_lt hR.1
        clear hR hRf hRo hk
        go_wp2_with fail
        refine (HN.out _ HK9.out).mono ?_
        rintro e w10 ⟨S, aoS, capS, rfl, hR, hRf, hRo, hk⟩
        have HS := Lib.hid (show Rd2 w8 w10 R aoR capR S aoS capS bs 0 0 from ⟨HRa.out.keptNo hk, hR, hRf1, by have := HK9.out.size; omega, by omega, (HK9.out.trans hk).belowNo (Below.refl _ _)⟩)
        clear hR hRf hRo hk HRa HK9 HN
        go_wp2
        go_loopw [20, 21, 22, 23, 24] (fun v20 _ _ _ _ wr => ∃ i p : Nat, v20 = .int .i64 (i : Int) ∧ i ≤ p ∧ Hid (Rd2 w8 wr R aoR capR S aoS capS bs p p)) (fun v20 _ _ _ _ _ => 8 * bs.length + 1 - (intOf v20).toNat)
        case atStart => exact ⟨0, 0, rfl, by omega, HS⟩
        case round =>
          obtain ⟨k, p, rfl, hkp, HS2⟩ := hrel
          have hpl := HS2.out.a.2.2.2.1
          have hlt : (k : Int) < 8 * (lb : Int) + 1 := by have := HLb.out; omega
          obtain ⟨T, hT, hT15, hTp, hT0⟩ := min3_at (8 * bs.length) p hpl
          rw [show ((8 * bs.length : Nat) : Int) = 8 * (bs.length : Int) from by omega] at hT
          have HKw := Lib.hid (Kept.ofBelow (Kept.refl NoB _) HS2.out.bel)
          have hRw8 := HS2.out.fa
          have HRa := Lib.hid (read_calls L D1 _ R aoR capR bs p T _ (HD1'.out.kept HKw.out (fun _ _ h => h)) HS2.out.a (Nat.le_trans hsz8 hRw8) HGp.out.small hL320 hT)
          have HT := Lib.hid hT
          obtain ⟨V, hV⟩ : ∃ V, V = bitsAt bs p T := ⟨_, rfl⟩
          rw [← hV] at HRa
          have HVe := Lib.hid hV
          clear hT hV
          go_wp2_with fail
          refine HRa.out.mono ?_
          rintro e w11 ⟨s, f, p', rfl, hrs, hR8, hk8⟩
          have HS3 := Lib.hid (HS2.out.stepA hR8 hk8)
          have HRs := Lib.hid hrs
          clear hR8 hk8 hrs HRa HS2
          have HKw2 := Lib.hid (Kept.ofBelow (Kept.refl NoB _) HS3.out.bel)
          have HRb := Lib.hid (read_calls Z D2 _ S aoS capS bs p T w11 (HD2.out.kept HKw2.out (fun _ _ h => h)) HS3.out.b HS3.out.fb HZs.out hZ320 HT.out)
          rw [← HVe.out] at HRb
          go_wp2_with fail
          refine HRb.out.mono ?_
          rintro e w12 ⟨s', f', p'', rfl, hrs', hR9, hk9⟩
          obtain ⟨s2, hr2, hs2⟩ := HPr.out T V p s f p' HRs.out
          obtain ⟨rfl, rfl, rfl⟩ := read_det Z hZ320 HZs.out T V p _ _ _ _ _ _ hr2 hrs'
          have HS4 := Lib.hid (HS3.out.stepB hR9 hk9)
          have HStp := Lib.hid HRs.out.step
          have HS2' := Lib.hid hs2
          clear hR9 hk9 hrs' HRb HS3 HRs hr2 hs2
          have HAa := Lib.hid (at_same _ _ _ _ _ _ HS4.out.a)
          have HAb := Lib.hid (at_same _ _ _ _ _ _ HS4.out.b)
          have q1 : (f != f) = false := by simp
          have q3 : ((p' : Int) != (p' : Int)) = false := by simp
          rcases HStp.out with ⟨hf0, hpq, hqT, hT1⟩ | ⟨hf0, hqp⟩
          · subst hf0
            obtain ⟨hs2, hs0, hsl⟩ := HS2'.out rfl
            have e1 : IntKind.i64.wrap (s + (n : Int)) = s2 := by rw [IntWalk.i64_in _ (by omega)]; omega
            have q2 : (s2 != s2) = false := by simp
            clear hs2 hs0 hsl
            go_wp2_with fail
            refine HAa.out.mono ?_
            rintro e w13 ⟨rfl, rfl⟩
            go_wp2_with fail
            refine HAb.out.mono ?_
            rintro e w14 ⟨rfl, rfl⟩
            go_wp2
            go_roundw
            case rel => exact ⟨k + 1, p', by go_num, by omega, HS4⟩
            case measure => simp [intOf]; omega
          · have q4 : (f != 0) = true := by simpa using hf0
            have q5 : (f == 0) = false := by simpa using hf0
            go_wp2_with fail
            refine HAa.out.mono ?_
            rintro e w13 ⟨rfl, rfl⟩
            go_wp2_with fail
            refine HAb.out.mono ?_
            rintro e w14 ⟨rfl, rfl⟩
            go_wp2_with fail
            refine (HAw.out _).mono ?_
            rintro e w15 ⟨rfl, hk⟩
            have HKz := Lib.hid (hk.belowNo HS4.out.bel)
            clear hk
            go_wp2
            go_ret
            exact ⟨rfl, (Kept.ofBelow (HK0.out.trans HK8.out) HKz.out).belowNo (Below.refl _ _)⟩

theorem canonTail_law (v0 v1 v2 : Value) (w : World) (r0 : Arg w 22 v0) (r1 : Arg w 3 v1) (r2 : Arg w 23 v2) : Calls Try.prog 3 #[v0, v1, v2] w fun e w' => e = .returned (.bool true) ∧ Below w.heap.size w w' := by
  obtain ⟨ao, ca, ws, rfl, _, _, hx, _, _⟩ := r0.ints
  obtain ⟨nn, rfl, _⟩ := r1.int rfl
  obtain ⟨bo, cb, bs, rfl, hc, hmb, hr, hbb, h0⟩ := r2.bytes Try.underlying23
  exact wide_walk ao ca ws nn bo cb bs.length bs w hx rfl hr hbb h0 (by omega)
end Go.Proofs.Ytokdlmpnokmniaa
