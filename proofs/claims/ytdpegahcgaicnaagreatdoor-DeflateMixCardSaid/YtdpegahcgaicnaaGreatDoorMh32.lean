/-
  Inflater.put: a copy.
  readSymbol.
  readItem.
-/
import Derived.Test.YtdpegahcgaicnaaGreatDoorMh31
namespace Go.Proofs.YtdpegahcgaicnaaGreatDoor
open Go.RowKit
set_option linter.unusedVariables false
set_option linter.unusedSimpArgs false

set_option maxRecDepth 20000 in
set_option maxHeartbeats 8000000 in
theorem put_copy {lo : Nat} {w : World} {D : Nat} {v : IV} {m : Md} {out bs : List Int} {S : Nat → Prop} {R : Nat} {ao : Option Addr} {cap p : Nat} (h : InfS lo w D v m out bs S R ao cap p) (hlo : lo ≤ w.heap.size) (L Dd : Nat) (hL : 3 ≤ L ∧ L ≤ 258) (hDd : 1 ≤ Dd ∧ Dd ≤ 32768) (hsm : out.length ≤ 900000) :
    Calls Tryz.prog 148 #[.pointer (some ⟨D, 0, none⟩), .agg #[.int .i64 (L : Int), .int .i64 (Dd : Int), .int .u8 0]] w fun e w' => ∃ er, e = .returned (.int .i64 er) ∧ PtR lo w D v m out bs S R ao cap p ⟨(L : Int), (Dd : Int), 0⟩ er w' := by
  obtain ⟨i0, hi, hz0, hz1, hz2⟩ := info_parts info5
  have hk : Kept NoB w (w.alloc (.cells #[.int .i64 (L : Int), .int .i64 (Dd : Int), .int .u8 0] 32)) := (Kept.refl _ _).alloc _
  have hload : ∀ W : World, W.heap[w.heap.size]? = some (.cells #[.int .i64 (L : Int), .int .i64 (Dd : Int), .int .u8 0] 32 (0, 0)) → W.cell? ⟨w.heap.size, 0, none⟩ = some (.int .i64 (L : Int)) ∧ W.cell? ⟨w.heap.size, 1, none⟩ = some (.int .i64 (Dd : Int)) ∧ W.cell? ⟨w.heap.size, 2, none⟩ = some (.int .u8 0) := fun W hk =>
    ⟨by rw [obj_cell hk 0]; rfl, by rw [obj_cell hk 1]; rfl, by rw [obj_cell hk 2]; rfl⟩
  obtain ⟨a0, a1, a2⟩ := hload _ (heap_alloc_new w _)
  have HLoad := Lib.hid hload; clear hload
  obtain ⟨wnd, hwn, hsx, hwl⟩ := h.win
  obtain ⟨ka, kc, hsk⟩ := own_shape h.sink.own
  obtain ⟨wa, wc, hwv⟩ := own_shape hwn.own
  obtain ⟨W, hW⟩ : ∃ W, W = w.alloc (.cells #[.int .i64 (L : Int), .int .i64 (Dd : Int), .int .u8 0] 32) := ⟨_, rfl⟩
  rw [← hW] at hk a0 a1 a2
  have ho := h.obj.kept hk (fun e => e)
  have c0 := ho.c0
  have c1 := ho.c1
  have c2 := ho.c2
  rw [hsk] at c0
  rw [hwv] at c2
  obtain ⟨q, hq⟩ : ∃ q : Nat, (q : Int) = (v.most : Int) - out.length := ⟨v.most - out.length, by have := h.fit; omega⟩
  have HLen := Lib.hid (fun n => slen_q (W.drewN n) D ka out.length kc c0)
  have HLeft := Lib.hid (fun n => sleft_q (W.drewN n) D ka out.length kc v.most q c0 c1 h.big h.fit hq)
  have hfit := h.fit
  have hbig := h.big
  obtain ⟨N, hN⟩ : ∃ N, N = out.length := ⟨_, rfl⟩
  obtain ⟨Mx, hMx⟩ : ∃ Mx, Mx = v.most := ⟨_, rfl⟩
  have H := Lib.hid h; have HK := Lib.hid hk; have HWn := Lib.hid hwn; have HSx := Lib.hid hsx; have HSk := Lib.hid hsk; have HWv := Lib.hid hwv
  rw [← hN] at hsm hfit hq HLen c0
  rw [← hMx] at hfit hbig hq c1
  clear h hk hwn hsx hsk hwv ho
  have HN := Lib.hid hN; have HMx := Lib.hid hMx
  obtain ⟨hL1, hL2⟩ := hL
  obtain ⟨hD1, hD2⟩ := hDd
  have hpl : (Tk.put ⟨(L : Int), (Dd : Int), 0⟩ out).length = N + L := by
    rw [put_len, hN]
    simp only
    rw [if_neg (by omega)]; simp
  have HPl := Lib.hid hpl
  clear hN hMx hpl
  go_enter Tryz.func148, Tryz.ntmps148
  have hmx : (if (L : Int) < 1 then (1 : Int) else (L : Int)) = (L : Int) := by rw [if_neg (by omega)]
  have hL0 : ¬ (L : Int) < 1 := by omega
  by_cases hdd : N < Dd
  · have hdd' : (N : Int) < (Dd : Int) := by omega
    go_upto_region 2 with fail
    rw [← hW]
    have HW := Lib.hid hW; clear hW
    go_quiet ((go_at_call 161; with_reducible exact Calls.quiet_of (HLen.out _)))
    go_wp2
    go_ret
    refine ⟨4, rfl, ?_⟩
    unfold PtR
    rw [if_pos (by rw [← HN.out]; simpa using hdd)]
    exact ⟨rfl, HK.out.drewN _⟩
  · have hdd' : ¬ (N : Int) < (Dd : Int) := by omega
    go_upto_region 2 with fail
    rw [← hW]
    have HW := Lib.hid hW; clear hW
    go_quiet ((go_at_call 161; with_reducible exact Calls.quiet_of (HLen.out _)))
    go_wp2_with fail
    refine (HLeft.out _).mono ?_
    rintro e w2 ⟨rfl, k2, rfl⟩
    by_cases hq0 : q < L
    · have hq0' : (q : Int) < (L : Int) := by omega
      go_wp2
      go_ret
      refine ⟨5, rfl, ?_⟩
      unfold PtR
      rw [if_neg (by rw [← HN.out]; simpa using hdd), if_pos (by rw [HPl.out, ← HMx.out]; omega)]
      exact ⟨rfl, HK.out.drewN _⟩
    · have hq1 : ¬ (q : Int) < (L : Int) := by omega
      obtain ⟨W2, hW2⟩ : ∃ W2, W2 = (W.drewN nq).drewN k2 := ⟨_, rfl⟩
      have HK2 : Hid (Kept NoB w W2) := by rw [hW2]; exact (HK.out.drewN _).drewN _
      have HBx : Hid (W2.heap[w.heap.size]? = some (.cells #[.int .i64 (L : Int), .int .i64 (Dd : Int), .int .u8 0] 32 (0, 0))) := by rw [hW2]; show W.heap[w.heap.size]? = _; rw [HW.out]; exact heap_alloc_new _ _
      have b0 : W2.cell? ⟨w.heap.size, 0, none⟩ = some (.int .i64 (L : Int)) := by rw [hW2]; exact a0
      have d2 : W2.cell? ⟨D, 2, none⟩ = some (.slice wa wnd.length wc) := by rw [hW2]; exact c2
      rw [← hW2]
      clear a0 a1 a2 c0 c1 c2 hW2
      have HO2 : Hid (W2.ownsRow 0 5 1 (.slice wa wnd.length wc) wnd.length (wnd.map (.int .u8))) := by
        have := HK2.out.row HWn.out.own (fun _ _ h => h)
        rw [HWv.out] at this; exact this
      have hdw : Dd ≤ wnd.length := by
        rcases HSx.out.2 with e | e
        · rw [e, ← HN.out]; omega
        · omega
      have hLz : ((L : Int) == 0) = false := by simp; omega
      have hlnF := Lib.hid (fun j => copyN_len Dd j wnd)
      obtain ⟨Wl, hWl⟩ : ∃ Wl, Wl = wnd.length := ⟨_, rfl⟩
      have hwl2 : Wl < 98304 := by rw [hWl]; exact hwl
      have hdw2 : Dd ≤ Wl := by rw [hWl]; exact hdw
      have HWl := Lib.hid hWl; have HHwl := Lib.hid hwl
      clear hwl hdw
      rw [← hWl] at d2
      clear hWl
      go_wp2_with fail
      go_loopw [6, 39] (fun u i wr => ∃ (j : Nat) (ao' : Option Addr) (cap' : Nat), j ≤ L ∧ i = .int .i64 j ∧ u = .slice ao' (Wl + j) cap' ∧ Hid (wr.ownsRow 0 5 1 (.slice ao' (Wl + j) cap') (Wl + j) ((copyN Dd j wnd).map (.int .u8))) ∧
        Hid (Kept (OwnB v.wn) W2 wr) ∧ Hid (∀ k, (Value.slice ao' (Wl + j) cap').ownBlock = some k → v.wn.ownBlock = some k ∨ W2.heap.size ≤ k)) (fun _ i _ => L - (intOf i).toNat)
      case atStart => exact ⟨0, wa, wc, by omega, rfl, rfl, by rw [HWl.out]; exact HO2.out, Kept.refl _ _, fun k hk => .inl (by rw [HWv.out, ← HWl.out]; exact hk)⟩
      case round =>
        obtain ⟨j, ao', cap', hj, rfl, rfl, HOwn, HKr, HNw⟩ := hrel
        by_cases hlt : (j : Int) < L
        · obtain ⟨g, rfl⟩ : ∃ g, ao' = some ⟨g, 0, none⟩ := by
            rcases HOwn.out.2 with ⟨_, hz⟩ | ⟨g, c, cur, hv, _⟩
            · omega
            · simp at hv; exact ⟨g, hv.1⟩
          obtain ⟨xs, hxs⟩ : ∃ xs, xs = copyN Dd j wnd := ⟨_, rfl⟩
          have hlen : xs.length = Wl + j := by rw [hxs, hlnF.out, HWl.out]
          obtain ⟨q', hq'⟩ : ∃ q', q' = Wl + j - Dd := ⟨_, rfl⟩
          have hsub : ((Wl + j : Nat) : Int) - (Dd : Int) = (q' : Int) := by omega
          have hsub2 : (Wl : Int) + (j : Int) - (Dd : Int) = (q' : Int) := by omega
          have hql : q' < Wl + j := by omega
          have hqw : IntKind.i64.wrap (q' : Int) = q' := IntWalk.i64_in _ (by omega)
          have hcz : wr.cell? ⟨g, q', none⟩ = some (.int .u8 (xs.getD q' 0)) := by
            have := HOwn.out.cellAt q' (by omega)
            rw [this, ← hxs]; simp [List.getD, show q' < xs.length by omega]
          have hsucc : copyN Dd (j + 1) wnd = xs ++ [xs.getD q' 0] := by rw [hxs]; show _ ++ [_] = _; rw [← hxs, hlen, hq']
          have hbx : wr.heap[w.heap.size]? = _ := HKr.out.obj HBx.out (fun e => by have := own_lt HWn.out.own _ e; omega)
          obtain ⟨a0', a1', a2'⟩ := HLoad.out wr hbx
          have HS := Lib.hid hsucc
          rw [← hxs] at HOwn
          generalize hz : xs.getD q' 0 = z at hcz HS
          have HHl := Lib.hid hlen
          clear hz hq' hsucc hxs hbx b0 hlen
          have hwj : Wl + j ≤ 100000 := by omega
          obtain ⟨n, hn'⟩ : ∃ n, n = Wl + j := ⟨_, rfl⟩
          rw [← hn'] at hsub hql hwj HOwn HNw ⊢
          have hsub3 : (n : Int) - (Dd : Int) = (q' : Int) := by omega
          have HN' := Lib.hid hn'
          clear hn' hsub hsub2
          go_wp2_with (at_builtin; refine wpList_app _ rfl _ _ 22 rfl 5 i0 (.int .u8 0) 1 1 Tryz.underlying22 hi hz0 hz1 hz2 rfl (by decide) _ n (xs.map (.int .u8)) rfl (HOwn.out.alloc _) ⟨wr.heap.size, 0, none⟩ 1 1 [.int .u8 z] rfl rfl (cell_one_new _ _ _) ?d2 ?d3 ?d4 ?_)
          case d2 => first | rfl | (intro u hu; simp at hu; subst hu; rfl)
          case d3 => unfold maxLen; omega
          case d4 => omega
          intro v' w3 hown' hgrow hnew
          obtain ⟨ao2, cap2, rfl⟩ := own_shape hown'
          have HG := Lib.hid hgrow; have HNew := Lib.hid hnew; have HOwn2 := Lib.hid hown'
          clear hgrow hnew hown'
          go_wp2
          go_roundw
          case rel =>
            have e : Wl + (j + 1) = n + 1 := by rw [HN'.out]; omega
            refine ⟨j + 1, ao2, cap2, by omega, by go_num, by rw [e], ?_, ?_, ?_⟩
            · rw [e, HS.out, List.map_append]; exact HOwn2.out
            · exact ((HKr.out).alloc _).grown HG.out (fun k hk e2 => by
                rcases HNw.out k e2 with e3 | e3
                · exact e3
                · omega)
            · rw [e]
              intro k hk
              rcases HNew.out k hk with e2 | e2
              · exact HNw.out k e2
              · right
                have h2 := HKr.out.size
                omega
          case measure => simp [intOf]; omega
        · have hjl : j = L := by omega
          subst hjl
          obtain ⟨x, hx, hxl⟩ := copyN_ex Dd j wnd
          have hcp : copyN Dd j out = out ++ x := by
            obtain ⟨⟨pre, e⟩, _⟩ := HSx.out
            rw [e, copyN_app Dd j pre wnd hD1 (by rw [← HWl.out]; exact hdw2), hx, List.append_assoc]
          have hput : Tk.put ⟨(j : Int), (Dd : Int), 0⟩ out = out ++ x := by
            unfold Tk.put
            rw [if_neg (by simp only; omega)]
            simpa using hcp
          obtain ⟨g, rfl⟩ : ∃ g, ao' = some ⟨g, 0, none⟩ := by
            rcases HOwn.out.2 with ⟨_, hz⟩ | ⟨g, c, cur, hv, _⟩
            · omega
            · simp at hv; exact ⟨g, hv.1⟩
          have hxa : AllB x := by
            have h0 := copyN_all Dd j out H.out.all
            rw [hcp] at h0
            exact fun b hb => h0 b (List.mem_append_right _ hb)
          have HP := Lib.hid (H.out.putCalls (k := j) hlo ((HK2.out.mono (fun _ _ e => e.elim)).trans HKr.out) HWn.out HSx.out HHwl.out (x := x) (g := g) (n := Wl + j) (c := cap') (by rw [← hx]; exact HOwn.out)
            (by rcases HNw.out g rfl with e | e
                · exact .inl e
                · right; have := HK2.out.size; omega) (by rw [hxl, HWl.out]) hxl (j : Int) rfl (by omega) hxa (by rw [← HN.out, ← HMx.out]; omega) (by rw [← HN.out]; omega) (by omega))
          have HPt := Lib.hid hput
          clear hx hxl hcp hput hxa
          go_wp2_with fail
          refine HP.out.mono ?_
          rintro e w4 ⟨rfl, hk4, sk', wn', hI⟩
          have HI := Lib.hid hI; have HK4 := Lib.hid hk4
          clear hI hk4
          go_wp2
          go_ret
          refine ⟨0, rfl, ?_⟩
          unfold PtR
          rw [if_neg (by rw [← HN.out]; simpa using hdd), if_neg (by rw [HPl.out, ← HMx.out]; omega), HPt.out]
          exact ⟨rfl, HK4.out, sk', wn', HI.out⟩
end Go.Proofs.YtdpegahcgaicnaaGreatDoor

namespace Go.Proofs.YtdpegahcgaicnaaGreatDoor
open Go.RowKit
set_option linter.unusedVariables false
set_option linter.unusedSimpArgs false

theorem symLen_big (s : Nat) (w : World) (h : 286 ≤ s) (h2 : s ≤ 1000) : Calls Tryz.prog 87 #[.int .i64 (s : Int)] w fun e w' => e = .returned (.tuple #[.int .i64 0, .int .i64 0, .bool false]) ∧ w = w' := by
  have h1 : ¬ (s : Int) < 257 := by omega
  have h3 : (285 : Int) < (s : Int) := by omega
  go_enter Tryz.func87, Tryz.ntmps87
  go_wp2
  go_ret3
  exact ⟨rfl, rfl⟩
theorem symDist_big (s : Nat) (w : World) (h : 30 ≤ s) (h2 : s ≤ 1000) : Calls Tryz.prog 88 #[.int .i64 (s : Int)] w fun e w' => e = .returned (.tuple #[.int .i64 0, .int .i64 0, .bool false]) ∧ w = w' := by
  have h1 : ¬ (s : Int) < 0 := by omega
  have h3 : (29 : Int) < (s : Int) := by omega
  go_enter Tryz.func88, Tryz.ntmps88
  go_wp2
  go_ret3
  exact ⟨rfl, rfl⟩
theorem symLenT (s : Nat) (w : World) (h : 257 ≤ s) (h2 : s ≤ 285) : Calls Tryz.prog 87 #[.int .i64 (s : Int)] w fun e w' => e = .returned (.tuple #[.int .i64 ((lenB (s : Int) : Nat) : Int), .int .i64 ((lenX (s : Int) : Nat) : Int), .bool true]) ∧ w = w' := by
  by_cases h5 : s = 285
  · subst h5
    exact symLen_last w
  · have := symLen_any (s - 257) w (by omega)
    rw [show 257 + (s - 257) = s by omega] at this
    unfold lenB lenX
    rw [if_neg (by omega), if_neg (by omega), show ((s : Int) - 257).toNat = s - 257 by omega]
    exact this
theorem lenB_bd : ∀ i, i < 29 → 3 ≤ lenB ((257 + i : Nat) : Int) ∧ lenB ((257 + i : Nat) : Int) + 2 ^ lenX ((257 + i : Nat) : Int) ≤ 259 ∧ lenX ((257 + i : Nat) : Int) ≤ 5 := by decide +kernel
theorem db_bd : ∀ i, i < 30 → 1 ≤ db i ∧ db i + 2 ^ de i ≤ 32769 ∧ de i ≤ 13 := by decide +kernel
theorem ReadS.is {code : List Int} {T v p q : Nat} {s f : Int} (h : ReadS code T v p s f q) (h0 : f = 0) (hl : code.length ≤ 320) : ∃ i : Nat, s = (i : Int) ∧ i < 320 := by
  rcases h with ⟨n, i, _, _, h3, _, _, _, h8, _, _⟩ | ⟨_, _, h1, h2⟩
  · exact ⟨i, h8, by omega⟩
  · rw [h0] at h1
    split at h1 <;> exact absurd h1 (by decide)
set_option maxRecDepth 20000 in
set_option maxHeartbeats 8000000 in
theorem readSymbol_any {lo : Nat} {w : World} {D : Nat} {v : IV} {lit dist : List Int} {out bs : List Int} {S : Nat → Prop} {R : Nat} {ao : Option Addr} {cap p : Nat} (h : InfS lo w D v (.sym lit dist) out bs S R ao cap p) (hlo : lo ≤ w.heap.size) (hsm : out.length ≤ 900000) :
    Calls Tryz.prog 128 #[.pointer (some ⟨D, 0, none⟩), .pointer (some ⟨R, 0, none⟩)] w fun e w' => ∃ er, e = .returned (.int .i64 er) ∧ ItemW lo w D v (.sym lit dist) out bs R ao cap p er w' := by
  obtain ⟨hcl, hcd, Dl, Dd, hli, hdi, gl, gd⟩ := h.mode
  have c9 := h.obj.c9
  rw [hli] at c9
  have hSR : ¬ S R := fun e => (h.s R e).2.2.2.1 rfl
  have hpl := h.rd.2.2.2.1
  obtain ⟨T, hT⟩ : ∃ T : Nat, min3 15 (8 * bs.length - p) = T := ⟨(min3 15 (8 * bs.length - p)).toNat, by unfold min3; omega⟩
  have HRd := Lib.hid (read_callsG lit Dl S R ao cap bs p T w gl h.rd hSR hcl.2.1 hcl.1 hT)
  have H := Lib.hid h; have HCl := Lib.hid hcl; have HCd := Lib.hid hcd; have HLi := Lib.hid hli; have HDi := Lib.hid hdi; have HT := Lib.hid hT; have HSR := Lib.hid hSR
  clear h hcl hcd hli hdi gl gd hSR hT
  go_enter Tryz.func128, Tryz.ntmps128
  go_wp2_with fail
  refine HRd.out.mono ?_
  rintro e w1 ⟨s, f, q, rfl, hS, hr1, hk1⟩
  have HSy : Hid (SymR bs lit p s f q) := Lib.hid ⟨T, HT.out, hS⟩
  have HRS := Lib.hid hS
  have HI1 := Lib.hid (H.out.moved hlo hk1 (fun _ e => e) hr1)
  have HK1 := Lib.hid hk1
  have hlo1 : lo ≤ w1.heap.size := by have := hk1.size; omega
  have HL1 : Hid (Kept (LoB lo) w w1) := Lib.hid (hk1.mono (fun k _ e => by unfold OneB at e; subst e; exact H.out.lowR))
  clear hS hr1 hk1 HRd c9
  by_cases hf : f = 0
  · subst hf
    obtain ⟨i, rfl, hi320⟩ := HRS.out.is rfl HCl.out.1
    have hpq := HSy.out.le.2 rfl
    by_cases hs1 : (i : Int) < 256
    · have hw8 : IntKind.u8.wrap (i : Int) = (i : Int) := by rw [IntWalk.u8_in _ (by omega)]
      have HP := Lib.hid (put_lit HI1.out hlo1 (i : Int) (by omega) hsm)
      go_wp2_with fail
      refine HP.out.mono ?_
      rintro e w2 ⟨er, rfl, hP⟩
      have HPt := Lib.hid hP
      clear hP HP
      go_wp2
      go_ret
      have hP := HPt.out
      unfold PtR at hP
      rw [if_neg (by simp)] at hP
      have hpl2 : (Tk.put ⟨0, 0, (i : Int)⟩ out) = out ++ [(i : Int)] := by unfold Tk.put; rw [if_pos rfl]
      rw [hpl2] at hP
      by_cases hm : v.most < (out ++ [(i : Int)]).length
      · rw [if_pos hm] at hP
        obtain ⟨rfl, hk⟩ := hP
        refine ⟨5, rfl, H.out.fails hlo (HK1.out.trans (hk.mono (fun _ _ e => e.elim))) (fun _ e => e) (HI1.out.rd.keptNo hk) 5 (by decide) ⟨0, .fin, false, [], ?_⟩⟩
        unfold ItemR
        refine ⟨_, 0, q, HSy.out, ?_⟩
        rw [List.length_append, List.length_singleton] at hm
        rw [if_neg (by decide), if_pos hs1, if_neg (by omega)]
      · rw [if_neg hm] at hP
        obtain ⟨rfl, hk, sk', wn', hI⟩ := hP
        rw [List.length_append, List.length_singleton] at hm
        refine ⟨0, rfl, HL1.out.trans hk, _, _, _, _, _, hI, rfl, rfl, rfl, ⟨rfl, rfl, rfl⟩, ?_⟩
        rw [if_pos rfl]
        refine ⟨Steps.one ?_, hpq⟩
        unfold ItemR
        refine ⟨_, 0, q, HSy.out, ?_⟩
        rw [if_neg (by decide), if_pos hs1, if_pos (by omega)]
        exact ⟨rfl, rfl, rfl, rfl, rfl⟩
    · by_cases hs2 : i = 256
      · subst hs2
        have HE := Lib.hid (endBlock_any w1 D v HI1.out.obj)
        go_wp2_with fail
        refine HE.out.mono ?_
        rintro e w2 ⟨rfl, ho2, hk2⟩
        have HO2 := Lib.hid ho2; have HK2 := Lib.hid hk2
        clear ho2 hk2 HE
        go_wp2
        go_ret
        have hT := H.out.turn hlo HK1.out HI1.out.rd HK2.out HO2.out rfl rfl rfl rfl (m' := endM v.la) (endM_nx _).symm H.out.er (fun _ e => e) (fun _ e => .inl e) (by cases hla : v.la <;> trivial) (H.out.fixAt HK1.out HK2.out rfl rfl)
        refine ⟨0, rfl, hT.2, _, _, _, _, _, hT.1, rfl, rfl, rfl, ⟨rfl, rfl, rfl⟩, ?_⟩
        rw [if_pos rfl]
        refine ⟨Steps.one ?_, hpq⟩
        unfold ItemR
        refine ⟨_, 0, q, HSy.out, ?_⟩
        rw [if_neg (by decide), if_neg (by decide), if_pos (show ((256 : Nat) : Int) = 256 from rfl)]
        exact ⟨rfl, rfl, rfl, rfl, rfl⟩
      · have hs3 : ((i : Int) == 256) = false := by simp; omega
        have hs2' : ¬ (i : Int) = 256 := by omega
        have HS1 := Lib.hid (show ¬ (i : Int) < 256 by omega); have HS2 := Lib.hid hs2'
        by_cases hbig : 286 ≤ i
        · have HSL := Lib.hid (symLen_big i w1 hbig (by omega))
          have HRN := Lib.hid (readNumber_bad w1 R 0 0)
          go_wp2_with fail
          refine HSL.out.mono ?_
          rintro e w2 ⟨rfl, rfl⟩
          go_wp2_with fail
          refine HRN.out.mono ?_
          rintro e w2 ⟨rfl, rfl⟩
          go_wp2
          go_ret
          refine ⟨3, rfl, H.out.fails hlo HK1.out (fun _ e => e) HI1.out.rd 3 (by decide) ⟨0, .fin, false, [], ?_⟩⟩
          unfold ItemR
          refine ⟨_, 0, q, HSy.out, ?_⟩
          rw [if_neg (by decide), if_neg (by have := HS1.out; omega), if_neg (by have := HS2.out; omega), if_pos (by omega)]
        · have h285 : ¬ (285 : Int) < (i : Int) := by omega
          have H285 := Lib.hid h285
          have HSL := Lib.hid (symLenT i w1 (by omega) (by omega))
          have hbd := lenB_bd (i - 257) (by omega)
          rw [show 257 + (i - 257) = i by omega] at hbd
          obtain ⟨X, hX⟩ : ∃ X, X = lenX (i : Int) := ⟨_, rfl⟩
          obtain ⟨B, hB⟩ : ∃ B, B = lenB (i : Int) := ⟨_, rfl⟩
          rw [← hX, ← hB] at HSL hbd
          have HX := Lib.hid hX; have HB := Lib.hid hB
          obtain ⟨hb1, hb2, hb3⟩ := hbd
          have hp2 : 1 ≤ 2 ^ X := Nat.one_le_two_pow
          clear hX hB
          by_cases hsh : 8 * bs.length < q + X
          · have HRN := Lib.hid (readNumber_no w1 R ao cap bs q X (B : Int) HI1.out.rd hsh)
            go_wp2_with fail
            refine HSL.out.mono ?_
            rintro e w2 ⟨rfl, rfl⟩
            go_wp2_with fail
            refine HRN.out.mono ?_
            rintro e w2 ⟨rfl, hk⟩
            have HK2 := Lib.hid hk
            clear hk
            go_wp2
            go_ret
            refine ⟨2, rfl, H.out.fails hlo (HK1.out.trans (HK2.out.mono (fun _ _ e => e.elim))) (fun _ e => e) (HI1.out.rd.keptNo HK2.out) 2 (by decide) ⟨0, .fin, false, [], ?_⟩⟩
            unfold ItemR
            refine ⟨_, 0, q, HSy.out, ?_⟩
            rw [if_neg (by decide), if_neg (by have := HS1.out; omega), if_neg (by have := HS2.out; omega), if_neg (by have := H285.out; omega), ← HX.out, if_pos hsh]
          · have hlt := bitsAt_lt bs q X
            have HRN := Lib.hid (readNumber_yes w1 R ao cap bs q X B HI1.out.rd (by omega) (by omega) (by omega))
            obtain ⟨L, hL⟩ : ∃ L, L = B + bitsAt bs q X := ⟨_, rfl⟩
            rw [← hL] at HRN
            have hL1 : 3 ≤ L ∧ L ≤ 258 := by omega
            have HL := Lib.hid hL
            clear hL hlt
            go_wp2_with fail
            refine HSL.out.mono ?_
            rintro e w2 ⟨rfl, rfl⟩
            go_wp2_with fail
            refine HRN.out.mono ?_
            rintro e w2 ⟨rfl, hr2, hk2⟩
            have HI2 := Lib.hid (HI1.out.moved hlo1 hk2 (fun _ e => e) hr2)
            have HK2 := Lib.hid (HK1.out.trans hk2)
            have hlo2 : lo ≤ w2.heap.size := by have := hk2.size; omega
            obtain ⟨_, _, Dl2, Dd2, hli2, hdi2, gl2, gd2⟩ := HI2.out.mode
            rw [HDi.out] at hdi2
            cases hdi2
            have c10 := HI2.out.obj.c10
            rw [HDi.out] at c10
            have hpl2 := hr2.2.2.2.1
            obtain ⟨T2, hT2⟩ : ∃ T : Nat, min3 15 (8 * bs.length - (q + X : Nat)) = T := ⟨(min3 15 (8 * bs.length - (q + X : Nat))).toNat, by unfold min3; omega⟩
            have HRd2 := Lib.hid (read_callsG dist Dd S R ao cap bs (q + X) T2 w2 gd2 hr2 HSR.out HCd.out.2.1 HCd.out.1 hT2)
            have HT2 := Lib.hid hT2
            clear hr2 hk2 hli2 gl2 gd2 hpl2 hT2 HSL HRN
            go_wp2_with fail
            refine HRd2.out.mono ?_
            rintro e w3 ⟨d, f2, q2, rfl, hS2, hr3, hk3⟩
            have HSy2 : Hid (SymR bs dist (q + X) d f2 q2) := Lib.hid ⟨T2, HT2.out, hS2⟩
            have HRS2 := Lib.hid hS2
            have HI3 := Lib.hid (HI2.out.moved hlo2 hk3 (fun _ e => e) hr3)
            have HK3 := Lib.hid (HK2.out.trans hk3)
            have hlo3 : lo ≤ w3.heap.size := by have := hk3.size; omega
            clear hS2 hr3 hk3 HRd2 c10
            by_cases hf2 : f2 = 0
            · subst hf2
              obtain ⟨j, rfl, hj320⟩ := HRS2.out.is rfl HCd.out.1
              have hqq := HSy2.out.le.2 rfl
              by_cases hj : 30 ≤ j
              · have HSD := Lib.hid (symDist_big j w3 hj (by omega))
                have HRN := Lib.hid (readNumber_bad w3 R 0 0)
                go_wp2_with fail
                refine HSD.out.mono ?_
                rintro e w4 ⟨rfl, rfl⟩
                go_wp2_with fail
                refine HRN.out.mono ?_
                rintro e w4 ⟨rfl, rfl⟩
                go_wp2
                go_ret
                refine ⟨3, rfl, H.out.fails hlo HK3.out (fun _ e => e) HI3.out.rd 3 (by decide) ⟨0, .fin, false, [], ?_⟩⟩
                unfold ItemR
                refine ⟨_, 0, q, HSy.out, ?_⟩
                rw [if_neg (by decide), if_neg (by have := HS1.out; omega), if_neg (by have := HS2.out; omega), if_neg (by have := H285.out; omega), ← HX.out, if_neg hsh]
                refine ⟨_, 0, q2, HSy2.out, ?_⟩
                rw [if_neg (by decide), if_pos (by omega)]
              · have HSD := Lib.hid (symDist_any j w3 (by omega))
                have hbd := db_bd j (by omega)
                obtain ⟨E, hE⟩ : ∃ E, E = de j := ⟨_, rfl⟩
                obtain ⟨C, hC⟩ : ∃ C, C = db j := ⟨_, rfl⟩
                rw [← hE, ← hC] at HSD hbd
                have HE := Lib.hid hE; have HC := Lib.hid hC
                obtain ⟨hd1, hd2, hd3⟩ := hbd
                have hp3 : 1 ≤ 2 ^ E := Nat.one_le_two_pow
                clear hE hC
                have h29 : ¬ (29 : Int) < (j : Int) := by omega
                have H29 := Lib.hid h29
                by_cases hsh2 : 8 * bs.length < q2 + E
                · have HRN := Lib.hid (readNumber_no w3 R ao cap bs q2 E (C : Int) HI3.out.rd hsh2)
                  go_wp2_with fail
                  refine HSD.out.mono ?_
                  rintro e w4 ⟨rfl, rfl⟩
                  go_wp2_with fail
                  refine HRN.out.mono ?_
                  rintro e w4 ⟨rfl, hk⟩
                  have HK4 := Lib.hid hk
                  clear hk
                  go_wp2
                  go_ret
                  refine ⟨2, rfl, H.out.fails hlo (HK3.out.trans (HK4.out.mono (fun _ _ e => e.elim))) (fun _ e => e) (HI3.out.rd.keptNo HK4.out) 2 (by decide) ⟨0, .fin, false, [], ?_⟩⟩
                  unfold ItemR
                  refine ⟨_, 0, q, HSy.out, ?_⟩
                  rw [if_neg (by decide), if_neg (by have := HS1.out; omega), if_neg (by have := HS2.out; omega), if_neg (by have := H285.out; omega), ← HX.out, if_neg hsh]
                  refine ⟨_, 0, q2, HSy2.out, ?_⟩
                  rw [if_neg (by decide), if_neg (by have := H29.out; omega), Int.toNat_natCast, ← HE.out, if_pos hsh2]
                · have hlt := bitsAt_lt bs q2 E
                  have hE13 : (2 : Nat) ^ E ≤ 2 ^ 13 := Nat.pow_le_pow_right (by decide) hd3
                  have HRN := Lib.hid (readNumber_yes w3 R ao cap bs q2 E C HI3.out.rd (by omega) (by omega) (by omega))
                  obtain ⟨Y, hY⟩ : ∃ Y, Y = C + bitsAt bs q2 E := ⟨_, rfl⟩
                  rw [← hY] at HRN
                  have hY1 : 1 ≤ Y ∧ Y ≤ 32768 := by omega
                  have HY := Lib.hid hY
                  clear hY hlt hE13
                  go_wp2_with fail
                  refine HSD.out.mono ?_
                  rintro e w4 ⟨rfl, rfl⟩
                  go_wp2_with fail
                  refine HRN.out.mono ?_
                  rintro e w4 ⟨rfl, hr4, hk4⟩
                  have HI4 := Lib.hid (HI3.out.moved hlo3 hk4 (fun _ e => e) hr4)
                  have HK4 := Lib.hid (HK3.out.trans hk4)
                  have hlo4 : lo ≤ w4.heap.size := by have := hk4.size; omega
                  have HP := Lib.hid (put_copy HI4.out hlo4 L Y hL1 hY1 hsm)
                  clear hr4 hk4 HSD HRN
                  go_wp2_with fail
                  refine HP.out.mono ?_
                  rintro e w5 ⟨er, rfl, hP⟩
                  have HPt := Lib.hid hP
                  clear hP HP
                  go_wp2
                  go_ret
                  have hP := HPt.out
                  unfold PtR at hP
                  have hpl2 : (Tk.put ⟨(L : Int), (Y : Int), 0⟩ out) = copyN Y L out := by
                    unfold Tk.put
                    rw [if_neg (by simp only; omega)]
                    simp
                  have hpln := copyN_len Y L out
                  rw [hpl2] at hP
                  have hKR := HK4.out
                  have hin : ∀ (er : Int) (p1 : Nat) (m1 : Md) (l1 : Bool) (o1 : List Int), (if out.length < Y then er = 4 else if v.most < out.length + L then er = 5 else er = 0 ∧ p1 = q2 + E ∧ m1 = .sym lit dist ∧ l1 = v.la ∧ o1 = copyN Y L out) → ItemR bs v.most p (.sym lit dist) v.la out er p1 m1 l1 o1 := by
                    intro er p1 m1 l1 o1 hh
                    unfold ItemR
                    refine ⟨_, 0, q, HSy.out, ?_⟩
                    rw [if_neg (by decide), if_neg (by have := HS1.out; omega), if_neg (by have := HS2.out; omega), if_neg (by have := H285.out; omega), ← HX.out, if_neg hsh]
                    refine ⟨_, 0, q2, HSy2.out, ?_⟩
                    rw [if_neg (by decide), if_neg (by have := H29.out; omega), Int.toNat_natCast, ← HE.out, if_neg hsh2, ← HC.out, ← HY.out, ← HB.out, ← HL.out]
                    exact hh
                  by_cases hm1 : out.length < Y
                  · rw [if_pos (by simpa using hm1)] at hP
                    obtain ⟨rfl, hk⟩ := hP
                    exact ⟨4, rfl, H.out.fails hlo (hKR.trans (hk.mono (fun _ _ e => e.elim))) (fun _ e => e) (HI4.out.rd.keptNo hk) 4 (by decide) ⟨0, .fin, false, [], hin _ _ _ _ _ (by rw [if_pos hm1])⟩⟩
                  · rw [if_neg (by simpa using hm1)] at hP
                    by_cases hm2 : v.most < out.length + L
                    · rw [if_pos (by rw [hpln]; exact hm2)] at hP
                      obtain ⟨rfl, hk⟩ := hP
                      exact ⟨5, rfl, H.out.fails hlo (hKR.trans (hk.mono (fun _ _ e => e.elim))) (fun _ e => e) (HI4.out.rd.keptNo hk) 5 (by decide) ⟨0, .fin, false, [], hin _ _ _ _ _ (by rw [if_neg hm1, if_pos hm2])⟩⟩
                    · rw [if_neg (by rw [hpln]; exact hm2)] at hP
                      obtain ⟨rfl, hk, sk', wn', hI⟩ := hP
                      refine ⟨0, rfl, (hKR.mono (fun k _ e => by unfold OneB at e; subst e; exact H.out.lowR)).trans hk, _, _, _, _, _, hI, rfl, rfl, rfl, ⟨rfl, rfl, rfl⟩, ?_⟩
                      rw [if_pos rfl]
                      exact ⟨Steps.one (hin _ _ _ _ _ (by rw [if_neg hm1, if_neg hm2]; exact ⟨rfl, rfl, rfl, rfl, rfl⟩)), by omega⟩
            · have g2 : (f2 != 0) = true := by simpa using hf2
              go_wp2
              go_ret
              refine ⟨f2, rfl, H.out.fails hlo HK3.out (fun _ e => e) HI3.out.rd f2 hf2 ⟨0, .fin, false, [], ?_⟩⟩
              unfold ItemR
              refine ⟨_, 0, q, HSy.out, ?_⟩
              rw [if_neg (by decide), if_neg (by have := HS1.out; omega), if_neg (by have := HS2.out; omega), if_neg (by have := H285.out; omega), ← HX.out, if_neg hsh]
              exact ⟨d, f2, q2, HSy2.out, by rw [if_pos hf2]⟩
  · have g0 : (f != 0) = true := by simpa using hf
    go_wp2
    go_ret
    refine ⟨f, rfl, H.out.fails hlo HK1.out (fun _ e => e) HI1.out.rd f hf ⟨0, .fin, false, [], ?_⟩⟩
    unfold ItemR
    exact ⟨s, f, q, HSy.out, by rw [if_pos hf]⟩
end Go.Proofs.YtdpegahcgaicnaaGreatDoor

namespace Go.Proofs.YtdpegahcgaicnaaGreatDoor
open Go.RowKit
set_option linter.unusedVariables false
set_option linter.unusedSimpArgs false

set_option maxRecDepth 20000 in
set_option maxHeartbeats 4000000 in
theorem readItem_any {lo : Nat} {w : World} {D : Nat} {v : IV} {m : Md} {out bs : List Int} {S : Nat → Prop} {R : Nat} {ao : Option Addr} {cap p : Nat} (h : InfS lo w D v m out bs S R ao cap p) (hlo : lo ≤ w.heap.size) (hm : m ≠ .fin) (hal : Al m p) (hsm : out.length ≤ 900000) (hbl : bs.length ≤ 1000000) :
    Calls Tryz.prog 107 #[.pointer (some ⟨D, 0, none⟩), .pointer (some ⟨R, 0, none⟩)] w fun e w' => ∃ er, e = .returned (.int .i64 er) ∧ ItemW lo w D v m out bs R ao cap p er w' := by
  have c6 := h.obj.c6
  rw [h.nx] at c6
  cases m with
  | fin => exact absurd rfl hm
  | block =>
    have HC := Lib.hid (readBlock_any h hlo)
    have c6 : w.cell? ⟨D, 6, none⟩ = some (.int .i64 0) := c6
    clear h hm
    go_enter Tryz.func107, Tryz.ntmps107
    go_wp2_with fail
    refine HC.out.mono ?_
    rintro e w1 ⟨er, rfl, hW⟩
    have HW := Lib.hid hW
    clear hW
    go_wp2
    go_ret
    exact ⟨er, rfl, HW.out⟩
  | stored =>
    have HC := Lib.hid (readStored_any h hlo)
    have c6 : w.cell? ⟨D, 6, none⟩ = some (.int .i64 1) := c6
    clear h hm
    go_enter Tryz.func107, Tryz.ntmps107
    go_wp2_with fail
    refine HC.out.mono ?_
    rintro e w1 ⟨er, rfl, hW⟩
    have HW := Lib.hid hW
    clear hW
    go_wp2
    go_ret
    exact ⟨er, rfl, HW.out⟩
  | bytes n =>
    have HC := Lib.hid (readBytes_any h hlo (hal n rfl) hsm hbl)
    have c6 : w.cell? ⟨D, 6, none⟩ = some (.int .i64 2) := c6
    clear h hm hal
    go_enter Tryz.func107, Tryz.ntmps107
    go_wp2_with fail
    refine HC.out.mono ?_
    rintro e w1 ⟨er, rfl, hW⟩
    have HW := Lib.hid hW
    clear hW
    go_wp2
    go_ret
    exact ⟨er, rfl, HW.out⟩
  | head =>
    have HC := Lib.hid (readHead_any h hlo)
    have c6 : w.cell? ⟨D, 6, none⟩ = some (.int .i64 3) := c6
    clear h hm
    go_enter Tryz.func107, Tryz.ntmps107
    go_wp2_with fail
    refine HC.out.mono ?_
    rintro e w1 ⟨er, rfl, hW⟩
    have HW := Lib.hid hW
    clear hW
    go_wp2
    go_ret
    exact ⟨er, rfl, HW.out⟩
  | sym lit dist =>
    have HC := Lib.hid (readSymbol_any h hlo hsm)
    have c6 : w.cell? ⟨D, 6, none⟩ = some (.int .i64 4) := c6
    clear h hm hal
    go_enter Tryz.func107, Tryz.ntmps107
    go_wp2_with fail
    refine HC.out.mono ?_
    rintro e w1 ⟨er, rfl, hW⟩
    have HW := Lib.hid hW
    clear hW
    go_wp2
    go_ret
    exact ⟨er, rfl, HW.out⟩
end Go.Proofs.YtdpegahcgaicnaaGreatDoor
