/-
  DeflateDynamic: a dynamic block is read as its tokens; its codes cost no more than fixed ones would, and are the least that such codes can be.
-/
import Derived.Test.YtdpegahcgaicnaaGreatDoorMg40
namespace Go.Proofs.YtdpegahcgaicnaaGreatDoor
open Go.RowKit
set_option linter.unusedVariables false
set_option linter.unusedSimpArgs false

set_option maxRecDepth 100000 in
theorem Arg.mk' {H : Type} {enc : TypeId × Value → H} {w : World} {b0 base : Nat} {spare : Nat → Bool} {held : Bool} {t : TypeId} {v : Value} {d : DataW H} {p : List MemPlace} (hv : Value.okWide Tryz.prog w .any b0 t v)
    (hd : DataW.Trod enc Tryz.prog w base spare held t v d p) : Arg w t v := by
  obtain ⟨fuel, h⟩ := hd
  exact ⟨⟨b0, hv⟩, H, enc, base, spare, held, fuel, _, h⟩
theorem toks_lt {w : World} {ta : Option Addr} {ts : List Tk} (h : Toks w ta ts) (hne : ts ≠ []) : ∀ a, ta = some a → a.block < w.heap.size := by
  intro a ha
  have h0 : 0 < ts.length := List.length_pos_iff.2 hne
  obtain ⟨b, off, e, x0, _⟩ := h 0 h0
  rw [ha] at e; cases e
  exact World.block_lt_of_cell? w _ x0
theorem goods_tame {ts : List Tk} {n : Nat} (h : TameS ts n) : allOkB ts = true := by
  unfold allOkB
  rw [List.all_eq_true]
  intro t ht
  obtain ⟨i, hi, e⟩ := List.mem_iff_getElem.1 ht
  have := good_oks h.2.1 i hi
  have e2 : ts.getD i ⟨0, 0, 0⟩ = t := by simp [List.getD, hi, e]
  rw [e2] at this; exact this
theorem no_mono {t : Tk} {n : Nat} {m m2 : Int} (h : t.no n m = 0) (hm : m ≤ m2) : t.no n m2 = 0 := by
  unfold Tk.no at h ⊢
  repeat' split at h
  all_goals first | (exact absurd h (by decide)) | skip
  all_goals (repeat' split) <;> first | rfl | omega | (simp_all; try omega)
theorem good_mono {m m2 : Int} (hm : m ≤ m2) : ∀ (ts : List Tk) (bs : List Int), good m ts bs → good m2 ts bs
  | [], bs, h => h
  | t :: ts, bs, h => ⟨no_mono h.1 hm, good_mono hm ts _ h.2⟩
theorem cost_nn : ∀ (A Z : List Int), (∀ z ∈ A, 0 ≤ z) → (∀ z ∈ Z, 0 ≤ z) → 0 ≤ costL A Z
  | [], Z, _, _ => by cases Z <;> simp [costL]
  | a :: A, [], _, _ => by simp [costL]
  | a :: A, z :: Z, h1, h2 => by
    have h3 := cost_nn A Z (fun x hx => h1 x (List.mem_cons_of_mem _ hx)) (fun x hx => h2 x (List.mem_cons_of_mem _ hx))
    have h4 := Int.mul_nonneg (h1 a (List.mem_cons_self ..)) (h2 z (List.mem_cons_self ..))
    rw [costL]; omega
theorem lenSym0 (w : World) : Calls Tryz.prog 27 #[.int .i64 0] w fun e w' => e = .returned (.tuple #[.int .i64 0, .int .i64 0, .int .u32 0]) ∧ Kept NoB w w' := by
  go_enter Tryz.func27, Tryz.ntmps27
  go_wp2
  go_ret3
  exact ⟨rfl, Kept.refl _ _⟩
theorem distSym0 (w : World) : Calls Tryz.prog 28 #[.int .i64 0] w fun e w' => e = .returned (.tuple #[.int .i64 0, .int .i64 0, .int .u32 0]) ∧ Kept NoB w w' := by
  go_enter Tryz.func28, Tryz.ntmps28
  go_wp2
  go_ret3
  exact ⟨rfl, Kept.refl _ _⟩
theorem syms_any {t : Tk} (hw : t.wf) (hok : t.ok = true) : ∃ (a1 x v1 a2 y v2 : Nat), x + y = extraT t ∧ x ≤ 5 ∧ y ≤ 13 ∧
    (∀ W, Calls Tryz.prog 27 #[.int .i64 t.l] W fun e w' => e = .returned (.tuple #[.int .i64 (a1 : Int), .int .i64 (x : Int), .int .u32 (v1 : Int)]) ∧ Kept NoB W w') ∧
    (∀ W, Calls Tryz.prog 28 #[.int .i64 t.d] W fun e w' => e = .returned (.tuple #[.int .i64 (a2 : Int), .int .i64 (y : Int), .int .u32 (v2 : Int)]) ∧ Kept NoB W w') := by
  rcases tok_shape hw hok with ⟨k, hk, rfl⟩ | hcp
  · exact ⟨0, 0, 0, 0, 0, 0, rfl, by decide, by decide, fun W => lenSym0 W, fun W => distSym0 W⟩
  · obtain ⟨n, d, sy, X, v, j, u, rfl, hn1, hs1, hs2, hX5, hvX, hj30, hD13, huD, hls, hds, htw, hLS, hDS⟩ := doc_parts hcp
    refine ⟨sy, X, v, j, de j, u, ?_, hX5, hD13, hLS, hDS⟩
    have h := htw [] []
    unfold tokWd at h
    have hn0 : ¬ (n : Int) = 0 := by omega
    simp only [if_neg hn0] at h
    injection h with _ h
    injection h with h h2
    have h3 := congrArg Prod.snd h
    simp only at h3
    unfold extraT
    simp only [if_neg hn0]
    rw [h3, hds]
theorem dyn_lt {last : Bool} {ts : List Tk} {ws : List (Nat × Nat)} {lit dist code : List Int} {told : Nat} {rs : List (Int × Int)} (hw : TokWs lit dist ts ws) (hc : CodeW code told rs (lit ++ dist)) (hb : headB lit dist = true) :
    ∀ y ∈ [(lastN last, 1), (2, 2)] ++ (headW lit dist code told rs ++ (ws ++ [wordZ lit 256])), y.1 < 2 ^ y.2 := by
  intro y hy
  rcases List.mem_append.1 hy with h | h
  · simp only [List.mem_cons, List.not_mem_nil, or_false] at h
    rcases h with rfl | rfl
    · exact lastN_one last
    · decide
  · rcases List.mem_append.1 h with h | h
    · exact headW_lt hc hb y h
    · rcases List.mem_append.1 h with h | h
      · exact hw.lt y h
      · simp only [List.mem_cons, List.not_mem_nil, or_false] at h; subst h; exact wordZ_lt _ _
/-- What is known of the block that was put. -/
theorem dyn_facts {w w' : World} {R cap : Nat} {ao : Option Addr} {v0 : Value} {l : List Tk} {nl : Nat} {lit dist code bs : List Int} {told : Nat} {rs : List (Int × Int)} {ws : List (Nat × Nat)} (hl : l.length ≤ 50) (hs : TameS l nl) (hb1 : BestL 257 (tally l).1 lit) (hb2 : BestL 1 (tally l).2 dist) (hcw : CodeW code told rs (lit ++ dist)) (hws : TokWs lit dist l ws)
    (h : WroteP w R v0 [] 0 ([(lastN true, 1), (2, 2)] ++ (headW lit dist code told rs ++ (ws ++ [wordZ lit 256]))) w' ao cap bs) :
    ∃ (P q k1 k2 : Nat), Wtr w' R ao cap bs P ∧ P ≤ 8000 ∧ (P + 7) / 8 = bs.length ∧ Steps bs 1073741824 0 .block false [] P .fin true (putAll l []) ∧ HeadR bs 3 lit dist 0 q ∧ q ≤ P ∧ 3 ≤ 8 * bs.length ∧ P = q + (k1 + k2 + extraS l) ∧
      (∀ ls, Srd ls → ls.Perm (posL (tally l).1) → leastL ls 15 = (k1 : Int)) ∧ (∀ ls, Srd ls → ls.Perm (posL (tally l).2) → leastL ls 15 = (k2 : Int)) := by
  obtain ⟨c1, c2, c3, c4⟩ := best_head (by omega) hb1 hb2
  have hok := goods_tame hs
  have hp := puts_of h (dyn_lt hws hcw c4)
  have hgood := good_mono (show (1048576 : Int) ≤ ((1073741824 : Nat) : Int) by decide) l [] hs.2.1
  have hst := dynamic_steps (bs := bs) (s := 0) (most := 1073741824) (last := true) (l0 := false) (pre := []) (post := []) (out := []) hws c1 c2 c3 hcw c4 (by simpa using hp) hgood
  have hhd := head_backG (bs := bs) (s := 0) (pre := [(lastN true, 1), (2, 2)]) (post := ws ++ [wordZ lit 256]) (by simpa using hp) hcw c4
  have hcost := wd_cost hws hok c3
  have hhw := headW_few hcw c4
  have hwd := hws.wd c1.2.1 c2.2.1
  have he15 : (wordZ lit 256).2 ≤ 15 := by
    obtain ⟨k, hk, hkl, _⟩ := c3
    have := c1.2.1.getD k hkl
    unfold wordZ; rw [hk, Int.toNat_natCast]; simp only; omega
  have hto := lensOk_tally l (by omega)
  obtain ⟨_, _, _, _, lv1, hs1, hc1⟩ := hb1.facts hto.1
  obtain ⟨_, _, _, _, lv2, hs2, hc2⟩ := hb2.facts hto.2
  have hn1 : 0 ≤ costL (tally l).1 lit := cost_nn _ _ (fun z hz => (hto.1.small z hz).1) (fun z hz => (c1.2.1 z hz).1)
  have hn2 : 0 ≤ costL (tally l).2 dist := cost_nn _ _ (fun z hz => (hto.2.small z hz).1) (fun z hz => (c2.2.1 z hz).1)
  have hlen := h.1.2.2.2.1
  obtain ⟨k1, hk1⟩ : ∃ k1 : Nat, costL (tally l).1 lit = (k1 : Int) := ⟨(costL (tally l).1 lit).toNat, by omega⟩
  obtain ⟨k2, hk2⟩ : ∃ k2 : Nat, costL (tally l).2 dist = (k2 : Int) := ⟨(costL (tally l).2 dist).toNat, by omega⟩
  rw [hk1, hk2] at hcost
  have hP : wdN ([(lastN true, 1), (2, 2)] ++ (headW lit dist code told rs ++ (ws ++ [wordZ lit 256]))) = 3 + wdN (headW lit dist code told rs) + wdN (ws ++ [wordZ lit 256]) := by
    rw [wdN_append, wdN_append]; simp only [wdN]; omega
  have hq : wdN ([(lastN true, 1), (2, 2)] ++ headW lit dist code told rs) = 3 + wdN (headW lit dist code told rs) := by
    rw [wdN_append]; simp only [wdN]
  have hwe : wdN (ws ++ [wordZ lit 256]) = wdN ws + (wordZ lit 256).2 := by rw [wdN_append]; simp only [wdN]; omega
  have hW := h.1
  rw [hP] at hW hlen
  rw [Nat.zero_add] at hW hlen
  refine ⟨3 + wdN (headW lit dist code told rs) + wdN (ws ++ [wordZ lit 256]), 3 + wdN (headW lit dist code told rs), k1, k2, hW, by omega, by omega, ?_, ?_, by omega, by omega, by omega, ?_, ?_⟩
  · rw [List.nil_append, hP, Nat.zero_add] at hst
    simpa [wdN, endM] using hst
  · rw [hq] at hhd
    simpa [wdN] using hhd
  · intro ls h1 h2
    have e1 : ls = lv1.map (·.2) := srd_unique h1 (srd_of hs1.srt) (h2.trans (by rw [← pos_leaves (tally l).1 0]; exact (hs1.perm.map _).symm))
    rw [e1, ← hc1, hk1]
  · intro ls h1 h2
    have e1 : ls = lv2.map (·.2) := srd_unique h1 (srd_of hs2.srt) (h2.trans (by rw [← pos_leaves (tally l).2 0]; exact (hs2.perm.map _).symm))
    rw [e1, ← hc2, hk2]
set_option maxRecDepth 20000 in
set_option maxHeartbeats 16000000 in
theorem deflateDynamic_walk (ta : Option Addr) (tc n : Nat) (ts : List Tk) (w : World) (hn : n = ts.length) (hr : Toks w ta ts) (ha : AllT ts) (hnm : n ≤ maxLen) :
    Calls Tryz.prog 6 #[.slice ta n tc] w fun e w' => e = .returned (.bool true) ∧ Below w.heap.size w w' := by
  unfold maxLen at hnm
  have HAw := Lib.hid awake10
  have HN := Lib.hid hn; have HR := Lib.hid hr; have HA := Lib.hid ha
  clear hn hr ha
  go_enter Tryz.func6, Tryz.ntmps6
  by_cases h6 : 60 < n
  · have h6i : (60 : Int) < (n : Int) := by omega
    go_wp2_with fail
    refine (HAw.out _).mono ?_
    rintro e w1 ⟨rfl, hk1⟩
    have HK1 := Lib.hid hk1
    clear hk1
    go_wp2
    go_ret
    exact ⟨rfl, HK1.out.belowNo (Below.refl _ _)⟩
  have h6i : ¬ (60 : Int) < (n : Int) := by omega
  have HTm := Lib.hid (tamef_any ta tc n ts 50 w HN.out.symm HR.out HA.out (by unfold maxLen; omega) (by decide))
  go_wp2_with fail
  refine HTm.out.mono ?_
  rintro e w1 ⟨la, lc, l, nl, rfl, HLt, HLs, hl50, hlc1, hlc2, HLf, HK1⟩
  obtain ⟨M, hM⟩ : ∃ M, M = l.length := ⟨_, rfl⟩
  have HMl := Lib.hid hM
  rw [← hM] at hl50 ⊢
  clear hM hlc1 hlc2 HTm h6i
  go_wp2_with fail
  refine (neww_any _).mono ?_
  rintro e w2 ⟨A, rfl, hW, hAf, hk2⟩
  have hto := lensOk_tally l (by have := HMl.out; omega)
  have hdy := dynamic_yes w2 A none 0 [] 0 true la lc l hW (by omega) (HLt.out.keptNo hk2) (fun hne a ha => ⟨by have := toks_lt HLt.out hne a ha; omega, by simp [Value.ownBlock]⟩) (by have := HMl.out; omega) HLs.out.1 (goods_tame HLs.out)
  rw [← HMl.out] at hdy
  have HDy := Lib.hid hdy
  have HK2 := Lib.hid (HK1.out.trans hk2)
  have HTk2 := Lib.hid (HLt.out.keptNo hk2)
  have HAf : Hid (w1.heap.size ≤ A) := Lib.hid hAf
  clear hW hAf hk2 hdy
  go_wp2_with fail
  refine HDy.out.mono ?_
  rintro e w3 ⟨lit, dist, code, told, rs, ws, a3, c3, b3, rfl, hb1, hb2, hcw, hws, hW3⟩
  obtain ⟨P, q, k1, k2, hWt, hP8, hPl, hst, hhd, hqP, h38, hPq, hL1, hL2⟩ := dyn_facts (by have := HMl.out; omega) HLs.out hb1 hb2 hcw hws hW3
  have hown3 := hW3.2.2.2
  have hk3 := hW3.2.2.1
  have hAw : w.heap.size ≤ A := Nat.le_trans HK1.out.size HAf.out
  have hkw3 : Kept NoB w w3 := HK2.out.transO hk3 (fun i hi e => by
    rcases e with e | e
    · unfold OneB at e; omega
    · unfold OwnB at e; simp [Value.ownBlock] at e)
  have hr3 : Toks w3 la l := fun j hj => by
    obtain ⟨bq, off, hla, q0, q1, q2⟩ := HTk2.out j hj
    have hbl : bq < w1.heap.size := toks_lt HLt.out (fun e => by rw [e] at hj; simp at hj) _ hla
    have hb : ¬ OrB (OneB A) (OwnB (.slice none ([] : List Int).length 0)) bq := fun e => by
      rcases e with e | e
      · unfold OneB at e; have := HAf.out; omega
      · unfold OwnB at e; simp [Value.ownBlock] at e
    have hc : ∀ (o : Nat) (v : Value), w2.cell? ⟨bq, o, none⟩ = some v → w3.cell? ⟨bq, o, none⟩ = some v := fun o v hv => (World.cell?_of_block (hk3.block _ (World.block_lt_of_cell? w2 _ hv) hb)).trans hv
    exact ⟨bq, off, hla, hc _ _ q0, hc _ _ q1, hc _ _ q2⟩
  have howA : ∀ k, (Value.slice a3 b3.length c3).ownBlock = some k → w.heap.size ≤ k := fun k h => by
    rcases hown3 k h with h | h
    · simp [Value.ownBlock] at h
    · have := HK2.out.size; omega
  have HWt := Lib.hid hWt; have HPl := Lib.hid hPl; have HSt := Lib.hid hst; have HHd := Lib.hid hhd; have HPq := Lib.hid hPq; have HL1 := Lib.hid hL1; have HL2 := Lib.hid hL2
  have HKw3 := Lib.hid hkw3; have HR3 := Lib.hid hr3; have HOwA := Lib.hid howA; have HAw2 := Lib.hid hAw; have H38 := Lib.hid h38; have HTo := Lib.hid hto
  clear hb1 hb2 hcw hws hW3 hWt hPl hst hhd hPq hL1 hL2 hown3 hk3 hAw hkw3 hr3 howA h38 hto HDy HTk2 HK2 HK1 HLt HLf HAf
  have e0 : (⟨#[]⟩ : ByteArray) = strOfNums [] := rfl
  go_wp2_with fail
  go_loopw [5, 6, 7, 8, 9, 10, 11, 12, 13] (fun wa ex i _a _b _c _d _e _f wr => ∃ j : Nat, j ≤ M ∧ i = .int .i64 (j : Int) ∧ wa = .string (strOfNums (putAll (l.take j) [])) ∧ ex = .int .i64 ((extraS (l.take j) : Nat) : Int) ∧ Hid (extraS (l.take j) ≤ 18 * j) ∧ Hid (Kept NoB w3 wr)) (fun _ _ i _ _ _ _ _ _ _ => M - (intOf i).toNat)
  case atStart => exact ⟨0, by omega, rfl, rfl, rfl, Lib.hid (by simp [extraS]), Lib.hid (Kept.refl _ _)⟩
  case round =>
    obtain ⟨j, hj, rfl, rfl, rfl, HEx, HK⟩ := hrel
    clear e0
    by_cases hlt : (j : Int) < (M : Int)
    · have hjl : j < l.length := by have := HMl.out; omega
      obtain ⟨g, off, rfl, c0, c1, c2⟩ := (HR3.out.keptNo HK.out) j hjl
      have htm : l.getD j ⟨0, 0, 0⟩ ∈ l := by rw [List.getD, List.getElem?_eq_getElem hjl, Option.getD_some]; exact List.getElem_mem hjl
      have hwf := HLs.out.1 _ htm
      have hok := allOkB_mem (goods_tame HLs.out) _ htm
      have hno := no_mono (good_at _ _ _ HLs.out.2.1 j hjl) (show (1048576 : Int) ≤ 1073741824 by decide)
      have hpa := putAll_succ l [] j hjl
      have hxa : extraS (l.take (j + 1)) = extraS (l.take j) + extraT (l.getD j ⟨0, 0, 0⟩) := by rw [take_snocT l j hjl, extraS_snoc]
      have hlen : (putAll (l.take j) []).length ≤ 3000 := by
        have h1 := (putAll_take_pre l j []).length_le
        have h2 := HLs.out.2.2.1
        have h3 := HLs.out.2.2.2.1
        have := HMl.out; omega
      have hall : AllB (putAll (l.take j) []) := putAll_all _ _ (by intro b hb; cases hb) (fun t ht => HLs.out.1 t (List.mem_of_mem_take ht))
      obtain ⟨x1, x, v1, x2, y, v2, hxy, hx5, hy13, hLS, hDS⟩ := syms_any hwf hok
      have HP := Lib.hid (fun W => refPut_yes (l.getD j ⟨0, 0, 0⟩) (putAll (l.take j) []) 1073741824 W hall (by omega) hwf (by decide) hno)
      have HLS := Lib.hid hLS; have HDS := Lib.hid hDS
      rw [← hxy] at hxa
      rw [← hpa] at HP
      have HXa := Lib.hid hxa
      obtain ⟨E, hE⟩ : ∃ E, E = extraS (l.take j) := ⟨_, rfl⟩
      have hEb : E ≤ 900 := by rw [hE]; have := HEx.out; omega
      have HE := Lib.hid hE
      rw [← hE]
      obtain ⟨pb2, hpb2⟩ : ∃ p, p = putAll (l.take (j + 1)) [] := ⟨_, rfl⟩
      rw [← hpb2] at HP
      have HPb2 := Lib.hid hpb2
      generalize putAll (l.take j) [] = pb at HP ⊢
      generalize l.getD j ⟨0, 0, 0⟩ = t at HP HLS HDS c0 c1 c2
      obtain ⟨tl, td, tcc⟩ := t
      simp only at c0 c1 c2
      unfold Tk.v at HP
      simp only [] at HP HLS HDS
      clear htm hwf hok hno hpa hxa hlen hall hLS hDS hxy hE hjl hpb2
      go_wp2_with fail
      refine (HP.out _).mono ?_
      rintro e w5 ⟨rfl, hk5⟩
      have d0 := hk5.cell c0
      have d1 := hk5.cell c1
      have HK5 := Lib.hid (HK.out.trans hk5)
      clear hk5 c0 c1 c2 HP
      go_wp2_with fail
      refine (HLS.out _).mono ?_
      rintro e w6 ⟨rfl, hk6⟩
      have d2 := hk6.cell d1
      have HK6 := Lib.hid (HK5.out.trans hk6)
      clear hk6 d0 d1 HLS HK5
      go_wp2_with fail
      refine (HDS.out _).mono ?_
      rintro e w7 ⟨rfl, hk7⟩
      have HK7 := Lib.hid (HK6.out.trans hk7)
      clear hk7 d2 HDS HK6
      go_wp2
      go_roundw
      case rel => exact ⟨j + 1, by omega, by go_num, by rw [HPb2.out], by rw [HXa.out, ← HE.out]; go_num, Lib.hid (by rw [HXa.out, ← HE.out]; have := HEx.out; rw [← HE.out] at this; omega), HK7⟩
      case measure => simp [intOf]; omega
    · have hjM : j = M := by omega
      subst hjM
      have htk : l.take j = l := List.take_of_length_le (by have := HMl.out; omega)
      rw [htk] at HEx ⊢
      obtain ⟨O, hO⟩ : ∃ O, O = putAll l [] := ⟨_, rfl⟩
      obtain ⟨X, hX⟩ : ∃ X, X = extraS l := ⟨_, rfl⟩
      have hOl : O.length ≤ 3000 := by
        rw [hO]
        have h2 := HLs.out.2.2.1
        have h3 := HLs.out.2.2.2.1
        have := HMl.out; omega
      have hXb : X ≤ 900 := by rw [hX]; have := HEx.out; omega
      rw [← hO, ← hX]
      rw [← hO] at HSt
      rw [← hX] at HPq
      have HW4 := Lib.hid (HWt.out.keptNo HK.out)
      have HKw4 := Lib.hid (HKw3.out.trans HK.out)
      have HR4 := Lib.hid (HR3.out.keptNo HK.out)
      have hbl : b3.length ≤ 1000 := by have := HPl.out; omega
      have hall3 : AllB b3 := HWt.out.2.2.1
      have HA3 := Lib.hid hall3
      obtain ⟨W1, hW1⟩ : ∃ W1, W1 = strOfNums O := ⟨_, rfl⟩
      have HW1 := Lib.hid hW1
      rw [← hW1]
      obtain ⟨BL, hBL⟩ : ∃ BL, BL = b3.length := ⟨_, rfl⟩
      have HBL := Lib.hid hBL
      rw [← hBL] at hbl
      clear htk hO hX hW1 hBL hall3 hlt HEx HK
      have HBy : Hid (∀ W, Kept NoB wr W → Calls Tryz.prog 16 #[.pointer (some ⟨A, 0, none⟩)] W fun e w' => ∃ ao' cap', e = .returned (.slice ao' BL cap') ∧ Hid (Reads w' ao' b3) ∧ Hid (ao' = none → cap' = 0) ∧ BL ≤ cap' ∧ Kept NoB W w') := Lib.hid fun W hk => by
        refine (wbytes_any _ _ _ _ _ _ (HW4.out.keptNo hk)).mono ?_
        rintro e w' ⟨ao', cap', rfl, ho, hf, hn, hk'⟩
        exact ⟨ao', cap', by rw [HBL.out], own_reads ho rfl, own_nil ho, by rw [HBL.out]; exact (own_cap2 ho).1, hk'⟩
      go_wp2_with fail
      refine (HBy.out _ (Kept.refl _ _)).mono ?_
      rintro e w5 ⟨a7, c7, rfl, Hrd7, Hn7, hc7, hk7⟩
      have hal := infAll_any w5 a7 c7 b3 1073741824 1073741824 (by rw [if_neg (by decide)]; rfl) (by decide) Hrd7.out Hn7.out (by rw [← HBL.out]; exact hc7) HA3.out (by rw [← HBL.out]; omega) (fun p m' l' o' h => Nat.le_trans (steps_bound HSt.out h) (by omega))
      rw [← HBL.out] at hal
      have HAl := Lib.hid hal
      have HK5 := Lib.hid hk7
      clear hal hk7 Hrd7 Hn7 hc7
      go_wp2_with fail
      refine HAl.out.mono ?_
      intro e w6 hR
      obtain ⟨oa, oc, rfl, _, _, hcv, hk6⟩ := all_done hR HSt.out HPl.out
      have hcv2 := hcv.out
      rw [← HW1.out] at hcv2
      rw [← HBL.out]
      have HK6 := Lib.hid (HK5.out.trans hk6)
      clear hR hcv hk6 HAl HK5
      obtain ⟨OL, hOL⟩ : ∃ OL, OL = O.length := ⟨_, rfl⟩
      rw [← hOL] at hcv2 ⊢
      have q1 : ((BL : Int) != (BL : Int)) = false := by simp
      clear hOL
      go_wp2_with fail
      refine (HBy.out _ HK6.out).mono ?_
      rintro e w8 ⟨a8, c8, rfl, _, _, _, hk8⟩
      have HK8 := Lib.hid (HK6.out.trans hk8)
      have hcn := counts_any2 la lc l w8 (HR4.out.keptNo HK8.out) (by have := HMl.out; omega) HLs.out.1
      rw [← HMl.out] at hcn
      have HCn := Lib.hid hcn
      clear hk8 hcn hcv2 HK6
      go_wp2_with fail
      refine HCn.out.mono ?_
      rintro e w9 ⟨G, H, rfl, hT⟩
      have hb := tally_b2 l
      have HG := Lib.hid (hT.a.reads hb.1); have HH := Lib.hid (hT.b.reads hb.2.1)
      have HK9 := Lib.hid (HK8.out.trans hT.k)
      have HTb := Lib.hid hb
      clear hT hb HCn HK8
      go_wp2_with fail
      refine (HBy.out _ HK9.out).mono ?_
      rintro e w10 ⟨a10, c10, rfl, Hrd10, Hn10, hc10, hk10⟩
      obtain ⟨S3, hS3⟩ : ∃ S, S = strOfNums b3 := ⟨_, rfl⟩
      have hcv3 : (convert 22 9 (.slice a10 BL c10)).run Tryz.prog w10 = .ok (.string S3) w10 := by rw [hS3]; exact conv_reads Hrd10.out HBL.out Hn10.out
      obtain ⟨R, hRq⟩ : ∃ R, R = w10.heap.size := ⟨_, rfl⟩
      obtain ⟨wB, hwB⟩ : ∃ y, y = w10.alloc (.cells #[.string S3, .int .i64 0] 61) := ⟨_, rfl⟩
      have hrf : Rfb wB R b3 0 := ⟨by rw [hwB, hRq, hS3]; exact heap_alloc_new _ _, HA3.out, by rw [← HBL.out]; omega, by omega⟩
      have hkB : Kept NoB w10 wB := by rw [hwB]; exact (Kept.refl _ _).alloc _
      have hR9 : w9.heap.size ≤ R := by rw [hRq]; exact hk10.size
      have HRf := Lib.hid hrf; have HKB := Lib.hid (HK9.out.trans (hk10.trans hkB)); have HKB9 := Lib.hid (hk10.trans hkB); have HR9 := Lib.hid hR9
      clear hrf hkB hR9 hk10 Hrd10 Hn10 hc10 hS3
      go_upto_region 21 with fail
      rw [← hwB, ← hRq]
      clear hwB hRq hcv3
      have HTk := Lib.hid (refTake_yes wB R b3 0 3 HRf.out (by decide) (by have := H38.out; omega))
      go_wp2_with fail
      refine HTk.out.mono ?_
      rintro e w11 ⟨rfl, hrf2, hk11⟩
      rw [Nat.zero_add] at hrf2
      have HLn := Lib.hid (rlens_any b3 3 R w11 hrf2)
      have HK11 := Lib.hid hk11
      clear hrf2 hk11 HTk
      go_wp2_with fail
      refine HLn.out.mono ?_
      rintro e w12 ⟨la2, lc2, lit2, da2, dc2, dist2, f2, q2, q3, rfl, hH, hRf3, hq3, _, _, hk12⟩
      obtain ⟨_, _, hf, hqq⟩ := HeadR.det HHd.out hH
      obtain rfl : f2 = 0 := hf.symm
      have hq4 : q3 = q := by rw [hq3 rfl, hqq rfl]
      rw [hq4] at hRf3
      have HRf3 := Lib.hid hRf3
      have hk912 : Kept (OneB R) w9 w12 := ((HKB9.out.mono (fun _ _ h => h.elim)).trans (HK11.out)).trans hk12
      have hkr12 : Kept (OneB R) wr w12 := ((HKB.out.mono (fun _ _ h => h.elim)).trans (HK11.out)).trans hk12
      have HG2 := Lib.hid (HG.out.kept hk912 (fun k hk e => by unfold OneB at e; have := HR9.out; omega))
      have HH2 := Lib.hid (HH.out.kept hk912 (fun k hk e => by unfold OneB at e; have := HR9.out; omega))
      have HKr12 := Lib.hid hkr12
      have hl1 := least_calls (some ⟨G, 0, none⟩) 286 _ (tally l).1 15 w12 HG2.out HTo.out.1
      rw [HTb.out.1] at hl1
      have HLs1 := Lib.hid hl1
      have HLs2 : Hid (∀ W, Kept NoB w12 W → Calls Tryz.prog 32 #[.slice (some ⟨H, 0, none⟩) 30 30, .int .i64 15] W fun e w' => ∃ ls, Srd ls ∧ ls.Perm (posL (tally l).2) ∧ e = .returned (.int .i64 (leastL ls 15)) ∧ Kept NoB W w') := Lib.hid fun W hk => by
        have h := least_calls (some ⟨H, 0, none⟩) 30 _ (tally l).2 15 W (HH2.out.keptNo hk) HTo.out.2
        rw [HTb.out.2.1] at h
        exact h
      clear hH hRf3 hq3 hf hqq hq4 hk12 hk912 hkr12 hl1 HLn HK11 HKB9 HG HH
      go_wp2_with fail
      refine HLs1.out.mono ?_
      rintro e w13 ⟨ls1, hsr1, hpm1, rfl, hk13⟩
      rw [HL1.out ls1 hsr1 hpm1]
      have HK13 := Lib.hid hk13
      clear hsr1 hpm1 hk13 HLs1 HL1
      go_wp2_with fail
      refine (HLs2.out _ HK13.out).mono ?_
      rintro e w14 ⟨ls2, hsr2, hpm2, rfl, hk14⟩
      rw [HL2.out ls2 hsr2 hpm2]
      have HK14 := Lib.hid (HK13.out.trans hk14)
      clear hsr2 hpm2 hk14 HLs2 HL2
      obtain ⟨K, hKq⟩ : ∃ K, K = k1 + k2 := ⟨_, rfl⟩
      obtain ⟨C, hC⟩ : ∃ C, C = K + X := ⟨_, rfl⟩
      have hCb : C ≤ 8000 := by rw [hC, hKq]; have := HPq.out; omega
      have hKb : K ≤ 8000 := by omega
      have hs1 : IntKind.i64.wrap ((k1 : Int) + (k2 : Int)) = (K : Int) := by rw [IntWalk.i64_in _ (by omega)]; omega
      have hs2 : IntKind.i64.wrap ((K : Int) + (X : Int)) = (C : Int) := by rw [IntWalk.i64_in _ (by omega)]; omega
      have hs3 : IntKind.i64.wrap ((P : Int) - (q : Int)) = (C : Int) := by rw [IntWalk.i64_in _ (by omega)]; have := HPq.out; omega
      have HKr14 := Lib.hid (HKr12.out.trans (HK14.out.mono (fun _ _ h => h.elim)))
      have hW14 : Wtr w14 A a3 c3 b3 P := HW4.out.kept HKr14.out (by unfold OneB; have := obj_lt HW4.out.1; have := HK9.out.size; have := HR9.out; omega) (fun k hk e => by unfold OneB at e; have := own_lt HW4.out.2.1 k hk; have := HK9.out.size; have := HR9.out; omega)
      have HW14 := Lib.hid hW14
      have hc1 : ∀ W, Kept NoB w14 W → W.cell? ⟨R, 1, none⟩ = some (.int .i64 (q : Int)) := fun W hk => by simpa using obj_cell ((HRf3.out.kept (HK14.out.trans hk) (fun h => h)).1) 1
      have hk99 := Kept.refl NoB w14
      have HKw14 : Hid (Kept NoB w w14) := Lib.hid (HKw4.out.transO HKr14.out (fun i hi e => by unfold OneB at e; have := HKw4.out.size; have := HK9.out.size; have := HR9.out; omega))
      clear hKq hC hW14
      go_wp2_with fail
      go_region_held3 (fun W => Kept NoB w14 W) (first | assumption | exact Kept.drew (by assumption) | exact Kept.trans (by assumption) hkn)
        (first
          | (go_at_call 23; ((with_reducible refine (wlen_any _ _ _ _ _ _ (HW14.out.keptNo (by assumption))).mono ?_); rintro e wn ⟨rfl, hkn⟩)))
      have hknn : Kept NoB w14 wn := by assumption
      have HKn := Lib.hid hknn
      clear hc1 hk99 hknn hs1 hs2 hs3 HKr12 HKr14 HRf3 HG2 HH2 HKB HR9 HK9 HK13 HK14 HTb HPq HSt HHd
      go_wp2_with fail
      refine (wlen_any _ _ _ _ _ _ (HW14.out.keptNo HKn.out)).mono ?_
      rintro e w15 ⟨rfl, hk15⟩
      have HK15 := Lib.hid (HKn.out.trans hk15)
      have HRt := Lib.hid (HR.out.keptNo (HKw14.out.trans HK15.out))
      clear hk15
      go_wp2_with fail
      go_loopw [26, 27] (fun g i wr2 => ∃ (j : Nat) (gd : Bool), j ≤ n ∧ i = .int .i64 (j : Int) ∧ g = .bool gd ∧ Hid (gd = (ts.take j).all Tk.ok) ∧ Hid (Kept NoB w15 wr2)) (fun _ i _ => n - (intOf i).toNat)
      case atStart => exact ⟨0, true, by omega, rfl, rfl, Lib.hid (by simp), Lib.hid (Kept.refl _ _)⟩
      case round =>
        obtain ⟨j2, gd, hj2, rfl, rfl, HGd, HK⟩ := hrel
        by_cases hlt2 : (j2 : Int) < (n : Int)
        · have hjt : j2 < ts.length := by have := HN.out; omega
          obtain ⟨g, off, rfl, c0, c1, c2⟩ := (HRt.out.keptNo HK.out) j2 hjt
          have hall : (ts.take (j2 + 1)).all Tk.ok = ((ts.take j2).all Tk.ok && (ts.getD j2 ⟨0, 0, 0⟩).ok) := by rw [take_snocT ts j2 hjt, List.all_append]; simp
          rw [← HGd.out] at hall
          generalize ts.getD j2 ⟨0, 0, 0⟩ = t at c0 c1 c2 hall
          obtain ⟨tl, td, tl2⟩ := t
          simp only at c0 c1 c2
          have HAll := Lib.hid hall
          clear hall hjt
          cases gd
          · go_wp2
            go_roundw
            case rel => exact ⟨j2 + 1, false, by omega, by go_num, rfl, Lib.hid (by rw [HAll.out]; rfl), HK⟩
            case measure => simp [intOf]; omega
          · go_wp2_with fail
            refine (refOk_any ⟨tl, td, tl2⟩ _).mono ?_
            rintro e wk ⟨rfl, hkk⟩
            have HKk := Lib.hid (HK.out.trans hkk)
            obtain ⟨ok, hok⟩ : ∃ ok, ok = (Tk.mk tl td tl2).ok := ⟨_, rfl⟩
            have HOk := Lib.hid hok
            rw [← hok]
            clear hkk hok
            go_wp2
            go_roundw
            case rel => exact ⟨j2 + 1, ok, by omega, by go_num, rfl, Lib.hid (by rw [HAll.out, HOk.out]; rfl), HKk⟩
            case measure => simp [intOf]; omega
        · have hjm : j2 = n := by omega
          subst hjm
          have hgd := HGd.out
          rw [HN.out, List.take_length] at hgd
          have hgd2 : gd = allOkB ts := hgd
          have HGd2 := Lib.hid hgd2
          have htl : ts.length ≤ 60 := by have := HN.out; omega
          have HW16 := Lib.hid (HW14.out.keptNo (HK15.out.trans HK.out))
          have HKw16 := Lib.hid (HKw14.out.trans (HK15.out.trans HK.out))
          have HRt2 := Lib.hid (HRt.out.keptNo HK.out)
          clear hgd hgd2 HGd
          cases gd
          · have hno := dynamic_no wr A false ta tc ts HRt2.out (by omega) HGd2.out.symm
            rw [← HN.out] at hno
            have HNo := Lib.hid hno
            clear hno
            go_wp2_with fail
            refine HNo.out.mono ?_
            rintro e w17 ⟨rfl, hk17⟩
            have HW17 := Lib.hid (HW16.out.keptNo hk17)
            have HKw17 := Lib.hid (HKw16.out.trans hk17)
            clear hk17 HNo
            go_wp2_with fail
            refine (wlen_any _ _ _ _ _ _ HW17.out).mono ?_
            rintro e w18 ⟨rfl, hk18⟩
            have HKw18 := Lib.hid (HKw17.out.trans hk18)
            clear hk18
            go_wp2_with fail
            refine (HAw.out _).mono ?_
            rintro e w19 ⟨rfl, hk19⟩
            have HKw19 := Lib.hid (HKw18.out.trans hk19)
            clear hk19
            go_wp2
            go_ret
            exact ⟨rfl, HKw19.out.belowNo (Below.refl _ _)⟩
          · have hyes := dynamic_yes wr A a3 c3 b3 P false ta tc ts HW16.out (by omega) HRt2.out (fun hne q hq => by
              have h1 := toks_lt HR.out hne q hq
              have h2 := HAw2.out
              exact ⟨by omega, fun e => by have := HOwA.out _ e; omega⟩) (by omega) HA.out HGd2.out.symm
            rw [← HN.out] at hyes
            have HYes := Lib.hid hyes
            clear hyes
            go_wp2_with fail
            refine HYes.out.mono ?_
            rintro e w17 ⟨_, _, _, _, _, _, _, _, _, rfl, _, _, _, _, hW17⟩
            have HKw17 := Lib.hid (HKw16.out.transO hW17.2.2.1 (fun i hi e => by
              rcases e with e | e
              · unfold OneB at e; have := HAw2.out; omega
              · have := HOwA.out i e; omega))
            clear hW17 HYes
            go_wp2_with fail
            refine (HAw.out _).mono ?_
            rintro e w19 ⟨rfl, hk19⟩
            have HKw19 := Lib.hid (HKw17.out.trans hk19)
            clear hk19
            go_wp2
            go_ret
            exact ⟨rfl, HKw19.out.belowNo (Below.refl _ _)⟩
set_option maxRecDepth 100000 in
theorem deflateDynamic_law (v0 : Value) (w : World) (r0 : Arg w 30 v0) : Calls Tryz.prog 6 #[v0] w fun e w' => e = .returned (.bool true) ∧ Below w.heap.size w w' := by
  obtain ⟨ta, tc, ts, rfl, hr, ha, hlc, hcm, _⟩ := toks_open r0
  exact deflateDynamic_walk ta tc ts.length ts w rfl hr ha (by omega)
end Go.Proofs.YtdpegahcgaicnaaGreatDoor
