/-
  The document's ReadMap.
-/
import Derived.Test.YtbambcondcikbaaDoorTwoRow
import Derived.Test.YtbambcondcikbaaDoorOwnSet
namespace Go.Proofs.YtbambcondcikbaaDoor
open Go.RowKit
set_option linter.unusedVariables false
set_option linter.unusedSimpArgs false
set_option maxRecDepth 20000

theorem Kept.cellS {S : Nat → Prop} {w w' : World} (hk : Kept S w w') {a : Addr} {v : Value} (h : w.cell? a = some v) (hne : ¬ S a.block) : w'.cell? a = some v :=
  (World.cell?_of_block (hk.block _ (World.block_lt_of_cell? w a h) hne)).trans h
theorem bare_len (sp : List (Int × Int)) : ((bareP sp).map Prod.fst).length = sp.length := by simp [bareP]
theorem bare_at (sp : List (Int × Int)) (i : Nat) (h : i < sp.length) : ((bareP sp).map Prod.fst).getD i (0, []) = ((sp.getD i (0, 0)).1, []) := by
  simp [bareP, List.getD, h]
theorem long_at (sp : List (Int × Int)) (i : Nat) (h : i < sp.length) : (longI sp).getD i 0 = (sp.getD i (0, 0)).2 := by
  simp [longI, List.getD, h]
/-- What the spans so far say of a row that the bytes are told of. -/
def SpG (size : Int) (L : List UInt8) (N i p : Nat) (sp : List (Int × Int)) : Prop := ∀ l, GoodM size L l → N = (spansS size l).length ∧ sp = (spansS size l).take i ∧ L.drop p = restM size l i
theorem spG_start {size : Int} {L : List UInt8} {x : Int} {k : Nat} (h : lineR L = some (x, k)) : SpG size L x.toNat 0 k [] := by
  intro l hl
  obtain ⟨h1, h2⟩ := good_line hl
  rw [h1] at h
  simp only [Option.some.injEq, Prod.mk.injEq] at h
  obtain ⟨rfl, rfl⟩ := h
  exact ⟨by simp, by simp, h2⟩
theorem spG_step {size : Int} {L : List UInt8} {N i p k1 k2 : Nat} {sp : List (Int × Int)} {x y : Int} (h : SpG size L N i p sp) (hi : i < N) (h1 : lineR (L.drop p) = some (x, k1)) (h2 : lineR (L.drop (p + k1)) = some (y, k2)) : SpG size L N (i + 1) (p + k1 + k2) (sp ++ [(x, y)]) := by
  intro l hl
  obtain ⟨g1, g2, g3⟩ := h l hl
  obtain ⟨m1, m2, e1, e2, e3⟩ := good_span hl i p (by omega) g3
  rw [h1] at e1
  simp only [Option.some.injEq, Prod.mk.injEq] at e1
  obtain ⟨e4, rfl⟩ := e1
  rw [h2] at e2
  simp only [Option.some.injEq, Prod.mk.injEq] at e2
  obtain ⟨e5, rfl⟩ := e2
  refine ⟨g1, ?_, e3⟩
  rw [List.take_succ_eq_append_getElem (by omega), g2, e4, e5]
theorem spG_no1 {size : Int} {L : List UInt8} {N i p : Nat} {sp : List (Int × Int)} (h : SpG size L N i p sp) (hi : i < N) (h1 : lineR (L.drop p) = none) : decS size L = none := dec_none fun l hl => by
  obtain ⟨g1, g2, g3⟩ := h l hl
  obtain ⟨m1, m2, e1, e2, e3⟩ := good_span hl i p (by omega) g3
  rw [h1] at e1
  cases e1
theorem spG_no2 {size : Int} {L : List UInt8} {N i p k1 : Nat} {sp : List (Int × Int)} {x : Int} (h : SpG size L N i p sp) (hi : i < N) (h1 : lineR (L.drop p) = some (x, k1)) (h2 : lineR (L.drop (p + k1)) = none) : decS size L = none := dec_none fun l hl => by
  obtain ⟨g1, g2, g3⟩ := h l hl
  obtain ⟨m1, m2, e1, e2, e3⟩ := good_span hl i p (by omega) g3
  rw [h1] at e1
  simp only [Option.some.injEq, Prod.mk.injEq] at e1
  obtain ⟨e4, rfl⟩ := e1
  rw [h2] at e2
  cases e2
/-- And what the pieces so far say. -/
def OutG (size : Int) (L : List UInt8) (N i p : Nat) (sp : List (Int × Int)) (out : List Pc) : Prop := ∀ l, GoodM size L l → N = (spansS size l).length ∧ sp = spansS size l ∧ i ≤ l.length ∧ out = l.take i ∧ L.drop p = dataB (l.drop i)
theorem outG_no {size : Int} {L : List UInt8} {N p : Nat} {sp : List (Int × Int)} (h : SpG size L N N p sp) (hp : p ≤ L.length) (hb : L.length < p + padN p) : decS size L = none := dec_none fun l hl => by
  obtain ⟨g1, g2, g3⟩ := h l hl
  rw [g1] at g3
  have := (good_end hl p hp g3).1
  omega
theorem outG_start {size : Int} {L : List UInt8} {N p : Nat} {sp : List (Int × Int)} (h : SpG size L N N p sp) (hp : p ≤ L.length) : OutG size L N 0 (p + padN p) sp [] := by
  intro l hl
  obtain ⟨g1, g2, g3⟩ := h l hl
  rw [g1] at g3
  refine ⟨g1, by rw [g2, g1, List.take_length], by omega, by simp, by simpa using (good_end hl p hp g3).2⟩
theorem outG_long {size : Int} {L : List UInt8} {N i p : Nat} {sp : List (Int × Int)} {out : List Pc} (h : OutG size L N i p sp out) (hp : p ≤ L.length) (hi : i < N) (hb : (L.length : Int) - (p : Int) < (sp.getD i (0, 0)).2) : decS size L = none := dec_none fun l hl => by
  obtain ⟨g1, g2, g3, g4, g5⟩ := h l hl
  have hi2 : i < (spansS size l).length := by omega
  have e : sp.getD i (0, 0) = (spansS size l)[i] := by rw [g2]; simp [List.getD, hi2]
  rw [e] at hb
  rcases good_nth hl i hi2 with ⟨q1, q2, q3, q4⟩ | ⟨q1, q2, q3⟩
  · have := (good_piece hl i p q1 g5).1
    omega
  · omega
theorem outG_end {size : Int} {L : List UInt8} {N i p : Nat} {sp : List (Int × Int)} {out : List Pc} (h : OutG size L N i p sp out) (he : i = N ∨ ((sp.getD i (0, 0)).2 = 0 ∧ i + 1 = N)) : ∀ l, GoodM size L l → out = l := fun l hl => by
  obtain ⟨g1, g2, g3, g4, g5⟩ := h l hl
  have hsl := spansM_len size l
  have hil : i = l.length := by
    rcases he with he | ⟨h0, he⟩
    · omega
    · have hi2 : i < (spansS size l).length := by omega
      have e : sp.getD i (0, 0) = (spansS size l)[i] := by rw [g2]; simp [List.getD, hi2]
      rw [e] at h0
      rcases good_nth hl i hi2 with ⟨q1, q2, q3, q4⟩ | ⟨q1, q2, q3⟩
      · rw [q3] at h0
        exact absurd (List.eq_nil_of_length_eq_zero (by omega)) q4
      · exact q1
  rw [g4, hil, List.take_length]
theorem outG_step {size : Int} {L : List UInt8} {N i p k : Nat} {sp : List (Int × Int)} {out : List Pc} (h : OutG size L N i p sp out) (hi : i < N) (hk : (sp.getD i (0, 0)).2 = (k : Int)) (hne : ¬ (k = 0 ∧ i + 1 = N)) :
    OutG size L N (i + 1) (p + k) sp (out ++ [((sp.getD i (0, 0)).1, (L.drop p).take k)]) := by
  intro l hl
  obtain ⟨g1, g2, g3, g4, g5⟩ := h l hl
  have hi2 : i < (spansS size l).length := by omega
  have e : sp.getD i (0, 0) = (spansS size l)[i] := by rw [g2]; simp [List.getD, hi2]
  rw [e] at hk ⊢
  rcases good_nth hl i hi2 with ⟨q1, q2, q3, q4⟩ | ⟨q1, q2, q3⟩
  · have hkl : k = (l.getD i (0, [])).2.length := by omega
    obtain ⟨r1, r2, r3⟩ := good_piece hl i p q1 g5
    refine ⟨g1, g2, by omega, ?_, by rw [hkl]; exact r3⟩
    rw [take_getD l i q1, g4, q2, hkl, r2]
  · exact absurd ⟨by omega, by omega⟩ hne
theorem out_no {size : Int} {L : List UInt8} {out : List Pc} (h : ∀ l, GoodM size L l → out = l) (hn : okS size out = false ∨ mapB size out ≠ L) : decS size L = none := dec_none fun l hl => by
  have := h l hl
  subst this
  rcases hn with hn | hn
  · rw [hl.1] at hn; cases hn
  · exact hn hl.2
theorem out_yes {size : Int} {L : List UInt8} {out : List Pc} (h1 : okS size out = true) (h2 : mapB size out = L) : decS size L = some out := good_dec ⟨h1, h2⟩

set_option maxHeartbeats 4000000 in
theorem rreadmap_any (size : Int) (L : List UInt8) (w : World) (h0 : -9223372036854775808 ≤ size) (h1 : size ≤ 9223372036854775807) (hl : L.length ≤ 1000000) :
    Calls Tryd.prog 25 #[.int .i64 size, .string (strB L)] w (DecR w size L) := by
  obtain ⟨n, hn⟩ : ∃ n, n = L.length := ⟨_, rfl⟩
  have hsz : (strB L).size = n := by rw [strB_size, hn]
  have HN := Lib.hid hn
  have HEx := Lib.hid (fun a b => strB_extract L a b)
  have HLi := Lib.hid (fun p W => rline_any (L.drop p) W (by rw [List.length_drop]; omega))
  have HLi0 := Lib.hid (fun W => rline_any L W hl)
  rw [← hn] at hl
  obtain ⟨S, hS⟩ : ∃ S, S = strB L := ⟨_, rfl⟩
  rw [← hS] at hsz HEx HLi0 ⊢
  have HS := Lib.hid hS
  clear hn hS
  go_enter Tryd.func25, Tryd.ntmps25
  go_wp2_with fail
  with_reducible refine (HLi0.out _).mono ?_
  rintro e w1 ⟨⟨hli, x0, y0, rfl⟩ | ⟨x, k, hli, rfl⟩, rfl⟩
  · have HF : Hid (decS size L = none) := Lib.hid (dec_none fun l hg => by rw [(good_line hg).1] at hli; cases hli)
    clear hli
    go_wp2
    go_ret2
    exact .inl ⟨HF.out, rfl, Kept.refl _ _⟩
  obtain ⟨x0, x1, k1, k2, k3⟩ := lineR_bd hli
  by_cases hbig : 1001 < x
  · have HF : Hid (decS size L = none) := Lib.hid (dec_none fun l hg => by
      have := (good_line hg).1
      rw [hli] at this
      simp only [Option.some.injEq, Prod.mk.injEq] at this
      have := (good_spans hg).1
      omega)
    clear hli
    go_wp2
    go_ret2
    exact .inl ⟨HF.out, rfl, Kept.refl _ _⟩
  obtain ⟨N, hN⟩ : ∃ N : Nat, x = (N : Int) := ⟨x.toNat, by omega⟩
  have HG : Hid (SpG size L N 0 k []) := Lib.hid (by have := spG_start (size := size) hli; rw [hN, Int.toNat_natCast] at this; exact this)
  have hkn : k ≤ n := by have := HN.out; omega
  subst hN
  have hN1 : N ≤ 1001 := by omega
  clear hli x0 x1 k3 hbig
  have H0 : Hid (TwoRow w w none 0 none 0 0 []) := Lib.hid (TwoRow.nil (Kept.refl NoB w))
  go_wp2
  go_loopw [7, 9, 10, 11, 12, 13, 14, 15] (fun v7 v9 v10 v11 v12 v13 v14 v15 wr => ∃ (i p : Nat) (a1 a2 : Option Addr) (c1 c2 : Nat) (sp : List (Int × Int)), v7 = .int .i64 (p : Int) ∧ v9 = .slice a1 i c1 ∧ v10 = .slice a2 i c2 ∧ v11 = .int .i64 (i : Int) ∧ i ≤ N ∧ p ≤ n ∧ Hid (TwoRow w wr a1 c1 a2 c2 i sp) ∧ Hid (SpG size L N i p sp) ∧ Hid (∀ s ∈ sp, 0 ≤ s.1 ∧ s.1 ≤ 9223372036854775807 ∧ 0 ≤ s.2 ∧ s.2 ≤ 9223372036854775807)) (fun _ _ _ v11 _ _ _ _ _ => N - (intOf v11).toNat)
  case atStart => exact ⟨0, k, none, none, 0, 0, [], rfl, rfl, rfl, rfl, by omega, hkn, H0, HG, Lib.hid (fun s hs => by cases hs)⟩
  case round =>
    obtain ⟨i, p, a1, a2, c1, c2, sp, rfl, rfl, rfl, rfl, hi, hp, HT, HSp, HB⟩ := hrel
    by_cases hlt : (i : Int) < (N : Int)
    · have hx1 := HEx.out p n
      have hx2 : S.extract p n = strB (L.drop p) := by rw [hx1, List.take_of_length_le (by rw [List.length_drop, ← HN.out]; omega)]
      have hdl : (L.drop p).length = n - p := by rw [List.length_drop, ← HN.out]
      have HLp := Lib.hid (HLi.out p)
      have HDl := Lib.hid hdl
      have hpi : (p : Int) ≤ (n : Int) := by omega
      clear hx1 hdl
      go_wp2_with fail
      with_reducible refine (HLp.out _).mono ?_
      rintro e w2 ⟨⟨hli, x0, y0, rfl⟩ | ⟨x, m1, hli, rfl⟩, rfl⟩
      · have HF : Hid (decS size L = none) := Lib.hid (spG_no1 HSp.out (by omega) hli)
        clear hli
        go_wp2
        go_ret2
        exact .inl ⟨HF.out, rfl, HT.out.p.kept⟩
      · obtain ⟨x0, x1, q1, q2, q3⟩ := lineR_bd hli
        obtain ⟨p2, hp2⟩ : ∃ p2, p2 = p + m1 := ⟨_, rfl⟩
        have hp2n : p2 ≤ n := by have := HDl.out; omega
        have hp2i : (p : Int) + (m1 : Int) = (p2 : Int) := by omega
        have hx3 : S.extract p2 n = strB (L.drop p2) := by rw [HEx.out p2 n, List.take_of_length_le (by rw [List.length_drop, ← HN.out]; omega)]
        have HLq := Lib.hid (HLi.out p2)
        have hdl2 : (L.drop p2).length = n - p2 := by rw [List.length_drop, ← HN.out]
        have HL1 := Lib.hid hli; have HDl2 := Lib.hid hdl2; have HP2 := Lib.hid hp2
        have hp2j : (p2 : Int) ≤ (n : Int) := by omega
        clear hli hp2 hdl2 hx2 q3
        go_wp2_with fail
        with_reducible refine (HLq.out _).mono ?_
        rintro e w2 ⟨⟨hli, x0', y0', rfl⟩ | ⟨y, m2, hli, rfl⟩, rfl⟩
        · have HF : Hid (decS size L = none) := Lib.hid (spG_no2 HSp.out (by omega) HL1.out (by rw [← HP2.out]; exact hli))
          clear hli
          go_wp2
          go_ret2
          exact .inl ⟨HF.out, rfl, HT.out.p.kept⟩
        · obtain ⟨y0, y1, r1, r2, r3⟩ := lineR_bd hli
          have HG2 : Hid (SpG size L N (i + 1) (p2 + m2) (sp ++ [(x, y)])) := Lib.hid (by rw [HP2.out]; exact spG_step HSp.out (by omega) HL1.out (by rw [← HP2.out]; exact hli))
          have hp3n : p2 + m2 ≤ n := by have := HDl2.out; omega
          have HB2 : Hid (∀ s ∈ sp ++ [(x, y)], 0 ≤ s.1 ∧ s.1 ≤ 9223372036854775807 ∧ 0 ≤ s.2 ∧ s.2 ≤ 9223372036854775807) := Lib.hid (fun s hs => by
            rcases List.mem_append.1 hs with h | h
            · exact HB.out s h
            · simp at h; subst h; exact ⟨x0, x1, y0, y1⟩)
          clear hli hx3 r3
          obtain ⟨q, hq⟩ : ∃ q, q = wr.heap.size := ⟨_, rfl⟩
          obtain ⟨wA, hwA⟩ : ∃ wA, wA = wr.alloc (.cells #[.int .i64 x, .slice none 0 0] 30) := ⟨_, rfl⟩
          have hkA : Kept NoB wr wA := by rw [hwA]; exact (Kept.refl NoB wr).alloc _
          have hA0 : wA.cell? ⟨q, 0, none⟩ = some (.int .i64 x) := by rw [hwA]; exact cell_new 0 hq
          have hA1 : wA.cell? ⟨q, 1, none⟩ = some (.slice none 0 0) := by rw [hwA]; exact cell_new 1 hq
          have HA0 := Lib.hid hA0; have HA1 := Lib.hid hA1
          have HTA := Lib.hid (HT.out.on hkA)
          clear hA0 hA1 hkA
          go_wp2_with (at_builtin; rw [← hq, ← hwA]; refine wpList_two1 rfl (.tmp 63) (.tmp 66) rfl HTA.out rfl q 1 (x, y) rfl HA0.out HA1.out (by omega) ?_)
          intro a3 c3 w4 h4
          have H4 := Lib.hid h4
          clear h4
          obtain ⟨q5, hq5⟩ : ∃ q5, q5 = w4.heap.size := ⟨_, rfl⟩
          obtain ⟨w5, hw5⟩ : ∃ w5, w5 = w4.alloc (.cells #[.int .i64 y] 3) := ⟨_, rfl⟩
          have hk5 : Kept NoB w4 w5 := by rw [hw5]; exact (Kept.refl NoB w4).alloc _
          have h50 : w5.cell? ⟨q5, 0, none⟩ = some (.int .i64 y) := by rw [hw5]; exact cell_new 0 hq5
          have H50 := Lib.hid h50
          have H5 := Lib.hid (H4.out.on hk5)
          clear h50 hk5
          go_wp2_with (at_builtin; rw [← hq5, ← hw5]; refine wpList_two2 rfl (.tmp 68) (.tmp 70) rfl (x, y) H5.out rfl q5 1 rfl H50.out (by omega) ?_)
          intro a6 c6 w6 h6
          have H6 := Lib.hid h6
          clear h6
          go_wp2
          go_roundw
          case rel => exact ⟨i + 1, p2 + m2, a3, a6, c3, c6, _, by go_num, rfl, rfl, by go_num, by omega, hp3n, H6, HG2, HB2⟩
          case measure => simp [intOf]; omega
    · have hie : i = N := by omega
      subst hie
      have hpi : p ≤ 1000000 := by omega
      have HPad := Lib.hid (fun W => rpad_any p W (by omega))
      obtain ⟨pd, hpd⟩ : ∃ pd, pd = padN p := ⟨_, rfl⟩
      have hpdb : pd ≤ 512 := by rw [hpd, padN]; omega
      rw [← hpd] at HPad
      have HPd := Lib.hid hpd
      clear hpd
      go_wp2_with fail
      with_reducible refine (HPad.out _).mono ?_
      rintro e w2 ⟨rfl, rfl⟩
      by_cases hend : n < p + pd
      · have HF : Hid (decS size L = none) := Lib.hid (outG_no HSp.out (by rw [← HN.out]; exact hp) (by rw [← HPd.out, ← HN.out]; exact hend))
        have hei : (n : Int) < (p : Int) + (pd : Int) := by omega
        go_wp2
        go_ret2
        exact .inl ⟨HF.out, rfl, HT.out.p.kept⟩
      · have hei : ¬ (n : Int) < (p : Int) + (pd : Int) := by omega
        obtain ⟨p0, hp0⟩ : ∃ p0, p0 = p + pd := ⟨_, rfl⟩
        have hp0i : (p : Int) + (pd : Int) = (p0 : Int) := by omega
        have hp0n : p0 ≤ n := by omega
        have HOut : Hid (OutG size L i 0 p0 sp []) := Lib.hid (by rw [hp0, HPd.out]; exact outG_start HSp.out (by rw [← HN.out]; exact hp))
        have hspl : sp.length = i := by have := HT.out.p.len; simp [bareP] at this; omega
        have HSl := Lib.hid hspl
        clear hend hp0 hspl
        obtain ⟨wb, hwb⟩ : ∃ wb, wb = wr := ⟨_, rfl⟩
        have HWb := Lib.hid (hwb ▸ HT.out.p.kept : Kept NoB w wb)
        have HTb := Lib.hid (hwb ▸ HT.out : TwoRow w wb a1 c1 a2 c2 i sp)
        clear HEx HLi HLi0 HG H0
        have H0 : Hid (PcSt wb wr none 0 0 []) := Lib.hid (by rw [hwb]; exact PcSt.start (Kept.refl NoB wr))
        go_upto_block 2 with fail
        rw [show decide (n < p0) = false from decide_eq_false (by omega)]
        go_cut [7, 16, 17] from 80 to 129 (fun v7 v16 v17 wx => ∃ (a : Option Addr) (m c : Nat) (qs : List PcQ), v16 = .slice a m c ∧ m ≤ 1001 ∧ Hid (PcSt wb wx a m c qs) ∧ Hid (∀ l, GoodM size L l → qs.map Prod.fst = l) ∧ Hid (IntP (qs.map Prod.fst)) ∧ Hid (sumS (qs.map Prod.fst) ≤ n))
        case first =>
          go_wp2
          go_loopw [7, 16, 17] (fun v7 v16 v17 wr => ∃ (j p : Nat) (a : Option Addr) (m c : Nat) (qs : List PcQ), v7 = .int .i64 (p : Int) ∧ v16 = .slice a m c ∧ v17 = .int .i64 (j : Int) ∧ j ≤ i ∧ p ≤ n ∧ m ≤ j ∧ Hid (PcSt wb wr a m c qs) ∧ Hid (OutG size L i j p sp (qs.map Prod.fst)) ∧ Hid (IntP (qs.map Prod.fst)) ∧ Hid (sumS (qs.map Prod.fst) ≤ p)) (fun _ _ v17 _ => i - (intOf v17).toNat)
          case atStart => exact ⟨0, p0, none, 0, 0, [], by rw [← hp0i], rfl, rfl, by omega, hp0n, by omega, H0, HOut, Lib.hid (fun q hq => by cases hq), Lib.hid (by simp [sumS])⟩
          case round =>
            clear hp0i hp0n hei hpi hpdb H0 HT hwb
            obtain ⟨j, p, a, m, c, qs, rfl, rfl, rfl, hj, hp, hm, HP, HO, HI, HSm⟩ := hrel
            by_cases hlt : (j : Int) < (i : Int)
            · have hji : j < i := by omega
              obtain ⟨g2, o2, rfl, hg2, cl⟩ := HTb.out.z.reads j (by have := HSl.out; simp [longI]; omega)
              obtain ⟨g1, o1, bo1, bc1, rfl, hg1, cp, _⟩ := HTb.out.p.reads j (by have := HSl.out; rw [bare_len]; omega)
              rw [long_at sp j (by have := HSl.out; omega)] at cl
              rw [bare_at sp j (by have := HSl.out; omega)] at cp
              have hbd := HB.out (sp.getD j (0, 0)) (by
                have h : j < sp.length := by have := HSl.out; omega
                have e : sp.getD j (0, 0) = sp[j] := by simp [List.getD, h]
                rw [e]; exact List.getElem_mem h)
              have hlong := outG_long HO.out (by rw [← HN.out]; exact hp) hji
              have hstep := fun k => outG_step (k := k) HO.out hji
              have hend := outG_end HO.out
              obtain ⟨z, hz⟩ : ∃ z, z = (sp.getD j (0, 0)).1 := ⟨_, rfl⟩
              obtain ⟨y, hy⟩ : ∃ y, y = (sp.getD j (0, 0)).2 := ⟨_, rfl⟩
              rw [← hz] at cp hbd hstep
              rw [← hy] at cl hbd hlong hstep hend
              obtain ⟨b1, b2, b3, b4⟩ := hbd
              have hF0 : ∀ W, Kept (OwnB (Value.slice a m c)) wr W → W.cell? ⟨g1, o1 + j * 2, none⟩ = some (.int .i64 z) := fun W hW => by
                have h := (HP.out.kept.cell cp)
                have hb := World.block_lt_of_cell? wr _ h
                exact (hW.cellS h (fun e => by have := HP.out.fresh _ e; simp at hb; have h9 : g1 < wb.heap.size := hg1; simp only at this; omega))
              have hF1 : ∀ W, Kept (OwnB (Value.slice a m c)) wr W → W.cell? ⟨g2, o2 + j, none⟩ = some (.int .i64 y) := fun W hW => by
                have h := (HP.out.kept.cell cl)
                exact (hW.cellS h (fun e => by have := HP.out.fresh _ e; have h9 : g2 < wb.heap.size := hg2; simp only at this; omega))
              have cl1 := hF1 wr (Kept.refl _ _)
              have HLong := Lib.hid hlong; have HStep := Lib.hid hstep; have HEnd := Lib.hid hend; have HF0 := Lib.hid hF0; have HF1 := Lib.hid hF1
              clear cl cp hlong hstep hend hz hy hF0 hF1
              by_cases hyl : (n : Int) - (p : Int) < y
              · have HF : Hid (decS size L = none) := Lib.hid (HLong.out (by rw [← HN.out]; exact hyl))
                go_wp2
                go_ret2
                exact .inl ⟨HF.out, rfl, HWb.out.trans HP.out.kept⟩
              · obtain ⟨k, rfl⟩ : ∃ k : Nat, y = (k : Int) := ⟨y.toNat, by omega⟩
                obtain ⟨p4, hp4⟩ : ∃ p4, p4 = p + k := ⟨_, rfl⟩
                have hp4n : p4 ≤ n := by omega
                have hp4i : (p : Int) + (k : Int) = (p4 : Int) := by omega
                by_cases hbr : k = 0 ∧ j + 1 = i
                · have HE : Hid (∀ l, GoodM size L l → qs.map Prod.fst = l) := Lib.hid (HEnd.out (.inr ⟨by omega, hbr.2⟩))
                  have HS2 : Hid (sumS (qs.map Prod.fst) ≤ n) := Lib.hid (by have := HSm.out; omega)
                  obtain ⟨rfl, hje⟩ := hbr
                  have y2 : ((j : Int) == (i : Int) - 1) = true := by simp; omega
                  clear hje hyl
                  go_wp2
                  go_meet
                  exact ⟨a, m, c, qs, rfl, by omega, HP, HE, HI, HS2⟩
                · obtain ⟨M, hM⟩ : ∃ M, M = (L.drop p).take k := ⟨_, rfl⟩
                  have hMl : k = M.length := by rw [hM, List.length_take, List.length_drop, ← HN.out]; omega
                  have hO4 := HStep.out k rfl hbr
                  rw [← hM, ← hp4] at hO4
                  have HO4 := Lib.hid hO4
                  have HI4 : Hid (IntP (qs.map Prod.fst ++ [(z, M)])) := Lib.hid (fun q hq => by
                    rcases List.mem_append.1 hq with h | h
                    · exact HI.out q h
                    · simp at h; subst h; exact ⟨by simp only; omega, b2⟩)
                  have HSm4 : Hid (sumS (qs.map Prod.fst ++ [(z, M)]) ≤ p4) := Lib.hid (by
                    have h1 := HSm.out
                    rw [sumS, List.map_append, List.sum_append]
                    have h2 : ((qs.map Prod.fst).map fun p => p.2.length).sum = sumS (qs.map Prod.fst) := rfl
                    rw [h2]
                    simp
                    omega)
                  have HKM := Lib.hid hMl
                  have hkl : Hid ((nb M).length = k) := Lib.hid (by rw [nb_len]; omega)
                  have hCM := fun W => conv_mark W (nb M) (by rw [nb_len]; omega) (nb_all M)
                  rw [nb_str, hkl.out] at hCM
                  have hxe : S.extract p p4 = strB M := by rw [HS.out, strB_extract, hM]; congr 2; omega
                  obtain ⟨T, hT⟩ : ∃ T, T = strB M := ⟨_, rfl⟩
                  rw [← hT] at hCM hxe
                  have HCM := Lib.hid hCM
                  have hF0 := HF0.out
                  have hF1 := HF1.out
                  have hpp : p ≤ p4 := by omega
                  have hppi : (p : Int) ≤ (p4 : Int) := by omega
                  have hp4w : IntKind.i64.wrap (p4 : Int) = (p4 : Int) := IntWalk.i64_in _ (by omega)
                  have hyl2 : ¬ (n : Int) - (p : Int) < (k : Int) := hyl
                  have hg3 : (((k : Int) == 0) && ((j : Int) == (i : Int) - 1)) = false := by
                    rw [Bool.and_eq_false_iff]
                    by_cases h0 : k = 0
                    · right; simp; omega
                    · left; simp; omega
                  clear hM hO4 hCM hT hp4 hyl hMl
                  go_upto_region 28 with fail
                  go_cut [104] from 85 to 104 (fun v104 wx => v104 = .bool false ∧ wr = wx)
                  case first =>
                    by_cases h0 : k = 0
                    · have y1 : ((k : Int) == 0) = true := by rw [h0]; rfl
                      have y2 : ((j : Int) == (i : Int) - 1) = false := by simp; omega
                      clear h0 hF0 hF1
                      go_wp2
                      go_meet
                      exact ⟨rfl, rfl⟩
                    · have y1 : ((k : Int) == 0) = false := by simp; omega
                      clear h0 hF0 hF1
                      go_wp2
                      go_meet
                      exact ⟨rfl, rfl⟩
                  case rest =>
                  obtain ⟨rfl, rfl⟩ := hcut
                  go_upto_region 29 with fail
                  go_wp2_with fail
                  refine wp_region_noPanic ?_
                  refine wp_region_held_drew (S := fun W => Kept (OwnB (Value.slice a m c)) wr W) (by kernel_rfl) (Kept.drew (Kept.refl _ _)) (fun hHeld => ?_)
                  obtain ⟨wd, hwd⟩ : ∃ x, x = wr.drew := ⟨_, rfl⟩
                  have hPd : PcSt wb wd a m c qs := by rw [hwd]; exact HP.out.on (Kept.drew (Kept.refl NoB wr))
                  rw [← hwd] at hHeld ⊢
                  have HSz : Hid (wd.heap.size = wr.heap.size) := Lib.hid (by rw [hwd]; rfl)
                  clear hwd
                  refine wpAnyH_take (i := 0) (v := ?_) (by rw [List.getElem?_toArray]; rfl) (by kernel_rfl) (by kernel_rfl) (by kernel_rfl) (fun _ _ _ h => h) (Or.inl ⟨by rfl, ?hyq1_⟩) (by assumption) ?restq1_
                  case hyq1_ => (intro w hSw; (try dsimp only at hSw); (try have e0 := hF0 w hSw); (try have e1 := hF1 w hSw); go_simp; (try with_reducible rfl))
                  try simp only [Act.put, List.setIfInBounds_toArray, List.set_cons_zero, List.set_cons_succ]
                  refine wpAnyH_take (i := 1) (v := ?_) (by rw [List.getElem?_toArray]; rfl) (by kernel_rfl) (by kernel_rfl) (by kernel_rfl) (fun _ _ _ h => h) (Or.inl ⟨by rfl, ?hyq2_⟩) (by assumption) ?restq2_
                  case hyq2_ => (intro w hSw; (try dsimp only at hSw); (try have e0 := hF0 w hSw); (try have e1 := hF1 w hSw); go_simp; (try with_reducible rfl))
                  try simp only [Act.put, List.setIfInBounds_toArray, List.set_cons_zero, List.set_cons_succ]
                  refine wpAnyH_take (i := 2) (v := ?_) (by rw [List.getElem?_toArray]; rfl) (by kernel_rfl) (by kernel_rfl) (by kernel_rfl) (fun _ _ _ h => h) (Or.inl ⟨by rfl, ?hyq3_⟩) (by assumption) ?restq3_
                  case hyq3_ => (intro w hSw; (try dsimp only at hSw); (try have e0 := hF0 w hSw); (try have e1 := hF1 w hSw); go_simp; (try with_reducible rfl))
                  try simp only [Act.put, List.setIfInBounds_toArray, List.set_cons_zero, List.set_cons_succ]
                  refine wpAnyH_take (i := 3) (v := ?_) (by rw [List.getElem?_toArray]; rfl) (by kernel_rfl) (by kernel_rfl) (by kernel_rfl) (fun _ _ _ h => h) (Or.inl ⟨by rfl, ?hyq4_⟩) (by assumption) ?restq4_
                  case hyq4_ => (intro w hSw; (try dsimp only at hSw); (try have e0 := hF0 w hSw); (try have e1 := hF1 w hSw); go_simp; (try with_reducible rfl))
                  try simp only [Act.put, List.setIfInBounds_toArray, List.set_cons_zero, List.set_cons_succ]
                  refine wpAnyH_take (i := 4) (v := ?_) (by rw [List.getElem?_toArray]; rfl) (by kernel_rfl) (by kernel_rfl) (by kernel_rfl) (fun _ _ _ h => h) (Or.inl ⟨by rfl, ?hyq5_⟩) (by assumption) ?restq5_
                  case hyq5_ => (intro w hSw; (try dsimp only at hSw); (try have e0 := hF0 w hSw); (try have e1 := hF1 w hSw); go_simp; (try with_reducible rfl))
                  try simp only [Act.put, List.setIfInBounds_toArray, List.set_cons_zero, List.set_cons_succ]
                  refine wpAnyH_take (i := 5) (v := ?_) (by rw [List.getElem?_toArray]; rfl) (by kernel_rfl) (by kernel_rfl) (by kernel_rfl) (fun _ _ _ h => h) (Or.inl ⟨by rfl, ?hyq6_⟩) (by assumption) ?restq6_
                  case hyq6_ => (intro w hSw; (try dsimp only at hSw); (try have e0 := hF0 w hSw); (try have e1 := hF1 w hSw); go_simp; (try with_reducible rfl))
                  try simp only [Act.put, List.setIfInBounds_toArray, List.set_cons_zero, List.set_cons_succ]
                  refine wpAnyH_take (i := 6) (v := ?_) (by rw [List.getElem?_toArray]; rfl) (by kernel_rfl) (by kernel_rfl) (by kernel_rfl) (fun _ _ _ h => h) (Or.inl ⟨by rfl, ?hyq7_⟩) (by assumption) ?restq7_
                  case hyq7_ => (intro w hSw; (try dsimp only at hSw); (try have e0 := hF0 w hSw); (try have e1 := hF1 w hSw); go_simp; (try with_reducible rfl))
                  try simp only [Act.put, List.setIfInBounds_toArray, List.set_cons_zero, List.set_cons_succ]
                  refine wpAnyH_take (i := 7) (v := ?_) (by rw [List.getElem?_toArray]; rfl) (by kernel_rfl) (by kernel_rfl) (by kernel_rfl) (fun _ _ _ h => h) (Or.inl ⟨by rfl, ?hyq8_⟩) (by assumption) ?restq8_
                  case hyq8_ => (intro w hSw; (try dsimp only at hSw); (try have e0 := hF0 w hSw); (try have e1 := hF1 w hSw); go_simp; (try with_reducible rfl))
                  try simp only [Act.put, List.setIfInBounds_toArray, List.set_cons_zero, List.set_cons_succ]
                  refine wpAnyH_take (i := 8) (v := ?_) (by rw [List.getElem?_toArray]; rfl) (by kernel_rfl) (by kernel_rfl) (by kernel_rfl) (fun _ _ _ h => h) (Or.inl ⟨by rfl, ?hyq9_⟩) (by assumption) ?restq9_
                  case hyq9_ => (intro w hSw; (try dsimp only at hSw); (try have e0 := hF0 w hSw); (try have e1 := hF1 w hSw); go_simp; (try with_reducible rfl))
                  try simp only [Act.put, List.setIfInBounds_toArray, List.set_cons_zero, List.set_cons_succ]
                  refine wpAnyH_take (i := 9) (v := ?_) (by rw [List.getElem?_toArray]; rfl) (by kernel_rfl) (by kernel_rfl) (by kernel_rfl) (fun _ _ _ h => h) (Or.inl ⟨by rfl, ?hyq10_⟩) (by assumption) ?restq10_
                  case hyq10_ => (intro w hSw; (try dsimp only at hSw); (try have e0 := hF0 w hSw); (try have e1 := hF1 w hSw); go_simp; (try with_reducible rfl))
                  try simp only [Act.put, List.setIfInBounds_toArray, List.set_cons_zero, List.set_cons_succ]
                  refine wpAnyH_take (i := 10) (v := ?_) (by rw [List.getElem?_toArray]; rfl) (by kernel_rfl) (by kernel_rfl) (by kernel_rfl) (fun _ _ _ h => h) (Or.inl ⟨by rfl, ?hyq11_⟩) (by assumption) ?restq11_
                  case hyq11_ => (intro w hSw; (try dsimp only at hSw); (try have e0 := hF0 w hSw); (try have e1 := hF1 w hSw); go_simp; (try with_reducible rfl))
                  try simp only [Act.put, List.setIfInBounds_toArray, List.set_cons_zero, List.set_cons_succ]
                  refine wpAnyH_take (i := 11) (v := ?_) (by rw [List.getElem?_toArray]; rfl) (by kernel_rfl) (by kernel_rfl) (by kernel_rfl) (fun _ _ _ h => h) (Or.inl ⟨by rfl, ?hyq12_⟩) (by assumption) ?restq12_
                  case hyq12_ => (intro w hSw; (try dsimp only at hSw); (try have e0 := hF0 w hSw); (try have e1 := hF1 w hSw); go_simp; (try with_reducible rfl))
                  try simp only [Act.put, List.setIfInBounds_toArray, List.set_cons_zero, List.set_cons_succ]
                  refine wpAnyH_take (i := 12) (v := ?_) (by rw [List.getElem?_toArray]; rfl) (by kernel_rfl) (by kernel_rfl) (by kernel_rfl) (fun _ _ _ h => h) (Or.inl ⟨by rfl, ?hyq13_⟩) (by assumption) ?restq13_
                  case hyq13_ => (intro w hSw; (try dsimp only at hSw); (try have e0 := hF0 w hSw); (try have e1 := hF1 w hSw); go_simp; (try with_reducible rfl))
                  try simp only [Act.put, List.setIfInBounds_toArray, List.set_cons_zero, List.set_cons_succ]
                  refine wpAnyH_take (i := 13) (v := ?_) (by rw [List.getElem?_toArray]; rfl) (by kernel_rfl) (by kernel_rfl) (by kernel_rfl) (fun _ _ _ h => h) (Or.inl ⟨by rfl, ?hyq14_⟩) (by assumption) ?restq14_
                  case hyq14_ => (intro w hSw; (try dsimp only at hSw); (try have e0 := hF0 w hSw); (try have e1 := hF1 w hSw); go_simp; (try with_reducible rfl))
                  try simp only [Act.put, List.setIfInBounds_toArray, List.set_cons_zero, List.set_cons_succ]
                  refine wpAnyH_take (i := 14) (v := ?_) (by rw [List.getElem?_toArray]; rfl) (by kernel_rfl) (by kernel_rfl) (by kernel_rfl) (fun _ _ _ h => h) (Or.inl ⟨by rfl, ?hyq15_⟩) (by assumption) ?restq15_
                  case hyq15_ => (intro w hSw; (try dsimp only at hSw); (try have e0 := hF0 w hSw); (try have e1 := hF1 w hSw); go_simp; (try with_reducible rfl))
                  try simp only [Act.put, List.setIfInBounds_toArray, List.set_cons_zero, List.set_cons_succ]
                  refine wpAnyH_ready (rs := [15]) (by kernel_rfl) (by simp) ?_
                  refine AllReadyH.cons (by rw [List.getElem?_toArray]; rfl) (fun K hK => ?_) AllReadyH.nil
                  obtain ⟨cd, w3, hrun, hown, hk3⟩ := HCM.out wd
                  obtain ⟨G, hG⟩ : ∃ G, G = wd.heap.size := ⟨_, rfl⟩
                  rw [← hG] at hrun hown
                  have HGG := Lib.hid hG
                  clear hG
                  have hown2 : OwnM w3 (.slice (some ⟨G, 0, none⟩) (nb M).length cd) (nb M) := by rw [hkl.out]; exact hown
                  have hS3 : Kept (OwnB (Value.slice a m c)) wr w3 := hHeld.trans (hk3.mono (fun _ _ h => absurd h (fun h => h)))
                  have hP3 : PcSt wb w3 a m c qs := hPd.on hk3
                  have hrd3 : PcRd w3 ((z, M), (some ⟨G, 0, none⟩, cd)) := ⟨hown2.reads, (fun h => by cases h), by have := (own_capM hown2).1; rw [nb_len] at this; exact this, (own_capM hown2).2⟩
                  have hlow3 : G < w3.heap.size := hown.lt G rfl
                  go_simp
                  refine hK.out _ _ hS3 (fun hHeld => ?_)
                  clear hK K
                  try simp only [Act.put, List.setIfInBounds_toArray, List.set_cons_zero, List.set_cons_succ]
                  refine wpAnyH_take (i := 16) (v := ?_) (by rw [List.getElem?_toArray]; rfl) (by kernel_rfl) (by kernel_rfl) (by kernel_rfl) (fun _ _ _ h => h) (Or.inl ⟨by rfl, ?hyq16_⟩) (by assumption) ?restq16_
                  case hyq16_ => (intro w hSw; (try dsimp only at hSw); (try have e0 := hF0 w hSw); (try have e1 := hF1 w hSw); go_simp; (try with_reducible rfl))
                  try simp only [Act.put, List.setIfInBounds_toArray, List.set_cons_zero, List.set_cons_succ]
                  refine wpAnyH_ready (rs := [17]) (by kernel_rfl) (by simp) ?_
                  refine AllReadyH.cons (by rw [List.getElem?_toArray]; rfl) (fun K hK => ?_) AllReadyH.nil
                  go_simp
                  refine hK.out _ _ (hS3.alloc _) (fun hHeld => ?_)
                  clear hK K
                  try simp only [Act.put, List.setIfInBounds_toArray, List.set_cons_zero, List.set_cons_succ]
                  refine wpAnyH_ready (rs := [18]) (by kernel_rfl) (by simp) ?_
                  refine AllReadyH.cons (by rw [List.getElem?_toArray]; rfl) (fun K hK => ?_) AllReadyH.nil
                  refine step_pc rfl (.tmp 105) (.tmp 122) rfl (hP3.on ((Kept.refl NoB w3).alloc (.cells #[.int .i64 z, .slice (some ⟨G, 0, none⟩) k cd] 30))) rfl w3.heap.size 1 ((z, M), (some ⟨G, 0, none⟩, cd)) rfl (cell_new 0 rfl) (by rw [← HKM.out]; exact cell_new 1 rfl) ⟨hrd3.1.keptNo ((Kept.refl NoB w3).alloc _), hrd3.2⟩ (fun x hx => ⟨by cases hx; exact Nat.lt_of_lt_of_le hlow3 ((Kept.refl NoB w3).alloc (.cells #[.int .i64 z, .slice (some ⟨G, 0, none⟩) k cd] 30)).size, fun e => by
                    cases hx
                    have h1 := pc_low hPd _ e
                    have h3 : G < wd.heap.size := h1
                    have h4 := HGG.out
                    omega⟩) (by omega) ?_
                  intro a7 c7 w7 h7 hk7
                  have hS7 : Kept (OwnB (Value.slice a m c)) wr w7 := (hS3.alloc _).trans hk7
                  refine hK.out _ _ hS7 (fun hHeld => ?_)
                  clear hK K
                  try simp only [Act.put, List.setIfInBounds_toArray, List.set_cons_zero, List.set_cons_succ]
                  refine wpAnyH_take (i := 19) (v := ?_) (by rw [List.getElem?_toArray]; rfl) (by kernel_rfl) (by kernel_rfl) (by kernel_rfl) (fun _ _ _ h => h) (Or.inl ⟨by rfl, ?hyq17_⟩) (by assumption) ?restq17_
                  case hyq17_ => (intro w hSw; (try dsimp only at hSw); (try have e0 := hF0 w hSw); (try have e1 := hF1 w hSw); go_simp; (try with_reducible rfl))
                  try simp only [Act.put, List.setIfInBounds_toArray, List.set_cons_zero, List.set_cons_succ]
                  refine wpAnyH_done (by kernel_rfl) ?_ _
                  refine NoPanic.normal ?_
                  have e1 := hF1 _ hS7
                  have H7 := Lib.hid h7
                  clear h7 hS7 hHeld hS3 hP3 hrd3 hlow3 hrun hown hown2 hk3
                  go_wp2
                  go_roundw
                  case rel => exact ⟨j + 1, p4, a7, m + 1, c7, qs ++ [((z, M), (some ⟨G, 0, none⟩, cd))], by go_num, rfl, by go_num, by omega, by omega, by omega, H7, Lib.hid (by rw [List.map_append]; exact HO4.out), Lib.hid (by rw [List.map_append]; exact HI4.out), Lib.hid (by rw [List.map_append]; exact HSm4.out)⟩
                  case measure => simp [intOf]; omega
            · have hje : j = i := by omega
              have HE : Hid (∀ l, GoodM size L l → qs.map Prod.fst = l) := Lib.hid (outG_end HO.out (.inl hje))
              have HS2 : Hid (sumS (qs.map Prod.fst) ≤ n) := Lib.hid (by have := HSm.out; omega)
              clear hje
              go_wp2
              go_meet
              exact ⟨a, m, c, qs, rfl, by omega, HP, HE, HI, HS2⟩
        case rest =>
        obtain ⟨a, m, c, qs, rfl, hm, HP, HE, HI, HSm⟩ := hcut
        have hcap := HP.out.cap
        have hml := HP.out.len
        have HMp := Lib.hid (rmap_any size a m c (qs.map Prod.fst) wc h0 h1 (by rw [List.length_map]; exact hml) HP.out.reads HI.out hcap.1 hcap.2 (by have := HSm.out; omega))
        have HKw := Lib.hid (HWb.out.trans HP.out.kept)
        have HML := Lib.hid hml
        clear hcap hml
        go_wp2_with fail
        with_reducible refine HMp.out.mono ?_
        rintro e w3 ⟨⟨hok, rfl⟩ | ⟨hok, rfl⟩, hk3⟩
        · have HF : Hid (decS size L = none) := Lib.hid (out_no HE.out (.inl hok))
          have HK3 := Lib.hid (HKw.out.trans hk3)
          clear hok hk3
          go_wp2
          go_ret2
          exact .inl ⟨HF.out, rfl, HK3.out⟩
        · have HK3 := Lib.hid (HKw.out.trans hk3)
          have HP3 := Lib.hid (HP.out.on hk3)
          obtain ⟨B, hB⟩ : ∃ B, B = mapB size (qs.map Prod.fst) := ⟨_, rfl⟩
          rw [← hB]
          by_cases hbl : B = L
          · have HF : Hid (decS size L = some (qs.map Prod.fst)) := Lib.hid (out_yes hok (by rw [← hB]; exact hbl))
            subst hbl
            have hse : (strB B).toList == S.toList := by rw [HS.out]; simp
            have y1 : ((strB B).toList == S.toList) = true := hse
            clear hok hk3 hB hse
            obtain ⟨T, hT⟩ : ∃ T, T = strB B := ⟨_, rfl⟩
            rw [← hT] at y1 ⊢
            clear hT
            obtain ⟨m', rfl⟩ : ∃ m', m' = m := ⟨_, rfl⟩
            go_wp2
            go_ret2
            have hml := HML.out
            subst hml
            exact .inr ⟨qs, a, c, HF.out, rfl, pc_back HP3.out HWb.out⟩
          · have HF : Hid (decS size L = none) := Lib.hid (out_no HE.out (.inr (by rw [← hB]; exact hbl)))
            have y1 : ((strB B).toList == S.toList) = false := by
              rw [HS.out, strB_list, strB_list]
              simpa using hbl
            clear hok hk3 hB hbl
            obtain ⟨T, hT⟩ : ∃ T, T = strB B := ⟨_, rfl⟩
            rw [← hT] at y1 ⊢
            clear hT
            go_wp2
            go_ret2
            exact .inl ⟨HF.out, rfl, HK3.out⟩
end Go.Proofs.YtbambcondcikbaaDoor
