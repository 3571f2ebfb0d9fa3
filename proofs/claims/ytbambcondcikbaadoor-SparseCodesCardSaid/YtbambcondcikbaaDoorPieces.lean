/-
  sparse.pieces.
-/
import Derived.Test.YtbambcondcikbaaDoorPcSt
namespace Go.Proofs.YtbambcondcikbaaDoor
open Go.RowKit
set_option linter.unusedVariables false
set_option linter.unusedSimpArgs false

/-- What pieces gives back. -/
def PcsR (w : World) (L : List UInt8) (e : Ending) (w' : World) : Prop :=
  (piecesS L = none ∧ e = .returned (.tuple #[.slice none 0 0, .bool false]) ∧ Kept NoB w w') ∨
    ∃ (qs : List PcQ) (a : Option Addr) (c : Nat), piecesS L = some (qs.map Prod.fst) ∧ e = .returned (.tuple #[.slice a qs.length c, .bool true]) ∧ PcSt w w' a qs.length c qs
theorem fresh_cell {w : World} {g i : Nat} {v : Value} (S : Nat → Prop) {w' : World} (hk : Kept S w w') (hs : ¬ S g) (hc : w.cell? ⟨g, i, none⟩ = some v) : w'.cell? ⟨g, i, none⟩ = some v :=
  (World.cell?_of_block (hk.block g (World.block_lt_of_cell? w _ hc) hs)).trans hc

/-- What Clone gives back: bytes in a place of their own. -/
def ClonR (W : World) (k : Nat) (M : List UInt8) (e : Ending) (w' : World) : Prop :=
  ∃ ax cx, e = .returned (.slice ax k cx) ∧ (∀ z : Int, PcRd w' ((z, M), (ax, cx))) ∧ (∀ x, ax = some x → W.heap.size ≤ x.block ∧ x.block < w'.heap.size) ∧ Kept NoB W w'
theorem clone_pc (ao : Option Addr) (cap k : Nat) (M : List UInt8) (W : World) (hk : k = M.length) (hr : Reads W ao (nb M)) (hl : k ≤ 1000000) : Calls Tryd.prog 48 #[.slice ao k cap] W (ClonR W k M) := by
  have h := clone_any ao cap (nb M) W hr (by rw [nb_len]; omega)
  rw [nb_len, ← hk] at h
  refine h.mono ?_
  rintro e w' ⟨ax, cx, rfl, hown, hfr, _, hkn⟩
  have hrd := own_reads (n := (nb M).length) (cap := cx) (xs := nb M) hown rfl
  rw [nb_len, ← hk] at hown hfr ⊢
  have hcap := own_cap hown
  refine ⟨ax, cx, rfl, fun z => ⟨hrd, own_nil hown, by simp only; rw [← hk]; exact hcap.1, hcap.2⟩, fun x hx => ?_, hkn⟩
  have hob := own_block hown hx
  refine ⟨hfr _ hob, ?_⟩
  rcases hown.2 with ⟨hv, hz⟩ | ⟨g, cc, cur, hv, _, hg, _⟩
  · subst hx; simp at hv
  · subst hx
    simp at hv
    obtain ⟨rfl, _⟩ := hv
    exact (Array.getElem?_eq_some_iff.1 hg).1
theorem pc_back {w0 w1 w : World} {a : Option Addr} {l c : Nat} {qs : List PcQ} (h : PcSt w1 w a l c qs) (hk : Kept NoB w0 w1) : PcSt w0 w a l c qs := ⟨h.len, h.own, hk.trans h.kept, fun k hk2 => Nat.le_trans hk.size (h.fresh k hk2), h.rd, h.ap⟩
theorem spansR_no1 (k : Nat) (b : List UInt8) (h1 : lineS b = none) : spansR (k + 1) b = none := by rw [spansR, h1]
theorem spansR_no2 (k : Nat) (b b1 : List UInt8) (x : Int) (h1 : lineS b = some (x, b1)) (h2 : lineS b1 = none) : spansR (k + 1) b = none := by
  rw [spansR, h1]
  simp only [h2]

set_option maxRecDepth 20000 in
set_option maxHeartbeats 8000000 in
theorem pieces_any (g o n cap : Nat) (L : List UInt8) (w : World) (hn : n = L.length) (hr : Reads w (some ⟨g, o, none⟩) (nb L)) (hc : n ≤ cap) (hm : cap ≤ maxLen) (hn2 : n ≤ 1000000) (htab : Pow10 w) (herr : ErrVars w) :
    Calls Tryd.prog 36 #[.slice (some ⟨g, o, none⟩) n cap] w (PcsR w L) := by
  have HNb : Hid (∀ (i : Nat) (W : World), i ≤ n → Kept NoB w W → Calls Tryd.prog 47 #[.slice (some ⟨g, o, none⟩) n cap, .int .i64 (i : Int)] W (NumbR W L i)) :=
    Lib.hid (fun i W hi hk => numb_any g o n cap i L W hn (hr.keptNo hk) hc hm (by omega) hi (htab.keptNo hk) (herr.keptNo hk))
  have H0 : Hid (Calls Tryd.prog 47 #[.slice (some ⟨g, o, none⟩) n cap, .int .i64 0] w (NumbR w L 0)) := Lib.hid (HNb.out 0 w (by omega) (Kept.refl NoB w))
  have HN := Lib.hid hn; have HR := Lib.hid hr; have HC := Lib.hid hc; have HM := Lib.hid hm
  clear hn hr hc hm htab herr
  go_enter Tryd.func36, Tryd.ntmps36
  go_wp2_with fail
  with_reducible refine H0.out.mono ?_
  rintro e w1 ⟨hk1, h1⟩
  have HK1 := Lib.hid hk1
  clear hk1
  rcases h1 with ⟨hl, p, q, rfl⟩ | ⟨x, nx, hl, hnx, rfl⟩
  · have HP : Hid (piecesS L = none) := Lib.hid (by rw [List.drop_zero] at hl; unfold piecesS; rw [hl])
    clear hl
    go_wp2
    go_ret2
    exact .inl ⟨HP.out, rfl, HK1.out⟩
  · rw [List.drop_zero] at hl
    by_cases hx : (1001 : Int) < x
    · have HP : Hid (piecesS L = none) := Lib.hid (by unfold piecesS; rw [hl]; simp only; rw [if_pos hx])
      clear hl
      go_wp2
      go_ret2
      exact .inl ⟨HP.out, rfl, HK1.out⟩
    · have HP : Hid (piecesS L = match spansR x.toNat (L.drop nx) with | none => none | some (sp, r2) => cutsP sp (L.length - r2.length) L) := Lib.hid (by
        unfold piecesS; rw [hl]; simp only; rw [if_neg hx]; cases spansR x.toNat (L.drop nx) <;> rfl)
      rw [← HN.out] at hnx
      have hxl : x ≤ 1001 := by omega
      clear hl hx
      have HSt : Hid (SpSt w1 w1 none 0 0 []) := Lib.hid ⟨rfl, World.ownsRow_nil _ _ _ _, Kept.refl _ _, fun k hk => by simp [Value.ownBlock] at hk⟩
      go_wp2
      go_loopw [5, 6, 7, 8, 25] (fun v5 v6 v7 v8 v25 wr => ∃ (i nx2 : Nat) (a : Option Addr) (c : Nat) (sp : List (Int × Int)), v25 = .int .i64 (i : Int) ∧ v5 = .int .i64 (nx2 : Int) ∧ v7 = .slice a i c ∧ nx2 ≤ n ∧ (i : Int) ≤ max x 0 ∧ Hid (SpSt w1 wr a i c sp) ∧ Hid (spansR x.toNat (L.drop nx) = andS sp (spansR (x.toNat - i) (L.drop nx2)))) (fun _ _ _ _ v25 _ => x.toNat - (intOf v25).toNat)
      case atStart => exact ⟨0, nx, none, 0, [], rfl, rfl, rfl, hnx, by omega, HSt, Lib.hid (by rw [Nat.sub_zero]; cases spansR x.toNat (L.drop nx) with | none => rfl | some p => rfl)⟩
      case round =>
        obtain ⟨i, nx2, a, c, sp, rfl, rfl, rfl, hnx2, hi, HS, HE⟩ := hrel
        by_cases hlt : (i : Int) < x
        · obtain ⟨q, hq⟩ : ∃ q, q = wr.heap.size := ⟨_, rfl⟩
          obtain ⟨wa, hwa⟩ : ∃ wa, wa = wr.alloc (.cells #[.int .i64 0, .int .i64 0] 60) := ⟨_, rfl⟩
          have hka : Kept NoB wr wa := by rw [hwa]; exact (Kept.refl NoB wr).alloc _
          have ho : wa.heap[q]? = some (.cells #[.int .i64 0, .int .i64 0] 60 (0, 0)) := by rw [hwa, hq]; exact heap_alloc_new _ _
          have hwr : Kept NoB w wr := HK1.out.trans HS.out.kept
          have hwq : wr.heap.size ≤ q := by omega
          have HN1 := Lib.hid (HNb.out nx2 wa hnx2 (hwr.trans hka))
          have HKa := Lib.hid hka; have HO := Lib.hid ho; have HWr := Lib.hid hwr; have HWq := Lib.hid hwq
          have hik : x.toNat - i = (x.toNat - (i + 1)) + 1 := by omega
          rw [hik] at HE
          have hxi : (i : Int) ≤ 1001 := by omega
          clear hik
          go_upto_region 8 with fail
          rw [← hwa, ← hq]
          clear hwa hka ho hwr hwq hq
          go_wp2_with fail
          with_reducible refine HN1.out.mono ?_
          rintro e w2 ⟨hk2, h2⟩
          have o2 := hk2.obj HO.out (fun h => h)
          have hf2 : w2.frozen? ⟨q, 0, none⟩ = false := obj_free o2 0
          have hc2 : w2.cell? ⟨q, 0, none⟩ = some (.int .i64 0) := obj_cell o2 0
          have hK2 : Kept NoB wr w2 := HKa.out.trans hk2
          have HK2 := Lib.hid hK2; have HO2 := Lib.hid o2
          clear hk2 hK2 o2
          rcases h2 with ⟨hl2, p, q2, rfl⟩ | ⟨z, nx3, hl2, hnx3, rfl⟩
          · have HNo : Hid (piecesS L = none) := Lib.hid (by rw [HP.out, HE.out, spansR_no1 _ _ hl2]; rfl)
            have HK3 : Hid (Kept NoB w (w2.setCell ⟨q, 0, none⟩ (.int .i64 p))) := Lib.hid (HWr.out.trans (Kept.setCell (p := ⟨q, 0, none⟩) HK2.out (.inr HWq.out) _))
            clear hl2
            go_wp2
            go_ret2
            exact .inl ⟨HNo.out, rfl, HK3.out⟩
          · rw [← HN.out] at hnx3
            have HL2 := Lib.hid hl2
            clear hl2
            obtain ⟨w3, hw3⟩ : ∃ w3, w3 = w2.setCell ⟨q, 0, none⟩ (.int .i64 z) := ⟨_, rfl⟩
            have hk3 : Kept NoB wr w3 := by rw [hw3]; exact Kept.setCell (p := ⟨q, 0, none⟩) HK2.out (.inr HWq.out) _
            have o3 : w3.heap[q]? = some (.cells #[.int .i64 z, .int .i64 0] 60 (0, 0)) := by rw [hw3]; exact obj_set HO2.out 0 _
            have HN3 := Lib.hid (HNb.out nx3 w3 hnx3 (HWr.out.trans hk3))
            have HK3 := Lib.hid hk3; have HO3 := Lib.hid o3
            clear hk3 o3
            go_upto_region 11 with fail
            rw [← hw3]
            clear hw3 hf2 hc2
            go_wp2_with fail
            with_reducible refine HN3.out.mono ?_
            rintro e w4 ⟨hk4, h4⟩
            have o4 := hk4.obj HO3.out (fun h => h)
            have hf4 : w4.frozen? ⟨q, 1, none⟩ = false := obj_free o4 1
            have hc4 : w4.cell? ⟨q, 1, none⟩ = some (.int .i64 0) := obj_cell o4 1
            have HK4 := Lib.hid (HK3.out.trans hk4); have HO4 := Lib.hid o4
            clear hk4 o4
            rcases h4 with ⟨hl4, p, q2, rfl⟩ | ⟨y, nx4, hl4, hnx4, rfl⟩
            · have HNo : Hid (piecesS L = none) := Lib.hid (by rw [HP.out, HE.out, spansR_no2 _ _ _ _ HL2.out hl4]; rfl)
              have HK5 : Hid (Kept NoB w (w4.setCell ⟨q, 1, none⟩ (.int .i64 p))) := Lib.hid (HWr.out.trans (Kept.setCell (p := ⟨q, 1, none⟩) HK4.out (.inr HWq.out) _))
              clear hl4
              go_wp2
              go_ret2
              exact .inl ⟨HNo.out, rfl, HK5.out⟩
            · rw [← HN.out] at hnx4
              have HE2 : Hid (spansR x.toNat (L.drop nx) = andS (sp ++ [(z, y)]) (spansR (x.toNat - (i + 1)) (L.drop nx4))) := Lib.hid (by
                rw [HE.out, spansR_step _ _ _ _ _ _ HL2.out hl4, andS_andS])
              clear hl4
              obtain ⟨w5, hw5⟩ : ∃ w5, w5 = w4.setCell ⟨q, 1, none⟩ (.int .i64 y) := ⟨_, rfl⟩
              have hk5 : Kept NoB wr w5 := by rw [hw5]; exact Kept.setCell (p := ⟨q, 1, none⟩) HK4.out (.inr HWq.out) _
              have o5 : w5.heap[q]? = some (.cells #[.int .i64 z, .int .i64 y] 60 (0, 0)) := by rw [hw5]; exact obj_set HO4.out 1 _
              have e0 : w5.cell? ⟨q, 0, none⟩ = some (.int .i64 z) := obj_cell o5 0
              have e1 : w5.cell? ⟨q, 1, none⟩ = some (.int .i64 y) := obj_cell o5 1
              have HK5 := Lib.hid hk5
              clear hk5 o5
              go_upto_region 14 with fail
              rw [← hw5]
              clear hw5 hf4 hc4
              go_wp2_with (at_builtin; refine wpList_span1 rfl (.tmp 47) (.tmp 49) rfl (HS.out.on (HK5.out.trans ((Kept.refl NoB w5).alloc _))) rfl w5.heap.size 1 z y rfl (cell_new 0 rfl) (cell_new 1 rfl) (by omega) ?_)
              intro a6 c6 w6 h6
              have H6 := Lib.hid h6
              clear h6 e0 e1
              go_wp2
              go_roundw
              case rel => exact ⟨i + 1, nx4, a6, c6, sp ++ [(z, y)], by go_num, rfl, rfl, hnx4, by omega, H6, HE2⟩
              case measure => simp [intOf]; omega
        · have hie : x.toNat - i = 0 := by omega
          rw [hie] at HE
          have hsl := HS.out.len
          have hP2 : piecesS L = cutsQ sp (nx2 + padN nx2) L := by
            rw [HP.out, HE.out]
            simp only [spansR, andS, List.append_nil]
            rw [show L.length - (L.drop nx2).length = nx2 by rw [List.length_drop]; have := HN.out; omega]
            exact cutsP_Q sp nx2 L
          obtain ⟨pd, hpd⟩ : ∃ pd, pd = padN nx2 := ⟨_, rfl⟩
          have hpd1 : pd ≤ 511 := by rw [hpd]; unfold padN; omega
          rw [← hpd] at hP2
          have HPad : Hid (∀ W, Calls Tryd.prog 34 #[.int .i64 (nx2 : Int)] W fun e w' => e = .returned (.int .i64 (pd : Int)) ∧ W = w') := Lib.hid (fun W => by rw [hpd]; exact pad_any nx2 W (by omega))
          have hib : i ≤ 1001 := by omega
          obtain ⟨A1, hA1⟩ : ∃ A1, A1 = nx2 + pd := ⟨_, rfl⟩
          rw [← hA1] at hP2
          have hA1i : (nx2 : Int) + (pd : Int) = (A1 : Int) := by omega
          have hA1b : A1 ≤ 1001000 := by omega
          have HSl := Lib.hid hsl; have HP2 := Lib.hid hP2
          obtain ⟨wb, hwb⟩ : ∃ wb, wb = wr := ⟨_, rfl⟩
          rw [← hwb] at HS ⊢
          have HWb : Hid (Kept NoB w wb) := Lib.hid (HK1.out.trans HS.out.kept)
          clear hwb hie hsl hP2 hpd hA1 HE HP
          go_wp2_with fail
          refine (HPad.out _).mono ?_
          rintro e w6 ⟨rfl, rfl⟩
          have HStart : Hid (PcSt wb wb none 0 0 []) := Lib.hid (PcSt.start (Kept.refl NoB wb))
          go_wp2
          go_loopw [5, 9, 11, 58] (fun v5 v9 v11 v58 wr => ∃ (j at_ : Nat) (a9 : Option Addr) (l9 c9 : Nat) (qs : List PcQ), v58 = .int .i64 (j : Int) ∧ v5 = .int .i64 (at_ : Int) ∧ v9 = .slice a9 l9 c9 ∧ j ≤ i ∧ l9 ≤ j ∧ at_ ≤ 1001000 ∧ Hid (PcSt wb wr a9 l9 c9 qs) ∧ Hid (cutsQ sp A1 L = andL (qs.map Prod.fst) (cutsQ (sp.drop j) at_ L))) (fun _ _ _ v58 _ => i - (intOf v58).toNat)
          case atStart => exact ⟨0, A1, none, 0, 0, [], rfl, rfl, rfl, by omega, by omega, hA1b, HStart, Lib.hid (by rw [List.drop_zero]; cases cutsQ sp A1 L with | none => rfl | some l => rfl)⟩
          case round =>
            obtain ⟨j, at_, a9, l9, c9, qs, rfl, rfl, rfl, hj, hl9, hat, HPc, HE⟩ := hrel
            by_cases hlt : (j : Int) < (i : Int)
            · have hji : j < i := by omega
              obtain ⟨ga, hga⟩ := HS.out.block (by omega)
              subst hga
              obtain ⟨q0, q1⟩ := (HS.out.on HPc.out.kept).cells j hji
              have hdr : sp.drop j = sp.getD j (0, 0) :: sp.drop (j + 1) := by
                have hjl : j < sp.length := by rw [← HSl.out]; exact hji
                rw [List.drop_eq_getElem_cons hjl]
                simp [List.getD, hjl]
              have hE := HE.out
              rw [hdr] at hE
              obtain ⟨z, hz⟩ : ∃ z, z = (sp.getD j (0, 0)).1 := ⟨_, rfl⟩
              obtain ⟨y, hy⟩ : ∃ y, y = (sp.getD j (0, 0)).2 := ⟨_, rfl⟩
              have hzy : sp.getD j (0, 0) = (z, y) := by rw [hz, hy]
              rw [hzy] at hE
              rw [← hz] at q0
              rw [← hy] at q1
              have HE3 := Lib.hid hE
              obtain ⟨q, hq⟩ : ∃ q, q = wr.heap.size := ⟨_, rfl⟩
              obtain ⟨wq, hwq⟩ : ∃ wq, wq = wr.alloc (.cells #[.int .i64 z, .int .i64 y] 60) := ⟨_, rfl⟩
              have hqs : wq.heap.size = q + 1 := by rw [hwq, hq]; simp
              have hkq : Kept NoB wr wq := by rw [hwq]; exact (Kept.refl NoB wr).alloc _
              have HPq := Lib.hid (HPc.out.on hkq)
              have HLow : Hid (∀ b, (Value.slice a9 l9 c9).ownBlock = some b → b < wq.heap.size) := Lib.hid (pc_low HPq.out)
              have hlow : ∀ b, (Value.slice a9 l9 c9).ownBlock = some b → b < q := by rw [hq]; exact pc_low HPc.out
              have c0 : wq.cell? ⟨q, 0, none⟩ = some (.int .i64 z) := by rw [hwq, hq]; exact cell_new 0 rfl
              have c1 : wq.cell? ⟨q, 1, none⟩ = some (.int .i64 y) := by rw [hwq, hq]; exact cell_new 1 rfl
              clear hz hy hzy hdr hE
              have hF0 : ∀ W, Kept (OwnB (Value.slice a9 l9 c9)) wq W → W.cell? ⟨q, 0, none⟩ = some (.int .i64 z) := fun W h => fresh_cell _ h (fun e => by have := hlow q e; omega) c0
              have hF1 : ∀ W, Kept (OwnB (Value.slice a9 l9 c9)) wq W → W.cell? ⟨q, 1, none⟩ = some (.int .i64 y) := fun W h => fresh_cell _ h (fun e => by have := hlow q e; omega) c1
              have HF0 := Lib.hid hF0; have HF1 := Lib.hid hF1
              clear hF0 hF1
              go_upto_region 21 with fail
              rw [← hwq, ← hq]
              clear hwq hq q0 q1
              by_cases hy0 : y = 0
              · have hyb : (y == 0) = true := by simpa using hy0
                have HE4 : Hid (cutsQ sp A1 L = andL (qs.map Prod.fst) (cutsQ (sp.drop (j + 1)) at_ L)) := Lib.hid (by rw [HE3.out, cutsQ_zero _ _ _ _ hy0])
                clear hy0
                go_wp2
                go_roundw
                case rel => exact ⟨j + 1, at_, a9, l9, c9, qs, by go_num, rfl, rfl, by omega, by omega, hat, HPq, HE4⟩
                case measure => simp [intOf]; omega
              · have hyb : (y == 0) = false := by simpa using hy0
                by_cases hbad : y < 0 ∨ L.length < at_ ∨ ((L.length : Int) - (at_ : Int)) < y
                · have HNo : Hid (piecesS L = none) := Lib.hid (by rw [HP2.out, HE3.out, cutsQ_no _ _ _ _ hy0 hbad]; rfl)
                  have HKq : Hid (Kept NoB w wq) := Lib.hid (HWb.out.trans HPq.out.kept)
                  rw [← HN.out] at hbad
                  clear hy0
                  by_cases h1 : y < 0
                  · clear hbad
                    go_wp2
                    go_ret2
                    exact .inl ⟨HNo.out, rfl, HKq.out⟩
                  · by_cases h2 : (n : Int) < (at_ : Int)
                    · clear hbad
                      go_wp2
                      go_ret2
                      exact .inl ⟨HNo.out, rfl, HKq.out⟩
                    · have h3 : (n : Int) - (at_ : Int) < y := by omega
                      clear hbad
                      go_wp2
                      go_ret2
                      exact .inl ⟨HNo.out, rfl, HKq.out⟩
                · rw [← HN.out] at hbad
                  obtain ⟨k, rfl⟩ : ∃ k : Nat, y = (k : Int) := ⟨y.toNat, by omega⟩
                  have hk0 : k ≠ 0 := by intro e; subst e; exact hy0 rfl
                  have hak : at_ + k ≤ n := by omega
                  obtain ⟨M, hM⟩ : ∃ M, M = (L.drop at_).take k := ⟨_, rfl⟩
                  have hkM : k = M.length := by rw [hM, List.length_take, List.length_drop]; have := HN.out; omega
                  have HE4 : Hid (cutsQ sp A1 L = andL ((qs.map Prod.fst) ++ [(z, M)]) (cutsQ (sp.drop (j + 1)) (at_ + k) L)) := Lib.hid (by
                    rw [HE3.out, cutsQ_yes _ _ _ k _ rfl hk0 (by rw [← HN.out]; exact hak), ← hM]
                    cases cutsQ (sp.drop (j + 1)) (at_ + k) L with
                    | none => rfl
                    | some l => simp [andL])
                  have hncap : ¬ cap = at_ := by have := HC.out; omega
                  obtain ⟨m2, hm2⟩ : ∃ m2, m2 = at_ + k := ⟨_, rfl⟩
                  rw [← hm2] at HE4 hak
                  have hm2i : (at_ : Int) + (k : Int) = (m2 : Int) := by omega
                  have hm2k : m2 - at_ = k := by omega
                  have hm2a : at_ ≤ m2 := by omega
                  have hgb : ∀ W, Kept (OwnB (Value.slice a9 l9 c9)) wq W → Reads W (some ⟨g, o + at_, none⟩) (nb M) := fun W hW => by
                    have hr1 := HR.out.keptNo (HWb.out.trans HPq.out.kept)
                    have h2 := reads_take k (reads_drop at_ hr1)
                    rw [addr_add] at h2
                    have e : nb M = ((nb L).drop at_).take k := by rw [hM]; simp [nb]
                    rw [← e] at h2
                    refine h2.kept hW (fun x hx e => ?_)
                    cases hx
                    have h5 : wb.heap.size ≤ g := HPq.out.fresh _ e
                    obtain ⟨b', off', he, hlt', _⟩ := HR.out.at (by rw [nb_len, ← HN.out]; omega)
                    cases he
                    have h6 := HWb.out.size
                    omega
                  have HCl : Hid (∀ W, Kept (OwnB (Value.slice a9 l9 c9)) wq W → Calls Tryd.prog 48 #[.slice (some ⟨g, o + at_, none⟩) (m2 - at_) (cap - at_)] W (ClonR W k M)) := Lib.hid (fun W hW => by
                    rw [hm2k]
                    exact clone_pc _ _ k M W hkM (hgb W hW) (by omega))
                  have HKM := Lib.hid hkM
                  have hmw : IntKind.i64.wrap (m2 : Int) = (m2 : Int) := IntWalk.i64_in _ (by omega)
                  have hmc : m2 ≤ cap := by have := HC.out; omega
                  have hcm9 : cap ≤ 9223372036854775807 := by have := HM.out; unfold maxLen at this; omega
                  have hkp : ¬ ((k : Int) < 0) := by omega
                  have hx1 : ¬ ((n : Int) < (at_ : Int)) := by omega
                  have hx2 : ¬ ((n : Int) - (at_ : Int) < (k : Int)) := by omega
                  clear hbad hgb hkM hM hm2 hlow hy0 hm2k
                  have hF0 := HF0.out
                  have hF1 := HF1.out
                  go_upto_region 24 with fail
                  have hc0 := c0
                  have hc1 := c1
                  clear c0 c1
                  go_wp2_with fail
                  refine wp_region_noPanic ?_
                  refine wp_region_held_drew (S := fun W => Kept (OwnB (Value.slice a9 l9 c9)) wq W) (by kernel_rfl) (Kept.drew (Kept.refl _ _)) (fun hHeld => ?_)
                  refine wpAnyH_take (i := 0) (v := ?_) (by rw [List.getElem?_toArray]; rfl) (by kernel_rfl) (by kernel_rfl) (by kernel_rfl) (fun _ _ _ h => h) (Or.inl ⟨by rfl, ?hy0⟩) (by assumption) ?rest0
                  case hy0 => (intro w hSw; (try dsimp only at hSw); (try have e0 := hF0 w hSw); (try have e1 := hF1 w hSw); go_simp; (try with_reducible rfl))
                  try simp only [Act.put, List.setIfInBounds_toArray, List.set_cons_zero, List.set_cons_succ]
                  refine wpAnyH_take (i := 1) (v := ?_) (by rw [List.getElem?_toArray]; rfl) (by kernel_rfl) (by kernel_rfl) (by kernel_rfl) (fun _ _ _ h => h) (Or.inl ⟨by rfl, ?hy1⟩) (by assumption) ?rest1
                  case hy1 => (intro w hSw; (try dsimp only at hSw); (try have e0 := hF0 w hSw); (try have e1 := hF1 w hSw); go_simp; (try with_reducible rfl))
                  try simp only [Act.put, List.setIfInBounds_toArray, List.set_cons_zero, List.set_cons_succ]
                  refine wpAnyH_take (i := 2) (v := ?_) (by rw [List.getElem?_toArray]; rfl) (by kernel_rfl) (by kernel_rfl) (by kernel_rfl) (fun _ _ _ h => h) (Or.inl ⟨by rfl, ?hy2⟩) (by assumption) ?rest2
                  case hy2 => (intro w hSw; (try dsimp only at hSw); (try have e0 := hF0 w hSw); (try have e1 := hF1 w hSw); go_simp; (try with_reducible rfl))
                  try simp only [Act.put, List.setIfInBounds_toArray, List.set_cons_zero, List.set_cons_succ]
                  refine wpAnyH_take (i := 3) (v := ?_) (by rw [List.getElem?_toArray]; rfl) (by kernel_rfl) (by kernel_rfl) (by kernel_rfl) (fun _ _ _ h => h) (Or.inl ⟨by rfl, ?hy3⟩) (by assumption) ?rest3
                  case hy3 => (intro w hSw; (try dsimp only at hSw); (try have e0 := hF0 w hSw); (try have e1 := hF1 w hSw); go_simp; (try with_reducible rfl))
                  try simp only [Act.put, List.setIfInBounds_toArray, List.set_cons_zero, List.set_cons_succ]
                  refine wpAnyH_take (i := 4) (v := ?_) (by rw [List.getElem?_toArray]; rfl) (by kernel_rfl) (by kernel_rfl) (by kernel_rfl) (fun _ _ _ h => h) (Or.inl ⟨by rfl, ?hy4⟩) (by assumption) ?rest4
                  case hy4 => (intro w hSw; (try dsimp only at hSw); (try have e0 := hF0 w hSw); (try have e1 := hF1 w hSw); go_simp; (try with_reducible rfl))
                  try simp only [Act.put, List.setIfInBounds_toArray, List.set_cons_zero, List.set_cons_succ]
                  refine wpAnyH_take (i := 5) (v := ?_) (by rw [List.getElem?_toArray]; rfl) (by kernel_rfl) (by kernel_rfl) (by kernel_rfl) (fun _ _ _ h => h) (Or.inl ⟨by rfl, ?hy5⟩) (by assumption) ?rest5
                  case hy5 => (intro w hSw; (try dsimp only at hSw); (try have e0 := hF0 w hSw); (try have e1 := hF1 w hSw); go_simp; (try with_reducible rfl))
                  try simp only [Act.put, List.setIfInBounds_toArray, List.set_cons_zero, List.set_cons_succ]
                  refine wpAnyH_take (i := 6) (v := ?_) (by rw [List.getElem?_toArray]; rfl) (by kernel_rfl) (by kernel_rfl) (by kernel_rfl) (fun _ _ _ h => h) (Or.inl ⟨by rfl, ?hy6⟩) (by assumption) ?rest6
                  case hy6 => (intro w hSw; (try dsimp only at hSw); (try have e0 := hF0 w hSw); (try have e1 := hF1 w hSw); go_simp; (try with_reducible rfl))
                  try simp only [Act.put, List.setIfInBounds_toArray, List.set_cons_zero, List.set_cons_succ]
                  refine wpAnyH_take (i := 7) (v := ?_) (by rw [List.getElem?_toArray]; rfl) (by kernel_rfl) (by kernel_rfl) (by kernel_rfl) (fun _ _ _ h => h) (Or.inl ⟨by rfl, ?hy7⟩) (by assumption) ?rest7
                  case hy7 => (intro w hSw; (try dsimp only at hSw); (try have e0 := hF0 w hSw); (try have e1 := hF1 w hSw); go_simp; (try with_reducible rfl))
                  try simp only [Act.put, List.setIfInBounds_toArray, List.set_cons_zero, List.set_cons_succ]
                  refine wpAnyH_take (i := 8) (v := ?_) (by rw [List.getElem?_toArray]; rfl) (by kernel_rfl) (by kernel_rfl) (by kernel_rfl) (fun _ _ _ h => h) (Or.inl ⟨by rfl, ?hy8⟩) (by assumption) ?rest8
                  case hy8 => (intro w hSw; (try dsimp only at hSw); (try have e0 := hF0 w hSw); (try have e1 := hF1 w hSw); go_simp; (try with_reducible rfl))
                  try simp only [Act.put, List.setIfInBounds_toArray, List.set_cons_zero, List.set_cons_succ]
                  refine wpAnyH_take (i := 9) (v := ?_) (by rw [List.getElem?_toArray]; rfl) (by kernel_rfl) (by kernel_rfl) (by kernel_rfl) (fun _ _ _ h => h) (Or.inl ⟨by rfl, ?hy9⟩) (by assumption) ?rest9
                  case hy9 => (intro w hSw; (try dsimp only at hSw); (try have e0 := hF0 w hSw); (try have e1 := hF1 w hSw); go_simp; (try with_reducible rfl))
                  try simp only [Act.put, List.setIfInBounds_toArray, List.set_cons_zero, List.set_cons_succ]
                  refine wpAnyH_ready (rs := [10]) (by kernel_rfl) (by simp) ?_
                  refine AllReadyH.cons (by rw [List.getElem?_toArray]; rfl) (fun K hK => ?_) AllReadyH.nil
                  go_simp
                  go_at_call 48
                  (with_reducible refine (HCl.out _ hHeld).mono ?_)
                  rintro e wn ⟨ax, cx, rfl, hrd, hbl, hkn⟩
                  have hH1 : Kept (OwnB (Value.slice a9 l9 c9)) wq wn := hHeld.trans (hkn.mono (fun _ _ h => absurd h (fun h => h)))
                  have hP1 : PcSt wb wn a9 l9 c9 qs := (HPq.out.on ((Kept.refl NoB wq).drew)).on hkn
                  have hrd1 := hrd z
                  go_wp2_with fail
                  refine hK.out _ _ hH1 (fun hHeld => ?_)
                  clear hK K
                  try simp only [Act.put, List.setIfInBounds_toArray, List.set_cons_zero, List.set_cons_succ]
                  refine wpAnyH_take (i := 11) (v := ?_) (by rw [List.getElem?_toArray]; rfl) (by kernel_rfl) (by kernel_rfl) (by kernel_rfl) (fun _ _ _ h => h) (Or.inl ⟨by rfl, ?hy11⟩) (by assumption) ?rest11
                  case hy11 => (intro w hSw; (try dsimp only at hSw); (try have e0 := hF0 w hSw); (try have e1 := hF1 w hSw); go_simp; (try with_reducible rfl))
                  try simp only [Act.put, List.setIfInBounds_toArray, List.set_cons_zero, List.set_cons_succ]
                  refine wpAnyH_ready (rs := [12]) (by kernel_rfl) (by simp) ?_
                  refine AllReadyH.cons (by rw [List.getElem?_toArray]; rfl) (fun K hK => ?_) AllReadyH.nil
                  go_simp
                  refine hK.out _ _ (hH1.alloc _) (fun hHeld => ?_)
                  clear hK K
                  try simp only [Act.put, List.setIfInBounds_toArray, List.set_cons_zero, List.set_cons_succ]
                  refine wpAnyH_ready (rs := [13]) (by kernel_rfl) (by simp) ?_
                  refine AllReadyH.cons (by rw [List.getElem?_toArray]; rfl) (fun K hK => ?_) AllReadyH.nil
                  refine step_pc rfl (.tmp 83) (.tmp 95) rfl (hP1.on ((Kept.refl NoB wn).alloc (.cells #[.int .i64 z, .slice ax k cx] 30))) rfl wn.heap.size 1 ((z, M), (ax, cx)) rfl (cell_new 0 rfl) (by rw [← HKM.out]; exact cell_new 1 rfl) ⟨hrd1.1.keptNo ((Kept.refl NoB wn).alloc _), hrd1.2⟩ (fun x hx => ⟨Nat.lt_of_lt_of_le (hbl x hx).2 ((Kept.refl NoB wn).alloc (.cells #[.int .i64 z, .slice ax k cx] 30)).size, fun e => by
                    have h1 := HLow.out _ e
                    have h2 := (hbl x hx).1
                    have h3 : wq.drew.heap.size = wq.heap.size := rfl
                    omega⟩) (by omega) ?_
                  intro a7 c7 w7 h7 hk7
                  have hS7 : Kept (OwnB (Value.slice a9 l9 c9)) wq w7 := (hH1.alloc _).trans hk7
                  refine hK.out _ _ hS7 (fun hHeld => ?_)
                  clear hK K
                  try simp only [Act.put, List.setIfInBounds_toArray, List.set_cons_zero, List.set_cons_succ]
                  refine wpAnyH_take (i := 14) (v := ?_) (by rw [List.getElem?_toArray]; rfl) (by kernel_rfl) (by kernel_rfl) (by kernel_rfl) (fun _ _ _ h => h) (Or.inl ⟨by rfl, ?hy14⟩) (by assumption) ?rest14
                  case hy14 => (intro w hSw; (try dsimp only at hSw); (try have e0 := hF0 w hSw); (try have e1 := hF1 w hSw); go_simp; (try with_reducible rfl))
                  try simp only [Act.put, List.setIfInBounds_toArray, List.set_cons_zero, List.set_cons_succ]
                  refine wpAnyH_done (by kernel_rfl) ?_ _
                  refine NoPanic.normal ?_
                  have e1 := hF1 _ hS7
                  have H7 := Lib.hid h7
                  go_wp2
                  go_roundw
                  case rel => exact ⟨j + 1, m2, a7, l9 + 1, c7, qs ++ [((z, M), (ax, cx))], by go_num, by go_num, rfl, by omega, by omega, by omega, H7, Lib.hid (by rw [HE4.out]; simp)⟩
                  case measure => simp [intOf]; omega
            · have hje : sp.drop j = [] := List.drop_of_length_le (by rw [← HSl.out]; omega)
              have HYes : Hid (piecesS L = some (qs.map Prod.fst)) := Lib.hid (by rw [HP2.out, HE.out, hje, cutsQ_nil]; simp [andL])
              have hlq := HPc.out.len
              subst hlq
              clear hje
              go_wp2
              go_ret2
              exact .inr ⟨qs, a9, c9, HYes.out, rfl, pc_back HPc.out HWb.out⟩
end Go.Proofs.YtbambcondcikbaaDoor
