/-
  sparse.Encode.
-/
import Derived.Test.YtbambcondcikbaaDoorSpan
namespace Go.Proofs.YtbambcondcikbaaDoor
open Go.RowKit
set_option linter.unusedVariables false
set_option linter.unusedSimpArgs false

/-- Spans that are set up to a place. -/
def spanF (l : List Pc) (i : Nat) : List (Int × Int) := (l.take i).map (fun p => (p.1, (p.2.length : Int))) ++ List.replicate (l.length - i) (0, 0)
theorem spanF_len (l : List Pc) (i : Nat) (h : i ≤ l.length) : (spanF l i).length = l.length := by
  rw [spanF, List.length_append, List.length_map, List.length_take, List.length_replicate]; omega
theorem spanF_zero (l : List Pc) : spanF l 0 = List.replicate l.length (0, 0) := by simp [spanF]
theorem spanF_full (l : List Pc) : spanF l l.length = l.map (fun p => (p.1, (p.2.length : Int))) := by simp [spanF]
theorem spanF_set (l : List Pc) (i : Nat) (h : i < l.length) : (spanF l i).set i ((l.getD i (0, [])).1, ((l.getD i (0, [])).2.length : Int)) = spanF l (i + 1) := by
  unfold spanF
  rw [List.set_append_right _ _ (by simp; omega), List.length_map, List.length_take, Nat.min_eq_left (by omega), Nat.sub_self, show l.length - i = (l.length - (i + 1)) + 1 by omega, List.replicate_succ, List.set_cons_zero, List.take_succ_eq_append_getElem h, List.map_append]
  simp [List.getD, h]
theorem spanF_last (l : List Pc) (n : Nat) (hn : n = l.length) (h : 0 < n) : (spanF l n).getD (n - 1) (0, 0) = ((l.getD (n - 1) (0, [])).1, ((l.getD (n - 1) (0, [])).2.length : Int)) := by
  subst hn
  rw [spanF_full]
  simp [List.getD, show l.length - 1 < l.length by omega]
theorem ends_last (size : Int) (l : List Pc) (n : Nat) (hn : n = l.length) (h : 0 < n) : endsS size l = decide ((l.getD (n - 1) (0, [])).1 + ((l.getD (n - 1) (0, [])).2.length : Int) = size) := by
  subst hn
  unfold endsS
  rw [List.getLast?_eq_getElem?]
  simp [List.getD, show l.length - 1 < l.length by omega]
theorem ends_nil (size : Int) (l : List Pc) (h : 0 = l.length) : endsS size l = false := by
  rw [List.eq_nil_of_length_eq_zero h.symm]; rfl
theorem BySt.start {w0 w : World} (hk : Kept NoB w0 w) : BySt w0 w none 0 0 [] := ⟨rfl, World.ownsRow_nil _ _ _ _, hk, fun k hk => by simp [Value.ownBlock] at hk⟩
set_option maxHeartbeats 1000000 in
theorem end_any (a b : Int) (w : World) (h : -4000000000000000000 ≤ a ∧ a ≤ 4000000000000000000 ∧ 0 ≤ b ∧ b ≤ 4000000000000000000) :
    Calls Tryd.prog 32 #[.agg #[.int .i64 a, .int .i64 b]] w fun e w' => e = .returned (.int .i64 (a + b)) ∧ Kept NoB w w' := by
  obtain ⟨b1, b2, b3, b4⟩ := h
  have hw : IntKind.i64.wrap (a + b) = a + b := IntWalk.i64_in _ (by omega)
  obtain ⟨w1, hw1⟩ : ∃ w1, w1 = w.alloc (.cells #[.int .i64 a, .int .i64 b] 60) := ⟨_, rfl⟩
  have hk1 : Kept NoB w w1 := by rw [hw1]; exact (Kept.refl _ _).alloc _
  have hc0 : w1.cell? ⟨w.heap.size, 0, none⟩ = some (.int .i64 a) := by rw [hw1]; exact cell_new 0 rfl
  have hc1 : w1.cell? ⟨w.heap.size, 1, none⟩ = some (.int .i64 b) := by rw [hw1]; exact cell_new 1 rfl
  have HK1 := Lib.hid hk1
  clear hk1
  go_enter Tryd.func32, Tryd.ntmps32
  go_upto_region 1 with fail
  rw [← hw1]
  clear hw1
  go_wp2
  go_ret
  exact ⟨rfl, HK1.out⟩
/-- Spans that may be told. -/
def spanB_le (sp : List (Int × Int)) : Prop := ∀ s ∈ sp, 0 ≤ s.1 ∧ s.1 ≤ 1099511627776 ∧ 0 ≤ s.2 ∧ s.2 ≤ 1099511627776
theorem lineB_len (n : Int) (h0 : -9223372036854775808 ≤ n) (h1 : n ≤ 9223372036854775807) : (lineB n).length ≤ 21 := by
  have := itoa_len n h0 h1
  rw [lineB, List.length_append]; simp; omega
theorem spans_len : ∀ (sp : List (Int × Int)), spanB_le sp → (sp.flatMap spanB).length ≤ 42 * sp.length
  | [], _ => by simp
  | s :: sp, h => by
    have h1 := h s (List.mem_cons_self ..)
    have ih := spans_len sp (fun t ht => h t (List.mem_cons_of_mem _ ht))
    have a := lineB_len s.1 (by omega) (by omega)
    have b := lineB_len s.2 (by omega) (by omega)
    rw [List.flatMap_cons, List.length_append, List.length_cons, spanB, List.length_append]; omega
theorem spans_take (sp : List (Int × Int)) (i : Nat) (h : i < sp.length) : (sp.take (i + 1)).flatMap spanB = (sp.take i).flatMap spanB ++ lineB (sp.getD i (0, 0)).1 ++ lineB (sp.getD i (0, 0)).2 := by
  rw [List.take_succ_eq_append_getElem h, List.flatMap_append]
  simp [List.getD, h, spanB]
theorem data_take (l : List Pc) (i : Nat) (h : i < l.length) : dataB (l.take (i + 1)) = dataB (l.take i) ++ (l.getD i (0, [])).2 := by
  unfold dataB
  rw [List.take_succ_eq_append_getElem h, List.flatMap_append]
  simp [List.getD, h]
theorem sum_take_le (l : List Pc) (i : Nat) : sumS (l.take i) ≤ sumS l := by
  have : sumS l = sumS (l.take i) + sumS (l.drop i) := by
    conv => lhs; rw [← List.take_append_drop i l]
    simp only [sumS, List.map_append, List.sum_append]
  omega
theorem by_low {w0 w : World} {a : Option Addr} {l c : Nat} {L : List UInt8} (h : BySt w0 w a l c L) : ∀ k, (Value.slice a l c).ownBlock = some k → k < w.heap.size := by
  intro k hk
  rcases h.own.2 with ⟨hv, hz⟩ | ⟨g, cc, cur, hv, _, hg, _⟩
  · simp at hv
    obtain ⟨rfl, _⟩ := hv
    simp [Value.ownBlock] at hk
  · simp at hv
    obtain ⟨rfl, _⟩ := hv
    simp [Value.ownBlock] at hk
    subst hk
    first | exact (Array.getElem?_eq_some_iff.1 hg).1 | assumption
theorem by_back {w0 w1 w : World} {a : Option Addr} {l c : Nat} {L : List UInt8} (h : BySt w1 w a l c L) (hk : Kept NoB w0 w1) : BySt w0 w a l c L := ⟨h.len, h.own, hk.trans h.kept, fun k hk2 => Nat.le_trans hk.size (h.fresh k hk2)⟩
/-- What Encode gives back. -/
def SpEncR (w : World) (size : Int) (l : List Pc) (e : Ending) (w' : World) : Prop :=
  (okS size l = false ∧ e = .returned (.tuple #[.slice none 0 0, .bool false]) ∧ Kept NoB w w') ∨ ∃ a c, okS size l = true ∧ e = .returned (.tuple #[.slice a (mapB size l).length c, .bool true]) ∧ BySt w w' a (mapB size l).length c (mapB size l)

set_option maxRecDepth 20000 in
set_option maxHeartbeats 8000000 in
theorem spenc_any (size : Int) (ao : Option Addr) (n cap : Nat) (l : List Pc) (w : World) (h0 : -9223372036854775808 ≤ size) (h1 : size ≤ 9223372036854775807) (hn : n = l.length) (hr : RdP w w.heap.size ao l) (hi : IntP l) (hc : n ≤ cap) (hcm : cap ≤ maxLen) (hsum : sumS l ≤ 1000000) (htab : Pow10 w) :
    Calls Tryd.prog 13 #[.int .i64 size, .slice ao n cap] w (SpEncR w size l) := by
  have HO := Lib.hid (spok_any size ao n cap l w h0 h1 hn hr hi hc hcm)
  have HR := Lib.hid hr; have HN := Lib.hid hn; have HI := Lib.hid hi; have HT := Lib.hid htab
  have hcm2 : n ≤ 9223372036854775807 := by unfold maxLen at hcm; omega
  obtain ⟨ok, hok⟩ : ∃ ok, ok = okS size l := ⟨_, rfl⟩
  rw [← hok] at HO
  have HOk := Lib.hid hok
  clear hok hr hn hi hcm htab
  go_enter Tryd.func13, Tryd.ntmps13
  go_wp2_with fail
  refine HO.out.mono ?_
  rintro e w1 ⟨rfl, hk1⟩
  have HK1 := Lib.hid hk1
  clear hk1
  cases ok with
  | false =>
    go_wp2
    go_ret2
    exact .inl ⟨HOk.out.symm, rfl, HK1.out⟩
  | true =>
    have hok2 := HOk.out.symm
    simp only [okS, Bool.and_eq_true, decide_eq_true_eq] at hok2
    obtain ⟨⟨⟨s0, s1⟩, s2⟩, s3⟩ := hok2
    rw [← HN.out] at s2
    have HEach := Lib.hid (okG_each size l 0 (by omega) s3)
    obtain ⟨n1, hn1⟩ : ∃ n1, n1 = n + 1 := ⟨_, rfl⟩
    have hn1i : (n : Int) + 1 = (n1 : Int) := by omega
    have hn1b : n ≤ n1 ∧ n1 ≤ 1001 := by omega
    have HN1 := Lib.hid hn1
    clear s3 hn1
    go_wp2_with (at_make; refine wpList_make_spans _ rfl _ _ rfl n n1 rfl rfl hn1b.1 (by omega) ?_)
    intro w2 h2
    obtain ⟨G, hG⟩ : ∃ G, G = w1.heap.size := ⟨_, rfl⟩
    rw [← hG] at h2 ⊢
    have HS2 : Hid (SpSt w1 w2 (some ⟨G, 0, none⟩) n n1 (spanF l 0)) := Lib.hid (by rw [spanF_zero, ← HN.out]; exact h2)
    clear h2 hG
    have HSet := Lib.hid (fun i (hi : i < n) => spanF_set l i (by have := HN.out; omega))
    go_wp2
    go_loopw [7, 8, 26] (fun v7 v8 v26 wr => ∃ i : Nat, v26 = .int .i64 (i : Int) ∧ i ≤ n ∧ Hid (SpSt w1 wr (some ⟨G, 0, none⟩) n n1 (spanF l i))) (fun _ _ v26 _ => n - (intOf v26).toNat)
    case atStart => exact ⟨0, rfl, by omega, HS2⟩
    case round =>
      obtain ⟨i, rfl, hi, HS⟩ := hrel
      by_cases hlt : (i : Int) < (n : Int)
      · have hin : i < n := by omega
        obtain ⟨b, off, bo, bc, rfl, hb, c0, c1, _⟩ := HR.out i (by have := HN.out; omega)
        have d0 := (HK1.out.trans HS.out.kept).cell c0
        have d1 := (HK1.out.trans HS.out.kept).cell c1
        have e1 := HSet.out i hin
        obtain ⟨p, hp⟩ : ∃ p, p = l.getD i (0, []) := ⟨_, rfl⟩
        rw [← hp] at d0 d1 e1
        rw [show off + (i * 2 + 1) = off + i * 2 + 1 by omega] at d1
        obtain ⟨z, hz⟩ : ∃ z, z = p.1 := ⟨_, rfl⟩
        obtain ⟨k, hk⟩ : ∃ k, k = p.2.length := ⟨_, rfl⟩
        rw [← hz] at d0 e1
        rw [← hk] at d1 e1
        have hSA := (HS.out.on ((Kept.refl NoB wr).alloc (.cells #[.int .i64 z, .slice bo k bc] 30)))
        obtain ⟨q0, q1⟩ := hSA.cells i hin
        have hf0 : ∀ m, (wr.alloc (.cells #[.int .i64 z, .slice bo k bc] 30)).frozen? ⟨G, m, none⟩ = false := fun m => hSA.own.frozenAt m
        have E1 := Lib.hid e1
        have HSB := Lib.hid (hSA.set i hin z (k : Int))
        clear c0 c1 hp hz hk e1
        go_wp2
        go_roundw
        case rel => exact ⟨i + 1, by go_num, by omega, Lib.hid (by rw [← E1.out]; exact HSB.out)⟩
        case measure => simp [intOf]; omega
      · have hie : n = i := by omega
        subst hie
        obtain ⟨w3, hw3⟩ : ∃ w3, w3 = wr := ⟨_, rfl⟩
        rw [← hw3] at HS ⊢
        clear hw3
        go_upto_region 9 with fail
        go_cut [54] from 41 to 54 (fun v54 wx => v54 = .bool (!endsS size l) ∧ Hid (Kept NoB w3 wx))
        case first =>
          by_cases hi0 : n = 0
          · have hz : ((n : Int) == 0) = true := by simp; omega
            have HE : Hid (endsS size l = false) := Lib.hid (ends_nil size l (by rw [← HN.out, hi0]))
            clear hi0
            go_wp2
            go_meet
            exact ⟨by rw [HE.out]; rfl, Lib.hid (Kept.refl _ _)⟩
          · have hz : ((n : Int) == 0) = false := by simp; omega
            obtain ⟨j, hj⟩ : ∃ j, j = n - 1 := ⟨_, rfl⟩
            have hji : (n : Int) - 1 = (j : Int) := by omega
            have hjl : j < n := by omega
            obtain ⟨q0, q1⟩ := HS.out.cells j hjl
            have hl1 := spanF_last l n HN.out (by omega)
            have hl2 := ends_last size l n HN.out (by omega)
            have hl3 := HEach.out (l.getD j (0, [])) (by
              have hjl2 : j < l.length := by rw [← HN.out]; exact hjl
              simp [List.getD, hjl2])
            rw [← hj] at hl1 hl2
            rw [hl1] at q0 q1
            obtain ⟨z, hz2⟩ : ∃ z, z = (l.getD j (0, [])).1 := ⟨_, rfl⟩
            obtain ⟨k, hk⟩ : ∃ k, k = (l.getD j (0, [])).2.length := ⟨_, rfl⟩
            simp only at q0 q1
            rw [← hz2] at q0 hl2 hl3
            rw [← hk] at q1 hl2 hl3
            have HEn := Lib.hid (fun W => end_any z (k : Int) W (by omega))
            have HL2 := Lib.hid hl2
            clear hi0 hj hl1 hl2 hz2 hk
            go_wp2_with fail
            refine (HEn.out _).mono ?_
            rintro e w4 ⟨rfl, hk4⟩
            have HK4 := Lib.hid hk4
            clear hk4 q0 q1
            by_cases he : z + (k : Int) = size
            · have he2 : (z + (k : Int) == size) = true := by simpa using he
              have HE : Hid (endsS size l = true) := Lib.hid (by rw [HL2.out]; exact decide_eq_true he)
              clear he
              go_wp2
              go_meet
              exact ⟨by rw [HE.out]; simp only [bne, he2], HK4⟩
            · have he2 : (z + (k : Int) == size) = false := by simpa using he
              have HE : Hid (endsS size l = false) := Lib.hid (by rw [HL2.out]; exact decide_eq_false he)
              clear he
              go_wp2
              go_meet
              exact ⟨by rw [HE.out]; simp only [bne, he2], HK4⟩
        case rest =>
        obtain ⟨rfl, HKc⟩ := hcut
        have hsp : spansS size l = l.map (fun p => (p.1, (p.2.length : Int))) ++ (if endsS size l then [] else [(size, 0)]) := rfl
        have hfull := spanF_full l
        rw [← HN.out] at hfull
        rw [← hfull] at hsp
        obtain ⟨sp, hspl⟩ : ∃ sp, sp = spansS size l := ⟨_, rfl⟩
        rw [← hspl] at hsp
        obtain ⟨en, hen⟩ : ∃ en, en = endsS size l := ⟨_, rfl⟩
        rw [← hen] at hsp ⊢
        have hne : en = true → 0 < n := fun h => by
          by_cases hi0 : 0 < n
          · exact hi0
          · rw [hen, ends_nil size l (by rw [← HN.out]; omega)] at h; cases h
        have HSp := Lib.hid hsp; have HSpl := Lib.hid hspl; have HNe := Lib.hid hne
        have HSc := Lib.hid (HS.out.on HKc.out)
        clear hsp hfull hspl hen hne
        go_upto_if 54 with fail
        go_cut [6] from 55 to 59 (fun v6 wx => ∃ (g m c : Nat), v6 = .slice (some ⟨g, 0, none⟩) m c ∧ 0 < m ∧ m ≤ 1001 ∧ Hid (SpSt w1 wx (some ⟨g, 0, none⟩) m c sp))
        case first =>
          cases en with
          | true =>
            go_wp2
            go_meet
            exact ⟨G, n, n1, rfl, HNe.out (by trivial), by omega, Lib.hid (by rw [HSp.out]; simpa using HSc.out)⟩
          | false =>
            go_wp2_with (at_builtin; refine wpList_span1 rfl (.tmp 55) (.tmp 58) rfl (HSc.out.on ((Kept.refl NoB wc).alloc _)) rfl wc.heap.size 1 size 0 rfl (cell_new 0 rfl) (cell_new 1 rfl) (by omega) ?_)
            intro a2 c2 w4 h4
            obtain ⟨g4, hg4⟩ := h4.block (by omega)
            subst hg4
            have H4 := Lib.hid h4
            clear h4
            go_wp2
            go_meet
            exact ⟨g4, n + 1, c2, rfl, by omega, by omega, Lib.hid (by rw [HSp.out]; exact H4.out)⟩
        case rest =>
        obtain ⟨g, m, c, rfl, hm0, hm1, HSq⟩ := hcut
        have HKw := Lib.hid (HK1.out.trans HSq.out.kept)
        have hsum2 : spanB_le sp := by
          intro s hs
          rw [HSpl.out, spansS] at hs
          rcases List.mem_append.1 hs with hs | hs
          · obtain ⟨p, hpl, rfl⟩ := List.mem_map.1 hs
            have := HEach.out p hpl
            simp only
            omega
          · split at hs
            · cases hs
            · simp at hs; subst hs; simp only; omega
        have HB := Lib.hid hsum2
        have hmm := HSq.out.len
        have HM := Lib.hid hmm
        clear hsum2 hmm
        obtain ⟨H0, hH0⟩ : ∃ H0, H0 = lineB (m : Int) := ⟨_, rfl⟩
        have hA := appNum_any wc none 0 0 [] (m : Int) wc (by omega) (by omega) (BySt.start (Kept.refl NoB wc)) (by omega) (HT.out.keptNo HKw.out)
        rw [List.nil_append, ← hH0] at hA
        have hl2 : H0.length ≤ 21 := by rw [hH0]; exact lineB_len _ (by omega) (by omega)
        have HA := Lib.hid hA
        have HH0 := Lib.hid hH0
        clear hA hH0
        go_wp2_with fail
        refine HA.out.mono ?_
        rintro e w5 ⟨a5, c5, rfl, h5, _, _⟩
        have H5 := Lib.hid h5
        clear h5
        obtain ⟨F, hF⟩ : ∃ F : Nat → List UInt8, F = fun i => H0 ++ (sp.take i).flatMap spanB := ⟨_, rfl⟩
        have hF0 : H0 = F 0 := by rw [hF]; simp
        have HFs : Hid (∀ i, i < m → F (i + 1) = F i ++ lineB (sp.getD i (0, 0)).1 ++ lineB (sp.getD i (0, 0)).2) := Lib.hid (fun i hi => by
          rw [hF]
          simp only
          rw [spans_take sp i (by rw [← HM.out]; exact hi)]
          simp)
        have HFl : Hid (∀ i, i ≤ m → (F i).length ≤ 21 + 42 * i) := Lib.hid (fun i hi => by
          rw [hF]
          simp only [List.length_append]
          have h1 := spans_len (sp.take i) (fun s hs => HB.out s (List.mem_of_mem_take hs))
          have h2 : (sp.take i).length ≤ i := by rw [List.length_take]; omega
          omega)
        have HFm : Hid (F m = headB size l) := Lib.hid (by
          rw [hF]
          simp only
          rw [HM.out, List.take_length, HH0.out, HM.out, HSpl.out]; rfl)
        have H5b : Hid (BySt wc w5 a5 (F 0).length c5 (F 0)) := Lib.hid (by rw [← hF0]; exact H5.out)
        rw [hF0]
        clear hF hF0 H5
        go_wp2
        go_loopw [9, 11, 65] (fun v9 v11 v65 wr => ∃ (i : Nat) (a : Option Addr) (c : Nat), v9 = .slice a (F i).length c ∧ v65 = .int .i64 (i : Int) ∧ i ≤ m ∧ Hid (BySt wc wr a (F i).length c (F i))) (fun _ _ v65 _ => m - (intOf v65).toNat)
        case atStart => exact ⟨0, a5, c5, rfl, rfl, by omega, H5b⟩
        case round =>
          obtain ⟨i, a, cc, rfl, rfl, hi, HB1⟩ := hrel
          by_cases hlt : (i : Int) < (m : Int)
          · have him : i < m := by omega
            obtain ⟨q0, q1⟩ := (HSq.out.on HB1.out.kept).cells i him
            have hmem : sp.getD i (0, 0) ∈ sp := by
              have : i < sp.length := by rw [← HM.out]; exact him
              simp [List.getD, this]
            have hbd := HB.out _ hmem
            have hFi := HFs.out i him
            obtain ⟨z, hz⟩ : ∃ z, z = (sp.getD i (0, 0)).1 := ⟨_, rfl⟩
            obtain ⟨k, hk⟩ : ∃ k, k = (sp.getD i (0, 0)).2 := ⟨_, rfl⟩
            rw [← hz] at q0 hbd hFi
            rw [← hk] at q1 hbd hFi
            have hLl := HFl.out i hi
            obtain ⟨N, hN⟩ : ∃ N, N = F (i + 1) := ⟨_, rfl⟩
            rw [← hN] at hFi
            obtain ⟨L, hL⟩ : ∃ L, L = F i := ⟨_, rfl⟩
            rw [← hL] at HB1 hFi hLl ⊢
            have HFi := Lib.hid hFi; have HNe := Lib.hid hN
            clear hmem hz hk hFi hN hL
            go_upto_region 15 with fail
            obtain ⟨q, hq⟩ : ∃ q, q = wr.heap.size := ⟨_, rfl⟩
            obtain ⟨wq, hwq⟩ : ∃ wq, wq = wr.alloc (.cells #[.int .i64 z, .int .i64 k] 60) := ⟨_, rfl⟩
            have hqs : wq.heap.size = q + 1 := by rw [hwq, hq]; simp
            have HBq : Hid (BySt wc wq a L.length cc L) := Lib.hid (by rw [hwq]; exact HB1.out.on ((Kept.refl NoB wr).alloc _))
            have hlow : ∀ j, (Value.slice a L.length cc).ownBlock = some j → j < q := by rw [hq]; exact by_low HB1.out
            have c0 : wq.cell? ⟨q, 0, none⟩ = some (.int .i64 z) := by rw [hwq, hq]; exact cell_new 0 rfl
            have c1 : wq.cell? ⟨q, 1, none⟩ = some (.int .i64 k) := by rw [hwq, hq]; exact cell_new 1 rfl
            rw [← hwq, ← hq]
            obtain ⟨SS, hSS⟩ : ∃ SS : World → Prop, SS = fun W => W.cell? ⟨q, 0, none⟩ = some (.int .i64 z) ∧ W.cell? ⟨q, 1, none⟩ = some (.int .i64 k) := ⟨_, rfl⟩
            have hS0 : SS wq.drew := by rw [hSS]; exact ⟨c0, c1⟩
            have hF0 : ∀ W, SS W → W.cell? ⟨q, 0, none⟩ = some (.int .i64 z) := by rw [hSS]; exact fun W h => h.1
            have hF1 : ∀ W, SS W → W.cell? ⟨q, 1, none⟩ = some (.int .i64 k) := by rw [hSS]; exact fun W h => h.2
            have HSn : Hid (∀ W, Kept (OwnB (.slice a L.length cc)) wq.drew W → SS W) := Lib.hid (fun W h => by
              have hb := h.block q (by show q < wq.heap.size; omega) (fun e => by have := hlow q e; omega)
              rw [hSS]
              exact ⟨(World.cell?_of_block hb).trans c0, (World.cell?_of_block hb).trans c1⟩)
            have HQ2 : Hid (∀ (W : World) (a2 : Option Addr) (c2 : Nat), wq.heap.size ≤ W.heap.size → (∀ k2, (Value.slice a2 (L ++ lineB z).length c2).ownBlock = some k2 → (Value.slice a L.length cc).ownBlock = some k2 ∨ wq.heap.size ≤ k2) → ∀ W2, SS W → Kept (OwnB (.slice a2 (L ++ lineB z).length c2)) W W2 → SS W2) := Lib.hid (fun W a2 c2 hs hf W2 hS h => by
              have hb := h.block q (by omega) (fun e => by
                rcases hf q e with h | h
                · have := hlow q h; omega
                · omega)
              rw [hSS] at hS ⊢
              exact ⟨(World.cell?_of_block hb).trans hS.1, (World.cell?_of_block hb).trans hS.2⟩)
            have hzl := lineB_len z (by omega) (by omega)
            have HC1 := Lib.hid (appNum_any wc a L.length cc L z wq.drew (by omega) (by omega) (HBq.out.on ((Kept.refl NoB wq).drew)) (by omega) (HT.out.keptNo (HKw.out.trans (HBq.out.kept.trans ((Kept.refl NoB wq).drew)))))
            have HC2f : Hid (∀ (W : World) (a2 : Option Addr) (c2 : Nat), BySt wc W a2 (L ++ lineB z).length c2 (L ++ lineB z) → Calls Tryd.prog 33 #[.slice a2 (L ++ lineB z).length c2, .int .i64 k] W (ByR wc W (.slice a2 (L ++ lineB z).length c2) (L ++ lineB z ++ lineB k))) := Lib.hid (fun W a2 c2 hb => appNum_any wc a2 _ c2 _ k W (by omega) (by omega) hb (by rw [List.length_append]; omega) (HT.out.keptNo (HKw.out.trans hb.kept)))
            obtain ⟨L1, hL1⟩ : ∃ L1, L1 = L ++ lineB z := ⟨_, rfl⟩
            rw [← hL1] at HC1 HC2f HQ2 HFi
            rw [← HFi.out] at HC2f
            clear hwq hq hSS c0 c1 hlow hqs hL1 hzl hbd q0 q1
            go_wp2_with fail
            refine wp_region_noPanic ?_
            refine wp_region_held_drew (S := SS) (by kernel_rfl) hS0 (fun hHeld => ?_)
            refine wpAnyH_take (i := 0) (v := ?_) (by rw [List.getElem?_toArray]; rfl) (by kernel_rfl) (by kernel_rfl) (by kernel_rfl) (fun _ _ _ h => h) (Or.inl ⟨by rfl, ?hy0⟩) (by assumption) ?rest0
            case hy0 => (intro w hSw; (try dsimp only at hSw); (try have e0 := hF0 w hSw); (try have e1 := hF1 w hSw); go_simp; (try with_reducible rfl))
            try simp only [Act.put, List.setIfInBounds_toArray, List.set_cons_zero, List.set_cons_succ]
            refine wpAnyH_take (i := 1) (v := ?_) (by rw [List.getElem?_toArray]; rfl) (by kernel_rfl) (by kernel_rfl) (by kernel_rfl) (fun _ _ _ h => h) (Or.inl ⟨by rfl, ?hy1⟩) (by assumption) ?rest1
            case hy1 => (intro w hSw; (try dsimp only at hSw); (try have e0 := hF0 w hSw); (try have e1 := hF1 w hSw); go_simp; (try with_reducible rfl))
            try simp only [Act.put, List.setIfInBounds_toArray, List.set_cons_zero, List.set_cons_succ]
            refine wpAnyH_take (i := 2) (v := ?_) (by rw [List.getElem?_toArray]; rfl) (by kernel_rfl) (by kernel_rfl) (by kernel_rfl) (fun _ _ _ h => h) (Or.inl ⟨by rfl, ?hy2⟩) (by assumption) ?rest2
            case hy2 => (intro w hSw; (try dsimp only at hSw); (try have e0 := hF0 w hSw); (try have e1 := hF1 w hSw); go_simp; (try with_reducible rfl))
            try simp only [Act.put, List.setIfInBounds_toArray, List.set_cons_zero, List.set_cons_succ]
            refine wpAnyH_take (i := 4) (v := ?_) (by rw [List.getElem?_toArray]; rfl) (by kernel_rfl) (by kernel_rfl) (by kernel_rfl) (fun _ _ _ h => h) (Or.inl ⟨by rfl, ?hy4⟩) (by assumption) ?rest4
            case hy4 => (intro w hSw; (try dsimp only at hSw); (try have e0 := hF0 w hSw); (try have e1 := hF1 w hSw); go_simp; (try with_reducible rfl))
            try simp only [Act.put, List.setIfInBounds_toArray, List.set_cons_zero, List.set_cons_succ]
            refine wpAnyH_take (i := 5) (v := ?_) (by rw [List.getElem?_toArray]; rfl) (by kernel_rfl) (by kernel_rfl) (by kernel_rfl) (fun _ _ _ h => h) (Or.inl ⟨by rfl, ?hy5⟩) (by assumption) ?rest5
            case hy5 => (intro w hSw; (try dsimp only at hSw); (try have e0 := hF0 w hSw); (try have e1 := hF1 w hSw); go_simp; (try with_reducible rfl))
            try simp only [Act.put, List.setIfInBounds_toArray, List.set_cons_zero, List.set_cons_succ]
            refine wpAnyH_ready (rs := [3]) (by kernel_rfl) (by simp) ?_
            refine AllReadyH.cons (by rw [List.getElem?_toArray]; rfl) (fun K hK => ?_) AllReadyH.nil
            go_simp
            go_at_call 33
            (with_reducible refine (HC1.out).mono ?_)
            rintro e wn ⟨a6, c6, rfl, h6, hk6, hf6⟩
            have H6 := Lib.hid h6
            have hSn : SS wn := HSn.out _ hk6
            have HC2 := Lib.hid (HC2f.out wn a6 c6 h6)
            have HQ6 := Lib.hid (HQ2.out _ a6 c6 hk6.size hf6)
            clear h6 hk6 hf6 hF0 hF1
            go_wp2_with fail
            refine hK.out _ _ (hSn) (fun hHeld => ?_)
            clear hK K
            try simp only [Act.put, List.setIfInBounds_toArray, List.set_cons_zero, List.set_cons_succ]
            refine wpAnyH_ready (rs := [6]) (by kernel_rfl) (by simp) ?_
            refine AllReadyH.cons (by rw [List.getElem?_toArray]; rfl) (fun K hK => ?_) AllReadyH.nil
            go_simp
            go_at_call 33
            (with_reducible refine (HC2.out).mono ?_)
            rintro e wm ⟨a7, c7, rfl, h7, hk7, hf7⟩
            have H7 := Lib.hid h7
            have hSm : SS wm := HQ6.out _ hSn hk7
            clear h7 hk7 hf7
            go_wp2_with fail
            refine hK.out _ _ (hSm) (fun hHeld => ?_)
            clear hK K
            try simp only [Act.put, List.setIfInBounds_toArray, List.set_cons_zero, List.set_cons_succ]
            refine wpAnyH_take (i := 7) (v := ?_) (by rw [List.getElem?_toArray]; rfl) (by kernel_rfl) (by kernel_rfl) (by kernel_rfl) (fun _ _ _ h => h) (Or.inl ⟨by rfl, ?hy7⟩) (by assumption) ?rest7
            case hy7 => (intro w hSw; (try dsimp only at hSw); (try have e0 := hF0 w hSw); (try have e1 := hF1 w hSw); go_simp; (try with_reducible rfl))
            try simp only [Act.put, List.setIfInBounds_toArray, List.set_cons_zero, List.set_cons_succ]
            refine wpAnyH_done (by kernel_rfl) ?_ _
            refine NoPanic.normal ?_

            go_wp2
            go_roundw
            case rel => exact ⟨i + 1, a7, c7, by rw [HNe.out], by go_num, by omega, by rw [← HNe.out]; exact H7⟩
            case measure => simp [intOf]; omega
          · have hie : i = m := by omega
            subst hie
            obtain ⟨Hd, hHd⟩ : ∃ Hd, Hd = F i := ⟨_, rfl⟩
            have hdl := HFl.out i (by omega)
            have hdm := HFm.out
            rw [← hHd] at HB1 hdl hdm ⊢
            have hdl2 : Hd.length ≤ 50000 := by omega
            have hne : Hd ≠ [] := by
              intro e
              rw [e] at hdm
              have := congrArg List.length hdm
              simp [headB, lineB] at this
            have HHd := Lib.hid hdm; have HNeH := Lib.hid hne
            clear hdl hdm hne hHd
            go_wp2_with fail
            refine (pad_any Hd.length _ (by omega)).mono ?_
            rintro e w6 ⟨rfl, rfl⟩
            obtain ⟨pd, hpd⟩ : ∃ pd, pd = padN Hd.length := ⟨_, rfl⟩
            have hpd1 : pd ≤ 511 := by rw [hpd]; unfold padN; omega
            rw [← hpd]
            rw [HHd.out] at hpd
            have HPd := Lib.hid hpd
            clear hpd
            go_wp2_with (at_builtin; refine wpList_by_zeros rfl (.tmp 77) (.tmp 80) rfl HB1.out HNeH.out rfl pd rfl (by omega) (by omega) ?_)
            intro a7 c7 w7 h7
            obtain ⟨G, hG⟩ : ∃ G : Nat → List UInt8, G = fun j => Hd ++ List.replicate pd 0 ++ dataB (l.take j) := ⟨_, rfl⟩
            have hG0 : Hd ++ List.replicate pd 0 = G 0 := by rw [hG]; simp [dataB]
            have hG1 : Hd.length + pd = (G 0).length := by rw [← hG0]; simp
            have HGs : Hid (∀ j, j < n → G (j + 1) = G j ++ (l.getD j (0, [])).2) := Lib.hid (fun j hj => by
              rw [hG]
              simp only
              rw [data_take l j (by rw [← HN.out]; exact hj)]
              simp)
            have HGl : Hid (∀ j, (G j).length ≤ 1050511) := Lib.hid (fun j => by
              rw [hG]
              simp only [List.length_append, List.length_replicate]
              rw [data_len]
              have := sum_take_le l j
              omega)
            have HGm : Hid (G n = mapB size l) := Lib.hid (by
              rw [hG]
              simp only
              rw [HN.out, List.take_length, HHd.out, HPd.out]; rfl)
            rw [hG0, hG1] at h7
            rw [hG1]
            have H7 := Lib.hid h7
            clear hG hG0 hG1 h7
            go_wp2
            go_loopw [9, 13, 84] (fun v9 v13 v84 wr => ∃ (j : Nat) (a : Option Addr) (c : Nat), v9 = .slice a (G j).length c ∧ v84 = .int .i64 (j : Int) ∧ j ≤ n ∧ Hid (BySt wc wr a (G j).length c (G j))) (fun _ _ v84 _ => n - (intOf v84).toNat)
            case atStart => exact ⟨0, a7, c7, rfl, rfl, by omega, H7⟩
            case round =>
              obtain ⟨j, a, cc, rfl, rfl, hj, HB2⟩ := hrel
              by_cases hlt : (j : Int) < (n : Int)
              · have hjn : j < n := by omega
                have hjl : j < l.length := by rw [← HN.out]; exact hjn
                obtain ⟨b, off, bo, bc, rfl, hb, c0, c1, hrd, _, hbc, _⟩ := HR.out j hjl
                have hk3 := HKw.out.trans HB2.out.kept
                have d0 := hk3.cell c0
                have d1 := hk3.cell c1
                have hrd3 := hrd.keptNo hk3
                have hp2 := (HEach.out (l.getD j (0, [])) (by simp [List.getD, hjl])).1
                have hGj := HGs.out j hjn
                have hsz := HGl.out (j + 1)
                rw [show off + (j * 2 + 1) = off + j * 2 + 1 by omega] at d1
                obtain ⟨p, hp⟩ : ∃ p, p = l.getD j (0, []) := ⟨_, rfl⟩
                rw [← hp] at d0 d1 hrd3 hp2 hGj
                obtain ⟨z, hz⟩ : ∃ z, z = p.1 := ⟨_, rfl⟩
                obtain ⟨M, hM⟩ : ∃ M, M = p.2 := ⟨_, rfl⟩
                rw [← hz] at d0
                rw [← hM] at d1 hrd3 hp2 hGj
                obtain ⟨k, hk⟩ : ∃ k, k = M.length := ⟨_, rfl⟩
                rw [← hk] at d1
                have hM0 : (nb M) ≠ [] := by
                  intro e
                  have := congrArg List.length e
                  rw [nb_len] at this
                  exact hp2 (List.eq_nil_of_length_eq_zero (by simpa using this))
                obtain ⟨y, rfl⟩ : ∃ y, bo = some y := by
                  cases bo with
                  | none => exact absurd (hrd3.1 rfl) hM0
                  | some y => exact ⟨y, rfl⟩
                obtain ⟨N, hN⟩ : ∃ N, N = G (j + 1) := ⟨_, rfl⟩
                rw [← hN] at hGj hsz
                obtain ⟨L, hL⟩ : ∃ L, L = G j := ⟨_, rfl⟩
                rw [← hL] at HB2 hGj ⊢
                have hkk : L.length + k ≤ 1050511 := by rw [hGj, List.length_append, ← hk] at hsz; exact hsz
                have HGj := Lib.hid hGj; have HNe := Lib.hid hN; have HRd := Lib.hid hrd3; have HKk := Lib.hid hk
                clear hp hz hM hk hN hL hGj hM0 hp2 hrd hrd3 c0 c1 hsz hk3 hjl
                go_upto_region 21 with fail
                obtain ⟨q, hq⟩ : ∃ q, q = wr.heap.size := ⟨_, rfl⟩
                obtain ⟨wq, hwq⟩ : ∃ wq, wq = wr.alloc (.cells #[.int .i64 z, .slice (some y) k bc] 30) := ⟨_, rfl⟩
                have hka : Kept NoB wr wq := by rw [hwq]; exact (Kept.refl NoB wr).alloc _
                have e0 : wq.cell? ⟨q, 1, none⟩ = some (.slice (some y) k bc) := by rw [hwq, hq]; exact cell_new 1 rfl
                have HBq := Lib.hid (HB2.out.on hka)
                have HRq := Lib.hid (HRd.out.keptNo hka)
                rw [← hwq, ← hq]
                clear hwq hq hka d0 d1
                go_wp2_with (at_builtin; refine wpList_by_row rfl (.tmp 88) (.tmp 90) rfl HBq.out rfl y bc k M HKk.out rfl HRq.out (by omega) ?_)
                intro a8 c8 w8 h8
                rw [← HGj.out] at h8
                have hl8 : L.length + k = N.length := h8.len
                rw [hl8] at h8
                have H8 := Lib.hid h8
                rw [hl8]
                clear h8 hl8
                go_wp2
                go_roundw
                case rel => exact ⟨j + 1, a8, c8, by rw [HNe.out], by go_num, by omega, by rw [← HNe.out]; exact H8⟩
                case measure => simp [intOf]; omega
              · have hje : j = n := by omega
                subst hje
                rw [HGm.out] at HB2 ⊢
                go_wp2
                go_ret2
                exact .inr ⟨a, cc, HOk.out.symm, rfl, by_back HB2.out HKw.out⟩
end Go.Proofs.YtbambcondcikbaaDoor
