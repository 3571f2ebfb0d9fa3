/-
  LensBack: a head that is written is read as it was, and nothing is left of it; one that may not be is refused, and nothing is written.
-/
import Derived.Test.YtpdlkmacdmnamaaMb25
namespace Go.Proofs.Ytpdlkmacdmnamaa
open Go.RowKit
set_option linter.unusedVariables false
set_option linter.unusedSimpArgs false

theorem runAll_few (n : Int) : ∀ (rs : List (Int × Int)) (l F : List Int), runAll n l rs = some F → l.length + rs.length ≤ F.length
  | [], l, F, h => by rw [runAll] at h; cases h; simp
  | (s, x) :: r, l, F, h => by
    rw [runAll] at h
    split at h
    · have ih := runAll_few n r _ F h
      have h1 := moreL_len l s x
      have h2 := spanL_pos s
      rw [List.length_cons]
      omega
    · cases h
theorem headW_wd {lit dist code : List Int} {told : Nat} {rs : List (Int × Int)} (hc : CodeW code told rs (lit ++ dist)) : 14 ≤ wdN (headW lit dist code told rs) ∧ wdN (headW lit dist code told rs) ≤ 71 + 22 * (lit.length + dist.length) := by
  unfold headW
  rw [wdN_append, wdN_append, wordsC_wd]
  have h1 := wdN_leR code (small7_15 hc.small) rs
  have h2 := runAll_few _ _ _ _ hc.runs
  have h3 := hc.hi
  rw [List.length_append] at h2
  have e : wdN [(lit.length - 257, 5), (dist.length - 1, 5), (told - 4, 4)] = 14 := rfl
  simp only [List.length_nil, Nat.zero_add] at h2
  omega
theorem LitZ.reads {w wr : World} {G : Nat} {Z : List Int} (h : LitZ w wr G Z) : RdI wr wr.heap.size (some ⟨G, 0, none⟩) Z := own_readsI h.own h.len
theorem headW_lt {lit dist code : List Int} {told : Nat} {rs : List (Int × Int)} (hc : CodeW code told rs (lit ++ dist)) (hb : headB lit dist = true) : ∀ y ∈ headW lit dist code told rs, y.1 < 2 ^ y.2 := by
  obtain ⟨⟨b1, b2, b3, b4⟩, _⟩ := head_small hb
  have hlo := hc.lo
  have hhi := hc.hi
  intro y hy
  unfold headW at hy
  rcases List.mem_append.1 hy with h | h
  · rcases List.mem_append.1 h with h | h
    · simp only [List.mem_cons, List.not_mem_nil, or_false] at h
      rcases h with rfl | rfl | rfl
      · show lit.length - 257 < 32; omega
      · show dist.length - 1 < 32; omega
      · show told - 4 < 16; omega
    · unfold wordsC at h
      obtain ⟨i, _, rfl⟩ := List.mem_map.1 h
      show (code.getD (ordL.getD i 0).toNat 0).toNat < 8
      generalize (ordL.getD i 0).toNat = q
      by_cases hl : q < code.length
      · have e : code.getD q 0 = code[q] := by simp [List.getD, hl]
        have := hc.small _ (List.getElem_mem hl)
        rw [e]; omega
      · have e : code.getD q 0 = 0 := by simp [List.getD, List.getElem?_eq_none (Nat.le_of_not_lt hl)]
        rw [e]; decide
  · unfold wordsR at h
    obtain ⟨z, hz, h⟩ := List.mem_flatMap.1 h
    have ho := runAll_ok _ rs [] _ hc.runs z hz
    simp only [List.mem_cons, List.not_mem_nil, or_false] at h
    rcases h with rfl | rfl
    · exact wordZ_lt _ _
    · exact spanM_lt _ _ ho.2.2
theorem zero_cellsB (n : Nat) : (Builtin.zeroCells #[Value.int .i64 0] n).toList = List.replicate n (.int .i64 0) := by
  apply List.ext_getElem (by simp [Builtin.zeroCells])
  intro i h1 h2
  have e : i % 1 = 0 := Nat.mod_one i
  simp [Builtin.zeroCells, e]
set_option maxRecDepth 20000 in
set_option maxHeartbeats 2000000 in
/-- Noughts behind a row without room. -/
theorem app_zeros_full (w : World) (ty g m : Nat) (xs : List Int) (n : Nat) (hown : w.ownsRow 0 3 1 (.slice (some ⟨g, 0, none⟩) m m) m (xs.map (.int .i64))) (hn : n ≤ 1000) (hm : m ≤ 1000) :
    ∃ (a' c' : Nat) (w' : World), (Builtin.append_ #[23, 3] ty #[.slice (some ⟨g, 0, none⟩) m m, .int .i64 (n : Int)]).run Try.prog w = .ok (.slice (some ⟨a', 0, none⟩) (m + n) c') w' ∧
      RdI w' w'.heap.size (some ⟨a', 0, none⟩) (xs ++ List.replicate n 0) ∧ m + n ≤ c' ∧ c' ≤ maxLen ∧ Kept NoB w w' := by
  obtain ⟨i, hi, hz, hsz, hby⟩ := info_parts infoI
  have ht : Try.prog.underlying 23 = some (.slice 3) := Try.underlying23
  have htn : Try.prog.underlying 3 = some (.int .i64) := rfl
  have hl : xs.length = m := by have := hown.1; rw [List.length_map] at this; omega
  have hcap := own_cap2 hown
  by_cases hn0 : n = 0
  · subst hn0
    refine ⟨g, m, w, ?_, ?_, Nat.le_refl _, hcap.2, Kept.refl _ _⟩
    · rcases hown.2 with ⟨h, _⟩ | ⟨g', cap', cur, h, hbg, hg, hnc, hcm, hcs, htake⟩
      · simp at h
      · simp only [Value.slice.injEq, Option.some.injEq, Addr.mk.injEq, and_true, true_and] at h
        obtain ⟨rfl, rfl⟩ := h
        simp [Builtin.append_, run_underlying ht, run_underlying htn, sizeOf, typeInfo, hi, asInt, asIntOf, IntKind.wrap_i64, hnc, storeCells]
    · rw [List.replicate_zero, List.append_nil]
      exact own_readsI hown hl
  · have hcs : ∀ j v, (xs.map (Value.int .i64))[j]? = some v → w.drew.cell? ((⟨g, 0, none⟩ : Addr).add j) = some v := by
      intro j v hv
      have hj : j < m := by have := (List.getElem?_eq_some_iff.1 hv).1; rw [List.length_map] at this; omega
      have := hown.cellAt j (by omega)
      rw [addr_add, Nat.zero_add, ← hv, ← this]
      rfl
    have hold : (Builtin.firstCells i.size m (.slice (some ⟨g, 0, none⟩) m m)).run Try.prog w.drew = .ok (xs.map (Value.int .i64)).toArray w.drew :=
      run_firstCells_some w.drew i.size m ⟨g, 0, none⟩ m m (xs.map (Value.int .i64)) (by rw [List.length_map, hsz]; omega) (fun j v hj => hcs j v hj)
    have h := Lib.run_append_grow_zeros w 23 3 ty 3 i (.int .i64 0) .i64 .i64 ht htn hi hz (some ⟨g, 0, none⟩) m m (xs.map (Value.int .i64)) hold n (by omega) (by rw [hsz]; omega) (by omega) (by omega)
      (by rw [hby]; omega) (growslice_fits (by omega) (by rw [hby]; omega))
    refine ⟨w.heap.size, grownCap w (m + n) m 3, _, h, ?_, grownCap_ge w _ _ _, grownCap_le_maxLen w _ _ _ (by unfold maxLen; omega), (Kept.drew (Kept.refl NoB w)).alloc _⟩
    intro j hj
    rw [List.length_append, List.length_replicate] at hj
    refine ⟨w.heap.size, 0, rfl, by simp, ?_⟩
    rw [Nat.zero_add]
    refine (obj_cell (heap_alloc_new w.drew _) j).trans ?_
    rw [← Array.getElem?_toList, Array.toList_append, Array.toList_append]
    have hzc : (Value.int .i64 0).cells = #[Value.int .i64 0] := rfl
    rw [hzc, zero_cellsB, zero_cellsB, List.getElem?_append_left (by simp; omega), ← List.map_replicate, ← List.map_append]
    have hjl : j < (xs ++ List.replicate n (0 : Int)).length := by rw [List.length_append, List.length_replicate]; exact hj
    rw [List.getElem?_map, List.getD, List.getElem?_eq_getElem hjl]
    rfl
set_option maxRecDepth 20000 in
set_option maxHeartbeats 8000000 in
theorem lensBack_walk (ao : Option Addr) (ca : Nat) (ws : List Int) (bo : Option Addr) (cd : Nat) (ds : List Int) (more : Int) (ro : Option Addr) (cr : Nat) (raw : List Int) (oo : Option Addr) (co : Nat) (oth : List Int) (w : World)
    (hx : RdI w w.heap.size ao ws) (hy : RdI w w.heap.size bo ds) (hdc : ds.length ≤ cd) (hdm : cd ≤ maxLen) (hr : RdI w w.heap.size ro raw) (har : AllI raw) (ho : RdI w w.heap.size oo oth) (hao : AllI oth) :
    Calls Try.prog 4 #[.slice ao ws.length ca, .slice bo ds.length cd, .int .i64 more, .slice ro raw.length cr, .slice oo oth.length co] w fun e w' => e = .returned (.bool true) ∧ Below w.heap.size w w' := by
  have HRw := Lib.hid hr; have HOt := Lib.hid ho; have HAr := Lib.hid har; have HAo := Lib.hid hao
  have hhd := heads_any ao ca ws bo cd ds w hx hy hdc hdm
  obtain ⟨nr, hnr⟩ : ∃ n, n = raw.length := ⟨_, rfl⟩
  obtain ⟨no, hno⟩ : ∃ n, n = oth.length := ⟨_, rfl⟩
  obtain ⟨nw, hnw⟩ : ∃ n, n = ws.length := ⟨_, rfl⟩
  obtain ⟨nd, hnd⟩ : ∃ n, n = ds.length := ⟨_, rfl⟩
  rw [← hnw, ← hnd] at hhd
  rw [← hnr, ← hno, ← hnw, ← hnd]
  have HNr := Lib.hid hnr; have HNo := Lib.hid hno; have HHd := Lib.hid hhd
  clear hx hy hr ho har hao hnr hno hnw hnd hhd
  by_cases hlong : (400 : Int) < (nr : Int) ∨ (100 : Int) < (no : Int)
  · have hc : (400 : Int) < (nr : Int) ∨ ¬ (400 : Int) < (nr : Int) ∧ (100 : Int) < (no : Int) := by omega
    clear hlong
    rcases hc with g1 | ⟨g1, g2⟩
    all_goals
      go_enter Try.func4, Try.ntmps4
      go_wp2_with fail
      with_reducible refine (awake8 _).mono ?_
      rintro e w1 ⟨rfl, hk⟩
      have HK := Lib.hid hk
      clear hk
      go_wp2
      go_ret
      exact ⟨rfl, HK.out⟩
  · have g1 : ¬ (400 : Int) < (nr : Int) := by omega
    have g2 : ¬ (100 : Int) < (no : Int) := by omega
    have m1 := mask255
    have m2 : ∀ n : Int, bits .and .i64 n 3 = n % 4 := fun n => i64_mask n 2 (by decide)
    clear hlong
    go_enter Try.func4, Try.ntmps4
    go_wp2_with fail
    with_reducible refine HHd.out.mono ?_
    rintro e w1 ⟨G, lit, da, dc, dist, rfl, hlz, hdr, hds, hhb⟩
    obtain ⟨k, hk⟩ : ∃ k : Nat, more % 256 % 30 = (k : Int) := ⟨(more % 256 % 30).toNat, by omega⟩
    have hk30 : k < 30 := by omega
    have hls := hlz.len
    obtain ⟨ga, ca2, w2, hap, hrd2, hc1, hc2, hk2⟩ := app_zeros_full w1 23 G 257 lit k hlz.own (by omega) (by omega)
    have hb30 := (head_small hhb).1
    have X1 := Lib.hid hrd2; have X2 := Lib.hid (hdr.keptNo hk2); have HK2 := Lib.hid (hlz.kept.trans hk2)
    have HA1 : Hid (AllI (lit ++ List.replicate k 0)) := Lib.hid (fun z hz => by
      rcases List.mem_append.1 hz with h | h
      · have := hlz.small z h; omega
      · rw [List.eq_of_mem_replicate h]; decide)
    have HA2 : Hid (AllI dist) := Lib.hid (fun z hz => by have := hds z hz; omega)
    have HL1 : Hid ((lit ++ List.replicate k (0 : Int)).length = 257 + k) := Lib.hid (by rw [List.length_append, List.length_replicate, hls])
    have HD30 := Lib.hid hb30.2.2.2
    have hq : 0 ≤ more % 256 := by omega
    rw [← hk] at hap
    have HK' := Lib.hid hk
    clear hlz hdr hds hhb hrd2 hk2 hls hb30 HHd hk
    go_wp2_with (at_builtin; refine Lib.wpList_append_run _ rfl _ _ _ _ rfl _ _ rfl rfl _ _ hap ?_)
    go_loopw [13, 11, 12, 14, 15, 16, 17, 18, 19, 20, 21] (fun v13 v11 v12 _ _ _ _ _ _ _ _ wr => ∃ (i : Nat) (la : Option Addr) (lc : Nat) (L : List Int) (da : Option Addr) (dc : Nat) (D : List Int), v13 = .int .i64 (i : Int) ∧ i ≤ 2 ∧ v11 = .slice la L.length lc ∧ v12 = .slice da D.length dc ∧ Hid (RdI wr wr.heap.size la L) ∧ Hid (RdI wr wr.heap.size da D) ∧ Hid (AllI L ∧ AllI D ∧ L.length ≤ 400 ∧ D.length ≤ 100) ∧ Hid (Kept NoB w wr)) (fun v13 _ _ _ _ _ _ _ _ _ _ _ => 2 - (intOf v13).toNat)
    case atStart => exact ⟨0, some ⟨ga, 0, none⟩, ca2, lit ++ List.replicate k 0, da, dc, dist, rfl, by omega, by rw [HL1.out], rfl, X1, Lib.hid X2.out.room, Lib.hid ⟨HA1.out, HA2.out, by rw [HL1.out]; omega, by have := HD30.out; omega⟩, HK2⟩
    case round =>
      clear X1 X2 HA1 HA2 HL1 HD30 HK2
      obtain ⟨i, la, lc, L, ea, ec, D, rfl, hi2, rfl, rfl, HL, HD, HI, HK⟩ := hrel
      obtain ⟨nl, hnl⟩ : ∃ n, n = L.length := ⟨_, rfl⟩
      obtain ⟨nd2, hnd2⟩ : ∃ n, n = D.length := ⟨_, rfl⟩
      have HNl := Lib.hid hnl; have HNd := Lib.hid hnd2
      rw [← hnl, ← hnd2]
      clear hnl hnd2
      by_cases hlt : (i : Int) < 2
      · go_wp2_with fail
        with_reducible refine (neww_any wr).mono ?_
        rintro e w3 ⟨R, rfl, hw3, hR3, hk3⟩
        obtain ⟨n0, hn0⟩ : ∃ n : Nat, more % 4 = (n : Int) := ⟨(more % 4).toNat, by omega⟩
        have hn4 : n0 < 4 := by omega
        have hput := put_any w3 R none 0 [] 0 1 n0 hw3 (by decide) (by omega) (by decide)
        rw [← hn0, show ((1 : Nat) : Int) = 1 from rfl] at hput
        have HPut := Lib.hid hput; have HN0 := Lib.hid hn0; have HK3 := Lib.hid (HK.out.trans hk3)
        have hRw : w.heap.size ≤ R := Nat.le_trans HK.out.size hR3
        have hs3 := hk3.size
        have hsw := HK.out.size
        have HL3 := Lib.hid (HL.out.keptNo hk3); have HD3 := Lib.hid (HD.out.keptNo hk3)
        clear hw3 hk3 hput hn0 HK HL HD
        go_wp2_with fail
        with_reducible refine HPut.out.mono ?_
        rintro e w4 ⟨a4, c4, b4, rfl, hw4, hnum4, hk4, hnew4⟩
        have hno : ∀ k, k < wr.heap.size → ¬ OrB (OneB R) (OwnB (.slice none 0 0)) k := fun k hk e => by
          rcases e with e | e
          · unfold OneB at e; omega
          · simp [OwnB, Value.ownBlock] at e
        have hK4 : Kept NoB w w4 := HK3.out.trans' hk4 (fun i hi h => by
          rcases h with h | h
          · unfold OneB at h; have h : i = R := h; omega
          · simp [OwnB, Value.ownBlock] at h)
        have HL4 := Lib.hid (HL3.out.kept hk4 hno); have HD4 := Lib.hid (HD3.out.kept hk4 hno)
        rw [Nat.zero_add] at hw4
        have HW4 := Lib.hid hw4; have HK4 := Lib.hid hK4
        have hfr4 : ∀ k, (Value.slice a4 b4.length c4).ownBlock = some k → wr.heap.size ≤ k := fun k hk => by
          rcases hnew4 k hk with h | h
          · simp [Value.ownBlock] at h
          · omega
        have HFr4 := Lib.hid hfr4
        clear hw4 hnum4 hk4 hnew4 hno hK4 hfr4 HPut HL3 HD3 HK3
        go_wp2_with fail
        with_reducible refine (wlen_any w4 R a4 c4 b4 n0 HW4.out).mono ?_
        rintro e w5 ⟨rfl, hk5⟩
        have HW5 := Lib.hid (HW4.out.keptNo hk5); have HK5 := Lib.hid (HK4.out.trans hk5); have HL5 := Lib.hid (HL4.out.keptNo hk5); have HD5 := Lib.hid (HD4.out.keptNo hk5)
        clear hk5 HW4 HK4 HL4 HD4
        have hho := headok_any la lc _ L ea ec _ D w5 HL5.out HI.out.1 HD5.out HI.out.2.1 (by have := HI.out.2.2.1; omega) (by have := HI.out.2.2.2; omega)
        rw [← HNl.out, ← HNd.out] at hho
        have HHo := Lib.hid hho
        clear hho
        go_wp2_with fail
        with_reducible refine HHo.out.mono ?_
        rintro e w6 ⟨rfl, hk6⟩
        have HW6 := Lib.hid (HW5.out.keptNo hk6); have HK6 := Lib.hid (HK5.out.trans hk6); have HL6 := Lib.hid (HL5.out.keptNo hk6); have HD6 := Lib.hid (HD5.out.keptNo hk6)
        clear hk6 HW5 HK5 HL5 HD5 HHo
        cases hgood : headB L D with
        | false =>
          have hno := lensWrite_no la lc L ea ec D _ R w6 HL6.out HD6.out HI.out.1 HI.out.2.1 hgood
          rw [← HNl.out, ← HNd.out] at hno
          have HNo2 := Lib.hid hno
          clear hno hgood
          go_wp2_with fail
          with_reducible refine HNo2.out.mono ?_
          rintro e w7 ⟨rfl, hk7⟩
          have HW7 := Lib.hid (HW6.out.keptNo hk7); have HK7 := Lib.hid (HK6.out.trans hk7)
          have q1 : ((n0 : Int) != (n0 : Int)) = false := by simp
          clear hk7 HW6 HK6 HL6 HD6 HNo2
          go_wp2_with fail
          with_reducible refine (wlen_any w7 R a4 c4 b4 n0 HW7.out).mono ?_
          rintro e w8 ⟨rfl, hk8⟩
          have HK8 := Lib.hid (HK7.out.trans hk8)
          clear hk8 HW7 HK7
          have HR8 := Lib.hid (HRw.out.keptNo HK8.out).room; have HO8 := Lib.hid (HOt.out.keptNo HK8.out).room
          go_wp2
          go_roundw
          case rel => exact ⟨i + 1, ro, cr, raw, oo, co, oth, by go_num, by omega, by rw [HNr.out], by rw [HNo.out], HR8, HO8, Lib.hid ⟨HAr.out, HAo.out, by have := HNr.out; omega, by have := HNo.out; omega⟩, HK8⟩
          case measure => simp [intOf]; omega
        | true =>
          have hyes := lensWrite_yes la lc L ea ec D _ R a4 c4 b4 n0 w6 HL6.out HD6.out HW6.out hgood (by omega)
          rw [← HNl.out, ← HNd.out] at hyes
          have HYes := Lib.hid hyes; have HGood := Lib.hid hgood
          clear hyes hgood
          go_wp2_with fail
          with_reducible refine HYes.out.mono ?_
          rintro e w7 ⟨a7, c7, b7, code, told, rs, rfl, hcw, hwp⟩
          have hno : ∀ k, k < wr.heap.size → ¬ OrB (OneB R) (OwnB (.slice a4 b4.length c4)) k := fun k hk e => by
            rcases e with e | e
            · unfold OneB at e; omega
            · have := HFr4.out k e; omega
          have HL7 := Lib.hid (HL6.out.kept hwp.2.2.1 hno); have HD7 := Lib.hid (HD6.out.kept hwp.2.2.1 hno)
          have HK7 := Lib.hid (HK6.out.trans' hwp.2.2.1 (fun i hi h => hno i (by omega) h))
          have hb7l : b7.length = (n0 + wdN (headW L D code told rs) + 7) / 8 := hwp.1.2.2.2.1
          have hputs : Puts b7 n0 (headW L D code told rs) := ⟨⟨num b4, HW6.out.2.2.2.2.1, hwp.2.1⟩, headW_lt hcw HGood.out, by omega⟩
          have hback := head_back hputs hcw HGood.out
          obtain ⟨wd, hwd⟩ : ∃ wd, wd = wdN (headW L D code told rs) := ⟨_, rfl⟩
          rw [← hwd] at hback
          have hb9 : b7.length ≤ 100000000 ∧ n0 + wdN (headW L D code told rs) ≤ 8 * b7.length := by
            have h1 := headW_wd hcw
            have h2 := HI.out.2.2
            omega
          rw [← hwd] at hb9
          have hw7 := hwp.1
          rw [← hwd] at hw7
          have hwdb : wd ≤ 100000 := by
            have h1 := headW_wd hcw
            have h2 := HI.out.2.2
            rw [← hwd] at h1
            omega
          have HW7 := Lib.hid hw7; have HBack := Lib.hid hback
          have hb91 := hb9.1
          have hb92 := hb9.2
          clear hwp hcw hno hputs hback hwd hw7 hb7l hb9 HL6 HD6 HW6 HK6 HYes
          go_wp2_with fail
          with_reducible refine (wbytes_any w7 R a7 c7 b7 _ HW7.out).mono ?_
          rintro e w8 ⟨a8, c8, rfl, ho8, hf8, _, hk8⟩
          have hrd8 : Reads w8 a8 b7 := own_reads ho8 rfl
          have HNr2 := Lib.hid (newr_any a8 c8 b7 w8 hrd8 (by omega) HW7.out.2.2.1)
          have HW8 := Lib.hid (HW7.out.keptNo hk8); have HL8 := Lib.hid (HL7.out.keptNo hk8); have HD8 := Lib.hid (HD7.out.keptNo hk8); have HK8 := Lib.hid (HK7.out.trans hk8)
          clear ho8 hf8 hk8 hrd8 HW7 HL7 HD7 HK7
          go_wp2_with fail
          with_reducible refine HNr2.out.mono ?_
          rintro e w9 ⟨R2, ar, cr2, rfl, hR9, hR9', ho9, hk9⟩
          have HR9 := Lib.hid hR9; have HW9 := Lib.hid (HW8.out.keptNo hk9); have HL9 := Lib.hid (HL8.out.keptNo hk9); have HD9 := Lib.hid (HD8.out.keptNo hk9); have HK9 := Lib.hid (HK8.out.trans hk9)
          have hR2w : w8.heap.size ≤ R2 := hR9'
          have hRl := obj_lt HW8.out.1
          have HA8 := Lib.hid (own_lt HW8.out.2.1)
          have hwr8 : wr.heap.size ≤ w8.heap.size := by omega
          have hw8 : w.heap.size ≤ w8.heap.size := HK8.out.size
          have htk := take_yes w9 R2 ar cr2 b7 0 n0 HR9.out (by omega) (by omega)
          have HTk := Lib.hid htk
          clear hR9 hk9 hR9' ho9 htk HW8 HL8 HD8 HK8 HNr2
          go_wp2_with fail
          with_reducible refine HTk.out.mono ?_
          rintro e w10 ⟨rfl, hR10, hk10⟩
          have hoff : ∀ k, k < w8.heap.size → ¬ OneB R2 k := fun k hk e => by unfold OneB at e; omega
          rw [Nat.zero_add] at hR10
          have HR10 := Lib.hid hR10; have HW10 := Lib.hid (HW9.out.kept hk10 (hoff R hRl) (fun k hk => hoff k (HA8.out k hk))); have HL10 := Lib.hid (HL9.out.kept hk10 (fun k hk => hoff k (by omega))); have HD10 := Lib.hid (HD9.out.kept hk10 (fun k hk => hoff k (by omega)))
          have HK10 := Lib.hid (HK9.out.trans' hk10 (fun i hi h => hoff i (by omega) h))
          have HOff := Lib.hid hoff
          clear hR10 hk10 hoff HTk HR9 HW9 HL9 HD9 HK9
          have HRa := Lib.hid (lensRead_any b7 n0 R2 ar cr2 w10 HR10.out)
          go_wp2_with fail
          with_reducible refine HRa.out.mono ?_
          rintro e w11 ⟨xa, xc, l1, ya, yc, d1, f, q, q', rfl, hh1, hR11, hq11, hl11, hd11, hk11⟩
          obtain ⟨e1, e2, e3, e4⟩ := hh1.det HBack.out
          subst e3
          have hqq : q' = n0 + wd := (hq11 rfl).trans (e4 rfl)
          rw [e1] at hl11 ⊢
          rw [e2] at hd11 ⊢
          rw [hqq] at hR11
          have HR11 := Lib.hid hR11; have HW11 := Lib.hid (HW10.out.kept hk11 (HOff.out R hRl) (fun k hk => HOff.out k (HA8.out k hk))); have HL11 := Lib.hid (HL10.out.kept hk11 (fun k hk => HOff.out k (by omega))); have HD11 := Lib.hid (HD10.out.kept hk11 (fun k hk => HOff.out k (by omega)))
          have HK11 := Lib.hid (HK10.out.trans' hk11 (fun i hi h => HOff.out i (by omega) h))
          have HX1 := Lib.hid hl11.reads; have HX2 := Lib.hid hd11.reads
          have HSa : Hid (∀ W, Kept NoB w11 W → Calls Try.prog 13 #[.slice xa nl xc, .slice la nl lc] W fun e w' => e = .returned (.bool true) ∧ Kept NoB W w') := Lib.hid (fun W hW => by
            have h := sameInts_any xa xc L la lc L _ _ W (HX1.out.keptNo hW) (HL11.out.keptNo hW) (by have := HI.out.2.2.1; omega)
            rw [decide_eq_true rfl, ← HNl.out] at h
            exact h)
          have HSb : Hid (∀ W, Kept NoB w11 W → Calls Try.prog 13 #[.slice ya nd2 yc, .slice ea nd2 ec] W fun e w' => e = .returned (.bool true) ∧ Kept NoB W w') := Lib.hid (fun W hW => by
            have h := sameInts_any ya yc D ea ec D _ _ W (HX2.out.keptNo hW) (HD11.out.keptNo hW) (by have := HI.out.2.2.2; omega)
            rw [decide_eq_true rfl, ← HNd.out] at h
            exact h)
          have q3 : (((n0 + wd : Nat) : Int) != ((n0 + wd : Nat) : Int)) = false := by simp
          rw [← HNl.out, ← HNd.out]
          clear hh1 hR11 hq11 hl11 hd11 hk11 e1 e2 e4 hqq HRa HR10 HW10 HL10 HD10 HK10 HBack
          obtain ⟨at_, hat⟩ : ∃ x, x = n0 + wd := ⟨_, rfl⟩
          rw [← hat] at HR11 HW11 q3
          have HAt := Lib.hid hat
          clear hat
          go_wp2_with fail
          with_reducible refine (HSa.out _ (Kept.refl _ _)).mono ?_
          rintro e w12 ⟨rfl, hk12⟩
          have HK12 := Lib.hid hk12
          clear hk12
          go_wp2_with fail
          with_reducible refine (HSb.out _ HK12.out).mono ?_
          rintro e w13 ⟨rfl, hk13⟩
          have HK13 := Lib.hid (HK12.out.trans hk13)
          clear hk13
          go_wp2_with fail
          with_reducible refine (at_same _ _ _ _ _ _ (HR11.out.keptNo HK13.out)).mono ?_
          rintro e w14 ⟨rfl, rfl⟩
          go_wp2_with fail
          with_reducible refine (wlen_any w13 R a7 c7 b7 at_ (HW11.out.keptNo HK13.out)).mono ?_
          rintro e w15 ⟨rfl, hk15⟩
          have HK15 := Lib.hid (HK11.out.trans (HK13.out.trans hk15))
          clear hk15
          have HR8 := Lib.hid (HRw.out.keptNo HK15.out).room; have HO8 := Lib.hid (HOt.out.keptNo HK15.out).room
          go_wp2
          go_roundw
          case rel => exact ⟨i + 1, ro, cr, raw, oo, co, oth, by go_num, by omega, by rw [HNr.out], by rw [HNo.out], HR8, HO8, Lib.hid ⟨HAr.out, HAo.out, by have := HNr.out; omega, by have := HNo.out; omega⟩, HK15⟩
          case measure => simp [intOf]; omega
      · go_wp2_with fail
        with_reducible refine (awake8 _).mono ?_
        rintro e w8 ⟨rfl, hb8⟩
        have hfin := (HK.out.ofBelow hb8).belowNo (Below.refl _ _)
        have HFin := Lib.hid hfin
        clear hb8 hfin
        go_wp2
        go_ret
        exact ⟨rfl, HFin.out⟩

set_option maxRecDepth 20000 in
theorem lensBack_law (v0 v1 v2 v3 v4 : Value) (w : World) (r0 : Arg w 23 v0) (r1 : Arg w 23 v1) (r2 : Arg w 3 v2) (r3 : Arg w 23 v3) (r4 : Arg w 23 v4) : Calls Try.prog 4 #[v0, v1, v2, v3, v4] w fun e w' => e = .returned (.bool true) ∧ Below w.heap.size w w' := by
  obtain ⟨ao, ca, ws, rfl, _, _, hx, _, _⟩ := r0.ints
  obtain ⟨bo, cd, ds, rfl, hdc, hdm, hy, _, _⟩ := r1.ints
  obtain ⟨more, rfl, _⟩ := r2.int rfl
  obtain ⟨ro, cr, raw, rfl, _, _, hr, har, _⟩ := r3.ints
  obtain ⟨oo, co, oth, rfl, _, _, ho, hao, _⟩ := r4.ints
  exact lensBack_walk ao ca ws bo cd ds more ro cr raw oo co oth w hx hy hdc hdm hr har ho hao
end Go.Proofs.Ytpdlkmacdmnamaa
