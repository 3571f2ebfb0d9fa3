/-
  huff.addLengths: the rows.
  huff.leavesOf: a row of leaves that is sorted already stays as it is.
  huff.leavesOf where the weights do not fall.
-/
import Derived.Test.YtpdlkmacdmnamaaMb3
namespace Go.Proofs.Ytpdlkmacdmnamaa
open Go.RowKit
set_option linter.unusedVariables false
set_option linter.unusedSimpArgs false

theorem infoRw : (Try.prog.info? 108).map (fun i => (i.zero, i.size, i.bytes)) = some (some (.slice none 0 0), 1, 24) := by kernel_rfl
theorem own_cap2 {w : World} {base e s n cap : Nat} {ao : Option Addr} {xs : List Value} (h : w.ownsRow base e s (.slice ao n cap) n xs) : n ≤ cap ∧ cap ≤ maxLen := by
  rcases h.2 with ⟨hv, hn⟩ | ⟨g, c, cur, hv, _, _, h1, h2, _⟩
  · simp at hv; obtain ⟨_, rfl, rfl⟩ := hv; exact ⟨Nat.le_refl _, Nat.zero_le _⟩
  · simp at hv; obtain ⟨_, rfl⟩ := hv; exact ⟨h1, h2⟩
theorem own_some {w : World} {base e s n cap : Nat} {ao : Option Addr} {xs : List Value} (h : w.ownsRow base e s (.slice ao n cap) n xs) (hn : 0 < n) : ∃ g, ao = some ⟨g, 0, none⟩ := by
  rcases h.2 with ⟨hv, hn'⟩ | ⟨g, c, cur, hv, _, _, h1, h2, _⟩
  · omega
  · simp at hv; exact ⟨g, hv.1⟩

theorem Kept.trans' {S : Nat → Prop} {a b c : World} (h : Kept NoB a b) (k : Kept S b c) (hs : ∀ i, i < a.heap.size → S i → False) : Kept NoB a c :=
  ⟨k.os.trans h.os, k.tape.trans h.tape, k.output.trans h.output, Nat.le_trans h.size k.size, fun i hi _ => (k.block i (Nat.lt_of_lt_of_le hi h.size) (fun e => hs i hi e)).trans (h.block i hi (fun e => e))⟩
/-- The first j rows stand in block G. -/
structure RowsAt (w : World) (ls : List Int) (G limit j : Nat) (xs : List Value) : Prop where
  own : w.ownsRow 0 108 1 (.slice (some ⟨G, 0, none⟩) limit limit) limit xs
  rows : ∀ t, t < j → ∃ a c, xs[t]? = some (.slice a (rowS ls t).length c) ∧ OwnIt w a c (rowS ls t) ∧ (∀ k, (Value.slice a (rowS ls t).length c).ownBlock = some k → G < k)
theorem RowsAt.kept {S : Nat → Prop} {w w' : World} {ls : List Int} {G limit j : Nat} {xs : List Value} (h : RowsAt w ls G limit j xs) (hk : Kept S w w') (hs : ∀ k, G ≤ k → ¬ S k) : RowsAt w' ls G limit j xs :=
  ⟨hk.row h.own (fun k e => by simp [Value.ownBlock] at e; subst e; exact hs _ (Nat.le_refl _)),
   fun t ht => by
    obtain ⟨a, c, h1, h2, h3⟩ := h.rows t ht
    exact ⟨a, c, h1, hk.row h2 (fun k e => hs k (Nat.le_of_lt (h3 k e))), h3⟩⟩
theorem RowsAt.put {w1 w2 : World} {ls : List Int} {G limit j : Nat} {xs : List Value} {a : Option Addr} {c : Nat} (h : RowsAt w1 ls G limit j xs) (hr : RowSt w1 w2 a c (rowS ls j)) (hj : j < limit) (hG : G < w1.heap.size) :
    RowsAt (w2.setCell ⟨G, j, none⟩ (.slice a (rowS ls j).length c)) ls G limit (j + 1) (xs.set j (.slice a (rowS ls j).length c)) ∧ Kept (fun k => k = G) w1 (w2.setCell ⟨G, j, none⟩ (.slice a (rowS ls j).length c)) := by
  have h2 := h.kept hr.kept (fun _ _ h => h)
  obtain ⟨s1, s2⟩ := h2.own.stored j (.slice a (rowS ls j).length c)
  have hk2 : Kept (fun k => k = G) w2 (w2.setCell ⟨G, j, none⟩ (.slice a (rowS ls j).length c)) := (Kept.refl _ w2).grown s2 (fun k _ e => (Option.some.inj e).symm)
  have hlen : j < xs.length := by have := h.own.1; omega
  refine ⟨⟨s1, ?_⟩, (hr.kept.mono (fun _ _ h => h.elim)).trans hk2⟩
  intro t ht
  by_cases e : t = j
  · subst e
    refine ⟨a, c, by rw [List.getElem?_set_self hlen], hk2.row hr.own (fun k e hk => ?_), fun k e => ?_⟩
    · have := hr.fresh k e; omega
    · have := hr.fresh k e; omega
  · obtain ⟨a', c', h1, h3, h4⟩ := h2.rows t (by omega)
    exact ⟨a', c', by rw [List.getElem?_set_ne (by omega)]; exact h1, hk2.row h3 (fun k e hk => by have := h4 k e; omega), h4⟩

theorem packed_step (rs : List (Int × Bool)) (e : Nat) (h : e < rs.length) : packedN (rs.take (e + 1)) = packedN (rs.take e) + (if (rs.getD e (0, false)).2 then 1 else 0) := by
  have hg : rs.getD e (0, false) = rs[e] := by simp [List.getD, h]
  unfold packedN
  rw [List.take_succ_eq_append_getElem h, List.countP_append, hg]
  simp [List.countP_cons]
theorem place_at (lv : List (Int × Int)) (ps : List Nat) (h : lv.map (·.1) = ps.map (fun p : Nat => (p : Int))) (e : Nat) (he : e < lv.length) : (lv.getD e (0, 0)).1 = ((ps.getD e 0 : Nat) : Int) ∧ ps.getD e 0 ∈ ps ∧ ps.take (e + 1) = ps.take e ++ [ps.getD e 0] := by
  have hl : ps.length = lv.length := by have := congrArg List.length h; simp at this; exact this.symm
  have he' : e < ps.length := by omega
  have h1 : (lv.map (·.1))[e]? = (ps.map (fun p : Nat => (p : Int)))[e]? := by rw [h]
  have hg : ps.getD e 0 = ps[e] := by simp [List.getD, he']
  refine ⟨?_, ?_, ?_⟩
  · simpa [List.getD, he, he'] using h1
  · rw [hg]; exact List.getElem_mem he'
  · rw [List.take_succ_eq_append_getElem he', hg]

set_option maxRecDepth 20000 in
set_option maxHeartbeats 2000000 in
theorem addL_calls (lo : Option Addr) (lc gz B : Nat) (zs : List Int) (lv : List (Int × Int)) (ls : List Int) (ps : List Nat) (limit : Nat) (w : World)
    (hls : ls = lv.map (·.2)) (hps : lv.map (·.1) = ps.map (fun p : Nat => (p : Int))) (hz : w.ownsRow 0 3 1 (.slice (some ⟨gz, 0, none⟩) zs.length zs.length) zs.length (zs.map (.int .i64)))
    (hl : RdLf w B lo lv) (hB : B ≤ gz) (hsm : SmallL lv) (h2 : 2 ≤ lv.length) (hll : lv.length ≤ 1000) (hlm : lv.length ≤ 2 ^ limit) (hlim : 1 ≤ limit ∧ limit ≤ 15) (hlc : lv.length ≤ lc ∧ lc ≤ maxLen)
    (hp : ∀ p ∈ ps, p < zs.length) (hzs : ∀ z ∈ zs, 0 ≤ z ∧ z ≤ 1000) :
    Calls Try.prog 48 #[.slice (some ⟨gz, 0, none⟩) zs.length zs.length, .slice lo lv.length lc, .int .i64 (limit : Int)] w fun e w' => e = .returned (.tuple #[]) ∧ w'.ownsRow 0 3 1 (.slice (some ⟨gz, 0, none⟩) zs.length zs.length) zs.length ((addL ls ps limit (2 * lv.length - 2) zs).map (.int .i64)) ∧ Kept (fun k => k = gz) w w' := by
  have hsls : ∀ z ∈ ls, 0 ≤ z ∧ z ≤ 1048576 := by
    intro z hz'
    rw [hls] at hz'
    obtain ⟨p, hp', rfl⟩ := List.mem_map.1 hz'
    exact hsm p hp'
  have hnl : ls.length = lv.length := by rw [hls]; simp
  have hmS : ∀ (wr : World) (i : Nat) (a : Option Addr) (c : Nat), Kept NoB w wr → OwnIt wr a c (rowS ls i) → i ≤ 30 →
      Calls Try.prog 62 #[.slice lo lv.length lc, .slice a (rowS ls i).length c] wr fun e w' => ∃ a' c', e = .returned (.slice a' (rowS ls (i + 1)).length c') ∧ RowSt wr w' a' c' (rowS ls (i + 1)) := by
    intro wr i a c hk ho hi
    have := merged_calls lo a lc c B wr.heap.size lv (rowS ls i) wr (hl.kept hk) ho.reads hsm (small_row50 ls hsls i hi) hll (by have := rowS_le ls i; omega) (own_cap2 ho) hlc
    rw [← hls] at this
    exact this
  have hm0 : ∀ (wr : World) (j : Nat), j = 0 → Kept NoB w wr → Calls Try.prog 62 #[.slice lo lv.length lc, .slice none 0 0] wr fun e w' => ∃ a' c', e = .returned (.slice a' (rowS ls j).length c') ∧ RowSt wr w' a' c' (rowS ls j) := by
    intro wr j hj hk
    subst hj
    have := merged_calls lo none lc 0 B 0 lv [] wr (hl.kept hk) (fun i hi => by simp at hi) hsm (fun p hp => by cases hp) hll (by simp) ⟨by simp, by unfold maxLen; omega⟩ hlc
    rw [← hls] at this
    exact this
  have HMS := Lib.hid hmS; have HM0 := Lib.hid hm0
  have HLf := Lib.hid hl; have HZ := Lib.hid hz; have HPs := Lib.hid hps; have HP := Lib.hid hp; have HZs := Lib.hid hzs; have HNl := Lib.hid hnl
  have hgz : gz < w.heap.size := (hz.lt gz rfl).2
  obtain ⟨i0, hi, hz0, hz1, hz2⟩ := info_parts infoRw
  obtain ⟨R, hR⟩ : ∃ R, R = addL ls ps limit (2 * lv.length - 2) zs := ⟨_, rfl⟩
  rw [← hR]
  obtain ⟨n, hn⟩ : ∃ n, n = lv.length := ⟨_, rfl⟩
  rw [← hn] at hR
  have HRe := Lib.hid hR
  clear hR
  obtain ⟨m, hm⟩ : ∃ m, m = zs.length := ⟨_, rfl⟩
  obtain ⟨h3, h4⟩ := hlim
  have HLm := Lib.hid hlm
  have HN := Lib.hid hn; have HM := Lib.hid hm
  rw [← hn] at h2 hll hlc ⊢
  rw [← hn] at HMS HM0
  rw [← hm]
  clear hmS hm0 hl hz hps hp hzs hnl hls hsls hsm hlm hn hm
  go_enter Try.func48, Try.ntmps48
  go_wp2_with (at_make; refine wpList_make_full _ rfl _ _ _ rfl 0 108 i0 (.slice none 0 0) 1 Try.underlying107 hi hz0 hz1 .i64 .i64 _ _ limit rfl rfl rfl rfl (by rw [hz2]; omega) (by unfold maxLen; omega) (Nat.zero_le _) ?_)
  intro w1 hown hgrow
  have hk1 : Kept NoB w w1 := (Kept.refl _ _).grown hgrow (fun k _ e => by cases e)
  have hG1 : w.heap.size < w1.heap.size := by have := (hown.lt w.heap.size rfl).2; omega
  obtain ⟨G, hG⟩ : ∃ G, G = w.heap.size := ⟨_, rfl⟩
  rw [← hG] at hown hG1 hgz ⊢
  have hr1 : RowsAt w1 ls G limit 0 (madeCells #[Value.slice none 0 0] limit).toList := ⟨hown, fun t ht => by omega⟩
  have HR1 := Lib.hid hr1; have HK1 := Lib.hid hk1; have HG := Lib.hid hG
  clear hr1 hown hgrow hk1 hG
  go_wp2
  go_loopw [20, 7, 8] (fun v20 _v7 _v8 wr => ∃ (j : Nat) (xs : List Value), v20 = .int .i64 (j : Int) ∧ j ≤ limit ∧ Hid (RowsAt wr ls G limit j xs) ∧ Hid (Kept NoB w wr) ∧ G < wr.heap.size) (fun v20 _ _ _ => limit - (intOf v20).toNat)
  case atStart => exact ⟨0, _, rfl, by omega, HR1, HK1, hG1⟩
  case round =>
    clear HR1 HK1 hG1
    obtain ⟨j, xs, rfl, hj, HR, HK, hGs⟩ := hrel
    by_cases hlt : (j : Int) < limit
    · have hcj : ∃ u, wr.cell? ⟨G, j, none⟩ = some u := by
        rw [HR.out.own.cellAt j (by omega)]
        exact ⟨_, List.getElem?_eq_getElem (by have := HR.out.own.1; omega)⟩
      obtain ⟨u, hu⟩ := hcj
      have hfj := HR.out.own.frozenAt j
      have hjl : j < limit := by omega
      by_cases hj0 : j = 0
      · have hnp : ¬ 0 < (j : Int) := by omega
        have hm := HM0.out wr j hj0 HK.out
        have HMj := Lib.hid hm
        clear hm hj0
        go_wp2_with fail
        refine HMj.out.mono ?_
        rintro e w2 ⟨a', c', rfl, hst⟩
        obtain ⟨hput, hkp⟩ := HR.out.put hst hjl hGs
        have hf2 : w2.frozen? ⟨G, j, none⟩ = false := (HR.out.kept hst.kept (fun _ _ h => h)).own.frozenAt j
        have hu2 := hst.kept.cell hu
        have HPut := Lib.hid hput
        have HK3 : Hid (Kept NoB w (w2.setCell ⟨G, j, none⟩ (.slice a' (rowS ls j).length c'))) := Lib.hid (HK.out.trans' hkp (fun k hk e => by have := HG.out; omega))
        have hGs3 : G < (w2.setCell ⟨G, j, none⟩ (.slice a' (rowS ls j).length c')).heap.size := Nat.lt_of_lt_of_le hGs hkp.size
        clear hput hst hkp
        go_wp2
        go_roundw
        case rel => exact ⟨j + 1, _, by go_num, by omega, HPut, HK3, hGs3⟩
        case measure => simp [intOf]; omega
      · obtain ⟨i, rfl⟩ : ∃ i, j = i + 1 := ⟨j - 1, by omega⟩
        obtain ⟨a, c, hx, ho, hfr⟩ := HR.out.rows i (by omega)
        have hci : wr.cell? ⟨G, i, none⟩ = some (.slice a (rowS ls i).length c) := by
          rw [HR.out.own.cellAt i (by omega)]; exact hx
        have hm := HMS.out wr i a c HK.out ho (by omega)
        have HMj := Lib.hid hm
        clear hm hj0 ho hfr hx
        go_wp2_with fail
        refine HMj.out.mono ?_
        rintro e w2 ⟨a', c', rfl, hst⟩
        obtain ⟨hput, hkp⟩ := HR.out.put hst hjl hGs
        have hf2 : w2.frozen? ⟨G, i + 1, none⟩ = false := (HR.out.kept hst.kept (fun _ _ h => h)).own.frozenAt (i + 1)
        have hu2 := hst.kept.cell hu
        have HPut := Lib.hid hput
        have HK3 : Hid (Kept NoB w (w2.setCell ⟨G, i + 1, none⟩ (.slice a' (rowS ls (i + 1)).length c'))) := Lib.hid (HK.out.trans' hkp (fun k hk e => by have := HG.out; omega))
        have hGs3 : G < (w2.setCell ⟨G, i + 1, none⟩ (.slice a' (rowS ls (i + 1)).length c')).heap.size := Nat.lt_of_lt_of_le hGs hkp.size
        clear hput hst hkp
        go_wp2
        go_roundw
        case rel => exact ⟨i + 1 + 1, _, by go_num, by omega, HPut, HK3, hGs3⟩
        case measure => simp [intOf]; omega
    · have hjl : j = limit := by omega
      subst hjl
      rename World => W3
      have hown3 := HK.out.row HZ.out (fun _ _ h => h)
      rw [← HM.out] at hown3
      have HO3 := Lib.hid hown3
      have hk0 : ∀ t, j = t + 1 → 2 * n - 2 ≤ (rowS ls t).length := fun t ht => by
        have h := rowS_room ls j h3 (by rw [HNl.out]; exact HLm.out)
        rw [HNl.out, ← HN.out, show j - 1 = t by omega] at h
        exact h
      have HK0 := Lib.hid hk0
      have hpl : ps.length = n := by have := congrArg List.length HPs.out; simp at this; rw [HN.out]; exact this.symm
      have HPl := Lib.hid hpl
      clear hown3 hk0 hpl hlt
      go_wp2
      go_loopw [9, 10, 11, 13, 15] (fun v9 v10 _v11 _v13 _v15 wr => ∃ (i k : Nat) (ys : List Int), v9 = .int .i64 (k : Int) ∧ v10 = .int .i64 ((i : Int) - 1) ∧ i ≤ j ∧ k ≤ 2 * n ∧ Hid (∀ t, i = t + 1 → k ≤ (rowS ls t).length) ∧ Hid (ys.length = m) ∧ Hid (wr.ownsRow 0 3 1 (.slice (some ⟨gz, 0, none⟩) m m) m (ys.map (.int .i64))) ∧ Hid (∀ z ∈ ys, 0 ≤ z ∧ z ≤ 1000 + 1000 * ((j : Int) - (i : Int))) ∧ Hid (addL ls ps i k ys = R) ∧ Hid (Kept (fun q => q = gz) W3 wr)) (fun _ v10 _ _ _ _ => (intOf v10 + 1).toNat)
      case atStart => exact ⟨j, 2 * n - 2, zs, by congr 1; omega, rfl, by omega, by omega, HK0, Lib.hid HM.out.symm, HO3, Lib.hid (fun z hz => by have := HZs.out z hz; omega), Lib.hid HRe.out.symm, Lib.hid (Kept.refl _ _)⟩
      case round =>
        clear HO3 HRe HK0
        obtain ⟨i, k, ys, rfl, rfl, hij, hk2n, HKr, HYl, HO, HYb, HX, HKz⟩ := hrel
        by_cases hi0 : i = 0
        · subst hi0
          have hR : R = ys := HX.out.symm
          have HRe := Lib.hid hR
          clear hR
          go_wp2
          go_end0
          exact ⟨rfl, by rw [HRe.out]; exact HO.out, (HK.out.mono (fun _ _ h => h.elim)).trans HKz.out⟩
        · obtain ⟨t, rfl⟩ : ∃ t, i = t + 1 := ⟨i - 1, by omega⟩
          have hRw := HR.out.kept HKz.out (fun k hk e => by have := HG.out; omega)
          obtain ⟨a, c, hx, ho, hfr⟩ := hRw.rows t (by omega)
          have hci : wr.cell? ⟨G, t, none⟩ = some (.slice a (rowS ls t).length c) := by
            rw [hRw.own.cellAt t (by omega)]; exact hx
          have hge : n ≤ (rowS ls t).length := by
            have h1 := leafs_row ls t
            have h2 := packed_leaf (rowS ls t)
            have h3 := HNl.out
            have h4 := HN.out
            omega
          obtain ⟨g, rfl⟩ := own_some ho (by omega)
          have hkL := HKr.out t rfl
          have hLc := (own_cap2 ho).1
          obtain ⟨q1, q2, q3, q4⟩ := chosen_ok ls t k hkL
          have HRd := Lib.hid ho.reads
          have hxx := HX.out
          unfold addL at hxx
          obtain ⟨P, hP⟩ : ∃ P, P = packedN ((rowS ls t).take k) := ⟨_, rfl⟩
          rw [← hP] at q1 q2 q3 q4 hxx
          rw [HNl.out, ← HN.out] at q1
          have h2P : 2 * P ≤ 2 * n := by
            rcases Nat.eq_zero_or_pos t with h | h
            · have := q3 h; omega
            · have h5 := q4 (t - 1) (by omega)
              have h6 := rowS_le ls (t - 1)
              rw [HNl.out, ← HN.out] at h6
              omega
          have HPe := Lib.hid hP; have HXx := Lib.hid hxx; have HQ4 := Lib.hid q4
          obtain ⟨L, hL⟩ : ∃ L, L = (rowS ls t).length := ⟨_, rfl⟩
          have HL := Lib.hid hL
          rw [← hL] at hci hge hkL hLc
          clear hP hxx q4 hRw ho hfr hx hL HX
          go_wp2
          go_loopw [11, 54, 13] (fun v11 v54 _v13 wx => ∃ e N : Nat, v54 = .int .i64 (e : Int) ∧ e ≤ k ∧ v11 = .int .i64 (N : Int) ∧ N ≤ e ∧ Hid (N = packedN ((rowS ls t).take e)) ∧ Hid (Kept NoB wr wx)) (fun _ v54 _ _ => k - (intOf v54).toNat)
          case atStart => exact ⟨0, 0, rfl, by omega, rfl, by omega, Lib.hid rfl, Kept.refl _ _⟩
          case round =>
            obtain ⟨e, N, rfl, hek, rfl, hNe, HNP, HKx⟩ := hrel
            by_cases hlt : (e : Int) < k
            · obtain ⟨g', off', he, _, hw0, hb0⟩ := HRd.out e (by have := HL.out; omega)
              cases he
              have hw1 := HKx.out.cell hw0
              have hb1 := HKx.out.cell hb0
              have hps := packed_step (rowS ls t) e (by have := HL.out; omega)
              rw [← HNP.out] at hps
              obtain ⟨x, hx⟩ : ∃ x, x = ((rowS ls t).getD e (0, false)).1 := ⟨_, rfl⟩
              obtain ⟨b, hb⟩ : ∃ b, b = ((rowS ls t).getD e (0, false)).2 := ⟨_, rfl⟩
              rw [← hx, Nat.zero_add] at hw1
              rw [← hb, Nat.zero_add] at hb1
              rw [← hb] at hps
              have HPs2 := Lib.hid hps
              clear hw0 hb0 hx hb hps
              cases b
              · go_wp2
                go_roundw
                case rel => exact ⟨e + 1, N, by go_num, by omega, rfl, by omega, Lib.hid HPs2.out.symm, HKx.out.alloc _⟩
                case measure => simp [intOf]; omega
              · go_wp2
                go_roundw
                case rel => exact ⟨e + 1, N + 1, by go_num, by omega, by go_num, by omega, Lib.hid HPs2.out.symm, HKx.out.alloc _⟩
                case measure => simp [intOf]; omega
            · have hke : e = k := by omega
              subst hke
              have hNP : N = P := by rw [HNP.out, HPe.out]
              subst hNP
              obtain ⟨q, hq⟩ : ∃ q : Nat, q = e - N := ⟨_, rfl⟩
              have hql : e - N ≤ lc := by omega
              rw [← hq] at HXx
              obtain ⟨gl, ofl, rfl, hglB, _⟩ := HLf.out 0 (by have := HN.out; omega)
              have HKw : Hid (Kept (fun q => q = gz) W3 wr) := Lib.hid (HKz.out.trans (HKx.out.mono (fun _ _ h => h.elim)))
              have HOw : Hid (wr.ownsRow 0 3 1 (.slice (some ⟨gz, 0, none⟩) m m) m (ys.map (.int .i64))) := Lib.hid (HKx.out.row HO.out (fun _ _ h => h))
              clear HKx HNP HO HKz hlt hNe hci HRd
              go_wp2
              go_loopw [69, 15] (fun v69 _v15 wx => ∃ (f : Nat) (ys' : List Int), v69 = .int .i64 (f : Int) ∧ f ≤ q ∧ Hid (ys' = bump ys (ps.take f)) ∧ Hid (wx.ownsRow 0 3 1 (.slice (some ⟨gz, 0, none⟩) m m) m (ys'.map (.int .i64))) ∧ Hid (∀ z ∈ ys', 0 ≤ z ∧ z ≤ 1000 + 1000 * ((j : Int) - ((t : Int) + 1)) + f) ∧ Hid (Kept (fun q => q = gz) W3 wx)) (fun v69 _ _ => q - (intOf v69).toNat)
              case atStart => exact ⟨0, ys, rfl, by omega, Lib.hid rfl, HOw, Lib.hid (fun z hz => by have := HYb.out z hz; omega), HKw⟩
              case round =>
                clear HOw HKw
                obtain ⟨f, ys', rfl, hfq, HB, HO, HYb', HKx⟩ := hrel
                by_cases hlt : (f : Int) < q
                · obtain ⟨g', off', he, hgB, hp0, hz0'⟩ := HLf.out f (by have := HN.out; omega)
                  cases he
                  obtain ⟨r1, r2, r3⟩ := place_at lv ps HPs.out f (by have := HN.out; omega)
                  obtain ⟨p, hp⟩ : ∃ p, p = ps.getD f 0 := ⟨_, rfl⟩
                  rw [← hp] at r1 r2 r3
                  rw [r1] at hp0
                  have hpm : p < m := by rw [HM.out]; exact HP.out p r2
                  obtain ⟨z, hz⟩ : ∃ z, z = (lv.getD f (0, 0)).2 := ⟨_, rfl⟩
                  rw [← hz] at hz0'
                  have hne : ∀ k, k < B → ¬ (fun q => q = gz) k := fun k hk e => by omega
                  have hyl : ys'.length = m := by rw [HB.out, bump_len, HYl.out]
                  have hcell : wr.cell? ⟨gz, p, none⟩ = some (.int .i64 (ys'.getD p 0)) := by
                    rw [HO.out.cellAt p (by omega)]; simp [List.getD, show p < ys'.length by omega]
                  have hfz := HO.out.frozenAt p
                  have hbz : 0 ≤ ys'.getD p 0 ∧ ys'.getD p 0 ≤ 1000 + 1000 * ((j : Int) - ((t : Int) + 1)) + f := by
                    have hpl : p < ys'.length := by omega
                    have : ys'.getD p 0 = ys'[p] := by simp [List.getD, hpl]
                    rw [this]; exact HYb'.out _ (List.getElem_mem hpl)
                  have hB2 : ys'.set p (ys'.getD p 0 + 1) = bump ys (ps.take (f + 1)) := by rw [r3, bump_snoc, ← HB.out]
                  have hpc := (World.cell?_of_block (HKx.out.block _ (Nat.lt_of_lt_of_le (World.block_lt_of_cell? _ _ (HK.out.cell hp0)) (Nat.le_refl _)) (hne gl hgB))).trans (HK.out.cell hp0)
                  have hzc := (World.cell?_of_block (HKx.out.block _ (Nat.lt_of_lt_of_le (World.block_lt_of_cell? _ _ (HK.out.cell hz0')) (Nat.le_refl _)) (hne gl hgB))).trans (HK.out.cell hz0')
                  obtain ⟨y, hy⟩ : ∃ y, y = ys'.getD p 0 := ⟨_, rfl⟩
                  rw [← hy] at hcell hbz hB2
                  have hst := HO.out.stored p (.int .i64 (y + 1))
                  have hset : (ys'.map (Value.int .i64)).set p (.int .i64 (y + 1)) = (ys'.set p (y + 1)).map (Value.int .i64) := by rw [List.map_set]
                  rw [hset] at hst
                  have HSt := Lib.hid (hst.1.alloc (.cells #[.int .i64 (p : Int), .int .i64 z] 89)); have HB2 := Lib.hid hB2
                  have HBd : Hid (∀ z ∈ ys'.set p (y + 1), 0 ≤ z ∧ z ≤ 1000 + 1000 * ((j : Int) - ((t : Int) + 1)) + ((f + 1 : Nat) : Int)) := Lib.hid (fun z hz => by
                    rcases List.mem_or_eq_of_mem_set hz with h | rfl
                    · have := HYb'.out z h; omega
                    · omega)
                  have HK5 : Hid (Kept (fun q => q = gz) W3 ((wr.setCell ⟨gz, p, none⟩ (.int .i64 (y + 1))).alloc (.cells #[.int .i64 (p : Int), .int .i64 z] 89))) := Lib.hid ((HKx.out.setCell (p := ⟨gz, p, none⟩) (.inl rfl) _).alloc _)
                  have hgw : gz < wr.heap.size := (HO.out.lt gz rfl).2
                  clear hst hset hB2 hz hp r1 r2 r3 hne hp0 hz0' HO HKx hy
                  go_wp2
                  go_roundw
                  case rel => exact ⟨f + 1, ys'.set p (y + 1), by go_num, by omega, HB2, HSt, HBd, HK5⟩
                  case measure => simp [intOf]; omega
                · have hfe : f = q := by omega
                  subst hfe
                  have hyl : ys'.length = m := by rw [HB.out, bump_len, HYl.out]
                  have hX2 : addL ls ps t (2 * N) ys' = R := by rw [HB.out]; exact HXx.out
                  go_wp2
                  go_roundw
                  case rel => exact ⟨t, 2 * N, ys', by go_num, rfl, by omega, h2P, HQ4, Lib.hid hyl, HO, Lib.hid (fun z hz => by have := HYb'.out z hz; omega), Lib.hid hX2, HKx⟩
                  case measure => simp [intOf]

end Go.Proofs.Ytpdlkmacdmnamaa

namespace Go.Proofs.Ytpdlkmacdmnamaa
open Go.RowKit
set_option linter.unusedVariables false
set_option linter.unusedSimpArgs false

theorem nan_any (x : Int) (w : World) : Calls Try.prog 68 #[.int .i64 x] w fun e w' => e = .returned (.bool false) ∧ w = w' := by
  go_enter Try.func68, Try.ntmps68
  go_wp2
  go_ret
  exact ⟨rfl, rfl⟩
def cmpI (x y : Int) : Int := if x < y then -1 else if y < x then 1 else 0
theorem compare_any (x y : Int) (w : World) : Calls Try.prog 61 #[.int .i64 x, .int .i64 y] w fun e w' => e = .returned (.int .i64 (cmpI x y)) ∧ w = w' := by
  have HN := Lib.hid nan_any
  have hc : (x < y ∧ cmpI x y = -1) ∨ (¬ x < y ∧ y < x ∧ cmpI x y = 1) ∨ (¬ x < y ∧ ¬ y < x ∧ cmpI x y = 0) := by
    unfold cmpI
    by_cases h1 : x < y
    · exact .inl ⟨h1, if_pos h1⟩
    · by_cases h2 : y < x
      · exact .inr (.inl ⟨h1, h2, by rw [if_neg h1, if_pos h2]⟩)
      · exact .inr (.inr ⟨h1, h2, by rw [if_neg h1, if_neg h2]⟩)
  obtain ⟨c, hcc⟩ : ∃ c, c = cmpI x y := ⟨_, rfl⟩
  rw [← hcc] at hc ⊢
  clear hcc
  go_enter Try.func61, Try.ntmps61
  go_wp2_with fail
  refine (HN.out x w).mono ?_
  rintro e w1 ⟨rfl, rfl⟩
  go_wp2_with fail
  refine (HN.out y w).mono ?_
  rintro e w1 ⟨rfl, rfl⟩
  rcases hc with ⟨h1, rfl⟩ | ⟨h1, h2, rfl⟩ | ⟨h1, h2, rfl⟩
  all_goals
    go_wp2
    go_ret
    exact ⟨rfl, rfl⟩
theorem less_any (p q x y : Int) (w : World) : Calls Try.prog 60 #[.agg #[.int .i64 p, .int .i64 x], .agg #[.int .i64 q, .int .i64 y]] w fun e w' => e = .returned (.int .i64 (cmpI x y)) ∧ Kept NoB w w' := by
  have HC := Lib.hid (compare_any x y)
  go_enter Try.func60, Try.ntmps60
  go_wp2_with fail
  refine (HC.out _).mono ?_
  rintro e w1 ⟨rfl, rfl⟩
  go_wp2
  go_ret
  exact ⟨rfl, ((Kept.refl _ _).alloc _).alloc _⟩

/-- The weights do not fall. -/
def Up (lv : List (Int × Int)) : Prop := ∀ i, i + 1 < lv.length → (lv.getD i (0, 0)).2 ≤ (lv.getD (i + 1) (0, 0)).2

set_option maxRecDepth 20000 in
set_option maxHeartbeats 1000000 in
theorem insertion_up (a : Option Addr) (c B : Nat) (lv : List (Int × Int)) (w : World) (hr : RdLf w B a lv) (hu : Up lv) (hl : lv.length ≤ 1000) :
    Calls Try.prog 72 #[.slice a lv.length c, .int .i64 0, .int .i64 (lv.length : Int), .func (.func 60) #[] #[]] w fun e w' => e = .returned (.tuple #[]) ∧ Kept NoB w w' := by
  have HR := Lib.hid hr; have HU := Lib.hid hu; have HL := Lib.hid less_any
  obtain ⟨n, hn⟩ : ∃ n, n = lv.length := ⟨_, rfl⟩
  have HN := Lib.hid hn
  rw [← hn] at hl ⊢
  clear hr hu hn
  go_enter Try.func72, Try.ntmps72
  go_wp2
  go_loopw [8, 9] (fun v8 _v9 wr => ∃ j : Nat, v8 = .int .i64 (j : Int) ∧ 1 ≤ j ∧ Hid (Kept NoB w wr)) (fun v8 _ _ => n - (intOf v8).toNat)
  case atStart => exact ⟨1, rfl, by omega, Kept.refl _ _⟩
  case round =>
    obtain ⟨j, rfl, hj, HK⟩ := hrel
    by_cases hlt : (j : Int) < n
    · obtain ⟨i, hji⟩ : ∃ i, i + 1 = j := ⟨j - 1, by omega⟩
      obtain ⟨g, off, rfl, _, hp0, hx0⟩ := HR.out j (by have := HN.out; omega)
      obtain ⟨g', off', he, _, hq0, hy0⟩ := HR.out i (by have := HN.out; omega)
      cases he
      have hup := HU.out i (by have := HN.out; omega)
      rw [hji] at hup
      obtain ⟨p, hp⟩ : ∃ p, p = (lv.getD j (0, 0)).1 := ⟨_, rfl⟩
      obtain ⟨x, hx⟩ : ∃ x, x = (lv.getD j (0, 0)).2 := ⟨_, rfl⟩
      obtain ⟨q, hq⟩ : ∃ q, q = (lv.getD i (0, 0)).1 := ⟨_, rfl⟩
      obtain ⟨y, hy⟩ : ∃ y, y = (lv.getD i (0, 0)).2 := ⟨_, rfl⟩
      rw [← hp] at hp0
      rw [← hx] at hx0 hup
      rw [← hq] at hq0
      rw [← hy] at hy0 hup
      have hcmp : decide (cmpI x y < 0) = false := by
        apply decide_eq_false
        unfold cmpI
        rw [if_neg (by omega)]
        split <;> decide
      obtain ⟨k, hk⟩ : ∃ k, k = cmpI x y := ⟨_, rfl⟩
      have hless : ∀ w, Calls Try.prog 60 #[.agg #[.int .i64 p, .int .i64 x], .agg #[.int .i64 q, .int .i64 y]] w fun e w' => e = .returned (.int .i64 k) ∧ Kept NoB w w' := by
        rw [hk]; exact HL.out p q x y
      rw [← hk] at hcmp
      have HLs := Lib.hid hless
      have HP0 := Lib.hid hp0; have HX0 := Lib.hid hx0; have HQ0 := Lib.hid hq0; have HY0 := Lib.hid hy0
      clear hp hx hq hy hk hless hp0 hx0 hq0 hy0 hup
      go_wp2
      go_loopw [9] (fun v9 wr => v9 = .int .i64 (j : Int) ∧ Hid (Kept NoB w wr)) (fun _ _ => 0)
      case atStart => exact ⟨rfl, HK⟩
      case round =>
        clear HK
        obtain ⟨rfl, HK⟩ := hrel
        have b1 : (j : Int) < (n : Int) := by omega
        have b2 : (i : Int) < (n : Int) := by omega
        have b3 : (0 : Int) ≤ (j : Int) := by omega
        have b4 : (0 : Int) ≤ (i : Int) := by omega
        have b5 : decide ((0 : Int) < (j : Int)) = true := decide_eq_true (by omega)
        have b5n : decide (0 < j) = true := decide_eq_true (by omega)
        have b6 : IntKind.i64.wrap ((j : Int) - 1) = (i : Int) := by rw [IntWalk.i64_in _ (by omega)]; omega
        have b7 : j < n := by omega
        have b8 : i < n := by omega
        have b9 : (0 : Int) < (j : Int) := by omega
        have HJi := Lib.hid hji
        clear hji
        have hk0 : Kept NoB wr wr := Kept.refl _ _
        have d0 : ∀ W : World, Kept NoB wr W → W.cell? ⟨g, off + j * 2, none⟩ = some (.int .i64 p) := fun W hk => (HK.out.trans hk).cell HP0.out
        have d1 : ∀ W : World, Kept NoB wr W → W.cell? ⟨g, off + j * 2 + 1, none⟩ = some (.int .i64 x) := fun W hk => (HK.out.trans hk).cell HX0.out
        have d2 : ∀ W : World, Kept NoB wr W → W.cell? ⟨g, off + i * 2, none⟩ = some (.int .i64 q) := fun W hk => (HK.out.trans hk).cell HQ0.out
        have d3 : ∀ W : World, Kept NoB wr W → W.cell? ⟨g, off + i * 2 + 1, none⟩ = some (.int .i64 y) := fun W hk => (HK.out.trans hk).cell HY0.out
        go_upto_region 4 with fail
        go_region_held3 (fun W => Kept NoB wr W) (first | assumption | exact Kept.drew (Kept.refl _ _) | exact Kept.drew (by assumption) | exact Kept.trans (by assumption) hkn)
          (first
            | (go_at_call 60; ((with_reducible refine (HLs.out _).mono ?_); rintro e wn ⟨rfl, hkn⟩)))
        have hkw : Kept NoB wr wn := by assumption
        have HKw := Lib.hid (HK.out.trans hkw)
        clear hkw hkn d0 d1 d2 d3 hk0
        go_wp2
        go_roundw
        case rel => exact ⟨j + 1, by go_num, by omega, HKw⟩
        case measure => simp [intOf]; omega
    · have hge : n ≤ j := by omega
      go_wp2
      go_end0
      exact ⟨rfl, HK.out⟩

end Go.Proofs.Ytpdlkmacdmnamaa

namespace Go.Proofs.Ytpdlkmacdmnamaa
open Go.RowKit
set_option linter.unusedVariables false
set_option linter.unusedSimpArgs false

set_option maxRecDepth 20000 in
theorem stable_up (a : Option Addr) (c B : Nat) (lv : List (Int × Int)) (w : World) (hr : RdLf w B a lv) (hu : Up lv) (hl : lv.length < 20) :
    Calls Try.prog 67 #[.slice a lv.length c, .int .i64 (lv.length : Int), .func (.func 60) #[] #[]] w fun e w' => e = .returned (.tuple #[]) ∧ Kept NoB w w' := by
  have HI := Lib.hid (insertion_up a c B lv w hr hu (by omega))
  obtain ⟨n, hn⟩ : ∃ n, n = lv.length := ⟨_, rfl⟩
  rw [← hn] at hl HI ⊢
  clear hn hr hu
  have h1 : ¬ (20 : Int) ≤ (n : Int) := by omega
  have h2 : ¬ (20 : Int) < (n : Int) := by omega
  have h3 : n < 20 := by omega
  go_enter Try.func67, Try.ntmps67
  go_wp2
  go_loopw [7, 8] (fun v7 v8 wr => v7 = .int .i64 0 ∧ v8 = .int .i64 20 ∧ w = wr) (fun _ _ _ => 0)
  case atStart => exact ⟨rfl, rfl, rfl⟩
  case round =>
    obtain ⟨rfl, rfl, rfl⟩ := hrel
    go_wp2_with fail
    refine HI.out.mono ?_
    rintro e w1 ⟨rfl, hk⟩
    have HK := Lib.hid hk
    clear hk
    go_wp2
    go_loopw [6, 7, 8, 9] (fun v6 v7 v8 _v9 wr => v6 = .int .i64 20 ∧ Hid (Kept NoB w wr)) (fun _ _ _ _ _ => 0)
    case atStart => exact ⟨rfl, HK⟩
    case round =>
      clear HK
      obtain ⟨rfl, HK⟩ := hrel
      go_wp2
      go_end0
      exact ⟨rfl, HK.out⟩
theorem sort_up (a : Option Addr) (c B : Nat) (lv : List (Int × Int)) (w : World) (hr : RdLf w B a lv) (hu : Up lv) (hl : lv.length < 20) :
    Calls Try.prog 59 #[.slice a lv.length c, .func (.func 60) #[] #[]] w fun e w' => e = .returned (.tuple #[]) ∧ Kept NoB w w' := by
  have HI := Lib.hid (stable_up a c B lv w hr hu (by omega))
  obtain ⟨n, hn⟩ : ∃ n, n = lv.length := ⟨_, rfl⟩
  rw [← hn] at hl HI ⊢
  clear hn hr hu
  go_enter Try.func59, Try.ntmps59
  go_wp2_with fail
  refine HI.out.mono ?_
  rintro e w1 ⟨rfl, hk⟩
  have HK := Lib.hid hk
  clear hk
  go_wp2
  go_end0
  exact ⟨rfl, HK.out⟩

theorem infoLf : (Try.prog.info? 89).map (fun i => (i.zero, i.size, i.bytes)) = some (some (.agg #[.int .i64 0, .int .i64 0]), 2, 16) := by kernel_rfl
/-- The cells of leaves. -/
def lcells (rs : List (Int × Int)) : List Value := rs.flatMap fun p => [.int .i64 p.1, .int .i64 p.2]
theorem lcells_app (rs : List (Int × Int)) (s x : Int) : lcells rs ++ [.int .i64 s, .int .i64 x] = lcells (rs ++ [(s, x)]) := by simp [lcells]
theorem lcells_at : ∀ (rs : List (Int × Int)) (i : Nat), i < rs.length → (lcells rs)[i * 2]? = some (.int .i64 (rs.getD i (0, 0)).1) ∧ (lcells rs)[i * 2 + 1]? = some (.int .i64 (rs.getD i (0, 0)).2) := by
  intro rs
  induction rs with
  | nil => intro i hi; simp at hi
  | cons p r ih =>
    intro i hi
    have e : lcells (p :: r) = .int .i64 p.1 :: .int .i64 p.2 :: lcells r := by simp [lcells]
    rw [e]
    cases i with
    | zero => exact ⟨rfl, rfl⟩
    | succ i =>
      have hi' : i < r.length := by simpa using hi
      obtain ⟨h1, h2⟩ := ih i hi'
      rw [show (i + 1) * 2 = i * 2 + 1 + 1 by omega]
      refine ⟨?_, ?_⟩
      · simpa using h1
      · rw [List.getElem?_cons_succ, List.getElem?_cons_succ]; simpa using h2
def OwnL (w : World) (ao : Option Addr) (cap : Nat) (rs : List (Int × Int)) : Prop := w.ownsRow 0 89 2 (.slice ao rs.length cap) rs.length (lcells rs)
theorem OwnL.reads {w : World} {a : Option Addr} {c : Nat} {rs : List (Int × Int)} (h : OwnL w a c rs) : RdLf w w.heap.size a rs := by
  intro i hi
  rcases h.2 with ⟨_, hz⟩ | ⟨g, cc, cur, hv, _⟩
  · omega
  · simp at hv
    obtain ⟨rfl, rfl⟩ := hv
    obtain ⟨h1, h2⟩ := lcells_at rs i hi
    have hc1 : w.cell? ⟨g, i * 2, none⟩ = some (.int .i64 (rs.getD i (0, 0)).1) := by
      rw [← h1]; exact h.cellAt (i * 2) (by omega)
    have hc2 : w.cell? ⟨g, i * 2 + 1, none⟩ = some (.int .i64 (rs.getD i (0, 0)).2) := by
      rw [← h2]; exact h.cellAt (i * 2 + 1) (by omega)
    exact ⟨g, 0, rfl, World.block_lt_of_cell? w _ hc1, by rw [Nat.zero_add]; exact hc1, by rw [Nat.zero_add]; exact hc2⟩
structure LfSt (w0 w : World) (a : Option Addr) (c : Nat) (rs : List (Int × Int)) : Prop where
  own : OwnL w a c rs
  kept : Kept NoB w0 w
  fresh : ∀ k, (Value.slice a rs.length c).ownBlock = some k → w0.heap.size ≤ k
theorem LfSt.app {w0 wr w2 : World} {a' a2 : Option Addr} {c' c2 len : Nat} {rs : List (Int × Int)} {s x : Int} {o : Obj} (h : LfSt w0 wr a' c' rs) (hlen : len = rs.length)
    (hown : w2.ownsRow 0 89 2 (.slice a2 (len + 1) c2) (len + 1) (lcells rs ++ [.int .i64 s, .int .i64 x])) (hgrow : (wr.alloc o).grownBy w2 (Value.slice a' len c').ownBlock)
    (hnew : ∀ k, (Value.slice a2 (len + 1) c2).ownBlock = some k → (Value.slice a' len c').ownBlock = some k ∨ wr.heap.size + 1 ≤ k) : LfSt w0 w2 a2 c2 (rs ++ [(s, x)]) := by
  subst hlen
  have hl : (rs ++ [(s, x)]).length = rs.length + 1 := by simp
  refine ⟨?_, ?_, ?_⟩
  · unfold OwnL
    rw [hl, ← lcells_app]
    exact hown
  · exact (h.kept.alloc o).grown hgrow (fun k hk e => by have := h.fresh k e; omega)
  · intro k hk
    rw [hl] at hk
    rcases hnew k hk with h1 | h1
    · exact h.fresh k h1
    · have := h.kept.size; omega
theorem news_lf (w : World) (s x : Int) : ∀ (k : Nat) (u : Value), [Value.int .i64 s, .int .i64 x][k]? = some u → (w.alloc (.cells #[.int .i64 s, .int .i64 x] 89)).cell? ((⟨w.heap.size, 0, none⟩ : Addr).add k) = some u := by
  intro k u hk
  rw [addr_add, Nat.zero_add, cell_new k rfl]
  simpa using hk

/-- The weights above 0, from place i on. -/
def leavesL : Nat → List Int → List (Int × Int)
  | _, [] => []
  | i, z :: r => if 0 < z then ((i : Int), z) :: leavesL (i + 1) r else leavesL (i + 1) r
theorem leavesL_step (ws : List Int) (j : Nat) (h : j < ws.length) : leavesL j (ws.drop j) = if 0 < ws.getD j 0 then ((j : Int), ws.getD j 0) :: leavesL (j + 1) (ws.drop (j + 1)) else leavesL (j + 1) (ws.drop (j + 1)) := by
  have e : ws.drop j = ws.getD j 0 :: ws.drop (j + 1) := by
    rw [List.drop_eq_getElem_cons h]; simp [List.getD, h]
  conv => lhs; rw [e]
  rfl
theorem leavesL_end (ws : List Int) (j : Nat) (h : ws.length ≤ j) : leavesL j (ws.drop j) = [] := by rw [List.drop_of_length_le h]; rfl

set_option maxRecDepth 20000 in
set_option maxHeartbeats 1000000 in
theorem leaves_up (a : Option Addr) (c B : Nat) (ws : List Int) (w : World) (hr : RdI w B a ws) (hb : Small 1000000 ws) (hl : ws.length < 20) (hu : Up (leavesL 0 ws)) :
    Calls Try.prog 47 #[.slice a ws.length c] w fun e w' => ∃ a' c', e = .returned (.tuple #[.slice a' (leavesL 0 ws).length c', .bool true]) ∧ LfSt w w' a' c' (leavesL 0 ws) := by
  have HR := Lib.hid hr; have HB := Lib.hid hb; have HU := Lib.hid hu
  obtain ⟨i0, hi, hz0, hz1, hz2⟩ := info_parts infoLf
  obtain ⟨R, hR⟩ : ∃ R, R = leavesL 0 ws := ⟨_, rfl⟩
  rw [← hR] at HU ⊢
  have HRe := Lib.hid hR
  obtain ⟨n, hn⟩ : ∃ n, n = ws.length := ⟨_, rfl⟩
  have HN := Lib.hid hn
  rw [← hn] at hl ⊢
  clear hr hb hu hR hn
  go_enter Try.func47, Try.ntmps47
  go_wp2
  go_loopw [9, 4, 5, 6] (fun v9 v4 _v5 _v6 wr => ∃ (j : Nat) (rs : List (Int × Int)) (a4 : Option Addr) (l4 c4 : Nat), v9 = .int .i64 (j : Int) ∧ v4 = .slice a4 l4 c4 ∧ j ≤ n ∧ l4 ≤ j ∧ Hid (l4 = rs.length) ∧ Hid (LfSt w wr a4 c4 rs) ∧ Hid (rs ++ leavesL j (ws.drop j) = R)) (fun v9 _ _ _ _ => n - (intOf v9).toNat)
  case atStart => exact ⟨0, [], none, 0, 0, rfl, rfl, by omega, by omega, Lib.hid rfl, Lib.hid ⟨World.ownsRow_nil _ _ _ _, Kept.refl _ _, fun k hk => by simp [Value.ownBlock] at hk⟩, Lib.hid (by rw [List.drop_zero, List.nil_append]; exact HRe.out.symm)⟩
  case round =>
    obtain ⟨j, rs, a4, l4, c4, rfl, rfl, hj, hl4, HL4, HS, HX⟩ := hrel
    by_cases hlt : (j : Int) < n
    · obtain ⟨g, off, rfl, _, hc0⟩ := HR.out j (by have := HN.out; omega)
      have hc := HS.out.kept.cell hc0
      have hbz := HB.out.getD j (by have := HN.out; omega)
      have hx := HX.out
      rw [leavesL_step ws j (by have := HN.out; omega)] at hx
      obtain ⟨z, hz⟩ : ∃ z, z = ws.getD j 0 := ⟨_, rfl⟩
      rw [← hz] at hc hbz hx
      clear hz hc0
      have h1 : ¬ z < 0 := by omega
      have h2 : ¬ 1000000 < z := by omega
      by_cases hz0' : 0 < z
      · rw [if_pos hz0'] at hx
        have HX2 := Lib.hid hx
        have hrow := HS.out.own
        unfold OwnL at hrow
        rw [← HL4.out] at hrow
        have HRow := Lib.hid (hrow.alloc (.cells #[.int .i64 (j : Int), .int .i64 z] 89)); have HNw := Lib.hid (news_lf wr (j : Int) z)
        clear hrow hx
        go_wp2_with (at_builtin; refine wpList_app _ rfl _ _ 85 rfl 89 i0 (.agg #[.int .i64 0, .int .i64 0]) 2 16 Try.underlying85 hi hz0 hz1 hz2 rfl (by decide) _ l4 (lcells rs) rfl HRow.out ⟨wr.heap.size, 0, none⟩ 1 1 [.int .i64 (j : Int), .int .i64 z] rfl rfl HNw.out ?d2 ?d3 ?d4 ?_)
        case d2 => first | rfl | (intro u hu; simp at hu; rcases hu with rfl | rfl <;> rfl) | (simp [Value.oneCell'])
        case d3 => unfold maxLen; omega
        case d4 => omega
        intro v' w2 hown' hgrow hnew
        obtain ⟨a2, c2, rfl⟩ := own_shape2 hown'
        have HSt := Lib.hid (HS.out.app HL4.out hown' hgrow hnew)
        clear hown' hgrow hnew
        go_wp2
        go_roundw
        case rel => exact ⟨j + 1, rs ++ [((j : Int), z)], a2, l4 + 1, c2, by go_num, rfl, by omega, by omega, Lib.hid (by rw [HL4.out]; simp), HSt, Lib.hid (by rw [List.append_assoc]; exact HX2.out)⟩
        case measure => simp [intOf]; omega
      · rw [if_neg hz0'] at hx
        have HX2 := Lib.hid hx
        clear hx
        go_wp2
        go_roundw
        case rel => exact ⟨j + 1, rs, a4, l4, c4, by go_num, rfl, by omega, by omega, HL4, HS, HX2⟩
        case measure => simp [intOf]; omega
    · have hx := HX.out
      rw [leavesL_end ws j (by have := HN.out; omega), List.append_nil] at hx
      subst hx
      have hso := sort_up a4 c4 wr.heap.size rs wr HS.out.own.reads HU.out (by have := HL4.out; omega)
      rw [← HL4.out] at hso
      have HSo := Lib.hid hso
      clear hso
      go_wp2_with fail
      refine HSo.out.mono ?_
      rintro e w2 ⟨rfl, hk⟩
      have HK := Lib.hid hk
      clear hk
      go_wp2
      go_ret2
      exact ⟨a4, c4, by rw [HL4.out]; rfl, HK.out.row HS.out.own (fun _ _ h => h), HS.out.kept.trans HK.out, HS.out.fresh⟩
end Go.Proofs.Ytpdlkmacdmnamaa
