/-
  CanonKinds: which rows of lengths are codes, and which codes they are, is as the document says.
-/
import Derived.Test.YtokdlmpnokmniaaKindD
import Derived.Laws.AppendOwnNone
namespace Go.Proofs.Ytokdlmpnokmniaa
open Go.RowKit
set_option linter.unusedVariables false
set_option linter.unusedSimpArgs false

theorem mask15 (n : Int) : bits .and .i64 n 15 = n % 16 := i64_mask n 4 (by decide)
theorem LensP.reads3 {w w' : World} {zs : List Int} {e : Ending} (h : LensP w zs e w') : ∃ a c, e = .returned (.tuple #[.slice a zs.length c, .int .i64 0]) ∧ RdI w' w'.heap.size a zs ∧ Kept NoB w w' ∧ (a = none → zs.length = 0 ∧ c = 0) := by
  obtain ⟨a, c, rfl, ho, hk⟩ := h
  refine ⟨a, c, rfl, ?_, hk, ?_⟩
  · intro i hi
    rcases ho.2 with ⟨_, hz⟩ | ⟨g, cc, cur, hv, _⟩
    · omega
    · simp at hv
      obtain ⟨rfl, rfl⟩ := hv
      have hc : w'.cell? ⟨g, i, none⟩ = some (.int .i64 (zs.getD i 0)) := by
        rw [ho.cellAt i (by omega)]; simp [List.getD, hi]
      exact ⟨g, 0, rfl, World.block_lt_of_cell? w' _ hc, by rw [Nat.zero_add]; exact hc⟩
  · rintro rfl
    rcases ho.2 with ⟨hv, hz⟩ | ⟨g, cc, cur, hv, _⟩
    · simp at hv; exact ⟨hz, hv.2⟩
    · simp at hv
theorem wpList_app_none {P : Program} {w : World} {ops : Array Oper} {rest : List Oper} {o : Oper} {a : Act} {Q : Exit → Act → World → Prop} (hgd : o.guard = none) (s x : Operand) (t : TypeId)
    (ho : o.op = .call { callee := .builtin .append, args := #[s, x], argTypes := #[t, t] })
    (e : TypeId) (i : TypeInfo) (size : Nat) (ht : P.underlying t = some (.slice e)) (hi : P.info? e = some i)
    (v : Value) (n : Nat) (xs : List Value) (hs : a.eval s = v) (hown : w.ownsRow 0 e size v n xs) (hx : a.eval x = .slice none 0 0)
    (h : wpList P ops Q rest (a.put o.dst v) w) : wpList P ops Q (o :: rest) a w :=
  wpList_plain hgd fun _ hK => by
    have hr := run_append_owned_none (P := P) (w := w) 0 t o.type e i size ht hi v n xs hown
    unfold Oper.wp execOp
    simp only [ho, resolve, invoke, builtin, Sem.run_bind, Sem.run_pure, Result.andThen_ok, List.map_toArray, List.map_cons, List.map_nil, hs, hx, hr]
    exact hK _ _ h

set_option maxRecDepth 20000 in
set_option maxHeartbeats 2000000 in
theorem good_calls2 (ao : Option Addr) (ca B : Nat) (ws : List Int) (w : World) (hx : RdI w B ao ws) :
    Calls Try.prog 8 #[.slice ao ws.length ca] w fun e w' => ∃ a c Z, (GoodP Z ∧ (a = none → Z.length = 0 ∧ c = 0)) ∧ e = .returned (.slice a Z.length c) ∧ RdI w' w'.heap.size a Z ∧ Kept NoB w w' := by
  have HX := Lib.hid hx
  have m1 := mask65535
  obtain ⟨i0, hi, hz0, hz1, hz2⟩ := info_parts infoI
  obtain ⟨n, hn⟩ : ∃ n, n = ws.length := ⟨_, rfl⟩
  have HN := Lib.hid hn
  rw [← hn]
  obtain ⟨P, hP⟩ : ∃ P, P = min n 60 := ⟨_, rfl⟩
  obtain ⟨A, hA⟩ : ∃ A, A = (List.range P).map (fun i => ws.getD i 0 % 65536 % 300) := ⟨_, rfl⟩
  have hAl : A.length = P := by rw [hA]; simp
  have hAb : Small 299 A := by
    intro z hz
    rw [hA] at hz
    obtain ⟨i, hi, e⟩ := List.mem_map.1 hz
    rw [← e]
    omega
  have hP60 : P ≤ 60 := by omega
  have HA := Lib.hid hA; have HAl := Lib.hid hAl; have HAb := Lib.hid hAb; have HP := Lib.hid hP
  clear hx hn hA hAl hAb hP
  go_enter Try.func8, Try.ntmps8
  go_wp2
  go_loopw [4, 3] (fun v4 v3 wr => ∃ (i : Nat) (a3 : Option Addr) (c3 : Nat), v4 = .int .i64 (i : Int) ∧ v3 = .slice a3 i c3 ∧ i ≤ P ∧ Hid (IntSt w wr a3 i c3 (A.take i))) (fun v4 _ _ => P - (intOf v4).toNat)
  case atStart => exact ⟨0, none, 0, rfl, rfl, by omega, Lib.hid (IntSt.nil w)⟩
  case round =>
    obtain ⟨i, a3, c3, rfl, rfl, hiP, HS⟩ := hrel
    by_cases hlt : i < P
    · have hin : (i : Int) < n := by have := HP.out; omega
      have hi12 : (i : Int) < 60 := by omega
      have hst := range_take (fun i => ws.getD i 0 % 65536 % 300) P i hlt
      rw [← HA.out] at hst
      obtain ⟨g, off, rfl, _, hc0⟩ := HX.out i (by have := HN.out; omega)
      have hc := HS.out.kept.cell hc0
      obtain ⟨z, hz⟩ : ∃ z, z = ws.getD i 0 := ⟨_, rfl⟩
      rw [← hz] at hc hst
      have HSt := Lib.hid hst
      clear hc0 hz hst
      have hrow := HS.out.own
      obtain ⟨cs, hcs⟩ : ∃ cs, cs = (A.take i).map (Value.int .i64) := ⟨_, rfl⟩
      rw [← hcs] at hrow
      have HRow := Lib.hid (hrow.alloc (.cells #[.int .i64 (z % 65536 % 300)] 3)); have HCs := Lib.hid hcs
      clear hrow hcs
      go_wp2_with (at_builtin; refine wpList_app _ rfl _ _ 22 rfl 3 i0 (.int .i64 0) 1 8 Try.underlying22 hi hz0 hz1 hz2 rfl (by decide) _ i cs rfl HRow.out ⟨wr.heap.size, 0, none⟩ 1 1 [.int .i64 (z % 65536 % 300)] rfl rfl (cell_one_new _ _ _) ?d2 ?d3 ?d4 ?_)
      case d2 => first | rfl | (intro u hu; simp at hu; subst hu; rfl)
      case d3 => unfold maxLen; omega
      case d4 => omega
      intro v' w2 hown' hgrow hnew
      obtain ⟨a2, c2, rfl⟩ := own_shape2 hown'
      rw [HCs.out] at hown'
      have hs2 := HS.out.app hown' hgrow hnew
      rw [← HSt.out] at hs2
      have HS2 := Lib.hid hs2
      clear hown' hgrow hnew hs2
      go_wp2
      go_roundw
      case rel => exact ⟨i + 1, a2, c2, by go_num, rfl, by omega, HS2⟩
      case measure => simp [intOf]; omega
    · have hiP2 : i = P := by omega
      subst hiP2
      have hsa := HS.out
      rw [List.take_of_length_le (by rw [HAl.out]; exact Nat.le_refl _)] at hsa
      have hl1 : Calls Try.prog 25 #[.slice a3 i c3, .int .i64 15] wr fun e w' => ∃ a c Z, ((GoodP Z ∧ (a = none → Z.length = 0 ∧ c = 0)) ∧ Z.length = i) ∧ e = .returned (.tuple #[.slice a i c, .int .i64 0]) ∧ RdI w' w'.heap.size a Z ∧ Kept NoB wr w' := by
        have hok : LensOkP A 15 := ⟨by rw [HAl.out]; omega, by omega, fun z hz => by have := HAb.out z hz; omega, by
          have := leaves_len A 0
          rw [HAl.out] at this
          have h2 : (2 : Nat) ^ (15 : Int).toNat = 32768 := by decide
          rw [h2]; omega⟩
        have hcall := lens_yes a3 c3 _ A 15 wr hsa.reads hok
        rw [HAl.out] at hcall
        refine hcall.mono ?_
        rintro e w' ⟨lv, hs, hL⟩
        obtain ⟨h1, h2⟩ := good_of A lv (by rw [HAl.out]; omega) HAb.out hs hok
        rw [HAl.out] at h1 h2
        obtain ⟨aa, c, h3, h4, h5, h6⟩ := hL.reads3
        have e15 : (15 : Int).toNat = 15 := rfl
        rw [e15] at h3 h4 h6
        rw [h2] at h3
        exact ⟨aa, c, _, ⟨⟨h1, h6⟩, h2⟩, h3, h4, h5⟩
      have HL1 := Lib.hid hl1; have HSk := Lib.hid hsa.kept
      have g1 : ((i : Int) < n ∧ ¬ (i : Int) < 60) ∨ ¬ (i : Int) < n := by have := HP.out; omega
      clear hsa hl1 HS
      rcases g1 with ⟨g1, g2⟩ | g1
      all_goals
        go_wp2_with fail
        refine HL1.out.mono ?_
        rintro e w2 ⟨a5, c5, Z, hZ, rfl, hr, hk⟩
        have HZ := Lib.hid hZ; have HR := Lib.hid hr; have HK := Lib.hid (HSk.out.trans hk)
        clear hZ hr hk
        go_wp2
        go_ret
        exact ⟨a5, c5, Z, HZ.out.1, by rw [HZ.out.2]; rfl, HR.out, HK.out⟩

/-- A row of lengths that stands in a world. -/
structure RowC (w : World) (a : Option Addr) (c : Nat) (ls : List Int) : Prop where
  rd : RdI w w.heap.size a ls
  all : AllI ls
  len : ls.length ≤ 400
theorem GoodP.allI {Z : List Int} (h : GoodP Z) : AllI Z := fun z hz => by have := h.small z hz; omega

set_option maxRecDepth 20000 in
set_option maxHeartbeats 8000000 in
theorem canonKinds_tail (ao : Option Addr) (ca : Nat) (raw ws : List Int) (bo : Option Addr) (cb : Nat) (at_ to_ : Int) (w : World) (hx : RdI w w.heap.size ao raw) (hall : AllI raw) (hy : RdI w w.heap.size bo ws) :
    Calls Try.prog 4 #[.slice ao raw.length ca, .slice bo ws.length cb, .int .i64 at_, .int .i64 to_] w fun e w' => e = .returned (.bool true) ∧ Below w.heap.size w w' := by
  have HG := Lib.hid (good_calls2 bo cb w.heap.size ws w hy)
  have HAw := Lib.hid awake_any
  have HX := Lib.hid hx; have HAll := Lib.hid hall
  have m1 := mask15
  have m2 := mask255
  obtain ⟨i0, hi, hz0, hz1, hz2⟩ := info_parts infoI
  obtain ⟨n0, hn0⟩ : ∃ n, n = raw.length := ⟨_, rfl⟩
  obtain ⟨n1, hn1⟩ : ∃ n, n = ws.length := ⟨_, rfl⟩
  have HN0 := Lib.hid hn0
  rw [← hn1] at HG
  rw [← hn0, ← hn1]
  clear hx hy hn0 hn1 hall
  by_cases hlong : (400 : Int) < n0
  · go_enter Try.func4, Try.ntmps4
    go_wp2_with fail
    refine (HAw.out _).mono ?_
    rintro e w1 ⟨rfl, hk⟩
    have HK := Lib.hid hk
    clear hk
    go_wp2
    go_ret
    exact ⟨rfl, HK.out.belowNo (Below.refl _ _)⟩
  · go_enter Try.func4, Try.ntmps4
    go_wp2_with fail
    refine HG.out.mono ?_
    rintro e w1 ⟨a9, c9, L, ⟨hgp, hnn⟩, rfl, hr, hk⟩
    have HGp := Lib.hid hgp; have HRl := Lib.hid hr; have HK1 := Lib.hid hk
    obtain ⟨m, hm⟩ : ∃ m, m = L.length := ⟨_, rfl⟩
    have HM := Lib.hid hm
    have hm60 : m ≤ 60 := by have := hgp.few; omega
    rw [← hm] at hnn ⊢
    have HNn := Lib.hid hnn
    have hemp : (w1.alloc (.cells #[] 3)).ownsRow 0 3 1 (.slice (some ⟨w1.heap.size, 0, none⟩) 0 0) 0 [] := World.ownsRow_lit w1 #[] 0 (Nat.zero_le _) (Nat.zero_le _) rfl
    have HEmp := Lib.hid hemp
    clear hgp hr hk hm hnn hemp HG
    go_upto_region 4 with fail
    go_cut [10] from 26 to 28 (fun v10 wx => ∃ (ta : Option Addr) (tc : Nat), v10 = .slice ta m tc ∧ Hid (wx.ownsRow 0 3 1 (.slice ta m tc) m (L.map (.int .i64))) ∧ Hid (Kept NoB w1 wx) ∧ Hid (∀ k, (Value.slice ta m tc).ownBlock = some k → w1.heap.size ≤ k))
    case first =>
      cases a9 with
      | none =>
        obtain ⟨hm0, hc0⟩ := HNn.out rfl
        subst hm0
        subst hc0
        go_wp2_with (at_builtin; refine wpList_app_none rfl _ _ 22 rfl 3 i0 1 Try.underlying22 hi _ 0 [] rfl HEmp.out rfl ?_)
        go_meet
        have hL0 : L = [] := List.eq_nil_of_length_eq_zero HM.out.symm
        exact ⟨some ⟨w1.heap.size, 0, none⟩, 0, rfl, Lib.hid (by rw [hL0]; exact HEmp.out), Lib.hid ((Kept.refl _ _).alloc _), Lib.hid (fun k hk => by simp [Value.ownBlock] at hk; omega)⟩
      | some ad =>
        have hrn : ∀ j u, (L.map (Value.int .i64))[j]? = some u → (w1.alloc (.cells #[] 3)).cell? (ad.add j) = some u := by
          intro j u hu
          have hj : j < L.length := by have := (List.getElem?_eq_some_iff.1 hu).1; simpa using this
          obtain ⟨g, off, he, _, hc⟩ := HRl.out j hj
          cases he
          have := ((Kept.refl NoB w1).alloc (.cells #[] 3)).cell hc
          rw [addr_add, this, ← hu]
          simp [List.getD, hj]
        have HRn := Lib.hid hrn
        have hml : (L.map (Value.int .i64)).length = m * 1 := by rw [List.length_map, Nat.mul_one]; exact HM.out.symm
        have HMl := Lib.hid hml
        clear hrn hml
        go_wp2_with (at_builtin; refine wpList_app _ rfl _ _ 22 rfl 3 i0 (.int .i64 0) 1 8 Try.underlying22 hi hz0 hz1 hz2 rfl (by decide) _ 0 [] rfl HEmp.out ad m c9 (L.map (.int .i64)) rfl HMl.out HRn.out ?d2 ?d3 ?d4 ?_)
        case d2 => intro u hu; obtain ⟨x, _, rfl⟩ := List.mem_map.1 hu; rfl
        case d3 => unfold maxLen; omega
        case d4 => omega
        intro v' w2 hown' hgrow hnew
        try rw [List.nil_append] at hown'
        try rw [Nat.zero_add] at hown'
        obtain ⟨ta, tc, rfl⟩ := own_shape2 hown'
        have HO := Lib.hid hown'
        have hk2 : Kept NoB w1 w2 := ((Kept.refl NoB w1).alloc (.cells #[] 3)).grown hgrow (fun k hk e => by simp [Value.ownBlock] at e; omega)
        have HK2 := Lib.hid hk2
        have hfr : ∀ k, (Value.slice ta m tc).ownBlock = some k → w1.heap.size ≤ k := fun k hk => by
          rcases hnew k hk with h | h
          · simp [Value.ownBlock] at h; omega
          · first | omega | (simp at h; omega)
        have HFr := Lib.hid hfr
        clear hown' hgrow hnew hk2 hfr
        go_wp2
        go_meet
        exact ⟨ta, tc, rfl, HO, HK2, HFr⟩
    case rest =>
      obtain ⟨ta, tc, rfl, HO, HK2, HFr⟩ := hcut
      clear HEmp
      have HRl2 := Lib.hid (HRl.out.kept (S := NoB) HK2.out (fun _ _ h => h))
      go_upto_if 31 with fail
      go_cut [10] from 29 to 40 (fun v10 wx => v10 = .slice ta m tc ∧ ∃ T : List Int, Hid (T.length = m ∧ Small 15 T) ∧ Hid (wx.ownsRow 0 3 1 (.slice ta m tc) m (T.map (.int .i64))) ∧ Hid (Kept NoB w1 wx))
      case first =>
        by_cases hm0 : m = 0
        · have g0 : ¬ 0 < (m : Int) := by omega
          have HLl : Hid (L.length = m ∧ Small 15 L) := Lib.hid ⟨HM.out.symm, HGp.out.small⟩
          clear hm0
          go_wp2
          go_meet
          exact ⟨rfl, L, HLl, HO, HK2⟩
        · have g0 : 0 < (m : Int) := by omega
          have hq1 : 0 ≤ at_ % 256 := by omega
          obtain ⟨q, hq⟩ : ∃ q : Nat, at_ % 256 % (m : Int) = (q : Int) := ⟨(at_ % 256 % (m : Int)).toNat, by
            have := Int.emod_nonneg (at_ % 256) (show (m : Int) ≠ 0 by omega); omega⟩
          have hqm : q < m := by have := Int.emod_lt_of_pos (at_ % 256) g0; omega
          have hq2 : (q : Int) < m := by omega
          obtain ⟨g, rfl⟩ := own_some HO.out (by omega)
          have hyb : 0 ≤ to_ % 16 ∧ to_ % 16 ≤ 15 := by omega
          obtain ⟨s1, _⟩ := HO.out.stored q (.int .i64 (to_ % 16))
          rw [← List.map_set] at s1
          have hcell : ∃ u, wc.cell? ⟨g, q, none⟩ = some u := by
            rw [HO.out.cellAt q (by omega)]
            exact ⟨_, List.getElem?_eq_getElem (by simp; have := HM.out; omega)⟩
          obtain ⟨u, hu⟩ := hcell
          have hf := HO.out.frozenAt q
          have hK3 : Kept NoB w1 (wc.setCell ⟨g, q, none⟩ (.int .i64 (to_ % 16))) := Kept.setCell (p := ⟨g, q, none⟩) HK2.out (.inr (HFr.out g rfl)) _
          have hT : (L.set q (to_ % 16)).length = m ∧ Small 15 (L.set q (to_ % 16)) := ⟨by rw [List.length_set]; exact HM.out.symm, fun z hz => by
            rcases List.mem_or_eq_of_mem_set hz with h | h
            · exact HGp.out.small z h
            · rw [h]; exact hyb⟩
          have HT := Lib.hid hT; have HS1 := Lib.hid s1; have HK3 := Lib.hid hK3
          clear hT s1 hK3
          go_wp2
          go_meet
          exact ⟨rfl, L.set q (to_ % 16), HT, HS1, HK3⟩
      case rest =>
        obtain ⟨rfl, T, HT, HO2, HK3⟩ := hcut
        have hrT : RdI wc wc.heap.size ta T := by
          intro i hi
          have hl := HT.out.1
          rcases HO2.out.2 with ⟨_, hz⟩ | ⟨g, cc, cur, hv, _⟩
          · omega
          · simp at hv
            obtain ⟨rfl, rfl⟩ := hv
            have hc : wc.cell? ⟨g, i, none⟩ = some (.int .i64 (T.getD i 0)) := by
              rw [HO2.out.cellAt i (by omega)]; simp [List.getD, hi]
            exact ⟨g, 0, rfl, World.block_lt_of_cell? wc _ hc, by rw [Nat.zero_add]; exact hc⟩
        have R0 := Lib.hid (show RowC wc ao ca raw from ⟨((HX.out.kept (HK1.out.trans HK3.out) (fun _ _ h => h)).room), HAll.out, by rw [← HN0.out]; omega⟩)
        have R1 := Lib.hid (show RowC wc a9 c9 L from ⟨((HRl.out.kept HK3.out (fun _ _ h => h)).room), HGp.out.allI, by have := HGp.out.few; omega⟩)
        have R2 := Lib.hid (show RowC wc ta tc T from ⟨hrT, fun z hz => by have := HT.out.2 z hz; omega, by rw [HT.out.1]; omega⟩)
        have hrows : ∀ i : Nat, i < 3 → ∃ (ra : Option Addr) (rc : Nat) (rl : List Int), (#[Value.slice ao n0 ca, .slice a9 m c9, .slice ta m tc] : Array Value)[i]? = some (.slice ra rl.length rc) ∧ RowC wc ra rc rl := by
          intro i hi
          have hc : i = 0 ∨ i = 1 ∨ i = 2 := by omega
          rcases hc with rfl | rfl | rfl
          · exact ⟨ao, ca, raw, by rw [← HN0.out]; rfl, R0.out⟩
          · exact ⟨a9, c9, L, by rw [← HM.out]; rfl, R1.out⟩
          · exact ⟨ta, tc, T, by rw [HT.out.1]; rfl, R2.out⟩
        have HRows := Lib.hid hrows
        have HKw := Lib.hid (HK1.out.trans HK3.out)
        clear hrT hrows R0 R1 R2 HO2 HK3 HT HO HK2 HFr HRl2 HRl HK1 HX HAll HGp HN0 HM HNn
        rename World => W0
        go_wp2
        go_loopw [11, 12, 13, 14, 15, 16, 17, 18, 19] (fun v11 _v12 _v13 _v14 _v15 _v16 _v17 _v18 _v19 wr => ∃ i : Nat, v11 = .int .i64 (i : Int) ∧ i ≤ 3 ∧ Hid (Kept NoB W0 wr)) (fun v11 _ _ _ _ _ _ _ _ _ => 3 - (intOf v11).toNat)
        case atStart => exact ⟨0, rfl, by omega, Kept.refl _ _⟩
        case round =>
          obtain ⟨i, rfl, hi3, HKi⟩ := hrel
          by_cases hlt : (i : Int) < 3
          · obtain ⟨ra, rc, rl, hrow, hR⟩ := HRows.out i (by omega)
            have hall := hR.all
            have hlen := hR.len
            have hcd := fun W (hk : Kept NoB W0 W) (h : errS rl = 0) => codes_calls ra rc _ rl W (hR.rd.kept hk (fun _ _ h => h)) (err_ok h).1.small (err_ok h).1.len (err_ok h).2
            have hcn := fun W (hk : Kept NoB W0 W) (h : errS rl ≠ 0) => codes_no ra rc _ rl W (hR.rd.kept hk (fun _ _ h => h)) hall h
            have hrd := fun W (hk : Kept NoB W0 W) (h : errS rl = 0) => rcodes_yes ra rc _ rl W (hR.rd.kept hk (fun _ _ h => h)) hall h
            have hrn := fun W (hk : Kept NoB W0 W) (h : errS rl ≠ 0) => rcodes_no ra rc _ rl W (hR.rd.kept hk (fun _ _ h => h)) hall (by omega) h
            have hnd := fun W (hk : Kept NoB W0 W) (h : errS rl = 0) => new_calls ra rc _ rl W (hR.rd.kept hk (fun _ _ h => h)) (err_ok h).1.small (err_ok h).1.len (err_ok h).2
            have hnn := fun W (hk : Kept NoB W0 W) (h : errS rl ≠ 0) => new_bad ra rc _ rl W (hR.rd.kept hk (fun _ _ h => h)) hall h
            have hkd := fun W (hk : Kept NoB W0 W) => kind_any ra rc _ rl W (hR.rd.kept hk (fun _ _ h => h)) hall
            have hkr := fun W (hk : Kept NoB W0 W) => rkind_any ra rc _ rl W (hR.rd.kept hk (fun _ _ h => h)) hall (by omega)
            have hcl : (codesL rl).length = rl.length := by unfold codesL; rw [codesP_len]
            obtain ⟨nl, hnl⟩ : ∃ nl, nl = rl.length := ⟨_, rfl⟩
            rw [← hnl] at hrow hcd hcn hrd hrn hnd hnn hkd hkr hcl hlen
            obtain ⟨kd, hkde⟩ : ∃ kd, kd = kindA rl := ⟨_, rfl⟩
            rw [← hkde] at hkd hkr
            have dl : (wr.alloc (.cells #[.slice ao n0 ca, .slice a9 m c9, .slice ta m tc] 22)).cell? ⟨wr.heap.size, i, none⟩ = some (.slice ra nl rc) := by
              rw [cell_new i rfl]; exact hrow
            have HKa : Hid (Kept NoB W0 (wr.alloc (.cells #[.slice ao n0 ca, .slice a9 m c9, .slice ta m tc] 22))) := Lib.hid (HKi.out.alloc _)
            have HCd := Lib.hid hcd; have HCn := Lib.hid hcn; have HRd := Lib.hid hrd; have HRn := Lib.hid hrn; have HNd := Lib.hid hnd; have HNb := Lib.hid hnn; have HKd := Lib.hid hkd; have HKr := Lib.hid hkr; have HCl := Lib.hid hcl
            clear hcd hcn hrd hrn hnd hnn hkd hkr hcl hnl hkde hR hall hrow
            by_cases he : errS rl = 0
            · have HE := Lib.hid he
              clear he
              go_wp2_with fail
              refine (HCd.out _ HKa.out HE.out).mono ?_
              intro e w3 hp
              obtain ⟨a13, c13, rfl, hr13, hk⟩ := codes_read hp
              rw [HCl.out] at hr13 ⊢
              have HR13 := Lib.hid hr13; have K3 := Lib.hid (HKa.out.trans hk)
              clear hp hr13 hk
              go_wp2_with fail
              refine (HRd.out _ K3.out HE.out).mono ?_
              intro e w4 hp
              obtain ⟨a15, c15, rfl, hr15, hk⟩ := codes_read hp
              rw [HCl.out] at hr15 ⊢
              have HR15 := Lib.hid hr15; have K4 := Lib.hid (K3.out.trans hk); have Ka := Lib.hid hk
              clear hp hr15 hk
              go_wp2_with fail
              refine (HNd.out _ K4.out HE.out).mono ?_
              rintro e w5 ⟨D, rfl, _, _, hk⟩
              have K5 := Lib.hid (K4.out.trans hk); have Kb := Lib.hid hk
              clear hk
              go_wp2_with fail
              refine (HKd.out _ K5.out).mono ?_
              rintro e w6 ⟨rfl, hk⟩
              have K6 := Lib.hid (K5.out.trans hk); have Kc := Lib.hid (Kb.out.trans hk)
              clear hk
              go_wp2_with fail
              refine (HKr.out _ K6.out).mono ?_
              rintro e w7 ⟨rfl, hk⟩
              have K7 := Lib.hid (K6.out.trans hk); have Kd := Lib.hid (Kc.out.trans hk)
              clear hk
              go_wp2
              go_loopw [19] (fun v19 wz => ∃ t : Nat, v19 = .int .i64 (t : Int) ∧ t ≤ nl ∧ Hid (Kept NoB w7 wz)) (fun v19 _ => nl - (intOf v19).toNat)
              case atStart => exact ⟨0, rfl, by omega, Kept.refl _ _⟩
              case round =>
                obtain ⟨t, rfl, htn, HKt⟩ := hrel
                by_cases hlt2 : (t : Int) < nl
                · obtain ⟨g1, rfl, x0⟩ := HR13.out t (by omega)
                  obtain ⟨g2, rfl, x1⟩ := HR15.out t (by omega)
                  have y0 := HKt.out.cell (Kd.out.cell (Ka.out.cell x0))
                  have y1 := HKt.out.cell (Kd.out.cell x1)
                  obtain ⟨v, hv⟩ : ∃ v, v = (codesL rl).getD t 0 := ⟨_, rfl⟩
                  rw [← hv] at y0 y1
                  clear x0 x1 hv
                  go_upto_region 19 with fail
                  go_quiet (fail)
                  have HKq := Lib.hid (HKt.out.drewN nq)
                  go_wp2
                  go_roundw
                  case rel => exact ⟨t + 1, by go_num, by omega, HKq⟩
                  case measure => simp [intOf]; omega
                · have HKe := Lib.hid (K7.out.trans HKt.out)
                  go_wp2
                  go_roundw
                  case rel => exact ⟨i + 1, by go_num, by omega, HKe⟩
                  case measure => simp [intOf]; omega
            · obtain ⟨R, hRe⟩ : ∃ R, R = errS rl := ⟨_, rfl⟩
              have hr13 := err_no he
              have HCn2 := fun W hk => HCn.out W hk he
              have HRn2 := fun W hk => HRn.out W hk he
              have HNb2 := fun W hk => HNb.out W hk he
              rw [← hRe] at HCn2 HRn2 HNb2 hr13
              have HCn3 := Lib.hid HCn2; have HRn3 := Lib.hid HRn2; have HNb3 := Lib.hid HNb2
              have g1 : (R == 0) = false := by simp; omega
              clear he hr13 HCn2 HRn2 HNb2 hRe HCd HRd HNd HCn HRn HNb
              go_wp2_with fail
              refine (HCn3.out _ HKa.out).mono ?_
              rintro e w3 ⟨rfl, hk⟩
              have K3 := Lib.hid (HKa.out.trans hk)
              clear hk
              go_wp2_with fail
              refine (HRn3.out _ K3.out).mono ?_
              rintro e w4 ⟨rfl, hk⟩
              have K4 := Lib.hid (K3.out.trans hk)
              clear hk
              go_wp2_with fail
              refine (HNb3.out _ K4.out).mono ?_
              rintro e w5 ⟨rfl, hk⟩
              have K5 := Lib.hid (K4.out.trans hk)
              clear hk
              go_wp2_with fail
              refine (HKd.out _ K5.out).mono ?_
              rintro e w6 ⟨rfl, hk⟩
              have K6 := Lib.hid (K5.out.trans hk)
              clear hk
              go_wp2_with fail
              refine (HKr.out _ K6.out).mono ?_
              rintro e w7 ⟨rfl, hk⟩
              have K7 := Lib.hid (K6.out.trans hk)
              clear hk
              go_wp2
              go_loopw [19] (fun v19 wz => v19 = .int .i64 0 ∧ Hid (Kept NoB w7 wz)) (fun _ _ => 0)
              case atStart => exact ⟨rfl, Kept.refl _ _⟩
              case round =>
                obtain ⟨rfl, HKt⟩ := hrel
                have HKe := Lib.hid (K7.out.trans HKt.out)
                go_wp2
                go_roundw
                case rel => exact ⟨i + 1, by go_num, by omega, HKe⟩
                case measure => simp [intOf]; omega
          · go_wp2_with fail
            refine (HAw.out _).mono ?_
            rintro e w9 ⟨rfl, hk⟩
            have HKz := Lib.hid (HKw.out.trans (HKi.out.trans hk))
            clear hk
            go_wp2
            go_ret
            exact ⟨rfl, HKz.out.belowNo (Below.refl _ _)⟩

theorem canonKinds_law (v0 v1 v2 v3 : Value) (w : World) (r0 : Arg w 22 v0) (r1 : Arg w 22 v1) (r2 : Arg w 3 v2) (r3 : Arg w 3 v3) : Calls Try.prog 4 #[v0, v1, v2, v3] w fun e w' => e = .returned (.bool true) ∧ Below w.heap.size w w' := by
  obtain ⟨ao, ca, raw, rfl, _, _, hx, hall, _⟩ := r0.ints
  obtain ⟨bo, cb, ws, rfl, _, _, hy, _, _⟩ := r1.ints
  obtain ⟨a, rfl, _⟩ := r2.int rfl
  obtain ⟨t, rfl, _⟩ := r3.int rfl
  exact canonKinds_tail ao ca raw ws bo cb a t w hx hall hy
end Go.Proofs.Ytokdlmpnokmniaa
