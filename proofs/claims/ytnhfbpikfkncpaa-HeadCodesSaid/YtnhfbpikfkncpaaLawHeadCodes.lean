/-
  HeadCodes: what may be told is the block that the document says, and is read from it; what may not be is refused.
-/
import Derived.Test.YtnhfbpikfkncpaaHeadX
import Derived.Test.YtnhfbpikfkncpaaHeadV
import Derived.Test.YtnhfbpikfkncpaaHeadY
namespace Go.Proofs.Ytnhfbpikfkncpaa
open Go.RowKit
set_option linter.unusedVariables false
set_option linter.unusedSimpArgs false

/-- A struct is loaded out of a row of structs. -/
theorem run_loadVar_off {P : Program} (w : World) (g off : Nat) (t ty : TypeId) (cs0 : Array Value) (fr : Nat × Nat) (d : TypeDesc) (part : Array Value) (hg : w.heap[g]? = some (.cells cs0 t fr))
    (hp : ∀ (j : Nat) (v : Value), part[j]? = some v → cs0[off + j]? = some v)
    (hu : P.underlying ty = some d) (hd : (match d with | .struct _ | .array _ _ => true | _ => false) = true) (hi : (P.info? ty).map (·.size) = some part.size) :
    (loadVar ty ⟨g, off, none⟩).run P w = .ok (.agg part) w := by
  have hl : (loadCells ⟨g, off, none⟩ part.toList.length).run P w = .ok part.toList.toArray w :=
    run_loadCells_list (P := P) w ⟨g, off, none⟩ part.toList (fun j v hv => by
      have hadd : (⟨g, off, none⟩ : Addr).add j = ⟨g, off + j, none⟩ := by unfold Addr.add; split <;> simp_all
      rw [hadd, cell_of_row w g (off + j) cs0 t fr hg]
      exact hp j v (by simpa using hv))
  cases hq : P.info? ty with
  | none => simp [hq] at hi
  | some i =>
    have hs : i.size = part.size := by simpa [hq] using hi
    have hagg : (isAgg ty).run P w = .ok true w := by
      unfold isAgg
      rw [Sem.run_bind, run_underlying hu w]
      cases d <;> simp_all
    simp only [Array.length_toList, Array.toArray_toList] at hl
    simp [loadVar, Sem.run_bind, hagg, sizeOf, typeInfo, hq, hs, hl]
theorem wp_load_off {P : Program} {o : Oper} {a : Act} {w : World} {K : Act → World → Prop} {Q : Exit → Act → World → Prop} (ty : TypeId) (x : Operand) (ho : o.op = .load ty x)
    (g off : Nat) (hx : a.eval x = .pointer (some ⟨g, off, none⟩)) (t : TypeId) (cs0 : Array Value) (fr : Nat × Nat) (d : TypeDesc) (part : Array Value) (hg : w.heap[g]? = some (.cells cs0 t fr))
    (hp : ∀ (j : Nat) (v : Value), part[j]? = some v → cs0[off + j]? = some v)
    (hu : P.underlying ty = some d) (hd : (match d with | .struct _ | .array _ _ => true | _ => false) = true) (hi : (P.info? ty).map (·.size) = some part.size)
    (h : K (a.put o.dst (.agg part)) w) : o.wp P a w K Q := by
  unfold Oper.wp execOp
  simp only [ho, hx, Instr.loadAt, Instr.sureAddr, Sem.run_bind, Sem.run_pure, Result.andThen_ok, run_loadVar_off w g off t ty cs0 fr d part hg hp hu hd hi]
  exact h
theorem exec_load {P : Program} {a : Act} {o : Oper} {ty : TypeId} {x : Operand} {p : Addr} {v : Value} {w : World} (ho : o.op = .load ty x) (hx : a.eval x = .pointer (some p)) (hl : (loadVar ty p).run P w = .ok v w) : (execOp a.eval o).run P w = .ok (.value v) w := by
  unfold execOp
  simp only [ho, hx, Instr.loadAt, Instr.sureAddr, Sem.run_bind, Sem.run_pure, Result.andThen_ok, hl]
theorem zero_store3 {w : World} {R : Nat} (hR : R = w.heap.size) (h : HdP) : ((w.alloc (.cells #[.string ⟨#[]⟩, .string ⟨#[]⟩, .string ⟨#[]⟩, .int .u8 0, .bool false, .int .i64 0, .int .i64 0, .int .i64 0, .int .i64 0, .int .i64 0, .int .i64 0, .int .i64 0] 23)).setRow R (hdC h)).heap[R]? = some (.cells (hdC h) 23 (0, 0)) ∧ Kept NoB w ((w.alloc (.cells #[.string ⟨#[]⟩, .string ⟨#[]⟩, .string ⟨#[]⟩, .int .u8 0, .bool false, .int .i64 0, .int .i64 0, .int .i64 0, .int .i64 0, .int .i64 0, .int .i64 0, .int .i64 0] 23)).setRow R (hdC h)) := by
  refine ⟨by rw [hR]; exact setRow_heap _ _ _ _ _ _ (heap_alloc_new _ _), kept_setRow ((Kept.refl NoB w).alloc _) (by omega) _⟩
theorem load_rowG {ops : Array Oper} {rest : List Oper} {o : Oper} {a : Act} {w : World} {Q : Exit → Act → World → Prop} (hw : Region.wanted o (yielded ops a.tmps) = true) (x : Operand) (ho : o.op = .load 23 x)
    (g : Nat) (hx : a.eval x = .pointer (some ⟨g, 0, none⟩)) (h0 : HdP) (hg : w.heap[g]? = some (.cells (hdC h0) 23 (0, 0)))
    (h : wpList Try.prog ops Q rest (a.put o.dst (hdV h0)) w) : wpList Try.prog ops Q (o :: rest) a w :=
  wpList_step fun K hK => by
    simp only [hw, if_true]
    exact wp_load_row 23 x ho g hx 23 (hdC h0) (0, 0) _ hg Try.underlying23 rfl infoHd (hK _ _ h)
/-- The two blocks beside each other. -/
theorem two_at (a b : HdP) (i j : Nat) (v : Value) (hi : i < 2) (h : (hdC (if i = 0 then a else b))[j]? = some v) : (hdC a ++ hdC b)[i * 12 + j]? = some v := by
  have hj : j < 12 := by
    have := (Array.getElem?_eq_some_iff.1 h).1
    have e : (hdC (if i = 0 then a else b)).size = 12 := by unfold hdC; rfl
    omega
  have e : (hdC a).size = 12 := by unfold hdC; rfl
  rcases (by omega : i = 0 ∨ i = 1) with rfl | rfl
  · rw [if_pos rfl] at h
    rw [Array.getElem?_append_left (by omega), show 0 * 12 + j = j by omega]
    exact h
  · rw [if_neg (by omega)] at h
    rw [Array.getElem?_append_right (by omega), e, show 1 * 12 + j - 12 = j by omega]
    exact h
set_option maxRecDepth 100000 in
set_option maxHeartbeats 16000000 in
theorem headCodes_walk (h : HdP) (w : World) (k : HdOk h) :
    Calls Try.prog 4 #[hdV h] w fun e w' => e = .returned (.bool true) ∧ Below w.heap.size w w' := by
  obtain ⟨L1, hL1⟩ : ∃ L, L = h.nm.length := ⟨_, rfl⟩
  obtain ⟨L2, hL2⟩ : ∃ L, L = h.lk.length := ⟨_, rfl⟩
  obtain ⟨L3, hL3⟩ : ∃ L, L = h.px.length := ⟨_, rfl⟩
  have z1 : (strOfNums h.nm).size = L1 := by rw [strOfNums_size, hL1]
  have z2 : (strOfNums h.lk).size = L2 := by rw [strOfNums_size, hL2]
  have z3 : (strOfNums h.px).size = L3 := by rw [strOfNums_size, hL3]
  have HL1 := Lib.hid hL1; have HL2 := Lib.hid hL2; have HL3 := Lib.hid hL3
  clear hL1 hL2 hL3
  obtain ⟨X, hX⟩ : ∃ X, X = w.heap.size := ⟨_, rfl⟩
  obtain ⟨wA, hwA⟩ : ∃ y, y = w.alloc (.cells #[.string (strOfNums h.nm), .string (strOfNums h.lk), .string (strOfNums h.px), .int .u8 h.ty, .bool h.gn, .int .i64 h.md, .int .i64 h.us, .int .i64 h.gr, .int .i64 h.sz, .int .i64 h.tm, .int .i64 h.ma, .int .i64 h.mi] 23) := ⟨_, rfl⟩
  have hkA : Kept NoB w wA := by rw [hwA]; exact (Kept.refl NoB w).alloc _
  have hxA : wA.heap[X]? = some (.cells (hdC h) 23 (0, 0)) := by rw [hwA, hX]; exact heap_alloc_new _ _
  have HXA := Lib.hid hxA; have HKA := Lib.hid hkA; have HX := Lib.hid hX; have HWA := Lib.hid hwA
  clear hX hwA hkA hxA
  unfold hdV
  go_enter Try.func4, Try.ntmps4
  go_upto_region 1 with fail
  rw [← HX.out, ← HWA.out]
  have c0 : wA.cell? ⟨X, 0, none⟩ = some (.string (strOfNums h.nm)) := by rw [obj_cell HXA.out 0]; rfl
  have c1 : wA.cell? ⟨X, 1, none⟩ = some (.string (strOfNums h.lk)) := by rw [obj_cell HXA.out 1]; rfl
  have c2 : wA.cell? ⟨X, 2, none⟩ = some (.string (strOfNums h.px)) := by rw [obj_cell HXA.out 2]; rfl
  have HA := Lib.hid (awake17 wA)
  by_cases h1 : (400 : Int) < (L1 : Int)
  · go_wp2_with fail
    with_reducible refine HA.out.mono ?_
    rintro e w1 ⟨rfl, hk1⟩
    have HK1 := Lib.hid (HKA.out.trans hk1)
    clear hk1
    go_wp2
    go_ret
    exact ⟨rfl, HK1.out.belowNo (Below.refl _ _)⟩
  by_cases h2 : (400 : Int) < (L2 : Int)
  · go_wp2_with fail
    with_reducible refine HA.out.mono ?_
    rintro e w1 ⟨rfl, hk1⟩
    have HK1 := Lib.hid (HKA.out.trans hk1)
    clear hk1
    go_wp2
    go_ret
    exact ⟨rfl, HK1.out.belowNo (Below.refl _ _)⟩
  by_cases h3 : (400 : Int) < (L3 : Int)
  · go_wp2_with fail
    with_reducible refine HA.out.mono ?_
    rintro e w1 ⟨rfl, hk1⟩
    have HK1 := Lib.hid (HKA.out.trans hk1)
    clear hk1
    go_wp2
    go_ret
    exact ⟨rfl, HK1.out.belowNo (Below.refl _ _)⟩
  clear HA
  have hlen : h.nm.length ≤ 400 ∧ h.lk.length ≤ 400 ∧ h.px.length ≤ 400 := by have := HL1.out; have := HL2.out; have := HL3.out; omega
  have HLen := Lib.hid hlen; have HK := Lib.hid k
  obtain ⟨th, hth⟩ : ∃ D, D = tameH h := ⟨_, rfl⟩
  have HT : Hid (∀ W, Calls Try.prog 11 #[.agg (hdC h)] W fun e w' => e = .returned (.agg (hdC th)) ∧ Kept NoB W w') := Lib.hid (fun W => by rw [hth]; exact tame17_any h W k (by omega))
  have HTk : Hid (HdOk th) := Lib.hid (by rw [hth]; exact tame_ok k)
  have HTo : Hid (EncO th) := Lib.hid (by rw [hth]; exact tame_o h)
  have HTl : Hid (th.nm.length ≤ 100 ∧ th.lk.length ≤ 100 ∧ th.px.length ≤ 155) := Lib.hid (by rw [hth]; exact tame_len h)
  have HwX : Hid (w.heap.size ≤ X) := Lib.hid (Nat.le_of_eq HX.out.symm)
  clear hlen k hth HL1 HL2 HL3 HX HWA
  go_upto_region 3 with fail
  clear h1 h2 h3 c0 c1 c2 z1 z2 z3
  go_wp2
  go_loopw [3] (fun v3 wr => ∃ i : Nat, v3 = .int .i64 (i : Int) ∧ i ≤ 2 ∧ Hid (wr.heap[X]? = some (.cells (hdC h) 23 (0, 0))) ∧ Hid (Kept NoB w wr)) (fun v3 _ => 2 - (intOf v3).toNat)
  case atStart => exact ⟨0, rfl, by omega, HXA, HKA⟩
  case round =>
    obtain ⟨i, rfl, hi, HXr, HKr⟩ := hrel
    by_cases hlt : (i : Int) < 2
    · have hi2 : i < 2 := by omega
      have HLd : Hid (∀ W, Kept NoB wr W → (loadVar 23 ⟨X, 0, none⟩).run Try.prog W = .ok (.agg (hdC h)) W) := Lib.hid (fun W hk => run_loadVar_row W X 23 23 (hdC h) (0, 0) _ (hk.obj HXr.out (fun h => h)) Try.underlying23 rfl infoHd)
      go_upto_region 6 with fail
      obtain ⟨cu, hcu⟩ : ∃ c, c = (if i = 0 then h else th) := ⟨_, rfl⟩
      have HCu := Lib.hid hcu
      clear hcu
      go_cut [4] from 34 to 40 (fun v4 wy => ∃ H : Nat, v4 = .pointer (some ⟨H, 0, none⟩) ∧ Hid (wy.heap[H]? = some (.cells (hdC cu) 23 (0, 0))) ∧ Hid (Kept NoB wr wy) ∧ wr.heap.size ≤ H)
      case first =>
        go_wp2_with fail
        refine wp_region_noPanic ?_
        refine wp_region_held_drew (S := fun W => Kept NoB wr W) (by kernel_rfl) (Kept.drew (Kept.refl _ _)) (fun hHeld => ?_)
        obtain ⟨wd, hwd⟩ : ∃ x, x = wr.drew := ⟨_, rfl⟩
        rw [← hwd] at hHeld ⊢
        clear hwd
        refine wpAnyH_take (i := 0) (v := .agg (hdC h)) (by rw [List.getElem?_toArray]; rfl) (by kernel_rfl) (by kernel_rfl) (by kernel_rfl) (fun _ _ _ h => h) (Or.inl ⟨by rfl, ?hyq1_⟩) (by assumption) ?restq1_
        case hyq1_ => (intro w hSw; exact exec_load rfl rfl (HLd.out w hSw))
        try simp only [Act.put, List.setIfInBounds_toArray, List.set_cons_zero, List.set_cons_succ]
        refine wpAnyH_take (i := 1) (v := .agg (hdC h)) (by rw [List.getElem?_toArray]; rfl) (by kernel_rfl) (by kernel_rfl) (by kernel_rfl) (fun _ _ _ h => h) (Or.inl ⟨by rfl, ?hyq2_⟩) (by assumption) ?restq2_
        case hyq2_ => (intro w hSw; exact exec_load rfl rfl (HLd.out w hSw))
        try simp only [Act.put, List.setIfInBounds_toArray, List.set_cons_zero, List.set_cons_succ]
        refine wpAnyH_take (i := 4) (v := ?_) (by rw [List.getElem?_toArray]; rfl) (by kernel_rfl) (by kernel_rfl) (by kernel_rfl) (fun _ _ _ h => h) (Or.inl ⟨by rfl, ?hyq3_⟩) (by assumption) ?restq3_
        case hyq3_ => (intro w hSw; (try dsimp only at hSw); go_simp; (try with_reducible rfl))
        try simp only [Act.put, List.setIfInBounds_toArray, List.set_cons_zero, List.set_cons_succ]
        refine wpAnyH_ready (rs := [2, 7]) (by kernel_rfl) (by simp) ?_
        refine AllReadyH.cons (by rw [List.getElem?_toArray]; rfl) (fun K hK => ?_) (AllReadyH.cons (by rw [List.getElem?_toArray]; rfl) (fun K hK => ?_) (AllReadyH.nil))
        · go_simp
          go_at_call 11
          (with_reducible refine (HT.out _).mono ?_)
          rintro e wn1 ⟨rfl, hkn⟩
          have hSn := hHeld.trans hkn
          clear hkn
          go_wp2_with fail
          refine hK.out _ _ hSn (fun hHeld => ?_)
          clear hK K hSn
          try simp only [Act.put, List.setIfInBounds_toArray, List.set_cons_zero, List.set_cons_succ]
          refine wpAnyH_ready (rs := [3, 7]) (by kernel_rfl) (by simp) ?_
          refine AllReadyH.cons (by rw [List.getElem?_toArray]; rfl) (fun K hK => ?_) (AllReadyH.cons (by rw [List.getElem?_toArray]; rfl) (fun K hK => ?_) (AllReadyH.nil))
          · refine if_w (by rfl) ?_
            refine wp_build_two (.tmp 34) (.tmp 36) rfl h th rfl rfl ?_
            refine hK.out _ _ (hHeld.alloc _) (fun hHeld => ?_)
            clear hK K
            try simp only [Act.put, List.setIfInBounds_toArray, List.set_cons_zero, List.set_cons_succ]
            obtain ⟨g2, hg2⟩ : ∃ g, g = wn1.heap.size := ⟨_, rfl⟩
            obtain ⟨w_2, hw2⟩ : ∃ y, y = wn1.alloc (.cells (hdC h ++ hdC th) 23) := ⟨_, rfl⟩
            have HB : Hid (w_2.heap[g2]? = some (.cells (hdC h ++ hdC th) 23 (0, 0))) := Lib.hid (by rw [hw2, hg2]; exact heap_alloc_new _ _)
            rw [← hw2] at hHeld ⊢
            rw [← hg2]
            clear hw2 hg2
            refine wpAnyH_take (i := 5) (v := ?_) (by rw [List.getElem?_toArray]; rfl) (by kernel_rfl) (by kernel_rfl) (by kernel_rfl) (fun _ _ _ h => h) (Or.inl ⟨by rfl, ?hyq4_⟩) (by assumption) ?restq4_
            case hyq4_ => (intro w hSw; (try dsimp only at hSw); go_simp; (try with_reducible rfl))
            try simp only [Act.put, List.setIfInBounds_toArray, List.set_cons_zero, List.set_cons_succ]
            refine wpAnyH_ready (rs := [6, 7]) (by kernel_rfl) (by simp) ?_
            refine AllReadyH.cons (by rw [List.getElem?_toArray]; rfl) (fun K hK => ?_) (AllReadyH.cons (by rw [List.getElem?_toArray]; rfl) (fun K hK => ?_) (AllReadyH.nil))
            · refine if_w (by rfl) ?_
              refine wp_load_off 23 (.tmp 39) rfl g2 (i * 12) rfl 23 (hdC h ++ hdC th) (0, 0) _ (hdC cu) HB.out (fun j v hj => two_at h th i j v hi2 (by rw [← HCu.out]; exact hj)) Try.underlying23 rfl infoHd ?_
              refine hK.out _ _ hHeld (fun hHeld => ?_)
              clear hK K
              try simp only [Act.put, List.setIfInBounds_toArray, List.set_cons_zero, List.set_cons_succ]
              refine wpAnyH_ready (rs := [7]) (by kernel_rfl) (by simp) ?_
              refine AllReadyH.cons (by rw [List.getElem?_toArray]; rfl) (fun K hK => ?_) (AllReadyH.nil)
              go_simp
              have hGe4 : wr.heap.size ≤ w_2.heap.size := hHeld.size
              refine hK.out _ _ (hHeld.alloc _) (fun hHeld => ?_)
              clear hK K
              try simp only [Act.put, List.setIfInBounds_toArray, List.set_cons_zero, List.set_cons_succ]
              have HO := heap_alloc_new w_2 (.cells #[.string ⟨#[]⟩, .string ⟨#[]⟩, .string ⟨#[]⟩, .int .u8 0, .bool false, .int .i64 0, .int .i64 0, .int .i64 0, .int .i64 0, .int .i64 0, .int .i64 0, .int .i64 0] 23)
              obtain ⟨hx4, hhx4⟩ : ∃ x, x = w_2.heap.size := ⟨_, rfl⟩
              obtain ⟨wx4, hwx4⟩ : ∃ x, x = w_2.alloc (.cells #[.string ⟨#[]⟩, .string ⟨#[]⟩, .string ⟨#[]⟩, .int .u8 0, .bool false, .int .i64 0, .int .i64 0, .int .i64 0, .int .i64 0, .int .i64 0, .int .i64 0, .int .i64 0] 23) := ⟨_, rfl⟩
              rw [← hhx4] at HO hGe4 ⊢
              rw [← hwx4] at HO hHeld ⊢
              clear hhx4 hwx4
              refine wpAnyH_ready (rs := [8]) (by kernel_rfl) (by simp) ?_
              refine AllReadyH.cons (by rw [List.getElem?_toArray]; rfl) (fun K hK => ?_) AllReadyH.nil
              refine if_w (by rfl) ?_
              refine wp_store_row 23 (.tmp 4) (.tmp 40) rfl hx4 (hdC cu) rfl rfl _ _ HO infoHd rfl (hdC_one _) ?_
              refine hK.out _ _ (kept_setRow hHeld (by assumption) (hdC cu)) (fun hHeld2 => ?_)
              clear hK K
              have HZ := setRow_heap wx4 hx4 _ (hdC cu) _ _ HO
              try simp only [Act.put, List.setIfInBounds_toArray, List.set_cons_zero, List.set_cons_succ]
              refine wpAnyH_done (by kernel_rfl) ?_ _
              refine NoPanic.normal ?_
              go_wp2
              go_meet
              exact ⟨_, rfl, Lib.hid HZ, Lib.hid hHeld2, (by assumption)⟩
            · go_simp
              have hGe5 : wr.heap.size ≤ w_2.heap.size := hHeld.size
              refine hK.out _ _ (hHeld.alloc _) (fun hHeld => ?_)
              clear hK K
              try simp only [Act.put, List.setIfInBounds_toArray, List.set_cons_zero, List.set_cons_succ]
              have HO := heap_alloc_new w_2 (.cells #[.string ⟨#[]⟩, .string ⟨#[]⟩, .string ⟨#[]⟩, .int .u8 0, .bool false, .int .i64 0, .int .i64 0, .int .i64 0, .int .i64 0, .int .i64 0, .int .i64 0, .int .i64 0] 23)
              obtain ⟨hx5, hhx5⟩ : ∃ x, x = w_2.heap.size := ⟨_, rfl⟩
              obtain ⟨wx5, hwx5⟩ : ∃ x, x = w_2.alloc (.cells #[.string ⟨#[]⟩, .string ⟨#[]⟩, .string ⟨#[]⟩, .int .u8 0, .bool false, .int .i64 0, .int .i64 0, .int .i64 0, .int .i64 0, .int .i64 0, .int .i64 0, .int .i64 0] 23) := ⟨_, rfl⟩
              have HB := Lib.hid (((Kept.refl NoB w_2).alloc (.cells #[.string ⟨#[]⟩, .string ⟨#[]⟩, .string ⟨#[]⟩, .int .u8 0, .bool false, .int .i64 0, .int .i64 0, .int .i64 0, .int .i64 0, .int .i64 0, .int .i64 0, .int .i64 0] 23)).obj HB.out (fun h => h))
              rw [← hwx5] at HB
              rw [← hhx5] at HO hGe5 ⊢
              rw [← hwx5] at HO hHeld ⊢
              clear hhx5 hwx5
              refine wpAnyH_ready (rs := [6]) (by kernel_rfl) (by simp) ?_
              refine AllReadyH.cons (by rw [List.getElem?_toArray]; rfl) (fun K hK => ?_) (AllReadyH.nil)
              refine if_w (by rfl) ?_
              refine wp_load_off 23 (.tmp 39) rfl g2 (i * 12) rfl 23 (hdC h ++ hdC th) (0, 0) _ (hdC cu) HB.out (fun j v hj => two_at h th i j v hi2 (by rw [← HCu.out]; exact hj)) Try.underlying23 rfl infoHd ?_
              refine hK.out _ _ hHeld (fun hHeld => ?_)
              clear hK K
              try simp only [Act.put, List.setIfInBounds_toArray, List.set_cons_zero, List.set_cons_succ]
              refine wpAnyH_ready (rs := [8]) (by kernel_rfl) (by simp) ?_
              refine AllReadyH.cons (by rw [List.getElem?_toArray]; rfl) (fun K hK => ?_) AllReadyH.nil
              refine if_w (by rfl) ?_
              refine wp_store_row 23 (.tmp 4) (.tmp 40) rfl hx5 (hdC cu) rfl rfl _ _ HO infoHd rfl (hdC_one _) ?_
              refine hK.out _ _ (kept_setRow hHeld (by assumption) (hdC cu)) (fun hHeld2 => ?_)
              clear hK K
              have HZ := setRow_heap wx5 hx5 _ (hdC cu) _ _ HO
              try simp only [Act.put, List.setIfInBounds_toArray, List.set_cons_zero, List.set_cons_succ]
              refine wpAnyH_done (by kernel_rfl) ?_ _
              refine NoPanic.normal ?_
              go_wp2
              go_meet
              exact ⟨_, rfl, Lib.hid HZ, Lib.hid hHeld2, (by assumption)⟩
          · go_simp
            have hGe7 : wr.heap.size ≤ wn1.heap.size := hHeld.size
            refine hK.out _ _ (hHeld.alloc _) (fun hHeld => ?_)
            clear hK K
            try simp only [Act.put, List.setIfInBounds_toArray, List.set_cons_zero, List.set_cons_succ]
            have HO := heap_alloc_new wn1 (.cells #[.string ⟨#[]⟩, .string ⟨#[]⟩, .string ⟨#[]⟩, .int .u8 0, .bool false, .int .i64 0, .int .i64 0, .int .i64 0, .int .i64 0, .int .i64 0, .int .i64 0, .int .i64 0] 23)
            obtain ⟨hx7, hhx7⟩ : ∃ x, x = wn1.heap.size := ⟨_, rfl⟩
            obtain ⟨wx7, hwx7⟩ : ∃ x, x = wn1.alloc (.cells #[.string ⟨#[]⟩, .string ⟨#[]⟩, .string ⟨#[]⟩, .int .u8 0, .bool false, .int .i64 0, .int .i64 0, .int .i64 0, .int .i64 0, .int .i64 0, .int .i64 0, .int .i64 0] 23) := ⟨_, rfl⟩
            rw [← hhx7] at HO hGe7 ⊢
            rw [← hwx7] at HO hHeld ⊢
            clear hhx7 hwx7
            refine wpAnyH_ready (rs := [3]) (by kernel_rfl) (by simp) ?_
            refine AllReadyH.cons (by rw [List.getElem?_toArray]; rfl) (fun K hK => ?_) (AllReadyH.nil)
            refine if_w (by rfl) ?_
            refine wp_build_two (.tmp 34) (.tmp 36) rfl h th rfl rfl ?_
            refine hK.out _ _ (hHeld.alloc _) (fun hHeld => ?_)
            clear hK K
            try simp only [Act.put, List.setIfInBounds_toArray, List.set_cons_zero, List.set_cons_succ]
            obtain ⟨g8, hg8⟩ : ∃ g, g = wx7.heap.size := ⟨_, rfl⟩
            obtain ⟨w_8, hw8⟩ : ∃ y, y = wx7.alloc (.cells (hdC h ++ hdC th) 23) := ⟨_, rfl⟩
            have HB : Hid (w_8.heap[g8]? = some (.cells (hdC h ++ hdC th) 23 (0, 0))) := Lib.hid (by rw [hw8, hg8]; exact heap_alloc_new _ _)
            have HO := ((Kept.refl NoB wx7).alloc (.cells (hdC h ++ hdC th) 23)).obj HO (fun h => h)
            rw [← hw8] at HO
            rw [← hw8] at hHeld ⊢
            rw [← hg8]
            clear hw8 hg8
            refine wpAnyH_take (i := 5) (v := ?_) (by rw [List.getElem?_toArray]; rfl) (by kernel_rfl) (by kernel_rfl) (by kernel_rfl) (fun _ _ _ h => h) (Or.inl ⟨by rfl, ?hyq5_⟩) (by assumption) ?restq5_
            case hyq5_ => (intro w hSw; (try dsimp only at hSw); go_simp; (try with_reducible rfl))
            try simp only [Act.put, List.setIfInBounds_toArray, List.set_cons_zero, List.set_cons_succ]
            refine wpAnyH_ready (rs := [6]) (by kernel_rfl) (by simp) ?_
            refine AllReadyH.cons (by rw [List.getElem?_toArray]; rfl) (fun K hK => ?_) (AllReadyH.nil)
            refine if_w (by rfl) ?_
            refine wp_load_off 23 (.tmp 39) rfl g8 (i * 12) rfl 23 (hdC h ++ hdC th) (0, 0) _ (hdC cu) HB.out (fun j v hj => two_at h th i j v hi2 (by rw [← HCu.out]; exact hj)) Try.underlying23 rfl infoHd ?_
            refine hK.out _ _ hHeld (fun hHeld => ?_)
            clear hK K
            try simp only [Act.put, List.setIfInBounds_toArray, List.set_cons_zero, List.set_cons_succ]
            refine wpAnyH_ready (rs := [8]) (by kernel_rfl) (by simp) ?_
            refine AllReadyH.cons (by rw [List.getElem?_toArray]; rfl) (fun K hK => ?_) AllReadyH.nil
            refine if_w (by rfl) ?_
            refine wp_store_row 23 (.tmp 4) (.tmp 40) rfl hx7 (hdC cu) rfl rfl _ _ HO infoHd rfl (hdC_one _) ?_
            refine hK.out _ _ (kept_setRow hHeld (by assumption) (hdC cu)) (fun hHeld2 => ?_)
            clear hK K
            have HZ := setRow_heap w_8 hx7 _ (hdC cu) _ _ HO
            try simp only [Act.put, List.setIfInBounds_toArray, List.set_cons_zero, List.set_cons_succ]
            refine wpAnyH_done (by kernel_rfl) ?_ _
            refine NoPanic.normal ?_
            go_wp2
            go_meet
            exact ⟨_, rfl, Lib.hid HZ, Lib.hid hHeld2, (by assumption)⟩
        · go_simp
          have hGe10 : wr.heap.size ≤ wd.heap.size := hHeld.size
          refine hK.out _ _ (hHeld.alloc _) (fun hHeld => ?_)
          clear hK K
          try simp only [Act.put, List.setIfInBounds_toArray, List.set_cons_zero, List.set_cons_succ]
          have HO := heap_alloc_new wd (.cells #[.string ⟨#[]⟩, .string ⟨#[]⟩, .string ⟨#[]⟩, .int .u8 0, .bool false, .int .i64 0, .int .i64 0, .int .i64 0, .int .i64 0, .int .i64 0, .int .i64 0, .int .i64 0] 23)
          obtain ⟨hx10, hhx10⟩ : ∃ x, x = wd.heap.size := ⟨_, rfl⟩
          obtain ⟨wx10, hwx10⟩ : ∃ x, x = wd.alloc (.cells #[.string ⟨#[]⟩, .string ⟨#[]⟩, .string ⟨#[]⟩, .int .u8 0, .bool false, .int .i64 0, .int .i64 0, .int .i64 0, .int .i64 0, .int .i64 0, .int .i64 0, .int .i64 0] 23) := ⟨_, rfl⟩
          rw [← hhx10] at HO hGe10 ⊢
          rw [← hwx10] at HO hHeld ⊢
          clear hhx10 hwx10
          refine wpAnyH_ready (rs := [2]) (by kernel_rfl) (by simp) ?_
          refine AllReadyH.cons (by rw [List.getElem?_toArray]; rfl) (fun K hK => ?_) (AllReadyH.nil)
          go_simp
          go_at_call 11
          (with_reducible refine (HT.out _).mono ?_)
          rintro e wn11 ⟨rfl, hkn⟩
          have hSn := hHeld.trans hkn
          have HO := hkn.obj HO (fun h => h)
          clear hkn
          go_wp2_with fail
          refine hK.out _ _ hSn (fun hHeld => ?_)
          clear hK K hSn
          try simp only [Act.put, List.setIfInBounds_toArray, List.set_cons_zero, List.set_cons_succ]
          refine wpAnyH_ready (rs := [3]) (by kernel_rfl) (by simp) ?_
          refine AllReadyH.cons (by rw [List.getElem?_toArray]; rfl) (fun K hK => ?_) (AllReadyH.nil)
          refine if_w (by rfl) ?_
          refine wp_build_two (.tmp 34) (.tmp 36) rfl h th rfl rfl ?_
          refine hK.out _ _ (hHeld.alloc _) (fun hHeld => ?_)
          clear hK K
          try simp only [Act.put, List.setIfInBounds_toArray, List.set_cons_zero, List.set_cons_succ]
          obtain ⟨g12, hg12⟩ : ∃ g, g = wn11.heap.size := ⟨_, rfl⟩
          obtain ⟨w_12, hw12⟩ : ∃ y, y = wn11.alloc (.cells (hdC h ++ hdC th) 23) := ⟨_, rfl⟩
          have HB : Hid (w_12.heap[g12]? = some (.cells (hdC h ++ hdC th) 23 (0, 0))) := Lib.hid (by rw [hw12, hg12]; exact heap_alloc_new _ _)
          have HO := ((Kept.refl NoB wn11).alloc (.cells (hdC h ++ hdC th) 23)).obj HO (fun h => h)
          rw [← hw12] at HO
          rw [← hw12] at hHeld ⊢
          rw [← hg12]
          clear hw12 hg12
          refine wpAnyH_take (i := 5) (v := ?_) (by rw [List.getElem?_toArray]; rfl) (by kernel_rfl) (by kernel_rfl) (by kernel_rfl) (fun _ _ _ h => h) (Or.inl ⟨by rfl, ?hyq6_⟩) (by assumption) ?restq6_
          case hyq6_ => (intro w hSw; (try dsimp only at hSw); go_simp; (try with_reducible rfl))
          try simp only [Act.put, List.setIfInBounds_toArray, List.set_cons_zero, List.set_cons_succ]
          refine wpAnyH_ready (rs := [6]) (by kernel_rfl) (by simp) ?_
          refine AllReadyH.cons (by rw [List.getElem?_toArray]; rfl) (fun K hK => ?_) (AllReadyH.nil)
          refine if_w (by rfl) ?_
          refine wp_load_off 23 (.tmp 39) rfl g12 (i * 12) rfl 23 (hdC h ++ hdC th) (0, 0) _ (hdC cu) HB.out (fun j v hj => two_at h th i j v hi2 (by rw [← HCu.out]; exact hj)) Try.underlying23 rfl infoHd ?_
          refine hK.out _ _ hHeld (fun hHeld => ?_)
          clear hK K
          try simp only [Act.put, List.setIfInBounds_toArray, List.set_cons_zero, List.set_cons_succ]
          refine wpAnyH_ready (rs := [8]) (by kernel_rfl) (by simp) ?_
          refine AllReadyH.cons (by rw [List.getElem?_toArray]; rfl) (fun K hK => ?_) AllReadyH.nil
          refine if_w (by rfl) ?_
          refine wp_store_row 23 (.tmp 4) (.tmp 40) rfl hx10 (hdC cu) rfl rfl _ _ HO infoHd rfl (hdC_one _) ?_
          refine hK.out _ _ (kept_setRow hHeld (by assumption) (hdC cu)) (fun hHeld2 => ?_)
          clear hK K
          have HZ := setRow_heap w_12 hx10 _ (hdC cu) _ _ HO
          try simp only [Act.put, List.setIfInBounds_toArray, List.set_cons_zero, List.set_cons_succ]
          refine wpAnyH_done (by kernel_rfl) ?_ _
          refine NoPanic.normal ?_
          go_wp2
          go_meet
          exact ⟨_, rfl, Lib.hid HZ, Lib.hid hHeld2, (by assumption)⟩
      case rest =>
      obtain ⟨H, rfl, HH, HKx, hHge⟩ := hcut
      have HCk : Hid (HdOk cu) := Lib.hid (by rw [HCu.out]; split; exact HK.out; exact HTk.out)
      have HCl : Hid (cu.nm.length ≤ 400 ∧ cu.lk.length ≤ 400 ∧ cu.px.length ≤ 400) := Lib.hid (by
        rw [HCu.out]
        split
        · exact HLen.out
        · have := HTl.out; omega)
      have HC1 : Hid (i = 1 → encOk cu = true) := Lib.hid (fun e => by rw [HCu.out, if_neg (by omega)]; exact o_enc HTo.out)
      have HKw := Lib.hid (HKr.out.trans HKx.out)
      have HXw := Lib.hid (HKx.out.obj HXr.out (fun h => h))
      have HEn : Hid (Calls Try.prog 8 #[.agg (hdC cu)] wc (EncHR wc cu)) := Lib.hid (henc_any cu wc HCk.out (by have := HCl.out; omega))
      have HRh2 : Hid (∀ W, Calls Try.prog 12 #[.agg (hdC cu)] W (RHeadR cu W)) := Lib.hid (fun W => rhead_any cu W HCk.out HCl.out)
      clear HXr HKr HKx hHge
      go_wp2_with (refine wpList_load_row rfl 23 (.tmp 4) rfl H rfl 23 (hdC cu) (0, 0) _ HH.out Try.underlying23 rfl infoHd ?_)
      with_reducible refine HEn.out.mono ?_
      rintro e wH (⟨hyes, g, rfl, hg, hgw, hk2⟩ | ⟨hno, rfl, hk2⟩)
      case inl =>
        have HCo : Hid (EncO cu) := Lib.hid (enc_o hyes)
        have HXh := Lib.hid (hk2.obj HXw.out (fun h => h))
        have HO4 := Lib.hid hg
        have HE2 : Hid (wH.heap[H]? = some (.cells (hdC cu) 23 (0, 0))) := Lib.hid (hk2.obj HH.out (fun h => h))
        have HKa := Lib.hid (HKw.out.trans hk2)
        have HEl := Lib.hid (enc_len HCk.out (enc_o hyes)); have HEa := Lib.hid (enc_all HCk.out)
        have hyes2 := hyes
        obtain ⟨E, hE⟩ : ∃ E, E = encL cu := ⟨_, rfl⟩
        have HDe := Lib.hid hE
        rw [← hE] at HO4 HEl HEa
        have hrd : Reads wH (some ⟨g, 0, none⟩) E := lit_reads (t := 5) (fr := (0, 0)) _ HO4.out (by simp)
        have HRd := Lib.hid hrd
        clear hg hk2 hrd hgw hyes
        go_wp2_with (refine wpList_load_row rfl 23 (.tmp 4) rfl H rfl 23 (hdC cu) (0, 0) _ HE2.out Try.underlying23 rfl infoHd ?_)
        with_reducible refine (HRh2.out _).mono ?_
        rintro e w3 ⟨⟨S, f, rfl, hf1, _⟩, hk3⟩
        obtain ⟨rfl, hS⟩ := hf1 hyes2
        rw [← hE] at hS
        have HS := Lib.hid hS
        have HX3 := Lib.hid (hk3.obj HXh.out (fun h => h)); have HR3 := Lib.hid (HRd.out.keptNo hk3); have HE3 := Lib.hid (hk3.obj HE2.out (fun h => h)); have HK3 := Lib.hid (HKa.out.trans hk3)
        have hcv : (convert 24 9 (.slice (some ⟨g, 0, none⟩) 512 512)).run Try.prog w3 = .ok (.string S) w3 := by rw [hS]; exact conv_reads HR3.out HEl.out.symm (fun h => by cases h)
        have hss : (!S.toList == S.toList) = false := by simp
        have hss2 : (S.toList == S.toList) = true := by simp
        clear hf1 hyes2 hE hS hk3
        go_upto_region 12 with fail
        clear hcv hss hss2
        have HD1 := Lib.hid (hdec_any (some ⟨g, 0, none⟩) 512 512 E w3 HEl.out.symm HEa.out HR3.out (by omega) (by omega))
        have HD2 : Hid (∀ W, Calls Try.prog 13 #[.string S] W (DecHR W E)) := Lib.hid (fun W => by rw [HS.out]; exact rreadhead_any E W HEa.out (by have := HEl.out; omega))
        obtain ⟨De, kk, hdl⟩ : ∃ De kk, decL E = (De, kk) := ⟨_, _, rfl⟩
        have HDc : Hid (∀ W e w', DecHR W E e w' → e = .returned (.tuple #[hdV De, .int .i64 kk]) ∧ Kept NoB W w') := Lib.hid (fun W e w' h => by unfold DecHR at h; rw [hdl] at h; exact h)
        have HDd : Hid ((kk = 0 ∧ De = cu) ∨ kk = 6) := Lib.hid (by
          by_cases hs : 0 ≤ cu.sz
          · have := dec_enc HCk.out HCo.out hs
            rw [← HDe.out, hdl] at this
            cases this
            exact .inl ⟨rfl, rfl⟩
          · have := dec_enc_neg HCk.out HCo.out (by omega)
            rw [← HDe.out, hdl] at this
            cases this
            exact .inr rfl)
        clear hdl
        go_wp2_with fail
        with_reducible refine HD1.out.mono ?_
        intro e w4 h4
        obtain ⟨rfl, hk4⟩ := HDc.out _ _ _ h4
        have HX4 := Lib.hid (hk4.obj HX3.out (fun h => h)); have HR4 := Lib.hid (HR3.out.keptNo hk4); have HE4 := Lib.hid (hk4.obj HE3.out (fun h => h)); have HK4 := Lib.hid (HK3.out.trans hk4)
        clear h4 hk4 HD1
        obtain ⟨R9, hR9⟩ : ∃ R, R = w4.heap.size := ⟨_, rfl⟩
        obtain ⟨wb9, hwb9⟩ : ∃ y, y = (w4.alloc (.cells #[.string ⟨#[]⟩, .string ⟨#[]⟩, .string ⟨#[]⟩, .int .u8 0, .bool false, .int .i64 0, .int .i64 0, .int .i64 0, .int .i64 0, .int .i64 0, .int .i64 0, .int .i64 0] 23)).setRow R9 (hdC De) := ⟨_, rfl⟩
        have hzs9 := zero_store3 hR9 De
        rw [← hwb9] at hzs9
        have HZ9 := Lib.hid (heap_alloc_new w4 (.cells #[.string ⟨#[]⟩, .string ⟨#[]⟩, .string ⟨#[]⟩, .int .u8 0, .bool false, .int .i64 0, .int .i64 0, .int .i64 0, .int .i64 0, .int .i64 0, .int .i64 0, .int .i64 0] 23))
        have HR9 := Lib.hid hR9; have HWb9 := Lib.hid hwb9
        have HBx9 := Lib.hid hzs9.1; have HBk9 := Lib.hid hzs9.2
        clear hR9 hwb9 hzs9
        go_upto_region 13 with (refine wpList_store_row rfl 23 (.tmp 9) (.tmp 65) rfl w4.heap.size (hdC De) rfl rfl _ _ HZ9.out infoHd rfl (hdC_one _) ?_)
        rw [← HR9.out, ← HWb9.out]
        clear HZ9 HR9 HWb9
        have HX5 := Lib.hid (HBk9.out.obj HX4.out (fun h => h)); have HR5 := Lib.hid (HR4.out.keptNo HBk9.out); have HE5 := Lib.hid (HBk9.out.obj HE4.out (fun h => h)); have HK5 := Lib.hid (HK4.out.trans HBk9.out)
        go_wp2_with fail
        with_reducible refine (HD2.out _).mono ?_
        intro e w6 h6
        obtain ⟨rfl, hk6⟩ := HDc.out _ _ _ h6
        have HX6 := Lib.hid (hk6.obj HX5.out (fun h => h)); have HR6 := Lib.hid (HR5.out.keptNo hk6); have HE6 := Lib.hid (hk6.obj HE5.out (fun h => h)); have HK6 := Lib.hid (HK5.out.trans hk6); have HB6 := Lib.hid (hk6.obj HBx9.out (fun h => h))
        clear h6 hk6
        obtain ⟨R11, hR11⟩ : ∃ R, R = w6.heap.size := ⟨_, rfl⟩
        obtain ⟨wb11, hwb11⟩ : ∃ y, y = (w6.alloc (.cells #[.string ⟨#[]⟩, .string ⟨#[]⟩, .string ⟨#[]⟩, .int .u8 0, .bool false, .int .i64 0, .int .i64 0, .int .i64 0, .int .i64 0, .int .i64 0, .int .i64 0, .int .i64 0] 23)).setRow R11 (hdC De) := ⟨_, rfl⟩
        have hzs11 := zero_store3 hR11 De
        rw [← hwb11] at hzs11
        have HZ11 := Lib.hid (heap_alloc_new w6 (.cells #[.string ⟨#[]⟩, .string ⟨#[]⟩, .string ⟨#[]⟩, .int .u8 0, .bool false, .int .i64 0, .int .i64 0, .int .i64 0, .int .i64 0, .int .i64 0, .int .i64 0, .int .i64 0] 23))
        have HR11 := Lib.hid hR11; have HWb11 := Lib.hid hwb11
        have HBx11 := Lib.hid hzs11.1; have HBk11 := Lib.hid hzs11.2
        clear hR11 hwb11 hzs11
        go_upto_region 14 with (refine wpList_store_row rfl 23 (.tmp 11) (.tmp 70) rfl w6.heap.size (hdC De) rfl rfl _ _ HZ11.out infoHd rfl (hdC_one _) ?_)
        rw [← HR11.out, ← HWb11.out]
        clear HZ11 HR11 HWb11
        have HX7 := Lib.hid (HBk11.out.obj HX6.out (fun h => h)); have HR7 := Lib.hid (HR6.out.keptNo HBk11.out); have HE7 := Lib.hid (HBk11.out.obj HE6.out (fun h => h)); have HK7 := Lib.hid (HK6.out.trans HBk11.out); have HB7 := Lib.hid (HBk11.out.obj HB6.out (fun h => h))
        have HS1 := Lib.hid (hsum_any (some ⟨g, 0, none⟩) 512 512 E wb11 HR7.out HEa.out HEl.out.symm (by omega))
        have HS2 : Hid (∀ W, Calls Try.prog 15 #[.string S] W fun e w' => e = .returned (.int .i64 (sumL E)) ∧ W = w') := Lib.hid (fun W => by rw [HS.out]; exact rsum_any E W HEa.out (by have := HEl.out; omega))
        have hne := fun W => hd_neq_self W De
        have heg := fun W x y => hd_guard W x y De De
        rcases HDd.out with ⟨rfl, rfl⟩ | rfl
        all_goals
          go_wp2_with (first | (refine load_rowG (by rfl) (.tmp 9) rfl R9 rfl _ HB7.out ?_) | (refine load_rowG (by rfl) (.tmp 11) rfl R11 rfl _ HBx11.out ?_) | (refine load_rowG (by rfl) (.tmp 4) rfl H rfl _ HE7.out ?_) | fail)
          with_reducible refine HS1.out.mono ?_
          rintro e wy ⟨rfl, rfl⟩
          go_wp2_with fail
          with_reducible refine (HS2.out _).mono ?_
          rintro e wy ⟨rfl, rfl⟩
          clear hne heg
          rcases (by omega : i = 0 ∨ i = 1) with rfl | rfl
          · go_wp2
            go_roundw
            case rel => exact ⟨1, by go_num, by omega, HX7, HK7⟩
            case measure => simp [intOf]
          · go_wp2
            go_roundw
            case rel => exact ⟨2, by go_num, by omega, HX7, HK7⟩
            case measure => simp [intOf]
      case inr =>
        have hi0 : i = 0 := by
          rcases (by omega : i = 0 ∨ i = 1) with h | h
          · exact h
          · rw [HC1.out h] at hno; cases hno
        subst hi0
        have HE2 : Hid (wH.heap[H]? = some (.cells (hdC cu) 23 (0, 0))) := Lib.hid (hk2.obj HH.out (fun h => h))
        have HKa := Lib.hid (HKw.out.trans hk2); have HXa := Lib.hid (hk2.obj HXw.out (fun h => h))
        clear hk2
        go_wp2_with (refine wpList_load_row rfl 23 (.tmp 4) rfl H rfl 23 (hdC cu) (0, 0) _ HE2.out Try.underlying23 rfl infoHd ?_)
        with_reducible refine (HRh2.out _).mono ?_
        rintro e w3 ⟨⟨s, f, rfl, _, hf2⟩, hk3⟩
        obtain ⟨rfl, rfl⟩ := hf2 hno
        have HK3 := Lib.hid (HKa.out.trans hk3); have HX3 := Lib.hid (hk3.obj HXa.out (fun h => h))
        clear hf2 hno hk3
        have hcv : (convert 24 9 (.slice none 0 0)).run Try.prog w3 = .ok (.string ⟨#[]⟩) w3 := conv_reads (xs := []) ⟨(fun _ => rfl), (fun a ha => by cases ha)⟩ rfl (fun _ => rfl)
        go_wp2
        go_roundw
        case rel => exact ⟨1, by go_num, by omega, HX3, HK3⟩
        case measure => simp [intOf]
    · have hi2 : i = 2 := by omega
      subst hi2
      have HA := Lib.hid (awake17 wr)
      go_wp2_with fail
      with_reducible refine HA.out.mono ?_
      rintro e w7 ⟨rfl, hk7⟩
      have HK7 := Lib.hid (HKr.out.trans hk7)
      clear hk7
      go_wp2
      go_ret
      exact ⟨rfl, HK7.out.belowNo (Below.refl _ _)⟩

theorem headCodes_law (v0 : Value) (w : World) (r0 : Arg w 23 v0) :
    Calls Try.prog 4 #[v0] w fun e w' => e = .returned (.bool true) ∧ Below w.heap.size w w' := by
  obtain ⟨h, rfl, k, _⟩ := head_open r0
  exact headCodes_walk h w k
end Go.Proofs.Ytnhfbpikfkncpaa
