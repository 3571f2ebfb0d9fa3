/-
  Rows of pieces: copy; slices.Insert of one piece.
  What was written of a file, in memory: bytes put where no piece is touched.
  What was written of a file, in memory: put, where no piece is touched.
  What was written of a file, in memory: how many bytes; how many more fit.
  How many bytes fit, on paper, a piece at a time.
-/
import Derived.Test.YtgbakogihkdddaaGreatDoorMx5
import Derived.Lib.Overlaps
import Derived.Laws.CopyRow
import Derived.Laws.Externs
import Derived.Great.BuildSlice
namespace Go.Proofs.YtgbakogihkdddaaGreatDoor
open Go.RowKit
set_option linter.unusedVariables false
set_option linter.unusedSimpArgs false
set_option maxRecDepth 20000

/-- copy between rows of elements of two cells. -/
theorem run_copy_row2 {P : Program} (w : World) (dT sT ty elem : TypeId) (g o dLen dCap : Nat) (a : Addr) (sLen sCap : Nat) (cur : Array Value) (t : TypeId) (cs : List Value)
    (hu : P.underlying dT = some (.slice elem)) (hs : (P.info? elem).map (·.size) = some 2)
    (hg : w.heap[g]? = some (.cells cur t (0, 0))) (hn : cs.length = Nat.min sLen dLen * 2)
    (hsrc : ∀ j v, cs[j]? = some v → w.cell? (a.add j) = some v) (hfit : o + cs.length ≤ cur.size) (h1 : ∀ v ∈ cs, v.oneCell' = true) :
    (Builtin.copy_ #[dT, sT] ty #[.slice (some ⟨g, o, none⟩) dLen dCap, .slice (some a) sLen sCap]).run P w =
      .ok (goInt (Nat.min sLen dLen)) (w.setRow g (cur.toList.take o ++ cs ++ cur.toList.drop (o + cs.length)).toArray) := by
  have hl := run_loadCells_list (P := P) w a cs hsrc
  have hst := run_storeCells_at P g o t cs 0 cur w hg (by simpa using hfit) h1
  cases hq : P.info? elem with
  | none => simp [hq] at hs
  | some i =>
    have hi : i.size = 2 := by simpa [hq] using hs
    simp [Builtin.copy_, run_underlying hu, Builtin.lenOf, Builtin.firstCells, sizeOf, typeInfo, hq, hi, ← hn, hl, hst]
theorem infoFp2 : (Tryz.prog.info? 40).map (·.size) = some 2 := by kernel_rfl
theorem sizeFp (w : World) : (Go.sizeOf 40).run Tryz.prog w = .ok 2 w := by kernel_rfl
/-- Cells ys put in at cell i of xs. -/
def insC (xs ys : List Value) (i : Nat) : List Value := xs.take (i * 2) ++ ys ++ xs.drop (i * 2)
theorem fcells_app (a b : List FpQ) : fcells (a ++ b) = fcells a ++ fcells b := by simp [fcells]
theorem fcells_cons (q : FpQ) (b : List FpQ) : fcells (q :: b) = .int .i64 q.1.1 :: .slice q.2.1 q.1.2.length q.2.2 :: fcells b := by simp [fcells]
theorem fcells_take (qs : List FpQ) (i : Nat) : (fcells qs).take (i * 2) = fcells (qs.take i) := by
  induction qs generalizing i with
  | nil => simp [fcells]
  | cons q r ih =>
    cases i with
    | zero => simp [fcells]
    | succ i =>
      rw [List.take_succ_cons, fcells_cons, fcells_cons, show (i + 1) * 2 = i * 2 + 1 + 1 by omega, List.take_succ_cons, List.take_succ_cons, ih]
theorem fcells_drop (qs : List FpQ) (i : Nat) : (fcells qs).drop (i * 2) = fcells (qs.drop i) := by
  have h1 := List.take_append_drop (i * 2) (fcells qs)
  have h2 : fcells qs = fcells (qs.take i) ++ fcells (qs.drop i) := by rw [← fcells_app, List.take_append_drop]
  rw [fcells_take] at h1
  rw [h2] at h1
  conv at h1 => lhs; rw [← h2]
  exact List.append_cancel_left h1
theorem insC_fcells (qs : List FpQ) (q : FpQ) (i : Nat) : insC (fcells qs) [.int .i64 q.1.1, .slice q.2.1 q.1.2.length q.2.2] i = fcells (qs.take i ++ q :: qs.drop i) := by
  unfold insC
  rw [fcells_take, fcells_drop, fcells_app, fcells_cons]
  simp
theorem fcells_one (qs : List FpQ) : ∀ v ∈ fcells qs, v.oneCell' = true := by
  intro v hv
  unfold fcells at hv
  rw [List.mem_flatMap] at hv
  obtain ⟨q, _, hq⟩ := hv
  simp at hq
  rcases hq with rfl | rfl <;> rfl
theorem two_one (z : Int) (bo : Option Addr) (m bc : Nat) : ∀ v ∈ [Value.int .i64 z, .slice bo m bc], v.oneCell' = true := by
  intro v hv; simp at hv; rcases hv with rfl | rfl <;> rfl
theorem row_shape {w : World} {base e s : Nat} {v : Value} {n : Nat} {xs : List Value} (h : w.ownsRow base e s v n xs) : ∃ ao cap, v = .slice ao n cap := by
  rcases h.2 with ⟨rfl, rfl⟩ | ⟨g, cap, cur, rfl, _⟩
  · exact ⟨none, 0, rfl⟩
  · exact ⟨_, cap, rfl⟩
theorem ob_cap (a : Option Addr) (n c c' : Nat) : (Value.slice a n c).ownBlock = (Value.slice a n c').ownBlock := by cases a <;> rfl
section
variable {ops : Array Oper} {rest : List Oper} {o : Oper} {a : Act} {w : World} {K : Act → World → Prop} {Q : Exit → Act → World → Prop}
/-- copy, where what it does is known. -/
theorem wpList_copy_known (hgd : o.guard = none) (d s : Operand) (t t' : TypeId) (ho : o.op = .call { callee := .builtin .copy, args := #[d, s], argTypes := #[t, t'] }) (x y : Value)
    (hx : a.eval d = x) (hy : a.eval s = y) (v : Value) (w' : World) (hr : (Builtin.copy_ #[t, t'] o.type #[x, y]).run Tryz.prog w = .ok v w') (h : wpList Tryz.prog ops Q rest (a.put o.dst v) w') : wpList Tryz.prog ops Q (o :: rest) a w := by
  refine wpList_plain hgd fun K' hK' => ?_
  unfold Oper.wp
  simp [execOp, ho, resolve, invoke, builtin, hx, hy, hr, Result.andThen]
  exact hK' _ _ h
end
theorem cell_same2 {w w' : World} {b : Nat} (h : w'.heap[b]? = w.heap[b]?) {o : Nat} : w'.cell? ⟨b, o, none⟩ = w.cell? ⟨b, o, none⟩ := by simp [World.cell?, h]
/-- What comes of Insert. -/
def InsP (w : World) (a : Option Addr) (n c : Nat) (xs : List Value) (e : Ending) (w' : World) : Prop :=
  ∃ a' c', e = .returned (.slice a' (n + 1) c') ∧ w'.ownsRow 0 40 2 (.slice a' (n + 1) c') (n + 1) xs ∧ Kept (OwnB (.slice a n c)) w w' ∧ (∀ k, (Value.slice a' (n + 1) c').ownBlock = some k → (Value.slice a n c).ownBlock = some k ∨ w.heap.size ≤ k)

set_option maxHeartbeats 2000000 in
theorem insert_end (a : Option Addr) (n c : Nat) (xs : List Value) (w : World) (hown : w.ownsRow 0 40 2 (.slice a n c) n xs) (vb : Nat) (z : Int) (bo : Option Addr) (m bc : Nat)
    (hv : w.heap[vb]? = some (.cells #[.int .i64 z, .slice bo m bc] 40 (0, 0))) (hn : n ≤ 1099511627776) :
    Calls Tryz.prog 50 #[.slice a n c, .int .i64 (n : Int), .slice (some ⟨vb, 0, none⟩) 1 1] w (InsP w a n c (xs ++ [.int .i64 z, .slice bo m bc])) := by
  obtain ⟨i0, hi, hz0, hz1, hz2⟩ := info_parts infoFp
  have hcap : n ≤ c := by
    rcases hown.2 with ⟨h1, h2⟩ | ⟨g, cc, cur, h1, _, _, h2, _⟩
    · simp at h1; omega
    · simp at h1; obtain ⟨_, rfl⟩ := h1; exact h2
  have hc63 : (c : Int) ≤ 9223372036854775807 := by
    rcases hown.2 with ⟨h1, h2⟩ | ⟨g, cc, cur, h1, _, _, _, h2, _⟩
    · simp at h1; omega
    · simp at h1; obtain ⟨_, rfl⟩ := h1; unfold maxLen at h2; omega
  have HO := Lib.hid hown
  have hnil : a = none → n = 0 := fun e => by
    rcases hown.2 with ⟨h1, h2⟩ | ⟨g, cc, cur, h1, _⟩
    · exact h2
    · simp at h1; rw [e] at h1; cases h1.1
  have HCell : Hid (∀ j u, [Value.int .i64 z, .slice bo m bc][j]? = some u → w.cell? ((⟨vb, 0, none⟩ : Addr).add j) = some u) := Lib.hid (fun j u hj => by
    rw [Addr.add_lit, Nat.zero_add, obj_cell hv]; simpa using hj)
  clear hown hv
  go_enter Tryz.func50, Tryz.ntmps50
  go_wp2_with (at_builtin; refine wpList_app_src rfl (.tmp 23) (.tmp 24) 61 35 rfl 40 i0 _ 2 32 Tryz.underlying61 hi hz0 hz1 hz2 rfl (by decide) (.slice a n c) n xs rfl HO.out _ rfl 1 [.int .i64 z, .slice bo m bc] (Src.ofSlice w Tryz.underlying35 ⟨vb, 0, none⟩ 1 1 _ rfl HCell.out (two_one z bo m bc)) rfl (two_one z bo m bc) (by decide) (by unfold maxLen; omega) (by omega) ?_; intro v' w' h2 h3 h4)
  all_goals
    go_ret
    obtain ⟨a2, c2, rfl⟩ := row_shape h2
    exact ⟨a2, c2, rfl, h2, (Kept.refl _ w).grown h3 (fun k _ e => (ob_cap a n _ c).trans e), fun k e => (h4 k e).imp (fun z => (ob_cap a n _ c).trans z) id⟩
theorem appz_any (w : World) (ty g i n : Nat) (xs cur : List Value) (hi : i ≤ n) (hn : n ≤ 1099511627776) (hx : xs.length = i * 2) (hc : ∀ j u, xs[j]? = some u → w.cell? ⟨g, j, none⟩ = some u) :
    ∃ (c' : Nat) (cur : Array Value) (w2 : World), (Builtin.append_ #[61, 3] ty #[.slice (some ⟨g, 0, none⟩) i n, .int .i64 ((n + 1 - i : Nat) : Int)]).run Tryz.prog w = .ok (.slice (some ⟨w.heap.size, 0, none⟩) (n + 1) c') w2 ∧
      w2.heap[w.heap.size]? = some (.cells cur 40 (0, 0)) ∧ cur.size = c' * 2 ∧ n + 1 ≤ c' ∧ c' ≤ maxLen ∧ cur.toList.take (i * 2) = xs ∧ Kept NoB w w2 ∧ w2.heap.size = w.heap.size + 1 := by
  obtain ⟨i0, hi0, hz0, hz1, hz2⟩ := info_parts infoFp
  have hold : (Builtin.firstCells i0.size i (.slice (some ⟨g, 0, none⟩) i n)).run Tryz.prog w.drew = .ok xs.toArray w.drew := by
    rw [hz1]
    exact run_firstCells_some w.drew 2 i ⟨g, 0, none⟩ i n xs hx (fun j u hj => by rw [Addr.add_lit, Nat.zero_add]; exact hc j u hj)
  have hr := Go.Lib.run_append_grow_zeros (P := Tryz.prog) w 61 3 ty 40 i0 _ .i64 .i64 Tryz.underlying61 Tryz.underlying3 hi0 hz0 (some ⟨g, 0, none⟩) i n xs hold (n + 1 - i) (by omega) (by omega) (by omega) (by omega) (by rw [hz2]; omega)
    (by rw [hz2]; exact growslice_fits (by omega) (by omega))
  have e : i + (n + 1 - i) = n + 1 := by omega
  rw [e] at hr
  have hge := grownCap_ge w (n + 1) n 40
  have hcm2 : grownCap w (n + 1) n 40 ≤ maxLen := grownCap_le_maxLen w (n + 1) n 40 (by unfold maxLen; omega)
  refine ⟨_, _, _, hr, heap_alloc_new w.drew _, ?_, hge, hcm2, ?_, ((Kept.refl NoB w).drew).alloc _, by simp⟩
  · have hcc : (Value.agg #[.int .i64 0, .slice none 0 0]).cells.size = 2 := rfl
    simp only [Array.size_append, List.size_toArray, size_zeroCells, hcc, hx]
    omega
  · simp only [Array.toList_append, List.append_assoc, List.toList_toArray]
    rw [← hx, List.take_left]
/-- Insert where there is no room. -/
theorem insert_grow (g n i : Nat) (xs cur : List Value) (w : World) (cu : Array Value) (hi : i < n) (hg : w.heap[g]? = some (.cells cu 40 (0, 0))) (hcs : cu.size = n * 2) (hxs : cu.toList = xs) (h1x : ∀ v ∈ xs, v.oneCell' = true) (vb : Nat) (z : Int) (bo : Option Addr) (m bc : Nat)
    (hv : w.heap[vb]? = some (.cells #[.int .i64 z, .slice bo m bc] 40 (0, 0))) (hn : n ≤ 1099511627776) :
    Calls Tryz.prog 50 #[.slice (some ⟨g, 0, none⟩) n n, .int .i64 (i : Int), .slice (some ⟨vb, 0, none⟩) 1 1] w (InsP w (some ⟨g, 0, none⟩) n n (insC xs [.int .i64 z, .slice bo m bc] i)) := by
  have hxl : xs.length = n * 2 := by rw [← hxs]; simpa using hcs
  have hcell : ∀ (j : Nat) (u : Value), xs[j]? = some u → w.cell? ⟨g, j, none⟩ = some u := fun j u hj => by
    rw [obj_cell hg]; rw [← hxs] at hj; simpa using hj
  have HA : Hid (∀ ty, ∃ (c' : Nat) (cur : Array Value) (w2 : World), (Builtin.append_ #[61, 3] ty #[.slice (some ⟨g, 0, none⟩) i n, .int .i64 ((n + 1 - i : Nat) : Int)]).run Tryz.prog w = .ok (.slice (some ⟨w.heap.size, 0, none⟩) (n + 1) c') w2 ∧
      w2.heap[w.heap.size]? = some (.cells cur 40 (0, 0)) ∧ cur.size = c' * 2 ∧ n + 1 ≤ c' ∧ c' ≤ maxLen ∧ cur.toList.take (i * 2) = xs.take (i * 2) ∧ Kept NoB w w2 ∧ w2.heap.size = w.heap.size + 1) :=
    Lib.hid (fun ty => appz_any w ty g i n (xs.take (i * 2)) [] (by omega) hn (by rw [List.length_take, hxl]; omega) (fun j u hj => hcell j u (by rw [List.getElem?_take] at hj; split at hj; exact hj; cases hj)))
  obtain ⟨c', cu2, w2, hrun, o2, s2, q1, q2, q3, k2, z2⟩ := HA.out 61
  have vb2 := k2.obj hv id
  have g2 := k2.obj hg id
  have hgv : vb < w.heap.size := obj_lt hv
  have hgl : g < w.heap.size := obj_lt hg
  have e1 : (n : Int) + 1 - (i : Int) = ((n + 1 - i : Nat) : Int) := by omega
  have hc63 : (c' : Int) ≤ 9223372036854775807 := by unfold maxLen at q2; omega
  have hne : ¬ (i : Int) = (n : Int) := by omega
  have hsub : ((n : Int) + 1 - (i : Int)) = ((n + 1 - i : Nat) : Int) := by omega
  rw [← hsub] at hrun
  have HR := Lib.hid hrun; have HO2 := Lib.hid o2; have HV2 := Lib.hid vb2; have HG2 := Lib.hid g2; have HK2 := Lib.hid k2; have HX := Lib.hid (⟨hxl, q3, s2, hcell⟩ : _ ∧ _ ∧ _ ∧ _)
  have HSub := Lib.hid hsub
  clear HA hrun o2 vb2 g2 k2 hg hv hcell q3 e1 hsub hxs hcs hxl
  go_enter Tryz.func50, Tryz.ntmps50
  go_upto_region 9 with fail
  have hmin : Nat.min 1 (n + 1 - i) = 1 := Nat.min_eq_left (by omega)
  obtain ⟨r3, hr3⟩ : ∃ r3, r3 = (cu2.toList.take (i * 2) ++ [Value.int .i64 z, Value.slice bo m bc] ++ cu2.toList.drop (i * 2 + 2)).toArray := ⟨_, rfl⟩
  obtain ⟨w3, hw3⟩ : ∃ w3, w3 = w2.setRow w.heap.size r3 := ⟨_, rfl⟩
  have hr10 : (Builtin.copy_ #[61, 35] 3 #[.slice (some ⟨w.heap.size, i * 2, none⟩) (n + 1 - i) (c' - i), .slice (some ⟨vb, 0, none⟩) 1 1]).run Tryz.prog w2 = .ok (goInt 1) w3 := by
    have := run_copy_row2 w2 61 35 3 40 w.heap.size (i * 2) (n + 1 - i) (c' - i) ⟨vb, 0, none⟩ 1 1 cu2 _ [Value.int .i64 z, Value.slice bo m bc] Tryz.underlying61 infoFp2 HO2.out (by rw [hmin]; rfl) (fun j v hj => by rw [Addr.add_lit, Nat.zero_add, obj_cell HV2.out]; simpa using hj) (by simp; omega) (two_one z bo m bc)
    rw [hmin] at this
    rw [hw3, hr3]; exact this
  have o3 : w3.heap[w.heap.size]? = some (.cells r3 40 (0, 0)) := by rw [hw3]; exact setRow_heap _ _ _ _ _ _ HO2.out
  have k3 : Kept (OneB w.heap.size) w2 w3 := by rw [hw3]; exact Kept.setRow (S := OneB w.heap.size) (Kept.refl _ w2) (.inl rfl) _
  have r3s : r3.size = c' * 2 := by rw [hr3]; simp only [List.size_toArray, List.length_append, List.length_take, List.length_drop, Array.length_toList, s2, List.length_cons, List.length_nil]; omega
  have g3 := k3.obj HG2.out (fun e => by unfold OneB at e; omega)
  have hxl := HX.out.1
  have hcell := HX.out.2.2.2
  have hdl : (xs.drop (i * 2)).length = (n - i) * 2 := by rw [List.length_drop, hxl]; omega
  have hm2 : Nat.min (n - i) (n - i) = n - i := Nat.min_self _
  obtain ⟨r4, hr4⟩ : ∃ r4, r4 = (r3.toList.take ((i + 1) * 2) ++ xs.drop (i * 2) ++ r3.toList.drop ((i + 1) * 2 + (xs.drop (i * 2)).length)).toArray := ⟨_, rfl⟩
  obtain ⟨w4, hw4⟩ : ∃ w4, w4 = w3.drew.setRow w.heap.size r4 := ⟨_, rfl⟩
  have hr11 : (Builtin.copy_ #[61, 61] 3 #[.slice (some ⟨w.heap.size, (i + 1) * 2, none⟩) (n - i) (c' - (i + 1)), .slice (some ⟨g, i * 2, none⟩) (n - i) (n - i)]).run Tryz.prog w3.drew = .ok (goInt ((n - i : Nat) : Int)) w4 := by
    have hcc : ∀ (j : Nat) (v : Value), (xs.drop (i * 2))[j]? = some v → w3.drew.cell? ((⟨g, i * 2, none⟩ : Addr).add j) = some v := fun j v hj => by
      rw [Addr.add_lit]
      rw [List.getElem?_drop] at hj
      have h1 := hcell (i * 2 + j) v hj
      show w3.cell? ⟨g, i * 2 + j, none⟩ = some v
      rw [cell_same2 ((k3.block g (by have := HK2.out.size; omega) (fun e => by unfold OneB at e; omega)).trans (HK2.out.block g hgl id))]
      exact h1
    have := run_copy_row2 w3.drew 61 61 3 40 w.heap.size ((i + 1) * 2) (n - i) (c' - (i + 1)) ⟨g, i * 2, none⟩ (n - i) (n - i) r3 _ (xs.drop (i * 2)) Tryz.underlying61 infoFp2 o3 (by rw [hm2]; exact hdl) hcc (by rw [hdl, r3s]; omega) (fun v hv => h1x v (List.mem_of_mem_drop hv))
    rw [hm2] at this
    rw [hw4, hr4]; exact this
  have o4 : w4.heap[w.heap.size]? = some (.cells r4 40 (0, 0)) := by rw [hw4]; exact setRow_heap _ _ _ _ _ _ o3
  have k4 : Kept (OneB w.heap.size) w3 w4 := by rw [hw4]; exact Kept.setRow (S := OneB w.heap.size) ((Kept.refl _ w3).drew) (.inl rfl) _
  have htk : r4.toList.take ((n + 1) * 2) = insC xs [.int .i64 z, .slice bo m bc] i := by
    have e3 : r3.toList.take ((i + 1) * 2) = xs.take (i * 2) ++ [Value.int .i64 z, Value.slice bo m bc] := by
      rw [hr3, List.toList_toArray, HX.out.2.1]
      have el : (xs.take (i * 2) ++ [Value.int .i64 z, Value.slice bo m bc]).length = (i + 1) * 2 := by simp; omega
      rw [← el, List.take_left]
    rw [hr4, List.toList_toArray, e3]
    have el : (xs.take (i * 2) ++ [Value.int .i64 z, Value.slice bo m bc] ++ xs.drop (i * 2)).length = (n + 1) * 2 := by simp; omega
    rw [← el, List.take_left]; rfl
  have r4s : r4.size = c' * 2 := by rw [hr4]; simp only [List.size_toArray, List.length_append, List.length_take, List.length_drop, Array.length_toList, r3s, hdl]; omega
  have HDone : Hid (InsP w (some ⟨g, 0, none⟩) n n (insC xs [.int .i64 z, .slice bo m bc] i) (.returned (.slice (some ⟨w.heap.size, 0, none⟩) (n + 1) c')) w4) := Lib.hid (by
    refine ⟨some ⟨w.heap.size, 0, none⟩, c', rfl, ⟨?_, .inr ⟨w.heap.size, c', r4, rfl, Nat.zero_le _, o4, q1, q2, r4s, htk⟩⟩, ?_, fun k e => .inr (by simp [Value.ownBlock] at e; omega)⟩
    · rw [← htk, List.length_take, Array.length_toList, r4s]; omega
    · exact ((HK2.out.mono (T := OneB w.heap.size) (fun k _ e => e.elim)).trans (k3.trans k4)).mono (fun k hk e => by unfold OneB at e; omega))
  have hw1 : IntKind.i64.wrap ((i : Int) + 1) = (i : Int) + 1 := by rw [IntKind.wrap_i64]; omega
  have hb1 : (0 : Int) ≤ (i : Int) + 1 := by omega
  have htn : ((i : Int) + 1).toNat = i + 1 := by omega
  have hb2 : ¬ (c' = i + 1) := by omega
  have hb3 : (i : Int) + 1 ≤ (n : Int) + 1 := by omega
  have hb4 : ¬ (n = i) := by omega
  have hin : i ≤ n := by omega
  clear hmin hr3 hw3 o3 k3 r3s g3 hdl hm2 hr4 hw4 o4 k4 htk r4s hcell hxl HK2 HG2 HV2 HO2 HX
  go_upto_region 11 with (first | (at_builtin; refine Lib.wpList_append_run _ rfl (.tmp 34) (.tmp 39) 61 3 rfl _ _ rfl rfl _ _ HR.out ?_) | fail)
  go_region
  go_wp2
  go_ret
  exact HDone.out
theorem overlaps_no (w : World) (vb g off lb cb la ca : Nat) (cv cu : Array Value) (hv : w.heap[vb]? = some (.cells cv 40 (0, 0))) (hg : w.heap[g]? = some (.cells cu 40 (0, 0))) (hc : cu.size ≠ 0) (hne : vb ≠ g) :
    (callFunc 71 #[.slice (some ⟨vb, 0, none⟩) la ca, .slice (some ⟨g, off, none⟩) lb cb]).run Tryz.prog w = .ok (.value (.bool false)) w := by
  rw [run_callFunc_extern Tryz.func71 (by kernel_rfl) (by kernel_rfl) (by kernel_rfl) (e := Extern.SlicesOverlaps.overlaps #[35, 35] #[4]) (by kernel_rfl),
    Lib.run_overlaps_apart w 35 4 40 Tryz.underlying35 2 sizeFp ⟨vb, 0, none⟩ ⟨g, off, none⟩ la ca lb cb hne 40 40 cv.size cu.size (by simp [World.shape?, hv]) (by simp [World.shape?, hg]) hc (obj_free hv 0) (obj_free hv cv.size)]
  rfl
/-- Insert in place. -/
theorem insert_shift (g n c i : Nat) (xs : List Value) (w : World) (cu : Array Value) (hi : i < n) (hnc : n < c) (hcm : c ≤ maxLen) (hg : w.heap[g]? = some (.cells cu 40 (0, 0))) (hcs : cu.size = c * 2) (hxs : cu.toList.take (n * 2) = xs) (h1x : ∀ v ∈ xs, v.oneCell' = true) (vb : Nat) (z : Int) (bo : Option Addr) (m bc : Nat)
    (hv : w.heap[vb]? = some (.cells #[.int .i64 z, .slice bo m bc] 40 (0, 0))) (hvg : vb ≠ g) (hn : n ≤ 1099511627776) :
    Calls Tryz.prog 50 #[.slice (some ⟨g, 0, none⟩) n c, .int .i64 (i : Int), .slice (some ⟨vb, 0, none⟩) 1 1] w (InsP w (some ⟨g, 0, none⟩) n c (insC xs [.int .i64 z, .slice bo m bc] i)) := by
  have hxl : xs.length = n * 2 := by rw [← hxs, List.length_take, Array.length_toList, hcs]; omega
  have hcell : ∀ (j : Nat) (u : Value), xs[j]? = some u → w.cell? ⟨g, j, none⟩ = some u := fun j u hj => by
    rw [obj_cell hg]; rw [← hxs, List.getElem?_take] at hj; split at hj
    · simpa using hj
    · cases hj
  have hov : ∀ off lb cb, (callFunc 71 #[.slice (some ⟨vb, 0, none⟩) 1 1, .slice (some ⟨g, off, none⟩) lb cb]).run Tryz.prog w = .ok (.value (.bool false)) w := fun off lb cb => overlaps_no w vb g off lb cb 1 1 _ cu hv hg (by omega) hvg
  have hdl : (xs.drop (i * 2)).length = (n - i) * 2 := by rw [List.length_drop, hxl]; omega
  -- what stood from i on goes one on
  obtain ⟨r3, hr3⟩ : ∃ r3, r3 = (cu.toList.take ((i + 1) * 2) ++ xs.drop (i * 2) ++ cu.toList.drop ((i + 1) * 2 + (xs.drop (i * 2)).length)).toArray := ⟨_, rfl⟩
  obtain ⟨w3, hw3⟩ : ∃ w3, w3 = w.drew.setRow g r3 := ⟨_, rfl⟩
  have hm2 : Nat.min (n + 1 - i) (n - i) = n - i := Nat.min_eq_right (by omega)
  have hr11 : (Builtin.copy_ #[61, 61] 3 #[.slice (some ⟨g, (i + 1) * 2, none⟩) (n - i) (c - (i + 1)), .slice (some ⟨g, i * 2, none⟩) (n + 1 - i) (c - i)]).run Tryz.prog w.drew = .ok (goInt ((n - i : Nat) : Int)) w3 := by
    have hcc : ∀ (j : Nat) (v : Value), (xs.drop (i * 2))[j]? = some v → w.drew.cell? ((⟨g, i * 2, none⟩ : Addr).add j) = some v := fun j v hj => by
      rw [Addr.add_lit]
      rw [List.getElem?_drop] at hj
      exact hcell (i * 2 + j) v hj
    have := run_copy_row2 w.drew 61 61 3 40 g ((i + 1) * 2) (n - i) (c - (i + 1)) ⟨g, i * 2, none⟩ (n + 1 - i) (c - i) cu _ (xs.drop (i * 2)) Tryz.underlying61 infoFp2 hg (by rw [hm2]; exact hdl) hcc (by rw [hdl, hcs]; omega) (fun v hv => h1x v (List.mem_of_mem_drop hv))
    rw [hm2] at this
    rw [hw3, hr3]; exact this
  have o3 : w3.heap[g]? = some (.cells r3 40 (0, 0)) := by rw [hw3]; exact setRow_heap _ _ _ _ _ _ hg
  have k3 : Kept (OneB g) w w3 := by rw [hw3]; exact Kept.setRow (S := OneB g) ((Kept.refl _ w).drew) (.inl rfl) _
  have r3s : r3.size = c * 2 := by rw [hr3]; simp only [List.size_toArray, List.length_append, List.length_take, List.length_drop, Array.length_toList, hcs, hdl]; omega
  have v3 := k3.obj hv (fun e => hvg e)
  obtain ⟨r4, hr4⟩ : ∃ r4, r4 = (r3.toList.take (i * 2) ++ [Value.int .i64 z, Value.slice bo m bc] ++ r3.toList.drop (i * 2 + 2)).toArray := ⟨_, rfl⟩
  obtain ⟨w4, hw4⟩ : ∃ w4, w4 = w3.setRow g r4 := ⟨_, rfl⟩
  have hmin : Nat.min 1 (n + 1 - i) = 1 := Nat.min_eq_left (by omega)
  have hr10 : (Builtin.copy_ #[61, 35] 3 #[.slice (some ⟨g, i * 2, none⟩) (n + 1 - i) (c - i), .slice (some ⟨vb, 0, none⟩) 1 1]).run Tryz.prog w3 = .ok (goInt 1) w4 := by
    have := run_copy_row2 w3 61 35 3 40 g (i * 2) (n + 1 - i) (c - i) ⟨vb, 0, none⟩ 1 1 r3 _ [Value.int .i64 z, Value.slice bo m bc] Tryz.underlying61 infoFp2 o3 (by rw [hmin]; rfl) (fun j v hj => by rw [Addr.add_lit, Nat.zero_add, obj_cell v3]; simpa using hj) (by simp; omega) (two_one z bo m bc)
    rw [hmin] at this
    rw [hw4, hr4]; exact this
  have o4 : w4.heap[g]? = some (.cells r4 40 (0, 0)) := by rw [hw4]; exact setRow_heap _ _ _ _ _ _ o3
  have k4 : Kept (OneB g) w3 w4 := by rw [hw4]; exact Kept.setRow (S := OneB g) (Kept.refl _ w3) (.inl rfl) _
  have r4s : r4.size = c * 2 := by rw [hr4]; simp only [List.size_toArray, List.length_append, List.length_take, List.length_drop, Array.length_toList, r3s, List.length_cons, List.length_nil]; omega
  have htk : r4.toList.take ((n + 1) * 2) = insC xs [.int .i64 z, .slice bo m bc] i := by
    have e1 : cu.toList.take (i * 2) = xs.take (i * 2) := by rw [← hxs, List.take_take]; congr 1; omega
    have hcl : (cu.toList.take ((i + 1) * 2)).length = (i + 1) * 2 := by rw [List.length_take, Array.length_toList, hcs]; omega
    have e2 : r3.toList.take (i * 2) = xs.take (i * 2) := by
      rw [hr3, List.toList_toArray, List.append_assoc, List.take_append_of_le_length (by rw [hcl]; omega), List.take_take, Nat.min_eq_left (by omega), e1]
    have e3 : r3.toList.drop (i * 2 + 2) = xs.drop (i * 2) ++ cu.toList.drop ((i + 1) * 2 + (xs.drop (i * 2)).length) := by
      have el : i * 2 + 2 = (cu.toList.take ((i + 1) * 2)).length := by rw [hcl]; omega
      rw [hr3, List.toList_toArray, List.append_assoc, el, List.drop_left]
    rw [hr4, List.toList_toArray, e2, e3, ← List.append_assoc]
    have el : (xs.take (i * 2) ++ [Value.int .i64 z, Value.slice bo m bc] ++ xs.drop (i * 2)).length = (n + 1) * 2 := by simp; omega
    rw [← el, List.take_left]; rfl
  have HDone : Hid (InsP w (some ⟨g, 0, none⟩) n c (insC xs [.int .i64 z, .slice bo m bc] i) (.returned (.slice (some ⟨g, 0, none⟩) (n + 1) c)) w4) := Lib.hid (by
    refine ⟨some ⟨g, 0, none⟩, c, rfl, ⟨?_, .inr ⟨g, c, r4, rfl, Nat.zero_le _, o4, by omega, hcm, r4s, htk⟩⟩, ?_, fun k e => .inl e⟩
    · rw [← htk, List.length_take, Array.length_toList, r4s]; omega
    · exact (k3.trans k4).mono (fun k hk e => by unfold OneB at e; rw [e]; rfl))
  have hc63 : (c : Int) ≤ 9223372036854775807 := by unfold maxLen at hcm; omega
  have hne : ¬ (i : Int) = (n : Int) := by omega
  have hw1 : IntKind.i64.wrap ((i : Int) + 1) = (i : Int) + 1 := by rw [IntKind.wrap_i64]; omega
  have hb1 : (0 : Int) ≤ (i : Int) + 1 := by omega
  have htn : ((i : Int) + 1).toNat = i + 1 := by omega
  have hb2 : ¬ (c = i + 1) := by omega
  have hb3 : (i : Int) + 1 ≤ (n : Int) + 1 := by omega
  have hb4 : ¬ (c = i) := by omega
  have hb5 : ¬ (c = n) := by omega
  have hb6 : ¬ (c : Int) < (n : Int) + 1 := by omega
  have hb7 : (n : Int) + 1 ≤ (c : Int) := by omega
  have hb8 : (i : Int) ≤ (n : Int) + 1 := by omega
  clear hmin hr3 hw3 o3 k3 r3s v3 hdl hm2 hr4 hw4 o4 k4 htk r4s hcell hxl hg hv hcs hxs hcm
  go_enter Tryz.func50, Tryz.ntmps50
  go_upto_region 15 with (first | (simp only [hov]) | fail)
  go_region
  go_wp2
  go_ret
  exact HDone.out
/-- Insert of one piece. -/
theorem insert_any (a : Option Addr) (n c i : Nat) (qs : List FpQ) (q : FpQ) (w : World) (hn : n = qs.length) (hown : w.ownsRow 0 40 2 (.slice a n c) n (fcells qs)) (hi : i ≤ n) (vb : Nat)
    (hv : w.heap[vb]? = some (.cells #[.int .i64 q.1.1, .slice q.2.1 q.1.2.length q.2.2] 40 (0, 0))) (hvg : (Value.slice a n c).ownBlock ≠ some vb) (hnm : n ≤ 1099511627776) :
    Calls Tryz.prog 50 #[.slice a n c, .int .i64 (i : Int), .slice (some ⟨vb, 0, none⟩) 1 1] w (InsP w a n c (fcells (qs.take i ++ q :: qs.drop i))) := by
  rw [← insC_fcells]
  rcases Nat.lt_or_ge i n with hlt | hge
  · rcases hown.2 with ⟨h1, h2⟩ | ⟨g, cc, cu, h1, _, hg, hnc, hcm, hcs, htk⟩
    · omega
    · simp only [Value.slice.injEq, true_and] at h1
      obtain ⟨rfl, rfl⟩ := h1
      have hvg' : vb ≠ g := fun e => hvg (by rw [e]; rfl)
      rcases Nat.lt_or_ge n c with h2 | h2
      · exact insert_shift g n c i (fcells qs) w cu hlt h2 hcm hg hcs htk (fcells_one qs) vb _ _ _ _ hv hvg' hnm
      · have e : c = n := by omega
        subst e
        have hall : cu.toList = fcells qs := by
          rw [← htk, List.take_of_length_le]
          rw [Array.length_toList, hcs]; exact Nat.le_refl _
        exact insert_grow g c i (fcells qs) [] w cu hlt hg hcs hall (fcells_one qs) vb _ _ _ _ hv hnm
  · have e : i = n := by omega
    subst e
    have := insert_end a i c (fcells qs) w hown vb _ _ _ _ hv hnm
    have e2 : insC (fcells qs) [.int .i64 q.1.1, .slice q.2.1 q.1.2.length q.2.2] i = fcells qs ++ [.int .i64 q.1.1, .slice q.2.1 q.1.2.length q.2.2] := by
      unfold insC
      have hl := fcells_len qs
      rw [List.take_of_length_le (by omega), List.drop_of_length_le (by omega)]; simp
    rw [e2]; exact this
end Go.Proofs.YtgbakogihkdddaaGreatDoor

namespace Go.Proofs.YtgbakogihkdddaaGreatDoor
open Go.RowKit
set_option linter.unusedVariables false
set_option linter.unusedSimpArgs false
set_option maxRecDepth 20000

set_option maxHeartbeats 2000000 in
/-- The closure of put. -/
theorem put1_any (l : List Fp) (a : Option Addr) (c : Nat) (B1 B2 B3 : Nat) (i x : Nat) (s : Int) (hx : i + x < l.length) (w : World) (hr : RdD w a l)
    (h1 : w.cell? ⟨B1, 0, none⟩ = some (.slice a l.length c)) (h2 : w.cell? ⟨B2, 0, none⟩ = some (.int .i64 (i : Int))) (h3 : w.cell? ⟨B3, 0, none⟩ = some (.int .i64 s)) (hlen : l.length ≤ 1099511627776) :
    Calls Tryz.prog 49 #[.int .i64 (x : Int), .pointer (some ⟨B1, 0, none⟩), .pointer (some ⟨B2, 0, none⟩), .pointer (some ⟨B3, 0, none⟩)] w fun e w' => e = .returned (.bool (decide (s < l[i + x].1))) ∧ Kept NoB w w' := by
  obtain ⟨b, off, bo, bc, rfl, c0, c1, q1, q2⟩ := hr (i + x) hx
  obtain ⟨n, hn⟩ : ∃ n, n = l.length := ⟨_, rfl⟩
  rw [← hn] at h1 hlen
  have hxn : i + x < n := by omega
  obtain ⟨z, hz⟩ : ∃ z, z = l[i + x].1 := ⟨_, rfl⟩
  rw [← hz] at c0 ⊢
  obtain ⟨y, hy⟩ : ∃ y, y = i + x := ⟨_, rfl⟩
  rw [← hy] at c0 hxn
  have hw1 : IntKind.i64.wrap ((i : Int) + (x : Int)) = (y : Int) := by rw [IntKind.wrap_i64]; omega
  have hyi : (i : Int) + (x : Int) = (y : Int) := by omega
  have HY := Lib.hid hyi
  clear hz hr hn c1 q1 hy hyi hx
  go_enter Tryz.func49, Tryz.ntmps49
  go_upto_region 1 with fail
  go_region
  go_wp2
  go_ret
  exact ⟨rfl, (Kept.refl NoB w).drew⟩
theorem drop_eq (l : List Fp) (k : Int) : l.dropWhile (fun p => decide (endP p < k)) = l.drop (aheadP l k).length := by
  have h := congrArg (List.drop (aheadP l k).length) (List.takeWhile_append_dropWhile (p := fun p => decide (endP p < k)) (l := l))
  unfold aheadP at h ⊢
  rw [List.drop_left] at h
  exact h
/-- Those touched, by their number. -/
theorem touch_count (l : List Fp) (hl : OkD l) (k s : Int) (m : Nat) (hm : (aheadP l k).length + m ≤ l.length) (h1 : ∀ x (hx : (aheadP l k).length + x < l.length), x < m → l[(aheadP l k).length + x].1 ≤ s) (h2 : ∀ x (hx : (aheadP l k).length + x < l.length), m ≤ x → s < l[(aheadP l k).length + x].1) : m = (touchP l k s).length := by
  have e : l.dropWhile (fun p => decide (endP p < k)) = l.drop (aheadP l k).length := drop_eq l k
  unfold touchP
  rw [e]
  have hD : ∀ (D : List Fp) (m : Nat), m ≤ D.length → (∀ x (hx : x < D.length), x < m → D[x].1 ≤ s) → (∀ x (hx : x < D.length), m ≤ x → s < D[x].1) → m = (D.takeWhile (fun p => decide (p.1 ≤ s))).length := by
    intro D
    induction D with
    | nil => intro m hm _ _; simp at hm; subst hm; rfl
    | cons p t ih =>
      intro m hm g1 g2
      rw [List.takeWhile_cons]
      cases m with
      | zero =>
        have := g2 0 (by simp) (by omega)
        simp only [List.getElem_cons_zero] at this
        rw [if_neg (by simp; omega)]; rfl
      | succ m =>
        have := g1 0 (by simp) (by omega)
        simp only [List.getElem_cons_zero] at this
        rw [if_pos (by simpa using this)]
        simp only [List.length_cons]
        rw [← ih m (by simpa using hm) (fun x hx hxm => by have := g1 (x + 1) (by simpa using hx) (by omega); simpa using this) (fun x hx hxm => by have := g2 (x + 1) (by simpa using hx) (by omega); simpa using this)]
  refine hD _ m (by rw [List.length_drop]; omega) (fun x hx hxm => ?_) (fun x hx hxm => ?_)
  · rw [List.length_drop] at hx
    have := h1 x (by omega) hxm
    simpa using this
  · rw [List.length_drop] at hx
    have := h2 x (by omega) hxm
    simpa using this
theorem ahead_le (l : List Fp) (k : Int) : (aheadP l k).length ≤ l.length := by
  have := congrArg List.length (split3 l k k)
  simp only [List.length_append] at this
  omega
theorem okD_at {l : List Fp} (h : OkD l) {i j : Nat} (hi : i < l.length) (hj : j < l.length) (hij : i ≤ j) : l[i].1 ≤ l[j].1 := by
  rcases Nat.lt_or_ge i j with hlt | hge
  · have := List.pairwise_iff_getElem.1 h.apart i j hi hj hlt
    unfold endP at this; omega
  · have : i = j := by omega
    subst this; exact Int.le_refl _
/-- How many are touched, by sort.Search. -/
theorem search2_any (l : List Fp) (hl : OkD l) (a : Option Addr) (c : Nat) (B1 B2 B3 : Nat) (k s : Int) (w : World) (hr : RdD w a l) (h1 : w.cell? ⟨B1, 0, none⟩ = some (.slice a l.length c)) (h2 : w.cell? ⟨B2, 0, none⟩ = some (.int .i64 ((aheadP l k).length : Int))) (h3 : w.cell? ⟨B3, 0, none⟩ = some (.int .i64 s)) (hlen : l.length ≤ 1099511627776) :
    Calls Tryz.prog 48 #[.int .i64 ((l.length - (aheadP l k).length : Nat) : Int), .func (.func 49) #[] #[.pointer (some ⟨B1, 0, none⟩), .pointer (some ⟨B2, 0, none⟩), .pointer (some ⟨B3, 0, none⟩)]] w fun e w' => e = .returned (.int .i64 ((touchP l k s).length : Int)) ∧ Kept NoB w w' := by
  have hle := ahead_le l k
  have hS := search_put (l.length - (aheadP l k).length) #[.pointer (some ⟨B1, 0, none⟩), .pointer (some ⟨B2, 0, none⟩), .pointer (some ⟨B3, 0, none⟩)] (fun x => if hx : (aheadP l k).length + x < l.length then decide (s < l[(aheadP l k).length + x].1) else true) w (by omega)
    (fun x y hxy hy hx => by
      have hy2 : (aheadP l k).length + y < l.length := by omega
      have hx2 : (aheadP l k).length + x < l.length := by omega
      simp only [hx2, hy2, dif_pos, decide_eq_true_eq] at hx ⊢
      have := okD_at hl hx2 hy2 (by omega)
      omega)
    (fun W x hkW hx => by
      have hx2 : (aheadP l k).length + x < l.length := by omega
      have := put1_any l a c B1 B2 B3 (aheadP l k).length x s hx2 W (hr.kept hkW) (hkW.cell h1) (hkW.cell h2) (hkW.cell h3) hlen
      simp only [hx2, dif_pos]
      exact this)
  refine hS.mono ?_
  rintro e w' ⟨m, rfl, g1, g2, g3, g4⟩
  have e := touch_count l hl k s m (by omega) (fun x hx hxm => by have := g2 x hxm; simp only [hx, dif_pos, decide_eq_false_iff_not] at this; omega) (fun x hx hxm => by have := g3 x hxm (by omega); simp only [hx, dif_pos, decide_eq_true_eq] at this; exact this)
  exact ⟨by rw [e], g4⟩
end Go.Proofs.YtgbakogihkdddaaGreatDoor

namespace Go.Proofs.YtgbakogihkdddaaGreatDoor
open Go.RowKit
set_option linter.unusedVariables false
set_option linter.unusedSimpArgs false
set_option maxRecDepth 20000

theorem Kept.dom {S : Nat → Prop} {w w' : World} (h : Kept NoB w w') : Kept S w w' := h.mono (fun _ _ h => absurd h (fun h => h))
theorem Kept.cellS {S : Nat → Prop} {w w' : World} (hk : Kept S w w') {a : Addr} {v : Value} (h : w.cell? a = some v) (hne : ¬ S a.block) : w'.cell? a = some v :=
  (World.cell?_of_block (hk.block _ (World.block_lt_of_cell? w a h) hne)).trans h
theorem row2_ne {w : World} {base e z n : Nat} {v : Value} {xs : List Value} (ho : w.ownsRow base e z v n xs) {R : Nat} {cs : Array Value} {t : TypeId} (h : w.heap[R]? = some (.cells cs t (0, 0))) (ht : t ≠ e) : ∀ k, v.ownBlock = some k → k ≠ R := by
  intro k hk e'
  subst e'
  rcases ho.2 with ⟨rfl, _⟩ | ⟨g, cap, cur, rfl, _, hg, _⟩
  · simp [Value.ownBlock] at hk
  · simp [Value.ownBlock] at hk
    subst hk
    rw [hg] at h
    simp at h
    exact ht h.2.symm
theorem heap_push (W : World) (o : Obj) : (W.alloc o).heap[W.heap.size]? = some o := by
  show (W.heap.push o)[W.heap.size]? = some o
  simp
theorem fill_onePc (k : Int) (ao : Option Addr) (m c : Nat) : Instr.fill (fun i => some (i * 2, 2)) ((Array.range (1 * 2)).map ((Value.agg #[.int .i64 0, .slice none 0 0]).cells[· % (Value.agg #[.int .i64 0, .slice none 0 0]).cells.size]!)) [(0, .agg #[.int .i64 k, .slice ao m c])] = some #[.int .i64 k, .slice ao m c] := by
  kernel_rfl
theorem wpList_build_pc {ops : Array Oper} {rest : List Oper} {o : Oper} {act : Act} {w : World} {Q : Exit → Act → World → Prop} (hgd : o.guard = none) (x : Operand) (ho : o.op = .buildSlice 35 1 #[(0, x)]) (k : Int) (ao : Option Addr) (m c : Nat)
    (hx : act.eval x = .agg #[.int .i64 k, .slice ao m c]) (h : wpList Tryz.prog ops Q rest (act.put o.dst (.slice (some ⟨w.heap.size, 0, none⟩) 1 1)) (w.alloc (.cells #[.int .i64 k, .slice ao m c] 40))) : wpList Tryz.prog ops Q (o :: rest) act w :=
  wpList_plain hgd fun _ hK => by
    obtain ⟨i0, hi, hz0, hz1, hz2⟩ := info_parts infoFp
    refine wp_buildSlice 35 40 1 _ ho #[.int .i64 k, .slice ao m c] i0 _ Tryz.underlying35 hi hz0 (by rw [hz1]; decide) (by rw [hz1]; decide) ?_ (hK _ _ h)
    rw [hz1]
    have e : (#[(0, x)].map fun (i, x) => (i, act.eval x)).toList = [(0, .agg #[.int .i64 k, .slice ao m c])] := by simp [hx]
    rw [e]
    exact fill_onePc k ao m c

set_option maxHeartbeats 4000000 in
theorem put_free (D : Nat) (cs : Array Value) (a : Option Addr) (c : Nat) (qs : List FpQ) (k : Int) (bs : List UInt8) (ab : Option Addr) (cb : Nat) (w : World) (hD : w.heap[D]? = some (.cells cs 63 (0, 0))) (h13 : cs[13]? = some (.slice a qs.length c))
    (hown : w.ownsRow 0 40 2 (.slice a qs.length c) qs.length (fcells qs)) (hr : RdD w a (qs.map Prod.fst)) (hl : OkD (qs.map Prod.fst)) (hk : 0 ≤ k) (hb : bs ≠ []) (hkb : k + (bs.length : Int) ≤ 1099511627776) (hfree : touchP (qs.map Prod.fst) k (k + bs.length) = [])
    (hrb : Reads w ab (nb bs)) (hlen : qs.length ≤ 1099511627776) (hbl : bs.length ≤ 1099511627776) :
    Calls Tryz.prog 30 #[.pointer (some ⟨D, 13, none⟩), .int .i64 k, .slice ab bs.length cb] w fun e w' => e = .returned (.tuple #[]) ∧ ∃ (a' : Option Addr) (c' : Nat) (q : FpQ), q.1 = (k, bs) ∧
      w'.heap[D]? = some (.cells (cs.setIfInBounds 13 (.slice a' (qs.length + 1) c')) 63 (0, 0)) ∧ w'.ownsRow 0 40 2 (.slice a' (qs.length + 1) c') (qs.length + 1) (fcells (qs.take (aheadP (qs.map Prod.fst) k).length ++ q :: qs.drop (aheadP (qs.map Prod.fst) k).length)) ∧
      w'.ownsRow 0 5 1 (.slice q.2.1 bs.length q.2.2) bs.length (bc bs) ∧ (∀ j, (Value.slice q.2.1 bs.length q.2.2).ownBlock = some j → w.heap.size ≤ j) ∧ (∀ j, (Value.slice a' (qs.length + 1) c').ownBlock = some j → (Value.slice a qs.length c).ownBlock = some j ∨ w.heap.size ≤ j) ∧
      (∀ j, (Value.slice q.2.1 bs.length q.2.2).ownBlock = some j → (Value.slice a' (qs.length + 1) c').ownBlock ≠ some j) ∧ Kept (OrB (OneB D) (OwnB (.slice a qs.length c))) w w' := by
  obtain ⟨l, hle⟩ : ∃ l, l = qs.map Prod.fst := ⟨_, rfl⟩
  rw [← hle] at hr hl hfree ⊢
  have hll : l.length = qs.length := by rw [hle]; simp
  obtain ⟨n, hn⟩ : ∃ n, n = qs.length := ⟨_, rfl⟩
  rw [← hn] at h13 hown hlen hll ⊢
  have c13 : w.cell? ⟨D, 13, none⟩ = some (.slice a n c) := by rw [obj_cell hD]; exact h13
  have hcap : n ≤ c ∧ c ≤ maxLen := by
    rcases hown.2 with ⟨h1, h2⟩ | ⟨g, cc, cur, h1, _, _, h2, h3, _⟩
    · simp at h1; constructor; omega; unfold maxLen; omega
    · simp at h1; obtain ⟨_, rfl⟩ := h1; exact ⟨h2, h3⟩
  obtain ⟨A, hA⟩ : ∃ A, A = (aheadP l k).length := ⟨_, rfl⟩
  have hAn : A ≤ n := by rw [hA, ← hll]; exact ahead_le l k
  obtain ⟨mb, hmb⟩ : ∃ mb, mb = bs.length := ⟨_, rfl⟩
  obtain ⟨w2, hw2⟩ : ∃ w2, w2 = (w.alloc (.cells #[.slice a n c] 61)).alloc (.cells #[.int .i64 (k + (mb : Int))] 3) := ⟨_, rfl⟩
  have hk2 : Kept NoB w w2 := by rw [hw2]; exact ((Kept.refl NoB w).alloc _).alloc _
  have b1 : w2.cell? ⟨w.heap.size, 0, none⟩ = some (.slice a n c) := by rw [hw2]; exact ((Kept.refl NoB _).alloc _).cell (cell_new 0 rfl)
  have b3 : w2.cell? ⟨w.heap.size + 1, 0, none⟩ = some (.int .i64 (k + (mb : Int))) := by rw [hw2]; exact cell_new 0 (by simp)
  have s2 : w2.heap.size = w.heap.size + 2 := by rw [hw2]; simp
  have HA := Lib.hid (after_any l hl a c (k - 1) w2 (hr.kept hk2) (by omega) hcap.2 (by omega) (by omega))
  rw [hll, show k - 1 + 1 = k by omega, ← hA] at HA
  have HW := Lib.hid hw2; have HK2 := Lib.hid hk2; have HS2 := Lib.hid s2
  have HAll := Lib.hid (⟨hD, hown, hr, hl, hfree, hrb, hA, hll⟩ : _ ∧ _ ∧ _ ∧ _ ∧ _ ∧ _ ∧ _ ∧ _)
  have HMb := Lib.hid hmb
  rw [← hmb] at hkb hbl ⊢
  have hc63 : (c : Int) ≤ 9223372036854775807 := by have := hcap.2; unfold maxLen at this; omega
  have HCap := Lib.hid hcap
  have HCs := Lib.hid h13
  have HN := Lib.hid hn; have HLe := Lib.hid hle
  clear hw2 hk2 s2 hD hown hr hl hfree hrb hA hll hmb hcap h13 hn hle
  go_enter Tryz.func30, Tryz.ntmps30
  go_upto_region 2 with fail
  rw [← HW.out]
  go_wp2_with fail
  refine HA.out.mono ?_
  rintro e w3 ⟨rfl, hk3⟩
  have HK3 := Lib.hid (HK2.out.trans hk3)
  have d1 := hk3.cell b1
  have d3 := hk3.cell b3
  clear hk3 b1 b3 HA
  go_upto_region 3 with fail
  obtain ⟨w4, hw4⟩ : ∃ w4, w4 = w3.alloc (.cells #[.int .i64 (A : Int)] 3) := ⟨_, rfl⟩
  rw [← hw4]
  have hk4 : Kept NoB w3 w4 := by rw [hw4]; exact (Kept.refl NoB w3).alloc _
  have e1 := hk4.cell d1
  have e3 := hk4.cell d3
  have e2 : w4.cell? ⟨w3.heap.size, 0, none⟩ = some (.int .i64 (A : Int)) := by rw [hw4]; exact cell_new 0 rfl
  have HK4 := Lib.hid (HK3.out.trans hk4)
  have hnA : (n : Int) - (A : Int) = ((n - A : Nat) : Int) := by omega
  have HSr : Hid (∀ W, Kept NoB w4 W → Calls Tryz.prog 48 #[.int .i64 ((n : Int) - (A : Int)), .func (.func 49) #[] #[.pointer (some ⟨w.heap.size, 0, none⟩), .pointer (some ⟨w3.heap.size, 0, none⟩), .pointer (some ⟨w.heap.size + 1, 0, none⟩)]] W fun e w' => e = .returned (.int .i64 0) ∧ Kept NoB W w') := Lib.hid (fun W hkW => by
    obtain ⟨_, _, hr, hl, hfree, _, hA, hll⟩ := HAll.out
    have := search2_any l hl a c w.heap.size w3.heap.size (w.heap.size + 1) k (k + (mb : Int)) W ((hr.kept HK4.out).kept hkW) (by rw [hll]; exact hkW.cell e1) (by rw [← hA]; exact hkW.cell e2) (hkW.cell e3) (by omega)
    rw [← hA, hll, HMb.out, hfree] at this
    rw [hnA]; exact this)
  have D1 : ∀ W, Kept NoB w4 W → W.cell? ⟨w.heap.size, 0, none⟩ = some (.slice a n c) := fun W hk => hk.cell e1
  have D2 : ∀ W, Kept NoB w4 W → W.cell? ⟨w3.heap.size, 0, none⟩ = some (.int .i64 (A : Int)) := fun W hk => hk.cell e2
  have hwr : IntKind.i64.wrap ((n : Int) - (A : Int)) = (n : Int) - (A : Int) := by rw [IntKind.wrap_i64]; omega
  clear d1 d3 hk4 hw4 hnA e3
  go_region_held3 (fun W => Kept NoB w4 W) (first | assumption | exact Kept.refl _ _ | exact Kept.drew (Kept.refl _ _) | exact Kept.drew (by assumption) | exact Kept.trans (by assumption) hkn) ((go_at_call 48; ((with_reducible refine (HSr.out _ (by assumption)).mono ?_); rintro e wn ⟨rfl, hkn⟩)))
  have hkw : Kept NoB w4 wn := by assumption
  have f1 := hkw.cell e1
  have f2 := hkw.cell e2
  have HKn := Lib.hid (HK4.out.trans hkw)
  clear hkw hkn D1 D2 e1 e2 HSr
  go_upto_region 5 with fail
  have HCl : Hid (∀ W, Kept NoB wn W → Calls Tryz.prog 51 #[.slice ab mb cb] W fun e w' => ∃ ao cap, e = .returned (.slice ao mb cap) ∧ Hid (w'.ownsRow 0 5 1 (.slice ao mb cap) mb (bc bs) ∧ (∀ j, (Value.slice ao mb cap).ownBlock = some j → wn.heap.size ≤ j) ∧ Kept NoB wn w')) := Lib.hid (fun W hkW => by
    obtain ⟨_, _, _, _, _, hrb, _, _⟩ := HAll.out
    have e0 : (nb bs).length = mb := by rw [nb_len, HMb.out]
    have := clone_any ab cb (nb bs) W (hrb.kept (HKn.out.trans hkW) (fun _ _ e => e)) (by rw [e0]; omega)
    rw [e0] at this
    refine this.mono ?_
    rintro e w' ⟨ao, cap, rfl, h1, h2, _, h4⟩
    rw [e0] at h1 h2 ⊢
    refine ⟨ao, cap, rfl, Lib.hid ⟨?_, fun j hj => Nat.le_trans hkW.size (h2 j hj), hkW.trans h4⟩⟩
    rw [bc_nb]; exact h1)
  have HIn : Hid (∀ W vb ao cap, Kept NoB wn W → wn.heap.size ≤ vb → W.heap[vb]? = some (.cells #[.int .i64 k, .slice ao mb cap] 40 (0, 0)) → Calls Tryz.prog 50 #[.slice a n c, .int .i64 (A : Int), .slice (some ⟨vb, 0, none⟩) 1 1] W (InsP W a n c (fcells (qs.take A ++ ((k, bs), (ao, cap)) :: qs.drop A)))) := Lib.hid (fun W vb ao cap hkW hvb hv => by
    obtain ⟨_, hown, _, _, _, _, _, _⟩ := HAll.out
    have hkw := HKn.out.trans hkW
    refine insert_any a n c A qs ((k, bs), (ao, cap)) W HN.out (hkw.row hown (fun _ _ e => e)) hAn vb (by rw [hv, HMb.out]) (fun e => ?_) hlen
    have := (hown.lt _ e).2
    have := HKn.out.size
    omega)
  have D5 : ∀ W W', Kept NoB wn W → Kept (OwnB (.slice a n c)) W W' → Hid (W'.heap[D]? = some (.cells cs 63 (0, 0))) := fun W W' h1 h2 => Lib.hid (by
    obtain ⟨hD, hown, _, _, _, _, _, _⟩ := HAll.out
    refine h2.obj ((HKn.out.trans h1).obj hD (fun h => h)) (fun e => ?_)
    rcases hown.2 with ⟨q1, q2⟩ | ⟨g, cc, cur, q1, _, q2, _⟩
    · simp at q1; rw [q1.1] at e; cases e
    · simp at q1
      have e' : (Value.slice a n c).ownBlock = some D := e
      rw [q1.1] at e'
      have e2 : g = D := by injection e'
      rw [e2, hD] at q2
      injection q2 with q3; injection q3 with _ q4 _; revert q4; decide)
  have D0 : ∀ W, Kept NoB wn W → W.cell? ⟨D, 13, none⟩ = some (.slice a n c) := fun W hk => (HKn.out.trans hk).cell c13
  have hDl : D < w.heap.size ∧ ∀ j, (Value.slice a n c).ownBlock = some j → j < w.heap.size := ⟨obj_lt HAll.out.1, fun j hj => (HAll.out.2.1.lt j hj).2⟩
  have D1 : ∀ W, Kept (OrB (OneB D) (OwnB (.slice a n c))) wn W → W.cell? ⟨w.heap.size, 0, none⟩ = some (.slice a n c) := fun W hk => hk.cellS f1 (fun e => by
    rcases e with e | e
    · have e : w.heap.size = D := e
      have := hDl.1; omega
    · have := hDl.2 _ e; dsimp only at this; omega)
  have s3 : w.heap.size ≤ w3.heap.size := HK3.out.size
  have D2 : ∀ W, Kept (OrB (OneB D) (OwnB (.slice a n c))) wn W → W.cell? ⟨w3.heap.size, 0, none⟩ = some (.int .i64 (A : Int)) := fun W hk => hk.cellS f2 (fun e => by
    rcases e with e | e
    · have e : w3.heap.size = D := e
      have := hDl.1; omega
    · have := hDl.2 _ e; dsimp only at this; omega)
  have HDl := Lib.hid hDl
  clear hDl s3
  go_region_held3 (fun W => Kept (OrB (OneB D) (OwnB (.slice a n c))) wn W) (first | assumption | exact Kept.refl _ _ | exact Kept.drew (Kept.refl _ _) | exact Kept.drew (by assumption) | exact Kept.alloc (by assumption) _ | exact Kept.drew (Kept.alloc (by assumption) _) | exact Kept.setCell (by assumption) (.inl (.inl rfl)) _) (first
    | (go_at_call 51; ((with_reducible refine (HCl.out _ (by first | exact Kept.refl _ _ | exact (Kept.refl _ _).drew | exact (Kept.refl _ _).drewN _)).mono ?_); rintro e wc ⟨ao, cap, rfl, hCp⟩; have hkc : Kept (OrB (OneB D) (OwnB (.slice a n c))) wn wc := hCp.out.2.2.dom))
    | (refine wpList_build_pc rfl (.tmp 42) rfl k ao mb cap rfl ?_)
    | (go_at_call 50; ((with_reducible refine (HIn.out _ wc.heap.size ao cap (hCp.out.2.2.alloc _) hCp.out.2.2.size (heap_push _ _)).mono ?_); rintro e wi ⟨a', c', rfl, hI1, hIk, hI3⟩; (have HI := Lib.hid (And.intro hI1 (And.intro hIk hI3))); have HDi := D5 _ _ (hCp.out.2.2.alloc _) hIk; (have dc := obj_cell HDi.out 13); (rw [HCs.out] at dc); (have df := obj_free HDi.out 13); have hki : Kept (OrB (OneB D) (OwnB (.slice a n c))) wn wi := (hCp.out.2.2.alloc _).dom.trans (hIk.mono (fun _ _ e => .inr e)); clear hI1 hIk hI3)))
  have hkl : Kept (OrB (OneB D) (OwnB (.slice a n c))) wn wi := hki
  go_wp2_with fail
  obtain ⟨hIr, hIk, hI3⟩ := HI.out
  obtain ⟨hcr, hcf, hck⟩ := hCp.out
  obtain ⟨hD, hown, _, _, _, _, hA, _⟩ := HAll.out
  have sn : w.heap.size ≤ wn.heap.size := HKn.out.size
  have sc : wn.heap.size ≤ wc.heap.size := hck.size
  have sa : (wc.alloc (.cells #[.int .i64 k, .slice ao mb cap] 40)).heap.size = wc.heap.size + 1 := by simp
  have hqa : ∀ j, (Value.slice ao mb cap).ownBlock = some j → wn.heap.size ≤ j ∧ j < wc.heap.size := fun j hj => ⟨hcf j hj, (hcr.lt j hj).2⟩
  have hbD : ∀ j, (Value.slice a' (n + 1) c').ownBlock = some j → j ≠ D := fun j hj => by
    rcases hI3 j hj with e | e
    · exact row2_ne hown hD (by decide) j e
    · have := HDl.out.1; omega
  have hcr2 : wi.ownsRow 0 5 1 (.slice ao mb cap) mb (bc bs) := hIk.row ((Kept.refl NoB wc).alloc _ |>.row hcr (fun _ _ e => e)) (fun j hj e => by
    have := HDl.out.2 j e
    have := (hqa j hj).1
    omega)
  rw [← hA]
  refine bodyPost_ret (results_none rfl _ _ _) rfl ⟨rfl, a', c', ((k, bs), (ao, cap)), rfl, obj_set HDi.out 13 _, ?_, ?_, fun j hj => ?_, fun j hj => ?_, fun j hj e => ?_, HKn.out.dom.trans (hkl.setCell (p := ⟨D, 13, none⟩) (.inl (.inl rfl)) _)⟩
  · exact Kept.row (Kept.setCell (S := OneB D) (p := ⟨D, 13, none⟩) (Kept.refl _ _) (.inl rfl) _) hIr (fun j hj e => hbD j hj e)
  · exact Kept.row (Kept.setCell (S := OneB D) (p := ⟨D, 13, none⟩) (Kept.refl _ _) (.inl rfl) _) hcr2 (fun j hj e => by
      have e : j = D := e
      have := (hqa j hj).1
      have := HDl.out.1
      omega)
  · have := (hqa j hj).1; omega
  · rcases hI3 j hj with e | e
    · exact .inl e
    · right; omega
  · have h1 := hqa j hj
    rcases hI3 j e with e | e
    · have := HDl.out.2 j e; omega
    · omega
end Go.Proofs.YtgbakogihkdddaaGreatDoor

namespace Go.Proofs.YtgbakogihkdddaaGreatDoor
open Go.RowKit
set_option linter.unusedVariables false
set_option linter.unusedSimpArgs false
set_option maxRecDepth 20000

theorem sizeD_take (l : List Fp) (i : Nat) (h : i < l.length) : sizeD (l.take (i + 1)) = sizeD (l.take i) + l[i].2.length := by
  rw [List.take_succ_eq_append_getElem h, sizeD_append, sizeD_cons]
  simp [sizeD]
theorem sizeD_take_le (l : List Fp) (i : Nat) : sizeD (l.take i) ≤ sizeD l := by
  have : sizeD l = sizeD (l.take i) + sizeD (l.drop i) := by
    rw [← sizeD_append, List.take_append_drop]
  omega
set_option maxHeartbeats 2000000 in
theorem size_any (l : List Fp) (a : Option Addr) (c : Nat) (w : World) (hr : RdD w a l) (hc : l.length ≤ c) (hcm : c ≤ maxLen) (hs : sizeD l ≤ 4611686018427387904) :
    Calls Tryz.prog 99 #[.slice a l.length c] w fun e w' => e = .returned (.int .i64 (sizeD l : Int)) ∧ Kept NoB w w' := by
  have HSt := Lib.hid (fun i (hi : i < l.length) => sizeD_take l i hi)
  have HLe := Lib.hid (sizeD_take_le l)
  have HR := Lib.hid hr
  have hcm2 : l.length ≤ 9223372036854775807 := by unfold maxLen at hcm; omega
  obtain ⟨T, hT⟩ : ∃ T, T = sizeD l := ⟨_, rfl⟩
  rw [← hT] at hs HLe ⊢
  have HT := Lib.hid hT
  obtain ⟨n, hn⟩ : ∃ n, n = l.length := ⟨_, rfl⟩
  have HN := Lib.hid hn
  rw [← hn] at hc hcm2 ⊢
  clear hT hn hr hcm
  go_enter Tryz.func99, Tryz.ntmps99
  go_wp2
  go_loopw [3, 5, 8] (fun v3 v5 v8 wr => ∃ i s : Nat, v3 = .int .i64 (s : Int) ∧ v8 = .int .i64 (i : Int) ∧ i ≤ n ∧ s ≤ T ∧ Hid (s = sizeD (l.take i) ∧ Kept NoB w wr)) (fun _ _ v8 _ => n - (intOf v8).toNat)
  case atStart => exact ⟨0, 0, rfl, rfl, by omega, by omega, Lib.hid ⟨by simp [sizeD], Kept.refl _ _⟩⟩
  case round =>
    obtain ⟨i, s, rfl, rfl, hi, hsT, HS⟩ := hrel
    by_cases hlt : (i : Int) < (n : Int)
    · have hin : i < l.length := by have := HN.out; omega
      obtain ⟨b, off, bo, bc, rfl, c0, c1, q1, q2⟩ := HR.out i hin
      have d0 := HS.out.2.cell c0
      have d1 := HS.out.2.cell c1
      have e1 := HSt.out i hin
      have e2 := HLe.out (i + 1)
      rw [show off + (i * 2 + 1) = off + i * 2 + 1 by omega] at d1
      rw [← HS.out.1] at e1
      obtain ⟨z, hz⟩ : ∃ z, z = l[i].1 := ⟨_, rfl⟩
      obtain ⟨k, hk⟩ : ∃ k, k = l[i].2.length := ⟨_, rfl⟩
      rw [← hz] at d0
      rw [← hk] at d1 e1 q1
      rw [e1] at e2
      have HK1 := Lib.hid (HS.out.2.alloc (.cells #[.int .i64 z, .slice bo k bc] 40))
      have E1 := Lib.hid e1
      clear c0 c1 e1 hz hk
      go_wp2
      go_roundw
      case rel => exact ⟨i + 1, s + k, by go_num, by go_num, by omega, by omega, Lib.hid ⟨E1.out.symm, HK1.out⟩⟩
      case measure => simp [intOf]; omega
    · have hie : i = n := by omega
      have HF : Hid (s = T) := Lib.hid (by
        have h := HS.out.1
        rw [hie, HN.out, List.take_length, ← HT.out] at h
        exact h)
      clear hie
      go_wp2
      go_ret
      exact ⟨by rw [HF.out]; rfl, HS.out.2⟩
end Go.Proofs.YtgbakogihkdddaaGreatDoor

namespace Go.Proofs.YtgbakogihkdddaaGreatDoor
set_option linter.unusedVariables false
set_option linter.unusedSimpArgs false

/-- Is a byte written at x? -/
def isD (l : List Fp) (x : Int) : Bool := l.any (fun p => decide (p.1 ≤ x) && decide (x < endP p))
theorem isD_no (l : List Fp) (x : Int) (i : Nat) (h1 : ∀ j (hj : j < l.length), j < i → endP l[j] ≤ x) (h2 : ∀ j (hj : j < l.length), i ≤ j → x < l[j].1) : isD l x = false := by
  unfold isD
  rw [List.any_eq_false]
  intro p hp
  obtain ⟨j, hj, rfl⟩ := List.getElem_of_mem hp
  rcases Nat.lt_or_ge j i with h | h
  · have := h1 j hj h; simp; omega
  · have := h2 j hj h; simp; omega
theorem isD_yes (l : List Fp) (x : Int) (i : Nat) (hi : i < l.length) (h1 : l[i].1 ≤ x) (h2 : x < endP l[i]) : isD l x = true := by
  unfold isD
  rw [List.any_eq_true]
  exact ⟨l[i], List.getElem_mem hi, by simp [h1, h2]⟩
theorem isD_has (l : List Fp) (x : Int) : isD l x = true ↔ ∃ c, HasB l x c := by
  unfold isD HasB
  rw [List.any_eq_true]
  constructor
  · rintro ⟨p, hp, h⟩
    simp at h
    have hlt : (x - p.1).toNat < p.2.length := by unfold endP at h; omega
    exact ⟨p.2[(x - p.1).toNat], p, hp, h.1, List.getElem?_eq_getElem hlt⟩
  · rintro ⟨c, p, hp, h1, h2⟩
    exact ⟨p, hp, by simp [h1, HasB.lt h1 h2]⟩
/-- What is still to come. -/
structure FitS (l : List Fp) (size : Nat) (k : Int) (room d fr i : Nat) : Prop where
  done : d ≤ size
  fresh : fr ≤ room
  eq : fitB (isD l) size k room = (d + (fitB (isD l) (size - d) (k + d) (room - fr)).1, fr + (fitB (isD l) (size - d) (k + d) (room - fr)).2)
  ahead : d < size → ∀ j (hj : j < l.length), j < i → endP l[j] ≤ k + d
  behind : d < size → ∀ j (hj : j < l.length), i ≤ j → k + d < endP l[j]
theorem FitS.start (l : List Fp) (size : Nat) (k : Int) (room i : Nat) (h1 : ∀ j (hj : j < l.length), j < i → endP l[j] ≤ k) (h2 : ∀ j (hj : j < l.length), i ≤ j → k < endP l[j]) : FitS l size k room 0 0 i :=
  ⟨Nat.zero_le _, Nat.zero_le _, by simp, fun _ j hj hi => by have := h1 j hj hi; omega, fun _ j hj hi => by have := h2 j hj hi; omega⟩
theorem FitS.ends {l : List Fp} {size : Nat} {k : Int} {room d fr i : Nat} (h : FitS l size k room d fr i) (hd : d = size) : fitB (isD l) size k room = (size, fr) := by
  rw [h.eq, hd, Nat.sub_self]
  unfold fitB
  simp
/-- No piece begins ahead of from: the gap is free. -/
theorem FitS.gap {l : List Fp} (hl : OkD l) {size : Nat} {k : Int} {room d fr i g : Nat} (h : FitS l size k room d fr i) (hg : d + g ≤ size) (hb : ∀ j (hj : j < l.length), i ≤ j → k + d + g ≤ l[j].1) :
    (room - fr < g → fitB (isD l) size k room = (d + (room - fr), room)) ∧ (g ≤ room - fr → FitS l size k room (d + g) (fr + g) i) := by
  have hno : ∀ x : Nat, x < g → isD l (k + d + x) = false := fun x hx => isD_no l _ i (fun j hj hi => by have := h.ahead (by omega) j hj hi; omega) (fun j hj hi => by have := hb j hj hi; omega)
  have hf := h.fresh
  constructor
  · intro hr
    rw [h.eq, fitB_full (isD l) g (size - d) (k + d) (room - fr) (by omega) hr hno]
    exact Prod.ext rfl (by show fr + (room - fr) = room; omega)
  · intro hr
    refine ⟨hg, by omega, ?_, fun hd j hj hi => by have := h.ahead (by omega) j hj hi; omega, fun hd j hj hi => ?_⟩
    · rw [h.eq, fitB_gap (isD l) g (size - d) (k + d) (room - fr) (by omega) hr hno]
      have e1 : size - d - g = size - (d + g) := by omega
      have e2 : k + (d : Int) + (g : Int) = k + ((d + g : Nat) : Int) := by push_cast; omega
      have e3 : room - fr - g = room - (fr + g) := by omega
      rw [e1, e2, e3]
      refine Prod.ext ?_ ?_ <;> simp only <;> omega
    · have h1 := hb j hj hi
      have h2 := hl.each l[j] (List.getElem_mem hj)
      have h3 : 0 < l[j].2.length := List.length_pos_iff.2 h2.2.1
      unfold endP; omega
/-- Within piece i no byte is new. -/
theorem FitS.within {l : List Fp} (hl : OkD l) {size : Nat} {k : Int} {room d fr i g : Nat} (h : FitS l size k room d fr i) (hi : i < l.length) (hg : d + g ≤ size) (h1 : 0 < g → l[i].1 ≤ k + d) (h2 : k + d + g ≤ endP l[i]) (h3 : d + g < size → k + d + g = endP l[i]) :
    FitS l size k room (d + g) fr (if d + g < size then i + 1 else i) := by
  have hyes : ∀ x : Nat, x < g → isD l (k + d + x) = true := fun x hx => isD_yes l _ i hi (by have := h1 (by omega); omega) (by omega)
  refine ⟨hg, h.fresh, ?_, ?_, ?_⟩
  · rw [h.eq, fitB_in (isD l) g (size - d) (k + d) (room - fr) (by omega) hyes]
    have e1 : size - d - g = size - (d + g) := by omega
    have e2 : k + (d : Int) + (g : Int) = k + ((d + g : Nat) : Int) := by push_cast; omega
    rw [e1, e2]
    refine Prod.ext ?_ rfl
    simp only
    omega
  · intro hd j hj hlt
    rw [if_pos hd] at hlt
    rcases Nat.lt_or_ge j i with e | e
    · have := h.ahead (by omega) j hj e; omega
    · have e2 : j = i := by omega
      subst e2
      have := h3 hd; omega
  · intro hd j hj hle
    rw [if_pos hd] at hle
    have := List.pairwise_iff_getElem.1 hl.apart i j hi hj (by omega)
    have h4 := h3 hd
    have h5 := hl.each l[j] (List.getElem_mem hj)
    have h6 : 0 < l[j].2.length := List.length_pos_iff.2 h5.2.1
    unfold endP at *; omega
/-- At the end any place will do. -/
theorem FitS.more {l : List Fp} {size : Nat} {k : Int} {room d fr i : Nat} (h : FitS l size k room d fr i) (hd : d = size) : FitS l size k room d fr (i + 1) :=
  ⟨h.done, h.fresh, h.eq, fun hd' => by omega, fun hd' => by omega⟩
end Go.Proofs.YtgbakogihkdddaaGreatDoor
