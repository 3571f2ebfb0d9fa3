/-
  One step of a way.
  A way along links, on paper: its rows stay short.
  walk.Follow; walk.Down.
  What the document fixes of ways through trees, on paper.
-/
import Derived.Test.YtjjgadanobeamaaDoorMw11
import Derived.Deep.LoopGhost
namespace Go.Proofs.YtjjgadanobeamaaDoor
open Go.RowKit Go.Shelf
set_option linter.unusedVariables false
set_option linter.unusedSimpArgs false
set_option maxRecDepth 20000

def StepQ (w0 : World) (W f : Nat) (dir : Int) : StepR → Ending → World → Prop
  | .go g t l, e, w' => e = .returned (.int .i64 0) ∧ Hid (WaySt w0 w' W f dir g t l)
  | .stop x, e, w' => e = .returned (.int .i64 x) ∧ Hid (Kept NoB w0 w')
set_option maxHeartbeats 4000000 in
theorem step_here {w0 w : World} {W f : Nat} {dir : Int} {gone : List Int} {todo : List (List UInt8)} {links : Int} (h : WaySt w0 w W f dir gone todo links) (part : List UInt8) (hp : part = [] ∨ part = [46]) :
    Calls Tryd.prog 14 #[.pointer (some ⟨W, 0, none⟩), .string (strB part)] w fun e w' => e = .returned (.int .i64 0) ∧ Hid (WaySt w0 w' W f dir gone todo links) := by
  have HW := Lib.hid h
  clear h
  rcases hp with rfl | rfl
  · have e1 : (strB []).toList = [] := strB_list []
    obtain ⟨X, hX⟩ : ∃ X, X = strB [] := ⟨_, rfl⟩
    rw [← hX] at e1 ⊢
    have e2 : X.toList.isEmpty = true := by rw [e1]; rfl
    clear hX
    go_enter Tryd.func14, Tryd.ntmps14
    go_wp2
    go_ret
    exact ⟨rfl, HW⟩
  · have e1 : (strB [46]).toList = [46] := strB_list [46]
    obtain ⟨X, hX⟩ : ∃ X, X = strB [46] := ⟨_, rfl⟩
    rw [← hX] at e1 ⊢
    have e2 : X.toList.isEmpty = false := by rw [e1]; rfl
    have e3 : (X.toList == [46]) = true := by rw [e1]; rfl
    clear hX
    go_enter Tryd.func14, Tryd.ntmps14
    go_wp2
    go_ret
    exact ⟨rfl, HW⟩
set_option maxHeartbeats 4000000 in
theorem step_up {w0 w : World} {W f : Nat} {dir : Int} {gone : List Int} {todo : List (List UInt8)} {links : Int} (h : WaySt w0 w W f dir gone todo links) (hg : gone.length ≤ 100000000) :
    Calls Tryd.prog 14 #[.pointer (some ⟨W, 0, none⟩), .string (strB [46, 46])] w fun e w' => e = .returned (.int .i64 0) ∧ Hid (WaySt w0 w' W f dir gone.tail todo links) := by
  obtain ⟨ga, gl, gc, pa, pl, pc, h⟩ := h
  obtain ⟨c0, c1, c2, c3, c4⟩ := h.cell
  have hfr := obj_free h.obj 2
  have hgl := h.glen
  have hlow := own_low h.grow
  have e1 : (strB [46, 46]).toList = [46, 46] := strB_list [46, 46]
  obtain ⟨X, hX⟩ : ∃ X, X = strB [46, 46] := ⟨_, rfl⟩
  rw [← hX] at e1 ⊢
  have e2 : X.toList.isEmpty = false := by rw [e1]; rfl
  have e3 : (X.toList == [46]) = false := by rw [e1]; rfl
  have e4 : (X.toList == [46, 46]) = true := by rw [e1]; rfl
  clear hX
  -- the row behind it
  obtain ⟨k, hk⟩ : ∃ k, k = gl - 1 := ⟨_, rfl⟩
  have HK : Hid (WaySt w0 ((w.setCell ⟨W, 2, none⟩ (.slice ga k gc)).drew) W f dir gone.tail todo links) := Lib.hid (by
    have hi := h
    refine WaySt.on ?_ ((Kept.refl NoB _).drew)
    refine ⟨ga, k, gc, pa, pl, pc, hi.turn (w1 := w) ((Kept.refl (OneB W) _).setCell (p := ⟨W, 2, none⟩) (.inl rfl) _) (obj_set hi.obj 2 _) ?_ hi.prow ?_ hi.plen (fun k2 e => ?_) (fun k2 e => ?_) hi.kept⟩
    · have := own_take hi.grow (k := k) (by omega)
      have e : gone.tail.reverse.map (Value.int .i64) = (gone.reverse.map (Value.int .i64)).take k := by
        rw [hk, hgl]
        cases gone with
        | nil => rfl
        | cons x r => simp
      rw [e]; exact this
    · rw [hk, hgl, List.length_tail]
    · refine h.gown k2 ?_
      cases ga with
      | none => exact e
      | some a => exact e
    · obtain ⟨q1, q2, q3⟩ := h.pown k2 e
      refine ⟨q1, q2, fun q => q3 ?_⟩
      cases ga with
      | none => exact q
      | some a => exact q)
  have HZ : Hid (ga = none → gl = 0 ∧ gc = 0) := Lib.hid hlow.2.2
  have hle : k ≤ gc := by omega
  have hcm : gc ≤ maxLen := hlow.2.1
  have hglb : gl ≤ 100000000 := by omega
  have hmx : (if (gl : Int) - 1 < 0 then 0 else (gl : Int) - 1) = (k : Int) := by
    split <;> omega
  have hmx2 : max ((gl : Int) - 1) 0 = (k : Int) := by omega
  have hw1 : IntKind.i64.wrap ((gl : Int) - 1) = (gl : Int) - 1 := IntWalk.i64_in _ (by omega)
  clear h hgl hlow hg hk
  go_enter Tryd.func14, Tryd.ntmps14
  cases ga with
  | none =>
    obtain ⟨rfl, rfl⟩ := HZ.out rfl
    obtain rfl : k = 0 := by omega
    go_upto_region 6 with fail
    go_region
    go_wp2
    go_ret
    exact ⟨rfl, HK⟩
  | some a =>
    have hkk : (k : Int) ≤ (gc : Int) := by omega
    go_upto_region 6 with fail
    go_region
    go_wp2
    go_ret
    exact ⟨rfl, HK⟩
theorem wpList_int1 {ops : Array Oper} {rest : List Oper} {o : Oper} {a : Act} {w : World} {Q : Exit → Act → World → Prop} (hgd : o.guard = none) (s x : Operand)
    (ho : o.op = .call { callee := .builtin .append, args := #[s, x], argTypes := #[50, 50] })
    {ga : Option Addr} {gl gc : Nat} {zs : List Int} (hS : w.ownsRow 0 3 1 (.slice ga gl gc) gl (zs.map (.int .i64))) (hs : a.eval s = .slice ga gl gc)
    (g c : Nat) (z : Int) (hx : a.eval x = .slice (some ⟨g, 0, none⟩) 1 c) (hc : w.cell? ⟨g, 0, none⟩ = some (.int .i64 z)) (hb : gl ≤ 1000000000)
    (h : ∀ a2 c2 w', w'.ownsRow 0 3 1 (.slice a2 (gl + 1) c2) (gl + 1) ((zs ++ [z]).map (.int .i64)) → Kept (OwnB (Value.slice ga gl gc)) w w' → (∀ k, (Value.slice a2 (gl + 1) c2).ownBlock = some k → (Value.slice ga gl gc).ownBlock = some k ∨ w.heap.size ≤ k) → wpList Tryd.prog ops Q rest (a.put o.dst (.slice a2 (gl + 1) c2)) w') : wpList Tryd.prog ops Q (o :: rest) a w := by
  obtain ⟨i0, hi, hz0, hz1, hz2⟩ := info_parts infoI
  refine wpList_app w hgd s x 50 ho 3 i0 (.int .i64 0) 1 8 (by kernel_rfl) hi hz0 hz1 hz2 rfl (by decide) _ gl (zs.map (.int .i64)) hs hS ⟨g, 0, none⟩ 1 c [.int .i64 z] hx rfl ?_ (fun u hu => by simp at hu; subst hu; rfl) (by unfold maxLen; omega) (by omega) ?_
  · intro j u hu
    rw [addr_add, Nat.zero_add]
    cases j with
    | zero => simp at hu; subst hu; exact hc
    | succ j => simp at hu
  intro v' w' h2 h3 h4
  obtain ⟨a2, c2, rfl⟩ := row_shape h2
  exact h _ _ _ (by rw [List.map_append]; exact h2) ((Kept.refl _ w).grown h3 (fun k hk e => e)) h4
theorem find_nd {T : FsP} (hT : OkT T) {dir i : Int} {part : List UInt8} (h : findP T dir part = (i, 0)) : ∃ n, T.nd i = some n ∧ 1 ≤ i ∧ i ≤ T.next := by
  unfold findP at h
  by_cases hp : placeE T dir part = 0
  · rw [if_pos hp] at h
    cases hg : getK (namesP T dir) part with
    | none => rw [hg] at h; cases h
    | some j =>
      rw [hg] at h
      cases h
      have hm := getK_mem hg
      unfold namesP at hm
      cases hn : T.nd dir with
      | none => rw [hn] at hm; cases hm
      | some d =>
        rw [hn] at hm
        obtain ⟨_, _, m, h3, _⟩ := (hT.node dir d hn).names _ hm
        exact ⟨m, h3, (hT.node _ m h3).low, (hT.node _ m h3).high⟩
  · rw [if_neg hp] at h
    exact absurd (congrArg Prod.snd h) hp
def okI (x : Int) : Prop := -9223372036854775808 ≤ x ∧ x ≤ 9223372036854775807
set_option maxHeartbeats 4000000 in
theorem step_find {S : Nat → Prop} {w0 w : World} {W f : Nat} {T : FsP} {dir : Int} {gone : List Int} {todo : List (List UInt8)} {links : Int} (hF : FsSt S w0 f T) (h : WaySt w0 w W f dir gone todo links) (hnx : T.next ≤ 4611686018427387904) (hat : okI (atW dir gone)) (hl : 0 ≤ links ∧ links ≤ 1000) (hg : gone.length ≤ 100000000) (ht : todo.length ≤ 100000000)
    (part : List UInt8) (hp : part.length ≤ 1000000) (h1 : ¬ (part = [] ∨ part = [46])) (h2 : part ≠ [46, 46]) :
    Calls Tryd.prog 14 #[.pointer (some ⟨W, 0, none⟩), .string (strB part)] w (StepQ w0 W f dir (stepP T dir gone part todo links)) := by
  have hst : stepP T dir gone part todo links = stepN T gone todo links (findP T (atW dir gone) part).1 (findP T (atW dir gone) part).2 := by
    unfold stepP
    rw [if_neg h1, if_neg h2]
  obtain ⟨ga, gl, gc, pa, pl, pc, hW⟩ := h
  obtain ⟨c0, c1, c2, c3, c4⟩ := hW.cell
  have e1 : (strB part).toList = part := strB_list part
  have HAt := Lib.hid (fun (w' : World) (hk : Kept NoB w w') => at_any (⟨ga, gl, gc, pa, pl, pc, hW.on hk⟩ : WaySt w0 w' W f dir gone todo links))
  have HFi := Lib.hid (fun (w' : World) (hk : Kept NoB w w') => find_any (hF.keptNo (hW.kept.trans hk)) (atW dir gone) hat part (by omega))
  obtain ⟨at_, hat2⟩ : ∃ a, a = atW dir gone := ⟨_, rfl⟩
  rw [← hat2] at HAt HFi hst
  obtain ⟨X, hX⟩ : ∃ X, X = strB part := ⟨_, rfl⟩
  rw [← hX] at e1 HFi ⊢
  have e2 : X.toList.isEmpty = false := by rw [e1]; cases part with | nil => exact absurd (.inl rfl) h1 | cons => rfl
  have e3 : (X.toList == [46]) = false := by rw [e1]; simpa using fun e => h1 (.inr e)
  have e4 : (X.toList == [46, 46]) = false := by rw [e1]; simpa using h2
  have HF := Lib.hid hF
  have HW := Lib.hid hW
  clear hX e1 h1 h2 hat2 hat hF hW
  obtain ⟨fi, fe, hfe⟩ : ∃ fi fe, findP T at_ part = (fi, fe) := ⟨_, _, rfl⟩
  rw [hfe] at HFi hst
  have hOk : OkT T := by obtain ⟨L, B, mb, h1⟩ := HF.out; exact h1.ok
  have HNd : Hid (fe = 0 → ∃ n, T.nd fi = some n ∧ 1 ≤ fi ∧ fi ≤ 4611686018427387904) := Lib.hid (fun h0 => by
    obtain ⟨n, q1, q2, q3⟩ := find_nd hOk (by rw [hfe, h0])
    exact ⟨n, q1, q2, by omega⟩)
  have HTg : Hid (∀ i n, T.nd i = some n → n.v.tgt.size ≤ 1024) := Lib.hid (fun i n hn => (hOk.node i n hn).tgt)
  rw [hst]
  clear hst hfe hOk
  dsimp only at HFi ⊢
  go_enter Tryd.func14, Tryd.ntmps14
  go_upto_region 8 with fail
  have hkF : ∀ W' : World, Kept NoB w W' → W'.cell? ⟨W, 0, none⟩ = some (.pointer (some ⟨f, 0, none⟩)) := fun W' hk => hk.cell c0
  go_region_held3 (fun W' => Kept NoB w W' ∧ W'.cell? ⟨W, 0, none⟩ = some (.pointer (some ⟨f, 0, none⟩))) (first | (first | assumption | exact Kept.refl _ _ | exact Kept.drew (Kept.refl _ _) | exact Kept.trans (Kept.drew (Kept.refl _ _)) hkn | (refine Kept.trans ?_ hkn; assumption) | (refine Kept.drew ?_; assumption)) | (refine hkF _ ?_; (first | assumption | exact Kept.refl _ _ | exact Kept.drew (Kept.refl _ _) | exact Kept.trans (Kept.drew (Kept.refl _ _)) hkn | (refine Kept.trans ?_ hkn; assumption) | (refine Kept.drew ?_; assumption))) | (refine ⟨?_, hkF _ ?_⟩ <;> (first | assumption | exact Kept.refl _ _ | exact Kept.drew (Kept.refl _ _) | exact Kept.trans (Kept.drew (Kept.refl _ _)) hkn | (refine Kept.trans ?_ hkn; assumption) | (refine Kept.drew ?_; assumption)))) ((first | (go_at_call 15; ((with_reducible refine (HAt.out _ ?_).mono ?_); (first | assumption | exact Kept.refl _ _ | exact Kept.drew (Kept.refl _ _) | exact Kept.trans (Kept.drew (Kept.refl _ _)) hkn | (refine Kept.trans ?_ hkn; assumption) | (refine Kept.drew ?_; assumption)); rintro e wn ⟨rfl, hkn⟩; replace hkn : Kept NoB w wn := (by first | exact Kept.trans (Kept.drew (Kept.refl _ _)) hkn | (refine Kept.trans ?_ hkn; assumption)))) | (go_at_call 25; ((with_reducible refine (HFi.out _ ?_).mono ?_); (first | assumption | exact Kept.refl _ _ | exact Kept.drew (Kept.refl _ _) | exact Kept.trans (Kept.drew (Kept.refl _ _)) hkn | (refine Kept.trans ?_ hkn; assumption) | (refine Kept.drew ?_; assumption)); rintro e wn ⟨rfl, hkn⟩; replace hkn : Kept NoB w wn := (by first | exact Kept.trans (Kept.drew (Kept.refl _ _)) hkn | (refine Kept.trans ?_ hkn; assumption))))))
  have hkw : Kept NoB w wn := by assumption
  have HWn := Lib.hid (HW.out.on hkw)
  have HFn := Lib.hid (HF.out.keptNo (HW.out.kept.trans hkw))
  have HK0 := Lib.hid (HW.out.kept.trans hkw)
  clear hkw HAt HFi HF HW c0 c1 c2 c3 c4 hkF
  by_cases h0 : fe = 0
  · subst h0
    obtain ⟨n, hn, hlo, hhi⟩ := HNd.out rfl
    have hsn : stepN T gone todo links fi 0 = if n.v.kind = 3 then (if 40 < links + 1 then .stop 15 else .go (turnG n.v.tgt.data.toList gone) (turnT n.v.tgt.data.toList todo) (links + 1)) else .go (fi :: gone) todo links := by
      unfold stepN; rw [if_pos rfl, hn]
    have HSn := Lib.hid hsn
    have htg : n.v.tgt.size ≤ 1024 := HTg.out fi n hn
    have HSt : Hid (Calls Tryd.prog 26 #[.pointer (some ⟨f, 0, none⟩), .int .i64 fi] wn fun e w' => e = .returned (.tuple #[.agg (nvC n.v).toArray, .int .i64 0]) ∧ Kept NoB wn w') := Lib.hid (by
      have := stat_any HFn.out fi (by omega)
      have e : statP T fi = (n.v, 0) := by unfold statP; rw [hn]
      rw [e] at this
      exact this)
    obtain ⟨v, hv⟩ : ∃ v, v = n.v := ⟨_, rfl⟩
    rw [← hv] at HSt htg HSn
    have HOne := Lib.hid (nv_one v)
    have c0 := HWn.out.cell.1
    clear hsn hn hv HNd HTg
    go_upto_region 12 with (first | (go_at_call 26; refine HSt.out.mono ?_; rintro e w8 ⟨rfl, hk8⟩) | (refine wpList_store_row rfl 28 (.tmp 7) (.tmp 50) rfl w8.heap.size (nvC v).toArray rfl rfl _ _ (heap_alloc_new _ _) infoNd rfl HOne.out ?_) | fail)
    obtain ⟨w9, hw9⟩ : ∃ w9, w9 = (w8.alloc (.cells #[.int .i64 0, .int .i64 0, .int .i64 0, .int .i64 0, .int .i64 0, .string { data := #[] }, .int .i64 0, .int .i64 0, .int .i64 0, .int .i64 0, .int .i64 0] 28)).setRow w8.heap.size (nvC v).toArray := ⟨_, rfl⟩
    have hk9 : Kept NoB w8 w9 := by rw [hw9]; exact ((Kept.refl NoB w8).alloc _).setRow (.inr (Nat.le_refl _)) _
    have dd : ∀ j, w9.cell? ⟨w8.heap.size, j, none⟩ = (nvC v).toArray[j]? := fun j => by rw [hw9]; exact cell_of_row _ _ _ _ _ (0, 0) (setRow_heap _ _ _ _ _ _ (heap_alloc_new _ _))
    have d0 : w9.cell? ⟨w8.heap.size, 0, none⟩ = some (.int .i64 v.kind) := dd 0
    have d5 : w9.cell? ⟨w8.heap.size, 5, none⟩ = some (.string v.tgt) := dd 5
    have HW9 := Lib.hid (HWn.out.on (hk8.trans hk9))
    have HF9 := Lib.hid (HFn.out.keptNo (hk8.trans hk9))
    have HK9 := Lib.hid (HK0.out.trans (hk8.trans hk9))
    rw [← hw9]
    obtain ⟨N9, hN9⟩ : ∃ N9, N9 = w8.heap.size := ⟨_, rfl⟩
    rw [← hN9] at d0 d5 ⊢
    have hN9l : N9 < w9.heap.size := World.block_lt_of_cell? w9 _ d0
    clear dd hk8 hk9 hw9 hN9 HSt HOne HWn HFn HK0 c0
    obtain ⟨kd, hkd⟩ : ∃ kd, kd = v.kind := ⟨_, rfl⟩
    obtain ⟨tg, htg2⟩ : ∃ tg, tg = v.tgt := ⟨_, rfl⟩
    rw [← hkd] at d0 HSn
    rw [← htg2] at d5 HSn htg
    clear hkd htg2
    obtain ⟨c0, c1, c2, c3, c4⟩ := HW9.out.cell
    have f2 := obj_free HW9.out.obj 2
    have f4 := obj_free HW9.out.obj 4
    by_cases h3 : kd = 3
    · subst h3
      rw [if_pos rfl] at HSn
      have hNW : N9 ≠ W := fun e => by rw [e, c0] at d0; cases d0
      have hsl : IntKind.i64.wrap (links + 1) = links + 1 := IntWalk.i64_in _ (by omega)
      obtain ⟨l1, hl1⟩ : ∃ l1, l1 = links + 1 := ⟨_, rfl⟩
      obtain ⟨w10, hw10⟩ : ∃ w10, w10 = w9.setCell ⟨W, 4, none⟩ (.int .i64 l1) := ⟨_, rfl⟩
      have hk10 : Kept (OneB W) w9 w10 := by rw [hw10]; exact (Kept.refl (OneB W) w9).setCell (p := ⟨W, 4, none⟩) (.inl rfl) _
      have hi10 : WayIn w0 w10 W f dir gone todo l1 ga gl gc pa pl pc := by
        refine HW9.out.turn (w1 := w9) hk10 ?_ HW9.out.grow HW9.out.prow HW9.out.glen HW9.out.plen HW9.out.gown HW9.out.pown HW9.out.kept
        rw [hw10]; exact obj_set HW9.out.obj 4 _
      have d5' : w10.cell? ⟨N9, 5, none⟩ = some (.string tg) := (World.cell?_of_block (a := ⟨N9, 5, none⟩) (hk10.block N9 hN9l (fun e => hNW e))).trans d5
      have c4' := hi10.cell.2.2.2.2
      have HI10 := Lib.hid hi10
      have HTn : Hid (Calls Tryd.prog 13 #[.pointer (some ⟨W, 0, none⟩), .string tg] w10 fun e w' => e = .returned (.tuple #[]) ∧ Hid (WaySt w0 w' W f dir (turnG tg.data.toList gone) (turnT tg.data.toList todo) l1)) := Lib.hid (by
        have := turn_any (⟨ga, gl, gc, pa, pl, pc, hi10⟩ : WaySt w0 w10 W f dir gone todo l1) tg.data.toList (by have h9 : tg.data.toList.length = tg.size := rfl; omega) ht
        rw [strB_of] at this
        exact this)
      have HW10 := Lib.hid hw10
      rw [← hl1] at hsl HSn
      have HL1 := Lib.hid hl1
      have hlb : l1 ≤ 1001 ∧ 0 ≤ l1 := by omega
      clear hk10 hi10 hw10 hNW hN9l d5 c1 c2 c3 HW9
      have hadd : IntKind.i64.wrap (links + 1) = l1 := by rw [HL1.out]; exact IntWalk.i64_in _ (by have := HL1.out; omega)
      clear hsl hl1
      by_cases h40 : 40 < l1
      · rw [if_pos h40] at HSn
        go_upto_region 18 with fail
        rw [← HW10.out]
        go_wp2
        go_ret
        rw [HSn.out]
        exact ⟨rfl, Lib.hid HI10.out.kept⟩
      · rw [if_neg h40] at HSn
        go_upto_region 18 with fail
        rw [← HW10.out]
        go_wp2_with (go_at_call 13; refine HTn.out.mono ?_; rintro e w11 ⟨rfl, HQ⟩)
        go_ret
        rw [HSn.out]
        exact ⟨rfl, HQ⟩
    · have hne : (kd != 3) = true := by simpa using h3
      rw [if_neg h3] at HSn
      have hgl := HW9.out.glen
      have hgb : gl ≤ 100000000 := by omega
      clear h3 hgl d5
      obtain ⟨wA, hwA⟩ : ∃ wA, wA = w9.alloc (.cells #[.int .i64 fi] 3) := ⟨_, rfl⟩
      have hkA : Kept NoB w9 wA := by rw [hwA]; exact (Kept.refl NoB w9).alloc _
      have hcA : wA.cell? ⟨w9.heap.size, 0, none⟩ = some (.int .i64 fi) := by rw [hwA, cell_new (k := w9.heap.size) 0 rfl]; rfl
      have HWA := Lib.hid (HW9.out.on hkA)
      have c2A := HWA.out.cell.2.2.1
      have HNe : Hid (¬ OwnB (.slice ga gl gc) W) := Lib.hid (fun e => (HWA.out.gown W e).2 rfl)
      have HwA := Lib.hid hwA
      clear hwA HW9 hkA
      go_wp2_with (at_builtin; rw [← HwA.out]; refine wpList_int1 rfl _ _ rfl HWA.out.grow rfl w9.heap.size 1 fi rfl hcA (by omega) ?_; intro a2 c2' w5 ho5 hk5 hn5; have c25 := World.cell?_of_block (a := ⟨W, 2, none⟩) (hk5.block W (obj_lt HWA.out.obj) HNe.out) |>.trans c2A; have fr5 : w5.frozen? ⟨W, 2, none⟩ = false := obj_free (hk5.obj HWA.out.obj HNe.out) 2)
      go_ret
      rw [HSn.out]
      refine ⟨rfl, Lib.hid ?_⟩
      have hob := hk5.obj HWA.out.obj HNe.out
      have hs := hk5.size
      refine ⟨a2, gl + 1, c2', pa, pl, pc, HWA.out.turn (w1 := w5) ((Kept.refl (OneB W) w5).setCell (p := ⟨W, 2, none⟩) (.inl rfl) _) (obj_set hob 2 _) ?_ (hk5.row HWA.out.prow (fun k e q => (HWA.out.pown k e).2.2 q)) ?_ HWA.out.plen (fun k e => ?_) (fun k e => ?_) ?_⟩
      · rw [List.reverse_cons]; exact ho5
      · have := HWA.out.glen; simp; omega
      · rcases hn5 k e with q | q
        · exact HWA.out.gown k q
        · refine ⟨by have := HWA.out.kept.size; omega, fun h => ?_⟩
          have := obj_lt HWA.out.obj; omega
      · obtain ⟨q1, q2, q3⟩ := HWA.out.pown k e
        refine ⟨q1, q2, fun h => ?_⟩
        rcases hn5 k h with q | q
        · exact q3 q
        · have := (HWA.out.prow.lt k e).2; omega
      · have hk0 := HWA.out.kept
        exact ⟨hk5.os.trans hk0.os, hk5.tape.trans hk0.tape, hk5.output.trans hk0.output, Nat.le_trans hk0.size hs, fun i hi _ => (hk5.block i (Nat.lt_of_lt_of_le hi hk0.size) (fun q => by have := (HWA.out.gown i q).1; omega)).trans (hk0.block i hi id)⟩
  · have hne : (fe != 0) = true := by simpa using h0
    have hsn : stepN T gone todo links fi fe = .stop fe := by unfold stepN; rw [if_neg h0]
    have HSn := Lib.hid hsn
    clear h0 hsn
    go_wp2
    go_ret
    rw [HSn.out]
    exact ⟨rfl, HK0⟩
end Go.Proofs.YtjjgadanobeamaaDoor

namespace Go.Proofs.YtjjgadanobeamaaDoor
set_option linter.unusedVariables false
set_option linter.unusedSimpArgs false
set_option maxRecDepth 20000

structure FolInv (g : List Int) (t : List (List UInt8)) (l : Int) (k n : Nat) : Prop where
  gl : g.length + k ≤ n
  gi : ∀ x ∈ g, okI x
  tl : t.length ≤ 5000 + 2000 * l.toNat
  tp : ∀ p ∈ t, p.length ≤ 5000
  lk : 0 ≤ l ∧ l ≤ 40
theorem FolInv.at {g : List Int} {t : List (List UInt8)} {l : Int} {k n : Nat} (h : FolInv g t l k n) {dir : Int} (hd : okI dir) : okI (atW dir g) := by
  cases g with
  | nil => exact hd
  | cons x r => exact h.gi x (by simp)
theorem fol_step {T : FsP} (hT : OkT T) (hnx : T.next ≤ 4611686018427387904) {dir : Int} {g g' : List Int} {part : List UInt8} {t t' : List (List UInt8)} {l l' : Int} {k n : Nat} (h : FolInv g (part :: t) l (k + 1) n) (hs : stepP T dir g part t l = .go g' t' l') : FolInv g' t' l' k n := by
  have h1 := h.gl; have h3 := h.tl; have h5 := h.lk
  have htp : ∀ p ∈ t, p.length ≤ 5000 := fun p hp => h.tp p (by simp [hp])
  simp only [List.length_cons] at h3
  unfold stepP at hs
  by_cases e1 : part = [] ∨ part = [46]
  · rw [if_pos e1] at hs
    cases hs
    exact ⟨by omega, h.gi, by omega, htp, h5⟩
  · rw [if_neg e1] at hs
    by_cases e2 : part = [46, 46]
    · rw [if_pos e2] at hs
      cases hs
      exact ⟨by rw [List.length_tail]; omega, fun x hx => h.gi x (List.mem_of_mem_tail hx), by omega, htp, h5⟩
    · rw [if_neg e2] at hs
      obtain ⟨fi, fe, hfe⟩ : ∃ fi fe, findP T (atW dir g) part = (fi, fe) := ⟨_, _, rfl⟩
      rw [hfe] at hs
      unfold stepN at hs
      by_cases h0 : fe = 0
      · subst h0
        rw [if_pos rfl] at hs
        obtain ⟨m, q1, q2, q3⟩ := find_nd hT hfe
        dsimp only at hs
        rw [q1] at hs
        dsimp only at hs
        by_cases hk : m.v.kind = 3
        · rw [if_pos hk] at hs
          by_cases h40 : 40 < l + 1
          · rw [if_pos h40] at hs; cases hs
          · rw [if_neg h40] at hs
            cases hs
            have htg := (hT.node fi m q1).tgt
            have hlen : m.v.tgt.data.toList.length = m.v.tgt.size := rfl
            have hc := pieces_cnt m.v.tgt.data.toList
            have hc2 : m.v.tgt.data.toList.count 47 ≤ m.v.tgt.data.toList.length := List.count_le_length
            refine ⟨?_, fun x hx => ?_, ?_, fun p hp => ?_, by omega⟩
            · unfold turnG; split
              · simp; omega
              · omega
            · unfold turnG at hx
              split at hx
              · cases hx
              · exact h.gi x hx
            · unfold turnT
              rw [List.length_append]
              have : (l + 1).toNat = l.toNat + 1 := by omega
              rw [this]; omega
            · unfold turnT at hp
              rcases List.mem_append.1 hp with q | q
              · have := pieces_low _ p q; omega
              · exact htp p q
        · rw [if_neg hk] at hs
          cases hs
          refine ⟨by simp; omega, fun x hx => ?_, by omega, htp, h5⟩
          rcases List.mem_cons.1 hx with e | e
          · subst e; exact ⟨by omega, by omega⟩
          · exact h.gi x e
      · rw [if_neg h0] at hs; cases hs
theorem fol_start {path : List UInt8} (hp : path.length ≤ 4096) (n : Nat) : FolInv [] (turnT path []) 0 n n := by
  have hc := pieces_cnt path
  have hc2 : path.count 47 ≤ path.length := List.count_le_length
  refine ⟨by simp, (fun x hx => absurd hx (by simp)), ?_, fun p h => ?_, by decide⟩
  · unfold turnT; rw [List.append_nil, hc]; omega
  · unfold turnT at h; rw [List.append_nil] at h
    have := pieces_low _ p h; omega
end Go.Proofs.YtjjgadanobeamaaDoor

namespace Go.Proofs.YtjjgadanobeamaaDoor
open Go.RowKit Go.Shelf
set_option linter.unusedVariables false
set_option linter.unusedSimpArgs false
set_option maxRecDepth 20000

theorem step_any {S : Nat → Prop} {w0 w : World} {W f : Nat} {T : FsP} {dir : Int} {gone : List Int} {todo : List (List UInt8)} {links : Int} (hF : FsSt S w0 f T) (hnx : T.next ≤ 4611686018427387904) (hat : okI (atW dir gone)) (h : WaySt w0 w W f dir gone todo links) (hl : 0 ≤ links ∧ links ≤ 1000) (hg : gone.length ≤ 100000000) (ht : todo.length ≤ 100000000)
    (part : List UInt8) (hp : part.length ≤ 1000000) :
    Calls Tryd.prog 14 #[.pointer (some ⟨W, 0, none⟩), .string (strB part)] w (StepQ w0 W f dir (stepP T dir gone part todo links)) := by
  by_cases h1 : part = [] ∨ part = [46]
  · have e : stepP T dir gone part todo links = .go gone todo links := by unfold stepP; rw [if_pos h1]
    rw [e]
    exact step_here h part h1
  · by_cases h2 : part = [46, 46]
    · have e : stepP T dir gone part todo links = .go gone.tail todo links := by unfold stepP; rw [if_neg h1, if_pos h2]
      rw [e, h2]
      exact step_up h hg
    · exact step_find hF h hnx hat hl hg ht part hp h1 h2
theorem stop_ne {T : FsP} {dir : Int} {g : List Int} {part : List UInt8} {t : List (List UInt8)} {l x : Int} (h : stepP T dir g part t l = .stop x) : x ≠ 0 := by
  unfold stepP at h
  split at h
  · cases h
  split at h
  · cases h
  unfold stepN at h
  split at h
  · split at h
    · cases h; decide
    · split at h
      · split at h
        · cases h; decide
        · cases h
      · cases h
  · rename_i h0
    cases h; exact h0
set_option maxHeartbeats 4000000 in
theorem follow_any {S : Nat → Prop} {w : World} {f : Nat} {T : FsP} (hF : FsSt S w f T) (hnx : T.next ≤ 4611686018427387904) (dir : Int) (hdir : okI dir) (path : List UInt8) (hp1 : path ≠ []) (hp2 : path.length ≤ 4096) (hp3 : Lib.indexByte path 0 = -1) (n : Nat) (hn : n ≤ 1000000) (i e : Int) (hfo : followP T dir n path = some (i, e)) :
    Calls Tryd.prog 7 #[.pointer (some ⟨f, 0, none⟩), .int .i64 dir, .string (strB path)] w fun r w' => r = .returned (.tuple #[.int .i64 i, .int .i64 e]) ∧ Kept NoB w w' := by
  have hOk : OkT T := by obtain ⟨L, B, mb, h1⟩ := hF; exact h1.ok
  have HC : Hid (Calls Tryd.prog 12 #[.string (strB path), .string { data := #[0] }] w fun e w' => e = .returned (.bool false) ∧ w = w') := Lib.hid (by
    refine (Tryd.strings_Contains_one (strB path) 0 w).mono ?_
    rintro e w' ⟨rfl, rfl⟩
    refine ⟨?_, rfl⟩
    have : Lib.indexByte (strB path).data.toList 0 = -1 := hp3
    rw [this]; rfl)
  have HF := Lib.hid hF
  have HOk := Lib.hid hOk
  have HFo := Lib.hid hfo
  have hsz := strB_size path
  have HTn := Lib.hid (fun (w0 w1 : World) (W : Nat) (h : WaySt w0 w1 W f dir [] [] 0) => turn_any h path (by omega) (by simp))
  obtain ⟨X, hX⟩ : ∃ X, X = strB path := ⟨_, rfl⟩
  have e1 : X.toList = path := by rw [hX]; exact strB_list path
  rw [← hX] at HC HTn hsz ⊢
  have e2 : X.toList.isEmpty = false := by rw [e1]; cases path with | nil => exact absurd rfl hp1 | cons => rfl
  have hle : ¬ 4096 < X.size := by omega
  have hle2 : decide ((4096 : Int) < (X.size : Int)) = false := decide_eq_false (by omega)
  have HS0 := Lib.hid (fol_start hp2 n)
  clear hF hOk hfo hX e1 hp1 hp2 hp3 hsz hle
  go_enter Tryd.func7, Tryd.ntmps7
  go_upto_region 4 with (first | (go_at_call 12; refine HC.out.mono ?_; rintro e w1 ⟨rfl, rfl⟩) | fail)
  obtain ⟨w1, hw1⟩ : ∃ w1, w1 = w.alloc (.cells #[.pointer (some ⟨f, 0, none⟩), .int .i64 dir, .slice none 0 0, .slice none 0 0, .int .i64 0] 53) := ⟨_, rfl⟩
  have hk1 : Kept NoB w w1 := by rw [hw1]; exact (Kept.refl NoB w).alloc _
  have hW1 : WaySt w w1 w.heap.size f dir [] [] 0 := by
    refine ⟨none, 0, 0, none, 0, 0, ?_, World.ownsRow_nil _ _ _ _, World.ownsRow_nil _ _ _ _, rfl, rfl, fun k e => (by simp [Value.ownBlock] at e), fun k e => (by simp [Value.ownBlock] at e), hk1, Nat.le_refl _⟩
    rw [hw1]; exact heap_alloc_new _ _
  have HT1 := Lib.hid (HTn.out w w1 w.heap.size hW1)
  have HW1 := Lib.hid hw1
  obtain ⟨W, hW⟩ : ∃ W, W = w.heap.size := ⟨_, rfl⟩
  have HLow : Hid (w.heap.size ≤ W) := Lib.hid (by omega)
  rw [← hW] at HT1
  have HWe := Lib.hid hW
  clear hw1 hk1 hW1 HTn HC hW
  rw [← HW1.out, ← HWe.out]
  clear HW1 HWe
  have hg0 : turnG path [] = [] := by unfold turnG; split <;> rfl
  rw [hg0] at HT1
  clear hg0
  go_upto_region 5 with (first | (go_at_call 13; refine HT1.out.mono ?_; rintro e w2 ⟨rfl, HQ2⟩) | fail)
  clear HT1
  go_loopg [9, 10, 11] n (fun k v9 v10 v11 wr => ∃ (g : List Int) (t : List (List UInt8)) (l : Int), Hid (WaySt w wr W f dir g t l) ∧ Hid (FolInv g t l k n) ∧ Hid (folP T dir k g t l = some (i, e)))
  case atStart => exact ⟨[], _, 0, HQ2, HS0, HFo⟩
  case round =>
    obtain ⟨g, t, l, HQ, HI, HP⟩ := hrel
    clear HQ2 HS0 HFo
    cases gk with
    | zero => exact absurd HP.out (by simp [folP])
    | succ k =>
      obtain ⟨ga, gl, gc, pa, pl, pc, h⟩ := HQ.out
      obtain ⟨c0, c1, c2, c3, c4⟩ := h.cell
      have hpl := h.plen
      cases t with
      | nil =>
        obtain rfl : pl = 0 := hpl
        have hres : atW dir g = i ∧ e = 0 := by
          have := HP.out
          simp only [folP, Option.some.injEq, Prod.mk.injEq] at this
          exact ⟨this.1, this.2.symm⟩
        have HAt := Lib.hid (at_any HQ.out)
        rw [hres.1] at HAt
        have HRes := Lib.hid hres.2
        have HK := Lib.hid h.kept
        clear hres h
        go_wp2_with (go_at_call 15; refine HAt.out.mono ?_; rintro e w3 ⟨rfl, hk3⟩)
        go_ret2
        exact ⟨by rw [HRes.out]; rfl, HK.out.trans hk3⟩
      | cons part rest =>
        obtain ⟨m, hm⟩ : ∃ m, m = rest.length := ⟨_, rfl⟩
        obtain rfl : pl = m + 1 := by rw [hpl, hm]; rfl
        have hlow := own_low h.prow
        have hpa : ∃ pg, pa = some ⟨pg, 0, none⟩ := by
          rcases h.prow.2 with ⟨_, hz⟩ | ⟨pg, cc, cur, hv, _⟩
          · omega
          · simp at hv; exact ⟨pg, hv.1⟩
        obtain ⟨pg, rfl⟩ := hpa
        have hc : wr.cell? ⟨pg, m, none⟩ = some (.string (strB part)) := by
          have := h.prow.cellAt m (by omega)
          rw [this, List.map_reverse, List.map_cons, List.reverse_cons, List.getElem?_append_right (by simp; omega)]
          simp [hm, strV]
        have hmb : m ≤ 100000 := by
          have h1 := HI.out.tl
          have h2 := HI.out.lk
          simp only [List.length_cons] at h1
          omega
        have hmc : m ≤ pc := by omega
        have hcm : pc ≤ maxLen := hlow.2.1
        have hw1 : IntKind.i64.wrap (m : Int) = (m : Int) := IntWalk.i64_in _ (by omega)
        have f3 := obj_free h.obj 3
        obtain ⟨w3, hw3⟩ : ∃ w3, w3 = wr.setCell ⟨W, 3, none⟩ (.slice (some ⟨pg, 0, none⟩) m pc) := ⟨_, rfl⟩
        have hW3 : WaySt w w3 W f dir g rest l := by
          refine ⟨ga, gl, gc, some ⟨pg, 0, none⟩, m, pc, h.turn (w1 := wr) (by rw [hw3]; exact (Kept.refl (OneB W) wr).setCell (p := ⟨W, 3, none⟩) (.inl rfl) _) (by rw [hw3]; exact obj_set h.obj 3 _) h.grow ?_ h.glen hm h.gown (fun k2 q => h.pown k2 q) h.kept⟩
          have := own_take h.prow (k := m) (by omega)
          have e : ((part :: rest).reverse.map strV).take m = rest.reverse.map strV := by
            rw [List.reverse_cons, List.map_append, List.take_append_of_le_length (by simp [hm]), List.take_of_length_le (by simp [hm])]
          rw [e] at this
          exact this
        have HSt : Hid (Calls Tryd.prog 14 #[.pointer (some ⟨W, 0, none⟩), .string (strB part)] w3 (StepQ w W f dir (stepP T dir g part rest l))) := Lib.hid (by
          have h1 := HI.out.gl
          have h2 := HI.out.lk
          refine step_any HF.out hnx (HI.out.at hdir) hW3 (by omega) (by omega) (by omega) part ?_
          have := HI.out.tp part (by simp); omega)
        have HGo : Hid (∀ g' t' l', stepP T dir g part rest l = .go g' t' l' → FolInv g' t' l' k n ∧ folP T dir k g' t' l' = some (i, e)) := Lib.hid (fun g' t' l' hs => by
          refine ⟨fol_step HOk.out hnx HI.out hs, ?_⟩
          have := HP.out
          simp only [folP, hs] at this
          exact this)
        have HNo : Hid (∀ x, stepP T dir g part rest l = .stop x → i = 0 ∧ e = x ∧ x ≠ 0) := Lib.hid (fun x hs => by
          have := HP.out
          simp only [folP, hs, Option.some.injEq, Prod.mk.injEq] at this
          exact ⟨this.1.symm, this.2.symm, stop_ne hs⟩)
        obtain ⟨P, hP⟩ : ∃ P, P = strB part := ⟨_, rfl⟩
        rw [← hP] at hc HSt
        obtain ⟨sr, hsr⟩ : ∃ sr, sr = stepP T dir g part rest l := ⟨_, rfl⟩
        rw [← hsr] at HSt HGo HNo
        have HW3 := Lib.hid hw3
        clear hP hsr hW3 hw3 h hlow hpl hm HI HP HQ c0 c1 c2 c4
        go_upto_region 9 with fail
        rw [← HW3.out]
        clear HW3 hc f3 c3
        cases sr with
        | go g' t' l' =>
          obtain ⟨q1, q2⟩ := HGo.out g' t' l' rfl
          have HI4 := Lib.hid q1
          have HP4 := Lib.hid q2
          clear q1 q2 HGo HNo
          go_wp2_with (go_at_call 14; refine HSt.out.mono ?_; rintro e w4 ⟨rfl, HQ4⟩)
          go_roundg k
          case measure => omega
          case rel => exact ⟨g', t', l', HQ4, HI4, HP4⟩
        | stop x =>
          obtain ⟨q1, q2, q3⟩ := HNo.out x rfl
          have HRes := Lib.hid q1
          have HRes2 := Lib.hid q2
          have hx : (x != 0) = true := by simpa using q3
          clear q1 q2 q3 HGo HNo
          go_wp2_with (go_at_call 14; refine HSt.out.mono ?_; rintro e w4 ⟨rfl, hk4⟩)
          go_ret2
          exact ⟨by rw [HRes.out, HRes2.out]; rfl, hk4.out⟩
def downP (T : FsP) : Int → List (List UInt8) → Int × Int
  | dir, [] => (dir, 0)
  | dir, p :: r => if (findP T dir p).2 = 0 then downP T (findP T dir p).1 r else (0, (findP T dir p).2)
set_option maxHeartbeats 4000000 in
theorem down_any {S : Nat → Prop} {w : World} {f : Nat} {T : FsP} (hF : FsSt S w f T) (hnx : T.next ≤ 4611686018427387904) (dir : Int) (hdir : okI dir) (ao : Option Addr) (c B : Nat) (ps : List (List UInt8)) (hr : RdS w B ao ps) (hp : ∀ p ∈ ps, p.length ≤ 1000000000) (hl : ps.length ≤ 1000000) :
    Calls Tryd.prog 17 #[.pointer (some ⟨f, 0, none⟩), .int .i64 dir, .slice ao ps.length c] w fun r w' => r = .returned (.tuple #[.int .i64 (downP T dir ps).1, .int .i64 (downP T dir ps).2]) ∧ Kept NoB w w' := by
  have hOk : OkT T := by obtain ⟨L, B, mb, h1⟩ := hF; exact h1.ok
  have HF := Lib.hid hF; have HOk := Lib.hid hOk; have HR := Lib.hid hr; have HLn := Lib.hid hp
  obtain ⟨D, hD⟩ : ∃ D, D = downP T dir ps := ⟨_, rfl⟩
  rw [← hD]
  obtain ⟨n, hn⟩ : ∃ n, n = ps.length := ⟨_, rfl⟩
  rw [← hn] at hl ⊢
  have HN := Lib.hid hn
  have HD := Lib.hid hD
  clear hF hOk hr hp hn hD
  go_enter Tryd.func17, Tryd.ntmps17
  go_upto_region 2 with fail
  go_loopw [1, 9, 10, 11, 14] (fun v1 v9 v10 v11 v14 wr => ∃ (i : Nat) (d : Int), v1 = .int .i64 d ∧ v14 = .int .i64 (i : Int) ∧ i ≤ n ∧ okI d ∧ Hid (Kept NoB w wr) ∧ Hid (D = downP T d (ps.drop i))) (fun _ _ _ _ v14 _ => n - (intOf v14).toNat)
  case atStart => exact ⟨0, dir, rfl, rfl, by omega, hdir, Lib.hid (Kept.refl _ _), HD⟩
  case round =>
    obtain ⟨i, d, rfl, rfl, hi, hd, HK, HQ⟩ := hrel
    by_cases hlt : (i : Int) < n
    · have hin : i < ps.length := by have := HN.out; omega
      obtain ⟨g, off, rfl, hgl, hc0⟩ := HR.out i hin
      have hc := HK.out.cell hc0
      obtain ⟨p, hpe⟩ : ∃ p, p = ps.getD i [] := ⟨_, rfl⟩
      have hpm : p ∈ ps := by rw [hpe]; simp [List.getD, hin]
      have hdr := drop_getDs ps i hin
      rw [← hpe] at hc hdr
      have HFd : Hid (Calls Tryd.prog 25 #[.pointer (some ⟨f, 0, none⟩), .int .i64 d, .string (strB p)] wr fun e w' => e = .returned (.tuple #[.int .i64 (findP T d p).1, .int .i64 (findP T d p).2]) ∧ Kept NoB wr w') := Lib.hid (find_any (HF.out.keptNo HK.out) d hd p (by have := HLn.out p hpm; omega))
      have HD2 : Hid (D = if (findP T d p).2 = 0 then downP T (findP T d p).1 (ps.drop (i + 1)) else (0, (findP T d p).2)) := Lib.hid (by
        have := HQ.out
        rw [hdr] at this
        exact this)
      have HOi : Hid ((findP T d p).2 = 0 → okI (findP T d p).1) := Lib.hid (fun h0 => by
        obtain ⟨m, _, q2, q3⟩ := find_nd HOk.out (part := p) (dir := d) (i := (findP T d p).1) (by rw [← h0])
        exact ⟨by omega, by omega⟩)
      obtain ⟨P, hP⟩ : ∃ P, P = strB p := ⟨_, rfl⟩
      rw [← hP] at hc HFd
      obtain ⟨fi, fe, hfe⟩ : ∃ fi fe, findP T d p = (fi, fe) := ⟨_, _, rfl⟩
      rw [hfe] at HFd HD2 HOi
      dsimp only at HFd HD2 HOi
      clear hpe hpm hdr hc0 hgl hP hfe HQ hin
      by_cases h0 : fe = 0
      · subst h0
        have HD3 : Hid (D = downP T fi (ps.drop (i + 1))) := Lib.hid (by have := HD2.out; rwa [if_pos rfl] at this)
        have hoi := HOi.out rfl
        clear HD2 HOi
        go_wp2_with (go_at_call 25; refine HFd.out.mono ?_; rintro e w2 ⟨rfl, hk2⟩)
        go_roundw
        case rel => exact ⟨i + 1, fi, rfl, by go_num, by omega, hoi, Lib.hid (HK.out.trans hk2), HD3⟩
        case measure => simp [intOf]; omega
      · have hne : (fe != 0) = true := by simpa using h0
        have HD3 : Hid (D = (0, fe)) := Lib.hid (by have := HD2.out; rwa [if_neg h0] at this)
        clear HD2 HOi h0
        go_wp2_with (go_at_call 25; refine HFd.out.mono ?_; rintro e w2 ⟨rfl, hk2⟩)
        go_ret2
        exact ⟨by rw [HD3.out]; rfl, HK.out.trans hk2⟩
    · have HD3 : Hid (D = (d, 0)) := Lib.hid (by
        have := HQ.out
        rw [List.drop_of_length_le (by have := HN.out; omega)] at this
        exact this)
      clear HQ
      go_wp2
      go_ret2
      exact ⟨by rw [HD3.out]; rfl, HK.out⟩
end Go.Proofs.YtjjgadanobeamaaDoor

namespace Go.Proofs.YtjjgadanobeamaaDoor
set_option linter.unusedVariables false
set_option linter.unusedSimpArgs false
set_option maxRecDepth 20000

def bk1 : FsP := (makeP (newT 10) 1 [97] dir0V).1
def bk2 : FsP := (makeP bk1 2 [98] (symV [46, 46])).1
theorem bk_make1 : (makeP (newT 10) 1 [97] dir0V).2 = (2, 0) := by kernel_rfl
theorem bk_make2 : (makeP bk1 2 [98] (symV [46, 46])).2 = (3, 0) := by kernel_rfl
theorem bk_n1 : namesP bk2 1 = [([97], 2)] := by kernel_rfl
theorem bk_n2 : namesP bk2 2 = [([98], 3)] := by kernel_rfl
theorem bk_n3 : namesP bk2 3 = [] := by kernel_rfl
theorem bk_deep : Deep bk2 2 1 := by
  intro p hp
  rw [bk_n1] at hp
  simp at hp; subst hp
  intro p hp
  rw [bk_n2] at hp
  simp at hp; subst hp
  exact bk_n3
theorem bk_all : allP bk2 2 1 [] = [([97], 2), ([97, 47, 98], 3)] := by kernel_rfl
theorem bk_down : downP bk2 1 [[97], [98]] = (3, 0) := by kernel_rfl
theorem bk_follow : followP bk2 1 20 [97, 47, 98] = some (1, 0) := by kernel_rfl
theorem bk_clock : bk1.clock = 1 ∧ bk2.clock = 2 ∧ bk2.next = 3 := ⟨by kernel_rfl, by kernel_rfl, by kernel_rfl⟩
end Go.Proofs.YtjjgadanobeamaaDoor
