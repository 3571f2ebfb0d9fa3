/-
  name.Parts: what stands between the slashes of a path.
-/
import Derived.Test.YtamoojalfpghhaaDoorSeqB
import Derived.RangeFuncBox
import Derived.Maps.AppendAt
namespace Go.Proofs.YtamoojalfpghhaaDoor
open Go.RowKit Go.Shelf
set_option linter.unusedVariables false
set_option linter.unusedSimpArgs false

attribute [local go_sem] Oper.semAt_some

/-- A piece that is no part. -/
def skipP (p : List UInt8) : Bool := p.isEmpty || p == [46]
def keepP (ps : List (List UInt8)) : List (List UInt8) := ps.filter (fun p => !skipP p)
theorem keepP_snoc_skip (ps : List (List UInt8)) (p : List UInt8) (h : skipP p = true) : keepP (ps ++ [p]) = keepP ps := by simp [keepP, List.filter_append, h]
theorem keepP_snoc (ps : List (List UInt8)) (p : List UInt8) (h : skipP p = false) : keepP (ps ++ [p]) = keepP ps ++ [p] := by simp [keepP, List.filter_append, h]
def okP (p : List UInt8) : Bool := okN (strB p)
/-- The parts of a path, if it is one. -/
def partsOf (l : List UInt8) : Option (List (List UInt8)) :=
  if l = [] ∨ 4096 < l.length ∨ l.head? = some 47 then none else if (keepP (pieces l)).all okP then some (keepP (pieces l)) else none
theorem pieces_len : ∀ l, (pieces l).length ≤ l.length + 1
  | [] => by simp [pieces]
  | b :: r => by
    have ih := pieces_len r
    unfold pieces
    split
    · simp; omega
    · split
      · simp
      · rename_i h; rw [h] at ih; simp at ih ⊢; omega
def strV (p : List UInt8) : Value := .string (strB p)
theorem infoS : (Tryd.prog.info? 9).map (fun i => (i.zero, i.size, i.bytes)) = some (some (.string ⟨#[]⟩), 1, 16) := by kernel_rfl

/-- What Parts tells. -/
def PartsP (w : World) (l : List UInt8) (e : Ending) (w' : World) : Prop :=
  (partsOf l = none ∧ e = .returned (.tuple #[.slice none 0 0, .int .i64 9]) ∧ Below w.heap.size w w') ∨
  (∃ ps ao cap, partsOf l = some ps ∧ e = .returned (.tuple #[.slice ao ps.length cap, .int .i64 0]) ∧ w'.ownsRow w.heap.size 9 1 (.slice ao ps.length cap) ps.length (ps.map strV) ∧ Below w.heap.size w w')

set_option maxHeartbeats 1000000 in
theorem split_calls (s : ByteArray) (w : World) :
    Calls Tryd.prog 14 #[.string s, .string ⟨#[47]⟩] w fun e w' => e = .returned (.func (.func 24) #[] #[.pointer (some ⟨w.heap.size + 1, 0, none⟩), .pointer (some ⟨w.heap.size, 0, none⟩), .pointer (some ⟨w.heap.size + 2, 0, none⟩)]) ∧
      w' = ((w.alloc (.cells #[.string s] 9)).alloc (.cells #[.string ⟨#[47]⟩] 9)).alloc (.cells #[.int .i64 0] 3) := by
  go_enter Tryd.func14, Tryd.ntmps14
  go_wp2
  go_ret
  exact ⟨rfl, rfl⟩

theorem results_cells2 {fn : Func} {p q : Tmp} {tp tq : TypeId} (h : fn.results = #[.cell p tp, .cell q tq]) (tmps : Array Value) (w : World) (a b : Nat) (x y : Value)
    (hp : tmps.getD p undef = .pointer (some ⟨a, 0, none⟩)) (hq : tmps.getD q undef = .pointer (some ⟨b, 0, none⟩)) (cx : w.cell? ⟨a, 0, none⟩ = some x) (cy : w.cell? ⟨b, 0, none⟩ = some y)
    (ap : ∀ W, (isAgg tp).run Tryd.prog W = .ok false W) (aq : ∀ W, (isAgg tq).run Tryd.prog W = .ok false W) : (results fn tmps).run Tryd.prog w = .ok (.tuple #[x, y]) w := by
  have hp' := hp; have hq' := hq
  simp only [Array.getD_eq_getD_getElem?] at hp' hq' ⊢
  have lx : (loadVar tp ⟨a, 0, none⟩).run Tryd.prog w = .ok x w := by
    unfold loadVar
    simp [Sem.run_bind, ap, Result.andThen, run_load, cx]
  have ly : (loadVar tq ⟨b, 0, none⟩).run Tryd.prog w = .ok y w := by
    unfold loadVar
    simp [Sem.run_bind, aq, Result.andThen, run_load, cy]
  simp [results, h, hp', hq', asAddr, Sem.run_bind, Result.andThen, lx, ly]

/-- Between two rounds. -/
structure PartI (w : World) (n N : Nat) (pre : List (List UInt8)) (W : World) : Prop where
  ok : (keepP pre).all okP = true
  row : ∃ (ao : Option Addr) (cap : Nat), W.heap[n + 2]? = some (.cells #[.slice ao (keepP pre).length cap] 23 (0, 0)) ∧ W.ownsRow N 9 1 (.slice ao (keepP pre).length cap) (keepP pre).length ((keepP pre).map strV)
  r1 : W.heap[n]? = some (.cells #[.slice none 0 0] 23 (0, 0))
  r2 : W.heap[n + 1]? = some (.cells #[.int .i64 0] 24 (0, 0))
  bel : Below n w W
  big : N ≤ W.heap.size
/-- A round has left: the path is none. -/
structure PartX (w : World) (n : Nat) (pre : List (List UInt8)) (W : World) : Prop where
  bad : ∃ p ∈ keepP pre, okP p = false
  r1 : W.heap[n]? = some (.cells #[.slice none 0 0] 23 (0, 0))
  r2 : W.heap[n + 1]? = some (.cells #[.int .i64 9] 24 (0, 0))
  bel : Below n w W
theorem cells_grown {W W' : World} {row : Option Nat} {k B : Nat} {cs : Array Value} {t : TypeId} {fr : Nat × Nat} (h : W.heap[k]? = some (.cells cs t fr)) (hg : W.grownBy W' row)
    (hr : ∀ r, row = some r → B ≤ r ∧ ∃ o : Obj, W.heap[r]? = some o ∧ o.isCells = false) : W'.heap[k]? = some (.cells cs t fr) := by
  refine (hg.block k (Array.getElem?_eq_some_iff.1 h).1 ?_).trans h
  intro e
  obtain ⟨_, o, ho, hc⟩ := hr k e.symm
  rw [h] at ho
  cases ho
  cases hc
theorem row_grown {W W' : World} {row : Option Nat} {B base e m : Nat} {v : Value} {xs : List Value} (h : W.ownsRow base e 1 v m xs) (hg : W.grownBy W' row)
    (hr : ∀ r, row = some r → B ≤ r ∧ ∃ o : Obj, W.heap[r]? = some o ∧ o.isCells = false) : W'.ownsRow base e 1 v m xs := by
  refine ⟨h.1, ?_⟩
  rcases h.2 with hn | ⟨g, cap, cur, rfl, hb, hgg, rest⟩
  · exact .inl hn
  · exact .inr ⟨g, cap, cur, rfl, hb, cells_grown hgg hg hr, rest⟩
theorem partI_own (w : World) (n N B : Nat) (hn : n ≤ w.heap.size) (hB : n ≤ B) : OwnFrom B (PartI w n N) := by
  intro pre W W' row h hg hr
  obtain ⟨ao, cap, h1, h2⟩ := h.row
  exact ⟨h.ok, ⟨ao, cap, cells_grown h1 hg hr, row_grown h2 hg hr⟩, cells_grown h.r1 hg hr, cells_grown h.r2 hg hr, h.bel.grown hg (Nat.le_trans hn h.bel.size) (fun k e => Nat.le_trans hB (hr k e).1), Nat.le_trans h.big hg.size⟩
theorem partX_own (w : World) (n B : Nat) (hn : n ≤ w.heap.size) (hB : n ≤ B) : OwnFrom B (PartX w n) := by
  intro pre W W' row h hg hr
  exact ⟨h.bad, cells_grown h.r1 hg hr, cells_grown h.r2 hg hr, h.bel.grown hg (Nat.le_trans hn h.bel.size) (fun k e => Nat.le_trans hB (hr k e).1)⟩
theorem keeps_below {W W' : World} (h : Below W.heap.size W W') : KeepsOthers W W' := ⟨h.size, fun k o hk _ => (h.block k (Array.getElem?_eq_some_iff.1 hk).1).trans hk⟩
theorem PartI.kept {w W W' : World} {n N : Nat} {pre : List (List UInt8)} (h : PartI w n N pre W) (hk : Kept NoB W W') (hn : n ≤ w.heap.size) : PartI w n N pre W' := by
  obtain ⟨ao, cap, h1, h2⟩ := h.row
  exact ⟨h.ok, ⟨ao, cap, hk.obj h1 (fun h => h), hk.row h2 (fun _ _ h => h)⟩, hk.obj h.r1 (fun h => h), hk.obj h.r2 (fun h => h),
    ⟨hk.os.trans h.bel.os, hk.tape.trans h.bel.tape, hk.output.trans h.bel.output, Nat.le_trans h.bel.size hk.size, fun i hi => (hk.block i (Nat.lt_of_lt_of_le hi (Nat.le_trans hn h.bel.size)) (fun h => h)).trans (h.bel.block i hi)⟩, Nat.le_trans h.big hk.size⟩

theorem bad_world (w : World) : ∃ W, W = (w.alloc (.cells #[.slice none 0 0] 23)).alloc (.cells #[.int .i64 9] 24) ∧ W.cell? ⟨w.heap.size, 0, none⟩ = some (.slice none 0 0) ∧ W.cell? ⟨w.heap.size + 1, 0, none⟩ = some (.int .i64 9) ∧ Below w.heap.size w W := by
  refine ⟨_, rfl, ?_, ?_, ((Below.refl _ w).alloc (Nat.le_refl _) _).alloc (by simp) _⟩
  · rw [cell_of_row _ _ 0 _ _ _ ((Below.heap_alloc _ _ _ (by simp)).trans (World.alloc_heap_new w _))]; rfl
  · have h := World.alloc_heap_new (w.alloc (.cells #[.slice none 0 0] 23)) (.cells #[.int .i64 9] 24)
    rw [World.size_alloc] at h
    rw [cell_of_row _ _ 0 _ _ _ h]; rfl

theorem split_calls2 (s : ByteArray) (w : World) :
    Calls Tryd.prog 14 #[.string s, .string ⟨#[47]⟩] w fun e w' => ∃ b1 b2 b3, e = .returned (.func (.func 24) #[] #[.pointer (some ⟨b1, 0, none⟩), .pointer (some ⟨b2, 0, none⟩), .pointer (some ⟨b3, 0, none⟩)]) ∧
      SeqB w' b1 b2 b3 s ∧ (b1 ≠ b2 ∧ b3 ≠ b2) ∧ (w.heap.size ≤ b1 ∧ w.heap.size ≤ b2 ∧ w.heap.size ≤ b3) ∧ (b1 < w'.heap.size ∧ b2 < w'.heap.size ∧ b3 < w'.heap.size) ∧ Kept NoB w w' := by
  refine (split_calls s w).mono ?_
  rintro e w' ⟨rfl, rfl⟩
  refine ⟨_, _, _, rfl, ⟨?_, ?_, ?_⟩, ⟨by omega, by omega⟩, ⟨by omega, by omega, by omega⟩, ⟨by simp, by simp; omega, by simp⟩, (((Kept.refl NoB w).alloc _).alloc _).alloc _⟩
  · have h := World.alloc_heap_new (w.alloc (.cells #[.string s] 9)) (.cells #[.string ⟨#[47]⟩] 9)
    rw [World.size_alloc] at h
    exact (Below.heap_alloc _ _ _ (by simp)).trans h
  · exact (Below.heap_alloc _ _ _ (by simp; omega)).trans ((Below.heap_alloc _ _ _ (by simp)).trans (World.alloc_heap_new w _))
  · have h := World.alloc_heap_new ((w.alloc (.cells #[.string s] 9)).alloc (.cells #[.string ⟨#[47]⟩] 9)) (.cells #[.int .i64 0] 3)
    rw [World.size_alloc, World.size_alloc] at h
    exact h
theorem start_world (w : World) : ∃ W, W = ((w.alloc (.cells #[.slice none 0 0] 23)).alloc (.cells #[.int .i64 0] 24)).alloc (.cells #[.slice none 0 0] 23) ∧ W.heap[w.heap.size]? = some (.cells #[.slice none 0 0] 23 (0, 0)) ∧
    W.heap[w.heap.size + 1]? = some (.cells #[.int .i64 0] 24 (0, 0)) ∧ W.heap[w.heap.size + 2]? = some (.cells #[.slice none 0 0] 23 (0, 0)) ∧ Below w.heap.size w W ∧ W.heap.size = w.heap.size + 3 := by
  refine ⟨_, rfl, ?_, ?_, ?_, (((Below.refl _ w).alloc (Nat.le_refl _) _).alloc (by simp) _).alloc (by simp; omega) _, by simp⟩
  · exact (Below.heap_alloc _ _ _ (by simp; omega)).trans ((Below.heap_alloc _ _ _ (by simp)).trans (World.alloc_heap_new w _))
  · have h := World.alloc_heap_new (w.alloc (.cells #[.slice none 0 0] 23)) (.cells #[.int .i64 0] 24)
    rw [World.size_alloc] at h
    exact (Below.heap_alloc _ _ _ (by simp)).trans h
  · have h := World.alloc_heap_new ((w.alloc (.cells #[.slice none 0 0] 23)).alloc (.cells #[.int .i64 0] 24)) (.cells #[.slice none 0 0] 23)
    rw [World.size_alloc, World.size_alloc] at h
    exact h

set_option maxRecDepth 20000 in
set_option maxHeartbeats 4000000 in
theorem parts_bad (S : ByteArray) (w : World) (h : S.toList = [] ∨ (¬ S.toList = [] ∧ (4096 : Int) < (S.size : Int)) ∨ (¬ S.toList = [] ∧ ¬ (4096 : Int) < (S.size : Int) ∧ ∃ h0 : 0 < S.size, (((S[0]'h0).toNat : Int) == 47) = true)) :
    Calls Tryd.prog 6 #[.string S] w fun e w' => e = .returned (.tuple #[.slice none 0 0, .int .i64 9]) ∧ Below w.heap.size w w' := by
  refine callsIn_wide.1 (callsIn_of_wp_marks (n := 3) Tryd.func6 rfl trivial ?_ rfl)
  simp only [Tryd.ntmps6, List.size_toArray, List.length_cons, List.length_nil, Nat.reduceAdd, Nat.reduceSub, Array.replicate_succ, Array.replicate_zero, List.push_toArray, List.append_toArray, List.nil_append, List.cons_append]
  rcases h with h | ⟨h1, h2⟩ | ⟨h1, h2, h0, h3⟩
  · skip
    gi_wp2
    obtain ⟨W, hW, c1, c2, c3⟩ := bad_world w
    rw [← hW]
    exact ⟨_, results_cells2 rfl _ _ _ _ _ _ rfl rfl c1 c2 Tryd.isAgg23 Tryd.isAgg24, rfl, c3⟩
  · skip
    gi_wp2
    obtain ⟨W, hW, c1, c2, c3⟩ := bad_world w
    rw [← hW]
    exact ⟨_, results_cells2 rfl _ _ _ _ _ _ rfl rfl c1 c2 Tryd.isAgg23 Tryd.isAgg24, rfl, c3⟩
  · have h4 : (0 : Int) < (S.size : Int) := by omega
    gi_wp2
    obtain ⟨W, hW, c1, c2, c3⟩ := bad_world w
    rw [← hW]
    exact ⟨_, results_cells2 rfl _ _ _ _ _ _ rfl rfl c1 c2 Tryd.isAgg23 Tryd.isAgg24, rfl, c3⟩

/-- What Parts tells of a path that does not begin with a slash. -/
def GoodR (w : World) (bs : List UInt8) (e : Ending) (w' : World) : Prop :=
  ((keepP (pieces bs)).all okP = false ∧ e = .returned (.tuple #[.slice none 0 0, .int .i64 9]) ∧ Below w.heap.size w w') ∨
      (∃ ao cap, (keepP (pieces bs)).all okP = true ∧ e = .returned (.tuple #[.slice ao (keepP (pieces bs)).length cap, .int .i64 0]) ∧ w'.ownsRow w.heap.size 9 1 (.slice ao (keepP (pieces bs)).length cap) (keepP (pieces bs)).length ((keepP (pieces bs)).map strV) ∧ Below w.heap.size w w')
set_option maxRecDepth 20000 in
set_option maxHeartbeats 4000000 in
theorem parts_good (S : ByteArray) (bs : List UInt8) (w : World) (hS : Hid (S = strB bs)) (hl : Hid (bs.length ≤ 1000000)) (h1 : ¬ S.toList = []) (h2 : ¬ (4096 : Int) < (S.size : Int)) (h0 : 0 < S.size) (h3 : (((S[0]'h0).toNat : Int) == 47) = false) :
    Calls Tryd.prog 6 #[.string S] w (GoodR w bs) := by
  refine callsIn_wide.1 (callsIn_of_wp_marks (n := 3) Tryd.func6 rfl trivial ?_ rfl)
  simp only [Tryd.ntmps6, List.size_toArray, List.length_cons, List.length_nil, Nat.reduceAdd, Nat.reduceSub, Array.replicate_succ, Array.replicate_zero, List.push_toArray, List.append_toArray, List.nil_append, List.cons_append]
  have h4 : (0 : Int) < (S.size : Int) := by omega
  have hE : S.toList.isEmpty = false := by simpa using h1
  obtain ⟨w3, hw3, g1, g2, g3, g4, g5⟩ := start_world w
  gi_wp2_with (refine ⟨trivial, ?_⟩; gi_at_call 14; rw [← hw3]; refine (callsIn_wide.2 (split_calls2 _ _)).mono ?_; rintro e w6 ⟨b1, b2, b3, rfl, hB, hne, hge, hlt, hk⟩)
  obtain ⟨N, hN⟩ : ∃ N, N = w6.heap.size := ⟨_, rfl⟩
  have hN2 := hN
  have hs6 := hk.size
  have hbl : bs.length ≤ 1000000 := hl.out
  have hB' : SeqB w6 b1 b2 b3 (strB bs) := by rw [← hS.out]; exact hB
  have hI0 : PartI w w.heap.size N [] w6 := ⟨rfl, ⟨none, 0, hk.obj g3 (fun h => h), World.ownsRow_nil _ _ _ _⟩, hk.obj g1 (fun h => h), hk.obj g2 (fun h => h), g4.trans (Below.mono ⟨hk.os, hk.tape, hk.output, hk.size, fun i hi => hk.block i hi (fun h => h)⟩ (by omega)), by rw [hN]; exact Nat.le_refl _⟩
  have hNw : w.heap.size + 3 ≤ N := by omega
  have hb2 : w.heap.size + 3 ≤ b2 ∧ b2 < N := by omega
  have hb1 : w.heap.size + 3 ≤ b1 ∧ b1 < N := by omega
  have hb3 : w.heap.size + 3 ≤ b3 ∧ b3 < N := by omega
  have HI0 := Lib.hid hI0; have HB' := Lib.hid hB'
  obtain ⟨i0, hi, hz0, hz1, hz2⟩ := info_parts infoS
  have hw6 : w.heap.size + 3 ≤ w6.heap.size := by omega
  clear hI0 hB' hB hk hs6 g1 g2 g3 g4 g5 hw3 hge hlt hN hN2
  refine range_seq b1 b2 b3 bs rfl hne HB'.out hbl (PartI w w.heap.size N) (PartX w w.heap.size) (partI_own w _ N _ (Nat.le_refl _) (by omega)) (partX_own w _ _ (Nat.le_refl _) (by omega)) ?_ HI0.out
    (fun x => { tmps := #[.string S, undef, .pointer (some ⟨w.heap.size, 0, none⟩), .pointer (some ⟨w.heap.size + 1, 0, none⟩), .pointer (some ⟨w.heap.size + 1 + 1, 0, none⟩), .string (strB x), .string S, .bool false, .bool false, .string S, .int .i64 (S.size : Int), .bool false, .bool false, .bool false, .string S,
      .int .u8 ((S[0]'h0).toNat : Int), .bool false, .bool false, .string S, .func (.func 24) #[] #[.pointer (some ⟨b1, 0, none⟩), .pointer (some ⟨b2, 0, none⟩), .pointer (some ⟨b3, 0, none⟩)], .string (strB x),
      undef, undef, undef, undef, undef, undef, undef, undef, undef, undef, undef, undef, undef, undef], defers := [] }) ?assign ?body ?done ?stop
  · intro pre W v h
    obtain ⟨ao, cap, r1, r2⟩ := h.row
    refine ⟨h.ok, ⟨ao, cap, (Below.heap_setCell _ _ _ _ (by show _ ≠ b2; omega)).trans r1, ?_⟩, (Below.heap_setCell _ _ _ _ (by show _ ≠ b2; omega)).trans h.r1, (Below.heap_setCell _ _ _ _ (by show _ ≠ b2; omega)).trans h.r2, h.bel.trans ((Below.refl _ W).setCell (p := ⟨b2, 0, none⟩) (by show _ ≤ b2; omega) _), by have := h.big; simpa using this⟩
    refine ⟨r2.1, ?_⟩
    rcases r2.2 with hn | ⟨g, c2, cur, hv, hb, hgg, rest⟩
    · exact .inl hn
    · exact .inr ⟨g, c2, cur, hv, hb, (Below.heap_setCell _ _ _ _ (by show g ≠ b2; omega)).trans hgg, rest⟩
  case assign =>
    intro l x W K hK
    gi_wp2
    exact hK
  case body =>
    intro l pre x W hI hfew hxl
    have hpl := pieces_len bs
    have hkl : (keepP pre).length ≤ pre.length := List.length_filter_le _ _
    have hT : (strB x).toList = x := by rw [Lib.toList_data]; rfl
    have HI := Lib.hid hI
    by_cases hx0 : x = []
    · have e1 : (strB x).toList = [] := by rw [hT, hx0]
      have HF : Hid (∀ a, bodyEnd b1 b2 b3 (PartI w w.heap.size N) (PartX w w.heap.size) (pre ++ [x]) W .normal a W) := Lib.hid fun a => ⟨KeepsOthers.refl _, fun _ h => h, by
        have hk := keepP_snoc_skip pre x (by rw [hx0]; rfl)
        obtain ⟨ao, cap, r1, r2⟩ := hI.row
        exact ⟨by rw [hk]; exact hI.ok, by rw [hk]; exact ⟨ao, cap, r1, r2⟩, hI.r1, hI.r2, hI.bel, hI.big⟩⟩
      clear hT hx0 hI
      gi_wp2
      exact HF.out _
    · by_cases hx1 : x = [46]
      · have e1 : (strB x).toList = [46] := by rw [hT, hx1]
        have HF : Hid (∀ a, bodyEnd b1 b2 b3 (PartI w w.heap.size N) (PartX w w.heap.size) (pre ++ [x]) W .normal a W) := Lib.hid fun a => ⟨KeepsOthers.refl _, fun _ h => h, by
          have hk := keepP_snoc_skip pre x (by rw [hx1]; rfl)
          obtain ⟨ao, cap, r1, r2⟩ := hI.row
          exact ⟨by rw [hk]; exact hI.ok, by rw [hk]; exact ⟨ao, cap, r1, r2⟩, hI.r1, hI.r2, hI.bel, hI.big⟩⟩
        clear hT hx1 hI
        gi_wp2
        exact HF.out _
      · have e0 : ¬ (strB x).toList = [] := by rw [hT]; exact hx0
        have e1 : ¬ (strB x).toList = [46] := by rw [hT]; exact hx1
        have e2 : (strB x).toList.isEmpty = false := by simpa using e0
        have e3 : ((strB x).toList == [46]) = false := by simpa using e1
        have hsk : skipP x = false := by
          unfold skipP
          have a1 : x.isEmpty = false := by cases x with | nil => exact absurd rfl hx0 | cons _ _ => rfl
          have a2 : (x == [46]) = false := by simpa using hx1
          rw [a1, a2]; rfl
        have hk := keepP_snoc pre x hsk
        have HK := Lib.hid hk
        have hxs : (strB x).size = x.length := by simp [strB, ByteArray.size]
        have HOk := Lib.hid (ok_calls (strB x) W (by omega))
        clear hxs
        obtain ⟨o, ho⟩ : ∃ o, o = okN (strB x) := ⟨_, rfl⟩
        rw [← ho] at HOk
        have HO := Lib.hid ho
        clear hT hx0 hx1 hI hk ho hsk
        cases o with
        | false =>
          gi_wp2_with fail
          refine ⟨trivial, ?_⟩
          refine (CallsIn.inRound l (callsIn_wide.2 HOk.out)).mono ?_
          rintro e W2 ⟨rfl, hb2⟩
          have hI2 := HI.out.kept (Kept.ofBelow (Kept.refl NoB W) hb2) (Nat.le_refl _)
          have d1 : W2.cell? ⟨w.heap.size, 0, none⟩ = some (.slice none 0 0) := by simpa using obj_cell hI2.r1 0
          have d2 : W2.cell? ⟨w.heap.size + 1, 0, none⟩ = some (.int .i64 0) := by simpa using obj_cell hI2.r2 0
          have f1 : W2.frozen? ⟨w.heap.size, 0, none⟩ = false := obj_free hI2.r1 0
          have f2 : W2.frozen? ⟨w.heap.size + 1, 0, none⟩ = false := obj_free hI2.r2 0
          have HI2 := Lib.hid hI2
          have HB2 := Lib.hid hb2
          clear hI2 hb2
          gi_wp2
          have r1' : (W2.setCell ⟨w.heap.size, 0, none⟩ (.slice none 0 0)).heap[w.heap.size]? = some (.cells #[.slice none 0 0] 23 (0, 0)) := by simpa using obj_set HI2.out.r1 0 (.slice none 0 0)
          have r2' : (W2.setCell ⟨w.heap.size, 0, none⟩ (.slice none 0 0)).heap[w.heap.size + 1]? = some (.cells #[.int .i64 0] 24 (0, 0)) := (Below.heap_setCell _ _ _ _ (by show _ ≠ w.heap.size; omega)).trans HI2.out.r2
          refine ⟨((keeps_below HB2.out).trans (KeepsOthers.setCell _ _ _)).trans (KeepsOthers.setCell _ _ _), ⟨x, by rw [HK.out]; simp, HO.out.symm⟩, ?_, ?_, ?_⟩
          · exact (Below.heap_setCell _ _ _ _ (by show _ ≠ w.heap.size + 1; omega)).trans r1'
          · simpa using obj_set r2' 0 (.int .i64 9)
          · exact (HI2.out.bel.setCell (p := ⟨w.heap.size, 0, none⟩) (Nat.le_refl _) _).setCell (p := ⟨w.heap.size + 1, 0, none⟩) (by show _ ≤ w.heap.size + 1; omega) _
        | true =>
          gi_wp2_with fail
          refine ⟨trivial, ?_⟩
          refine (CallsIn.inRound l (callsIn_wide.2 HOk.out)).mono ?_
          rintro e W2 ⟨rfl, hb2⟩
          have hI2 := HI.out.kept (Kept.ofBelow (Kept.refl NoB W) hb2) (Nat.le_refl _)
          obtain ⟨ao, cap, c1, c2⟩ := hI2.row
          have hbig := hI2.big
          have d1 : W2.cell? ⟨w.heap.size + 1 + 1, 0, none⟩ = some (.slice ao (keepP pre).length cap) := by simpa using obj_cell c1 0
          have f1 : W2.frozen? ⟨w.heap.size + 1 + 1, 0, none⟩ = false := obj_free c1 0
          obtain ⟨K, hKe⟩ : ∃ K, K = (keepP pre).length := ⟨_, rfl⟩
          rw [← hKe] at d1 c1 c2 hkl
          have HKe := Lib.hid hKe
          have HI2 := Lib.hid hI2
          have HB2 := Lib.hid hb2
          have HRow := Lib.hid (c2.alloc (.cells #[.string (strB x)] 9))
          have HC1 := Lib.hid c1
          clear hI2 hb2 c2 hKe c1
          gi_wp2_with (gi_at_builtin; refine wpListIn_append_own _ rfl _ _ 23 rfl N 9 i0 (.string ⟨#[]⟩) 1 16 Tryd.underlying23 hi hz0 hz1 hz2 rfl (by decide) _ K _ rfl HRow.out ⟨W2.heap.size, 0, none⟩ 1 1 [.string (strB x)] rfl rfl (cell_one_new _ _ _) (by simp [Value.oneCell']) (by unfold maxLen; omega) (by omega) (by simp; omega) ?_)
          intro v' W3 hown' hgrow _
          obtain ⟨g', cap', rfl⟩ := ownsRow_succ hown'
          have hrb : ∀ k, (Value.slice ao K cap).ownBlock = some k → N ≤ k ∧ ∃ cs t, (W2.alloc (.cells #[.string (strB x)] 9)).heap[k]? = some (.cells cs t (0, 0)) := by
            intro k hk
            rcases HRow.out.2 with ⟨hv, _⟩ | ⟨g, c3, cur, hv, hb, hgg, _⟩
            · rw [hv] at hk; simp [Value.ownBlock] at hk
            · rw [hv] at hk; simp [Value.ownBlock] at hk; subst hk; exact ⟨hb, cur, _, hgg⟩
          have hblk : ∀ k, k < N → W3.heap[k]? = W2.heap[k]? := by
            intro k hk
            have hk2 : k < W2.heap.size := by omega
            refine (hgrow.block k (by simp; omega) ?_).trans (Below.heap_alloc _ _ _ hk2)
            intro e
            have := (hrb k e.symm).1
            omega
          have hg'N : N ≤ g' := (hown'.lt g' rfl).1
          have hsz3 := hgrow.size
          have c3 : W3.heap[w.heap.size + 2]? = some (.cells #[.slice ao K cap] 23 (0, 0)) := (hblk _ (by omega)).trans HC1.out
          have d3 : W3.cell? ⟨w.heap.size + 1 + 1, 0, none⟩ = some (.slice ao K cap) := by simpa using obj_cell c3 0
          have f3 : W3.frozen? ⟨w.heap.size + 1 + 1, 0, none⟩ = false := obj_free c3 0
          have HF : Hid (∀ a, bodyEnd b1 b2 b3 (PartI w w.heap.size N) (PartX w w.heap.size) (pre ++ [x]) W .normal a (W3.setCell ⟨w.heap.size + 1 + 1, 0, none⟩ (.slice (some ⟨g', 0, none⟩) (K + 1) cap'))) := Lib.hid fun a => by
            refine ⟨?_, ?_, ?_⟩
            · refine ((keeps_below HB2.out).trans ?_).trans (KeepsOthers.setCell _ _ _)
              refine (KeepsOthers.alloc W2 _).trans (KeepsOthers.of_grownBy hgrow ?_)
              intro j o hj ho
              obtain ⟨_, cs, t, hc⟩ := hrb j hj
              rw [hc] at ho
              cases ho
              rfl
            · intro s h
              have hw : ∀ k (o : Obj), k < N → W.heap[k]? = some o → k ≠ w.heap.size + 2 → (W3.setCell ⟨w.heap.size + 1 + 1, 0, none⟩ (.slice (some ⟨g', 0, none⟩) (K + 1) cap')).heap[k]? = some o := fun k o hk ho hne => by
                refine (Below.heap_setCell _ _ _ _ (by show k ≠ w.heap.size + 1 + 1; omega)).trans ((hblk k hk).trans ((HB2.out.block k (Array.getElem?_eq_some_iff.1 ho).1).trans ho))
              exact ⟨hw _ _ hb1.2 h.sep (by omega), hw _ _ hb2.2 h.str (by omega), hw _ _ hb3.2 h.save (by omega)⟩
            · have hok : okP x = true := HO.out.symm
              refine ⟨?_, ⟨some ⟨g', 0, none⟩, cap', ?_, ?_⟩, ?_, ?_, ?_, ?_⟩
              · rw [HK.out, List.all_append, HI2.out.ok]; simp [hok]
              · have := obj_set c3 0 (.slice (some ⟨g', 0, none⟩) (K + 1) cap')
                rw [HK.out, List.length_append, ← HKe.out]
                simpa using this
              · rw [HK.out, List.length_append, ← HKe.out, List.map_append]
                refine ⟨by simpa using hown'.1, ?_⟩
                rcases hown'.2 with ⟨hv, _⟩ | ⟨g, c4, cur, hv, hb, hgg, rest⟩
                · cases hv
                · simp at hv
                  obtain ⟨rfl, rfl⟩ := hv
                  exact .inr ⟨g', cap', cur, rfl, hb, (Below.heap_setCell _ _ _ _ (by show g' ≠ w.heap.size + 1 + 1; omega)).trans hgg, rest⟩
              · exact (Below.heap_setCell _ _ _ _ (by show w.heap.size ≠ w.heap.size + 1 + 1; omega)).trans ((hblk _ (by omega)).trans HI2.out.r1)
              · exact (Below.heap_setCell _ _ _ _ (by show w.heap.size + 1 ≠ w.heap.size + 1 + 1; omega)).trans ((hblk _ (by omega)).trans HI2.out.r2)
              · exact ((HI2.out.bel.alloc (HI2.out.bel.size) _).grown hgrow (by simp; have := HI2.out.bel.size; omega) (fun k e => by have := (hrb k e).1; omega)).setCell (p := ⟨w.heap.size + 1 + 1, 0, none⟩) (by show _ ≤ w.heap.size + 1 + 1; omega) _
              · have := HI2.out.big
                simp at hsz3 ⊢
                omega
          clear hrb hblk hsz3 hown' hgrow c3
          gi_wp2
          exact HF.out _
  case done =>
    intro D W hD h hK
    obtain ⟨ao, cap, c1, c2⟩ := h.row
    have d1 : W.cell? ⟨w.heap.size + 1 + 1, 0, none⟩ = some (.slice ao (keepP (pieces bs)).length cap) := by simpa using obj_cell c1 0
    have d2 : W.cell? ⟨w.heap.size, 0, none⟩ = some (.slice none 0 0) := by simpa using obj_cell h.r1 0
    have f2 : W.frozen? ⟨w.heap.size, 0, none⟩ = false := obj_free h.r1 0
    have d3 : W.cell? ⟨w.heap.size + 1, 0, none⟩ = some (.int .i64 0) := by simpa using obj_cell h.r2 0
    have f3 : W.frozen? ⟨w.heap.size + 1, 0, none⟩ = false := obj_free h.r2 0
    have HH := Lib.hid h; have HC2 := Lib.hid c2; have HKd := Lib.hid hK
    clear h c2 c1 hK
    gi_wp2
    obtain ⟨V, hV⟩ : ∃ V, V = (W.setCell ⟨w.heap.size, 0, none⟩ (.slice ao (keepP (pieces bs)).length cap)).setCell ⟨w.heap.size + 1, 0, none⟩ (.int .i64 0) := ⟨_, rfl⟩
    have hVk : ∀ k, k ≠ w.heap.size → k ≠ w.heap.size + 1 → V.heap[k]? = W.heap[k]? := fun k h1 h2 => by
      rw [hV]
      exact (Below.heap_setCell _ _ _ _ (by show k ≠ w.heap.size + 1; exact h2)).trans (Below.heap_setCell _ _ _ _ (by show k ≠ w.heap.size; exact h1))
    have hr1 : V.heap[w.heap.size]? = some (.cells #[.slice ao (keepP (pieces bs)).length cap] 23 (0, 0)) := by
      rw [hV]
      refine (Below.heap_setCell _ _ _ _ (by show w.heap.size ≠ w.heap.size + 1; omega)).trans ?_
      simpa using obj_set HH.out.r1 0 (.slice ao (keepP (pieces bs)).length cap)
    have hr2 : V.heap[w.heap.size + 1]? = some (.cells #[.int .i64 0] 24 (0, 0)) := by
      rw [hV]
      have h2 : (W.setCell ⟨w.heap.size, 0, none⟩ (.slice ao (keepP (pieces bs)).length cap)).heap[w.heap.size + 1]? = some (.cells #[.int .i64 0] 24 (0, 0)) := (Below.heap_setCell _ _ _ _ (by show w.heap.size + 1 ≠ w.heap.size; omega)).trans HH.out.r2
      simpa using obj_set h2 0 (.int .i64 0)
    have hVD : V.heap[D]? = some (.deferred (some [])) := (hVk D (by omega) (by omega)).trans HKd.out
    have hVb : Below w.heap.size w V := by
      rw [hV]
      exact (HH.out.bel.setCell (p := ⟨w.heap.size, 0, none⟩) (Nat.le_refl _) _).setCell (p := ⟨w.heap.size + 1, 0, none⟩) (by show _ ≤ w.heap.size + 1; omega) _
    rw [← hV]
    refine ⟨by simp, .inl ⟨_, _, rfl, run_takeDeferred hVD, ?_⟩⟩
    have q1 : (V.putObj D (.deferred none)).cell? ⟨w.heap.size, 0, none⟩ = some (.slice ao (keepP (pieces bs)).length cap) := by
      have := (World.putObj_heap_other (o := .deferred none) (show w.heap.size ≠ D by omega)).trans hr1
      simpa using obj_cell this 0
    have q2 : (V.putObj D (.deferred none)).cell? ⟨w.heap.size + 1, 0, none⟩ = some (.int .i64 0) := by
      have := (World.putObj_heap_other (o := .deferred none) (show w.heap.size + 1 ≠ D by omega)).trans hr2
      simpa using obj_cell this 0
    refine ⟨_, results_cells2 rfl _ _ _ _ _ _ rfl rfl q1 q2 Tryd.isAgg23 Tryd.isAgg24, .inr ⟨ao, cap, HH.out.ok, rfl, ?_, hVb.trans (belowK_b (Nat.le_refl _) V D _ _ (by omega) hVD rfl rfl)⟩⟩
    refine ⟨HC2.out.1, ?_⟩
    rcases HC2.out.2 with hn | ⟨g, c4, cur, hv, hb, hgg, rest⟩
    · exact .inl hn
    · refine .inr ⟨g, c4, cur, hv, by omega, ?_, rest⟩
      have hgD : g ≠ D := by
        intro e
        rw [e, HKd.out] at hgg
        cases hgg
      exact (World.putObj_heap_other hgD).trans ((hVk g (by omega) (by omega)).trans hgg)
  case stop =>
    intro D pre W hD hpr h hK
    have d2 : W.cell? ⟨w.heap.size, 0, none⟩ = some (.slice none 0 0) := by simpa using obj_cell h.r1 0
    have d3 : W.cell? ⟨w.heap.size + 1, 0, none⟩ = some (.int .i64 9) := by simpa using obj_cell h.r2 0
    have HH := Lib.hid h; have HKd := Lib.hid hK
    clear h hK
    gi_wp2
    refine ⟨by simp, .inl ⟨_, _, rfl, run_takeDeferred HKd.out, ?_⟩⟩
    have q1 : (W.putObj D (.deferred none)).cell? ⟨w.heap.size, 0, none⟩ = some (.slice none 0 0) := by
      have := (World.putObj_heap_other (o := .deferred none) (show w.heap.size ≠ D by omega)).trans HH.out.r1
      simpa using obj_cell this 0
    have q2 : (W.putObj D (.deferred none)).cell? ⟨w.heap.size + 1, 0, none⟩ = some (.int .i64 9) := by
      have := (World.putObj_heap_other (o := .deferred none) (show w.heap.size + 1 ≠ D by omega)).trans HH.out.r2
      simpa using obj_cell this 0
    refine ⟨_, results_cells2 rfl _ _ _ _ _ _ rfl rfl q1 q2 Tryd.isAgg23 Tryd.isAgg24, .inl ⟨?_, rfl, HH.out.bel.trans (belowK_b (Nat.le_refl _) W D _ _ (by omega) HKd.out rfl rfl)⟩⟩
    obtain ⟨suf, hsuf⟩ := hpr
    obtain ⟨p, hp, hpo⟩ := HH.out.bad
    rw [List.all_eq_false]
    refine ⟨p, ?_, by simp [hpo]⟩
    rw [← hsuf]
    unfold keepP at hp ⊢
    rw [List.filter_append]
    exact List.mem_append_left _ hp

/-- name.Parts, of any path. -/
theorem parts_calls (l : List UInt8) (w : World) (hl : l.length ≤ 1000000) : Calls Tryd.prog 6 #[.string (strB l)] w (PartsP w l) := by
  have hT : (strB l).toList = l := by rw [Lib.toList_data]; rfl
  have hsz : (strB l).size = l.length := by simp [strB, ByteArray.size]
  by_cases h1 : l = []
  · refine (parts_bad (strB l) w (.inl (by rw [hT]; exact h1))).mono ?_
    rintro e w' ⟨rfl, hb⟩
    exact .inl ⟨by unfold partsOf; rw [if_pos (.inl h1)], rfl, hb⟩
  · have hne : ¬ (strB l).toList = [] := by rw [hT]; exact h1
    by_cases h2 : 4096 < l.length
    · refine (parts_bad (strB l) w (.inr (.inl ⟨hne, by rw [hsz]; omega⟩))).mono ?_
      rintro e w' ⟨rfl, hb⟩
      exact .inl ⟨by unfold partsOf; rw [if_pos (.inr (.inl h2))], rfl, hb⟩
    · cases l with
      | nil => exact absurd rfl h1
      | cons c r =>
        have h0 : 0 < (strB (c :: r)).size := by rw [hsz]; simp
        have h00 : (strB (c :: r))[0]'h0 = c := rfl
        by_cases h3 : c = 47
        · refine (parts_bad (strB (c :: r)) w (.inr (.inr ⟨hne, by rw [hsz]; omega, h0, by rw [h00, h3]; rfl⟩))).mono ?_
          rintro e w' ⟨rfl, hb⟩
          exact .inl ⟨by unfold partsOf; rw [if_pos (.inr (.inr (by rw [h3]; rfl)))], rfl, hb⟩
        · have hp : partsOf (c :: r) = if (keepP (pieces (c :: r))).all okP then some (keepP (pieces (c :: r))) else none := by
            unfold partsOf
            rw [if_neg]
            rintro (h | h | h)
            · exact h1 h
            · exact h2 h
            · simp at h; exact h3 h
          have hq : ((((strB (c :: r))[0]'h0).toNat : Int) == 47) = false := by
            rw [h00]
            have : c.toNat ≠ 47 := fun e => h3 (UInt8.toNat_inj.1 e)
            simp; omega
          refine (parts_good (strB (c :: r)) (c :: r) w (Lib.hid rfl) (Lib.hid hl) hne (by rw [hsz]; omega) h0 hq).mono ?_
          intro e w' h
          rcases h with ⟨ha, rfl, hb⟩ | ⟨ao, cap, ha, rfl, ho, hb⟩
          · exact .inl ⟨by rw [hp, ha]; rfl, rfl, hb⟩
          · exact .inr ⟨_, ao, cap, by rw [hp, ha]; rfl, rfl, ho, hb⟩
end Go.Proofs.YtamoojalfpghhaaDoor
