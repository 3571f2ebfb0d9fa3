/-
  name.Parts: what stands between the slashes of a path.
  The document's nought and NameOk.
  Rows of texts that are read; the document's SameTexts.
  walk.Down (of the walk, what this dump has).
  Maps of sparse files on paper. No Go in sight.
-/
import Derived.Test.YtgbakogihkdddaaGreatDoorMx14
import Derived.RangeFuncBox
import Derived.Maps.AppendAt
import Derived.Deep.LoopGhost
namespace Go.Proofs.YtgbakogihkdddaaGreatDoor
open Go.RowKit Go.Shelf
set_option linter.unusedVariables false
set_option linter.unusedSimpArgs false

attribute [local go_sem] Oper.semAt_some

/-- A piece that is no part. -/
def skipP (p : List UInt8) : Bool := p.isEmpty || p == [46]
def keepP (ps : List (List UInt8)) : List (List UInt8) := ps.filter (fun p => !skipP p)
theorem keepP_snoc_skip (ps : List (List UInt8)) (p : List UInt8) (h : skipP p = true) : keepP (ps ++ [p]) = keepP ps := by simp [keepP, List.filter_append, h]
theorem keepP_snoc (ps : List (List UInt8)) (p : List UInt8) (h : skipP p = false) : keepP (ps ++ [p]) = keepP ps ++ [p] := by simp [keepP, List.filter_append, h]
def okP (p : List UInt8) : Bool := okN (strB p)
/-- The parts of a path, if it is one. -/
def partsOf (l : List UInt8) : Option (List (List UInt8)) :=
  if l = [] ∨ 4096 < l.length ∨ l.head? = some 47 then none else if (keepP (pieces l)).all okP then some (keepP (pieces l)) else none
theorem pieces_len : ∀ l, (pieces l).length ≤ l.length + 1
  | [] => by simp [pieces]
  | b :: r => by
    have ih := pieces_len r
    unfold pieces
    split
    · simp; omega
    · split
      · simp
      · rename_i h; rw [h] at ih; simp at ih ⊢; omega
def strV (p : List UInt8) : Value := .string (strB p)
theorem infoS : (Tryz.prog.info? 9).map (fun i => (i.zero, i.size, i.bytes)) = some (some (.string ⟨#[]⟩), 1, 16) := by kernel_rfl

/-- What Parts tells. -/
def PartsP (w : World) (l : List UInt8) (e : Ending) (w' : World) : Prop :=
  (partsOf l = none ∧ e = .returned (.tuple #[.slice none 0 0, .int .i64 9]) ∧ Below w.heap.size w w') ∨
  (∃ ps ao cap, partsOf l = some ps ∧ e = .returned (.tuple #[.slice ao ps.length cap, .int .i64 0]) ∧ w'.ownsRow w.heap.size 9 1 (.slice ao ps.length cap) ps.length (ps.map strV) ∧ Below w.heap.size w w')

set_option maxHeartbeats 1000000 in
theorem split_calls (s : ByteArray) (w : World) :
    Calls Tryz.prog 57 #[.string s, .string ⟨#[47]⟩] w fun e w' => e = .returned (.func (.func 97) #[] #[.pointer (some ⟨w.heap.size + 1, 0, none⟩), .pointer (some ⟨w.heap.size, 0, none⟩), .pointer (some ⟨w.heap.size + 2, 0, none⟩)]) ∧
      w' = ((w.alloc (.cells #[.string s] 9)).alloc (.cells #[.string ⟨#[47]⟩] 9)).alloc (.cells #[.int .i64 0] 3) := by
  go_enter Tryz.func57, Tryz.ntmps57
  go_wp2
  go_ret
  exact ⟨rfl, rfl⟩

theorem results_cells2 {fn : Func} {p q : Tmp} {tp tq : TypeId} (h : fn.results = #[.cell p tp, .cell q tq]) (tmps : Array Value) (w : World) (a b : Nat) (x y : Value)
    (hp : tmps.getD p undef = .pointer (some ⟨a, 0, none⟩)) (hq : tmps.getD q undef = .pointer (some ⟨b, 0, none⟩)) (cx : w.cell? ⟨a, 0, none⟩ = some x) (cy : w.cell? ⟨b, 0, none⟩ = some y)
    (ap : ∀ W, (isAgg tp).run Tryz.prog W = .ok false W) (aq : ∀ W, (isAgg tq).run Tryz.prog W = .ok false W) : (results fn tmps).run Tryz.prog w = .ok (.tuple #[x, y]) w := by
  have hp' := hp; have hq' := hq
  simp only [Array.getD_eq_getD_getElem?] at hp' hq' ⊢
  have lx : (loadVar tp ⟨a, 0, none⟩).run Tryz.prog w = .ok x w := by
    unfold loadVar
    simp [Sem.run_bind, ap, Result.andThen, run_load, cx]
  have ly : (loadVar tq ⟨b, 0, none⟩).run Tryz.prog w = .ok y w := by
    unfold loadVar
    simp [Sem.run_bind, aq, Result.andThen, run_load, cy]
  simp [results, h, hp', hq', asAddr, Sem.run_bind, Result.andThen, lx, ly]

/-- Between two rounds. -/
structure PartI (w : World) (n N : Nat) (pre : List (List UInt8)) (W : World) : Prop where
  ok : (keepP pre).all okP = true
  row : ∃ (ao : Option Addr) (cap : Nat), W.heap[n + 2]? = some (.cells #[.slice ao (keepP pre).length cap] 36 (0, 0)) ∧ W.ownsRow N 9 1 (.slice ao (keepP pre).length cap) (keepP pre).length ((keepP pre).map strV)
  r1 : W.heap[n]? = some (.cells #[.slice none 0 0] 36 (0, 0))
  r2 : W.heap[n + 1]? = some (.cells #[.int .i64 0] 29 (0, 0))
  bel : Below n w W
  big : N ≤ W.heap.size
/-- A round has left: the path is none. -/
structure PartX (w : World) (n : Nat) (pre : List (List UInt8)) (W : World) : Prop where
  bad : ∃ p ∈ keepP pre, okP p = false
  r1 : W.heap[n]? = some (.cells #[.slice none 0 0] 36 (0, 0))
  r2 : W.heap[n + 1]? = some (.cells #[.int .i64 9] 29 (0, 0))
  bel : Below n w W
theorem cells_grown {W W' : World} {row : Option Nat} {k B : Nat} {cs : Array Value} {t : TypeId} {fr : Nat × Nat} (h : W.heap[k]? = some (.cells cs t fr)) (hg : W.grownBy W' row)
    (hr : ∀ r, row = some r → B ≤ r ∧ ∃ o : Obj, W.heap[r]? = some o ∧ o.isCells = false) : W'.heap[k]? = some (.cells cs t fr) := by
  refine (hg.block k (Array.getElem?_eq_some_iff.1 h).1 ?_).trans h
  intro e
  obtain ⟨_, o, ho, hc⟩ := hr k e.symm
  rw [h] at ho
  cases ho
  cases hc
theorem row_grown {W W' : World} {row : Option Nat} {B base e m : Nat} {v : Value} {xs : List Value} (h : W.ownsRow base e 1 v m xs) (hg : W.grownBy W' row)
    (hr : ∀ r, row = some r → B ≤ r ∧ ∃ o : Obj, W.heap[r]? = some o ∧ o.isCells = false) : W'.ownsRow base e 1 v m xs := by
  refine ⟨h.1, ?_⟩
  rcases h.2 with hn | ⟨g, cap, cur, rfl, hb, hgg, rest⟩
  · exact .inl hn
  · exact .inr ⟨g, cap, cur, rfl, hb, cells_grown hgg hg hr, rest⟩
theorem partI_own (w : World) (n N B : Nat) (hn : n ≤ w.heap.size) (hB : n ≤ B) : OwnFrom B (PartI w n N) := by
  intro pre W W' row h hg hr
  obtain ⟨ao, cap, h1, h2⟩ := h.row
  exact ⟨h.ok, ⟨ao, cap, cells_grown h1 hg hr, row_grown h2 hg hr⟩, cells_grown h.r1 hg hr, cells_grown h.r2 hg hr, h.bel.grown hg (Nat.le_trans hn h.bel.size) (fun k e => Nat.le_trans hB (hr k e).1), Nat.le_trans h.big hg.size⟩
theorem partX_own (w : World) (n B : Nat) (hn : n ≤ w.heap.size) (hB : n ≤ B) : OwnFrom B (PartX w n) := by
  intro pre W W' row h hg hr
  exact ⟨h.bad, cells_grown h.r1 hg hr, cells_grown h.r2 hg hr, h.bel.grown hg (Nat.le_trans hn h.bel.size) (fun k e => Nat.le_trans hB (hr k e).1)⟩
theorem keeps_below {W W' : World} (h : Below W.heap.size W W') : KeepsOthers W W' := ⟨h.size, fun k o hk _ => (h.block k (Array.getElem?_eq_some_iff.1 hk).1).trans hk⟩
theorem PartI.kept {w W W' : World} {n N : Nat} {pre : List (List UInt8)} (h : PartI w n N pre W) (hk : Kept NoB W W') (hn : n ≤ w.heap.size) : PartI w n N pre W' := by
  obtain ⟨ao, cap, h1, h2⟩ := h.row
  exact ⟨h.ok, ⟨ao, cap, hk.obj h1 (fun h => h), hk.row h2 (fun _ _ h => h)⟩, hk.obj h.r1 (fun h => h), hk.obj h.r2 (fun h => h),
    ⟨hk.os.trans h.bel.os, hk.tape.trans h.bel.tape, hk.output.trans h.bel.output, Nat.le_trans h.bel.size hk.size, fun i hi => (hk.block i (Nat.lt_of_lt_of_le hi (Nat.le_trans hn h.bel.size)) (fun h => h)).trans (h.bel.block i hi)⟩, Nat.le_trans h.big hk.size⟩

theorem bad_world (w : World) : ∃ W, W = (w.alloc (.cells #[.slice none 0 0] 36)).alloc (.cells #[.int .i64 9] 29) ∧ W.cell? ⟨w.heap.size, 0, none⟩ = some (.slice none 0 0) ∧ W.cell? ⟨w.heap.size + 1, 0, none⟩ = some (.int .i64 9) ∧ Below w.heap.size w W := by
  refine ⟨_, rfl, ?_, ?_, ((Below.refl _ w).alloc (Nat.le_refl _) _).alloc (by simp) _⟩
  · rw [cell_of_row _ _ 0 _ _ _ ((Below.heap_alloc _ _ _ (by simp)).trans (World.alloc_heap_new w _))]; rfl
  · have h := World.alloc_heap_new (w.alloc (.cells #[.slice none 0 0] 36)) (.cells #[.int .i64 9] 29)
    rw [World.size_alloc] at h
    rw [cell_of_row _ _ 0 _ _ _ h]; rfl

theorem split_calls2 (s : ByteArray) (w : World) :
    Calls Tryz.prog 57 #[.string s, .string ⟨#[47]⟩] w fun e w' => ∃ b1 b2 b3, e = .returned (.func (.func 97) #[] #[.pointer (some ⟨b1, 0, none⟩), .pointer (some ⟨b2, 0, none⟩), .pointer (some ⟨b3, 0, none⟩)]) ∧
      SeqB w' b1 b2 b3 s ∧ (b1 ≠ b2 ∧ b3 ≠ b2) ∧ (w.heap.size ≤ b1 ∧ w.heap.size ≤ b2 ∧ w.heap.size ≤ b3) ∧ (b1 < w'.heap.size ∧ b2 < w'.heap.size ∧ b3 < w'.heap.size) ∧ Kept NoB w w' := by
  refine (split_calls s w).mono ?_
  rintro e w' ⟨rfl, rfl⟩
  refine ⟨_, _, _, rfl, ⟨?_, ?_, ?_⟩, ⟨by omega, by omega⟩, ⟨by omega, by omega, by omega⟩, ⟨by simp, by simp; omega, by simp⟩, (((Kept.refl NoB w).alloc _).alloc _).alloc _⟩
  · have h := World.alloc_heap_new (w.alloc (.cells #[.string s] 9)) (.cells #[.string ⟨#[47]⟩] 9)
    rw [World.size_alloc] at h
    exact (Below.heap_alloc _ _ _ (by simp)).trans h
  · exact (Below.heap_alloc _ _ _ (by simp; omega)).trans ((Below.heap_alloc _ _ _ (by simp)).trans (World.alloc_heap_new w _))
  · have h := World.alloc_heap_new ((w.alloc (.cells #[.string s] 9)).alloc (.cells #[.string ⟨#[47]⟩] 9)) (.cells #[.int .i64 0] 3)
    rw [World.size_alloc, World.size_alloc] at h
    exact h
theorem start_world (w : World) : ∃ W, W = ((w.alloc (.cells #[.slice none 0 0] 36)).alloc (.cells #[.int .i64 0] 29)).alloc (.cells #[.slice none 0 0] 36) ∧ W.heap[w.heap.size]? = some (.cells #[.slice none 0 0] 36 (0, 0)) ∧
    W.heap[w.heap.size + 1]? = some (.cells #[.int .i64 0] 29 (0, 0)) ∧ W.heap[w.heap.size + 2]? = some (.cells #[.slice none 0 0] 36 (0, 0)) ∧ Below w.heap.size w W ∧ W.heap.size = w.heap.size + 3 := by
  refine ⟨_, rfl, ?_, ?_, ?_, (((Below.refl _ w).alloc (Nat.le_refl _) _).alloc (by simp) _).alloc (by simp; omega) _, by simp⟩
  · exact (Below.heap_alloc _ _ _ (by simp; omega)).trans ((Below.heap_alloc _ _ _ (by simp)).trans (World.alloc_heap_new w _))
  · have h := World.alloc_heap_new (w.alloc (.cells #[.slice none 0 0] 36)) (.cells #[.int .i64 0] 29)
    rw [World.size_alloc] at h
    exact (Below.heap_alloc _ _ _ (by simp)).trans h
  · have h := World.alloc_heap_new ((w.alloc (.cells #[.slice none 0 0] 36)).alloc (.cells #[.int .i64 0] 29)) (.cells #[.slice none 0 0] 36)
    rw [World.size_alloc, World.size_alloc] at h
    exact h

set_option maxRecDepth 20000 in
set_option maxHeartbeats 4000000 in
theorem parts_bad (S : ByteArray) (w : World) (h : S.toList = [] ∨ (¬ S.toList = [] ∧ (4096 : Int) < (S.size : Int)) ∨ (¬ S.toList = [] ∧ ¬ (4096 : Int) < (S.size : Int) ∧ ∃ h0 : 0 < S.size, (((S[0]'h0).toNat : Int) == 47) = true)) :
    Calls Tryz.prog 32 #[.string S] w fun e w' => e = .returned (.tuple #[.slice none 0 0, .int .i64 9]) ∧ Below w.heap.size w w' := by
  refine callsIn_wide.1 (callsIn_of_wp_marks (n := 3) Tryz.func32 rfl trivial ?_ rfl)
  simp only [Tryz.ntmps32, List.size_toArray, List.length_cons, List.length_nil, Nat.reduceAdd, Nat.reduceSub, Array.replicate_succ, Array.replicate_zero, List.push_toArray, List.append_toArray, List.nil_append, List.cons_append]
  rcases h with h | ⟨h1, h2⟩ | ⟨h1, h2, h0, h3⟩
  · skip
    gi_wp2
    obtain ⟨W, hW, c1, c2, c3⟩ := bad_world w
    rw [← hW]
    exact ⟨_, results_cells2 rfl _ _ _ _ _ _ rfl rfl c1 c2 Tryz.isAgg36 Tryz.isAgg29, rfl, c3⟩
  · skip
    gi_wp2
    obtain ⟨W, hW, c1, c2, c3⟩ := bad_world w
    rw [← hW]
    exact ⟨_, results_cells2 rfl _ _ _ _ _ _ rfl rfl c1 c2 Tryz.isAgg36 Tryz.isAgg29, rfl, c3⟩
  · have h4 : (0 : Int) < (S.size : Int) := by omega
    gi_wp2
    obtain ⟨W, hW, c1, c2, c3⟩ := bad_world w
    rw [← hW]
    exact ⟨_, results_cells2 rfl _ _ _ _ _ _ rfl rfl c1 c2 Tryz.isAgg36 Tryz.isAgg29, rfl, c3⟩

/-- What Parts tells of a path that does not begin with a slash. -/
def GoodR (w : World) (bs : List UInt8) (e : Ending) (w' : World) : Prop :=
  ((keepP (pieces bs)).all okP = false ∧ e = .returned (.tuple #[.slice none 0 0, .int .i64 9]) ∧ Below w.heap.size w w') ∨
      (∃ ao cap, (keepP (pieces bs)).all okP = true ∧ e = .returned (.tuple #[.slice ao (keepP (pieces bs)).length cap, .int .i64 0]) ∧ w'.ownsRow w.heap.size 9 1 (.slice ao (keepP (pieces bs)).length cap) (keepP (pieces bs)).length ((keepP (pieces bs)).map strV) ∧ Below w.heap.size w w')
set_option maxRecDepth 20000 in
set_option maxHeartbeats 4000000 in
theorem parts_good (S : ByteArray) (bs : List UInt8) (w : World) (hS : Hid (S = strB bs)) (hl : Hid (bs.length ≤ 1000000)) (h1 : ¬ S.toList = []) (h2 : ¬ (4096 : Int) < (S.size : Int)) (h0 : 0 < S.size) (h3 : (((S[0]'h0).toNat : Int) == 47) = false) :
    Calls Tryz.prog 32 #[.string S] w (GoodR w bs) := by
  refine callsIn_wide.1 (callsIn_of_wp_marks (n := 3) Tryz.func32 rfl trivial ?_ rfl)
  simp only [Tryz.ntmps32, List.size_toArray, List.length_cons, List.length_nil, Nat.reduceAdd, Nat.reduceSub, Array.replicate_succ, Array.replicate_zero, List.push_toArray, List.append_toArray, List.nil_append, List.cons_append]
  have h4 : (0 : Int) < (S.size : Int) := by omega
  have hE : S.toList.isEmpty = false := by simpa using h1
  obtain ⟨w3, hw3, g1, g2, g3, g4, g5⟩ := start_world w
  gi_wp2_with (refine ⟨trivial, ?_⟩; gi_at_call 57; rw [← hw3]; refine (callsIn_wide.2 (split_calls2 _ _)).mono ?_; rintro e w6 ⟨b1, b2, b3, rfl, hB, hne, hge, hlt, hk⟩)
  obtain ⟨N, hN⟩ : ∃ N, N = w6.heap.size := ⟨_, rfl⟩
  have hN2 := hN
  have hs6 := hk.size
  have hbl : bs.length ≤ 1000000 := hl.out
  have hB' : SeqB w6 b1 b2 b3 (strB bs) := by rw [← hS.out]; exact hB
  have hI0 : PartI w w.heap.size N [] w6 := ⟨rfl, ⟨none, 0, hk.obj g3 (fun h => h), World.ownsRow_nil _ _ _ _⟩, hk.obj g1 (fun h => h), hk.obj g2 (fun h => h), g4.trans (Below.mono ⟨hk.os, hk.tape, hk.output, hk.size, fun i hi => hk.block i hi (fun h => h)⟩ (by omega)), by rw [hN]; exact Nat.le_refl _⟩
  have hNw : w.heap.size + 3 ≤ N := by omega
  have hb2 : w.heap.size + 3 ≤ b2 ∧ b2 < N := by omega
  have hb1 : w.heap.size + 3 ≤ b1 ∧ b1 < N := by omega
  have hb3 : w.heap.size + 3 ≤ b3 ∧ b3 < N := by omega
  have HI0 := Lib.hid hI0; have HB' := Lib.hid hB'
  obtain ⟨i0, hi, hz0, hz1, hz2⟩ := info_parts infoS
  have hw6 : w.heap.size + 3 ≤ w6.heap.size := by omega
  clear hI0 hB' hB hk hs6 g1 g2 g3 g4 g5 hw3 hge hlt hN hN2
  refine range_seq b1 b2 b3 bs rfl hne HB'.out hbl (PartI w w.heap.size N) (PartX w w.heap.size) (partI_own w _ N _ (Nat.le_refl _) (by omega)) (partX_own w _ _ (Nat.le_refl _) (by omega)) ?_ HI0.out
    (fun x => { tmps := #[.string S, undef, .pointer (some ⟨w.heap.size, 0, none⟩), .pointer (some ⟨w.heap.size + 1, 0, none⟩), .pointer (some ⟨w.heap.size + 1 + 1, 0, none⟩), .string (strB x), .string S, .bool false, .bool false, .string S, .int .i64 (S.size : Int), .bool false, .bool false, .bool false, .string S,
      .int .u8 ((S[0]'h0).toNat : Int), .bool false, .bool false, .string S, .func (.func 97) #[] #[.pointer (some ⟨b1, 0, none⟩), .pointer (some ⟨b2, 0, none⟩), .pointer (some ⟨b3, 0, none⟩)], .string (strB x),
      undef, undef, undef, undef, undef, undef, undef, undef, undef, undef, undef, undef, undef, undef], defers := [] }) ?assign ?body ?done ?stop
  · intro pre W v h
    obtain ⟨ao, cap, r1, r2⟩ := h.row
    refine ⟨h.ok, ⟨ao, cap, (Below.heap_setCell _ _ _ _ (by show _ ≠ b2; omega)).trans r1, ?_⟩, (Below.heap_setCell _ _ _ _ (by show _ ≠ b2; omega)).trans h.r1, (Below.heap_setCell _ _ _ _ (by show _ ≠ b2; omega)).trans h.r2, h.bel.trans ((Below.refl _ W).setCell (p := ⟨b2, 0, none⟩) (by show _ ≤ b2; omega) _), by have := h.big; simpa using this⟩
    refine ⟨r2.1, ?_⟩
    rcases r2.2 with hn | ⟨g, c2, cur, hv, hb, hgg, rest⟩
    · exact .inl hn
    · exact .inr ⟨g, c2, cur, hv, hb, (Below.heap_setCell _ _ _ _ (by show g ≠ b2; omega)).trans hgg, rest⟩
  case assign =>
    intro l x W K hK
    gi_wp2
    exact hK
  case body =>
    intro l pre x W hI hfew hxl
    have hpl := pieces_len bs
    have hkl : (keepP pre).length ≤ pre.length := List.length_filter_le _ _
    have hT : (strB x).toList = x := by rw [Lib.toList_data]; rfl
    have HI := Lib.hid hI
    by_cases hx0 : x = []
    · have e1 : (strB x).toList = [] := by rw [hT, hx0]
      have HF : Hid (∀ a, bodyEnd b1 b2 b3 (PartI w w.heap.size N) (PartX w w.heap.size) (pre ++ [x]) W .normal a W) := Lib.hid fun a => ⟨KeepsOthers.refl _, fun _ h => h, by
        have hk := keepP_snoc_skip pre x (by rw [hx0]; rfl)
        obtain ⟨ao, cap, r1, r2⟩ := hI.row
        exact ⟨by rw [hk]; exact hI.ok, by rw [hk]; exact ⟨ao, cap, r1, r2⟩, hI.r1, hI.r2, hI.bel, hI.big⟩⟩
      clear hT hx0 hI
      gi_wp2
      exact HF.out _
    · by_cases hx1 : x = [46]
      · have e1 : (strB x).toList = [46] := by rw [hT, hx1]
        have HF : Hid (∀ a, bodyEnd b1 b2 b3 (PartI w w.heap.size N) (PartX w w.heap.size) (pre ++ [x]) W .normal a W) := Lib.hid fun a => ⟨KeepsOthers.refl _, fun _ h => h, by
          have hk := keepP_snoc_skip pre x (by rw [hx1]; rfl)
          obtain ⟨ao, cap, r1, r2⟩ := hI.row
          exact ⟨by rw [hk]; exact hI.ok, by rw [hk]; exact ⟨ao, cap, r1, r2⟩, hI.r1, hI.r2, hI.bel, hI.big⟩⟩
        clear hT hx1 hI
        gi_wp2
        exact HF.out _
      · have e0 : ¬ (strB x).toList = [] := by rw [hT]; exact hx0
        have e1 : ¬ (strB x).toList = [46] := by rw [hT]; exact hx1
        have e2 : (strB x).toList.isEmpty = false := by simpa using e0
        have e3 : ((strB x).toList == [46]) = false := by simpa using e1
        have hsk : skipP x = false := by
          unfold skipP
          have a1 : x.isEmpty = false := by cases x with | nil => exact absurd rfl hx0 | cons _ _ => rfl
          have a2 : (x == [46]) = false := by simpa using hx1
          rw [a1, a2]; rfl
        have hk := keepP_snoc pre x hsk
        have HK := Lib.hid hk
        have hxs : (strB x).size = x.length := by simp [strB, ByteArray.size]
        have HOk := Lib.hid (ok_calls (strB x) W (by omega))
        clear hxs
        obtain ⟨o, ho⟩ : ∃ o, o = okN (strB x) := ⟨_, rfl⟩
        rw [← ho] at HOk
        have HO := Lib.hid ho
        clear hT hx0 hx1 hI hk ho hsk
        cases o with
        | false =>
          gi_wp2_with fail
          refine ⟨trivial, ?_⟩
          refine (CallsIn.inRound l (callsIn_wide.2 HOk.out)).mono ?_
          rintro e W2 ⟨rfl, hb2⟩
          have hI2 := HI.out.kept (Kept.ofBelow (Kept.refl NoB W) hb2) (Nat.le_refl _)
          have d1 : W2.cell? ⟨w.heap.size, 0, none⟩ = some (.slice none 0 0) := by simpa using obj_cell hI2.r1 0
          have d2 : W2.cell? ⟨w.heap.size + 1, 0, none⟩ = some (.int .i64 0) := by simpa using obj_cell hI2.r2 0
          have f1 : W2.frozen? ⟨w.heap.size, 0, none⟩ = false := obj_free hI2.r1 0
          have f2 : W2.frozen? ⟨w.heap.size + 1, 0, none⟩ = false := obj_free hI2.r2 0
          have HI2 := Lib.hid hI2
          have HB2 := Lib.hid hb2
          clear hI2 hb2
          gi_wp2
          have r1' : (W2.setCell ⟨w.heap.size, 0, none⟩ (.slice none 0 0)).heap[w.heap.size]? = some (.cells #[.slice none 0 0] 36 (0, 0)) := by simpa using obj_set HI2.out.r1 0 (.slice none 0 0)
          have r2' : (W2.setCell ⟨w.heap.size, 0, none⟩ (.slice none 0 0)).heap[w.heap.size + 1]? = some (.cells #[.int .i64 0] 29 (0, 0)) := (Below.heap_setCell _ _ _ _ (by show _ ≠ w.heap.size; omega)).trans HI2.out.r2
          refine ⟨((keeps_below HB2.out).trans (KeepsOthers.setCell _ _ _)).trans (KeepsOthers.setCell _ _ _), ⟨x, by rw [HK.out]; simp, HO.out.symm⟩, ?_, ?_, ?_⟩
          · exact (Below.heap_setCell _ _ _ _ (by show _ ≠ w.heap.size + 1; omega)).trans r1'
          · simpa using obj_set r2' 0 (.int .i64 9)
          · exact (HI2.out.bel.setCell (p := ⟨w.heap.size, 0, none⟩) (Nat.le_refl _) _).setCell (p := ⟨w.heap.size + 1, 0, none⟩) (by show _ ≤ w.heap.size + 1; omega) _
        | true =>
          gi_wp2_with fail
          refine ⟨trivial, ?_⟩
          refine (CallsIn.inRound l (callsIn_wide.2 HOk.out)).mono ?_
          rintro e W2 ⟨rfl, hb2⟩
          have hI2 := HI.out.kept (Kept.ofBelow (Kept.refl NoB W) hb2) (Nat.le_refl _)
          obtain ⟨ao, cap, c1, c2⟩ := hI2.row
          have hbig := hI2.big
          have d1 : W2.cell? ⟨w.heap.size + 1 + 1, 0, none⟩ = some (.slice ao (keepP pre).length cap) := by simpa using obj_cell c1 0
          have f1 : W2.frozen? ⟨w.heap.size + 1 + 1, 0, none⟩ = false := obj_free c1 0
          obtain ⟨K, hKe⟩ : ∃ K, K = (keepP pre).length := ⟨_, rfl⟩
          rw [← hKe] at d1 c1 c2 hkl
          have HKe := Lib.hid hKe
          have HI2 := Lib.hid hI2
          have HB2 := Lib.hid hb2
          have HRow := Lib.hid (c2.alloc (.cells #[.string (strB x)] 9))
          have HC1 := Lib.hid c1
          clear hI2 hb2 c2 hKe c1
          gi_wp2_with (gi_at_builtin; refine wpListIn_append_own _ rfl _ _ 36 rfl N 9 i0 (.string ⟨#[]⟩) 1 16 Tryz.underlying36 hi hz0 hz1 hz2 rfl (by decide) _ K _ rfl HRow.out ⟨W2.heap.size, 0, none⟩ 1 1 [.string (strB x)] rfl rfl (cell_one_new _ _ _) (by simp [Value.oneCell']) (by unfold maxLen; omega) (by omega) (by simp; omega) ?_)
          intro v' W3 hown' hgrow _
          obtain ⟨g', cap', rfl⟩ := ownsRow_succ hown'
          have hrb : ∀ k, (Value.slice ao K cap).ownBlock = some k → N ≤ k ∧ ∃ cs t, (W2.alloc (.cells #[.string (strB x)] 9)).heap[k]? = some (.cells cs t (0, 0)) := by
            intro k hk
            rcases HRow.out.2 with ⟨hv, _⟩ | ⟨g, c3, cur, hv, hb, hgg, _⟩
            · rw [hv] at hk; simp [Value.ownBlock] at hk
            · rw [hv] at hk; simp [Value.ownBlock] at hk; subst hk; exact ⟨hb, cur, _, hgg⟩
          have hblk : ∀ k, k < N → W3.heap[k]? = W2.heap[k]? := by
            intro k hk
            have hk2 : k < W2.heap.size := by omega
            refine (hgrow.block k (by simp; omega) ?_).trans (Below.heap_alloc _ _ _ hk2)
            intro e
            have := (hrb k e.symm).1
            omega
          have hg'N : N ≤ g' := (hown'.lt g' rfl).1
          have hsz3 := hgrow.size
          have c3 : W3.heap[w.heap.size + 2]? = some (.cells #[.slice ao K cap] 36 (0, 0)) := (hblk _ (by omega)).trans HC1.out
          have d3 : W3.cell? ⟨w.heap.size + 1 + 1, 0, none⟩ = some (.slice ao K cap) := by simpa using obj_cell c3 0
          have f3 : W3.frozen? ⟨w.heap.size + 1 + 1, 0, none⟩ = false := obj_free c3 0
          have HF : Hid (∀ a, bodyEnd b1 b2 b3 (PartI w w.heap.size N) (PartX w w.heap.size) (pre ++ [x]) W .normal a (W3.setCell ⟨w.heap.size + 1 + 1, 0, none⟩ (.slice (some ⟨g', 0, none⟩) (K + 1) cap'))) := Lib.hid fun a => by
            refine ⟨?_, ?_, ?_⟩
            · refine ((keeps_below HB2.out).trans ?_).trans (KeepsOthers.setCell _ _ _)
              refine (KeepsOthers.alloc W2 _).trans (KeepsOthers.of_grownBy hgrow ?_)
              intro j o hj ho
              obtain ⟨_, cs, t, hc⟩ := hrb j hj
              rw [hc] at ho
              cases ho
              rfl
            · intro s h
              have hw : ∀ k (o : Obj), k < N → W.heap[k]? = some o → k ≠ w.heap.size + 2 → (W3.setCell ⟨w.heap.size + 1 + 1, 0, none⟩ (.slice (some ⟨g', 0, none⟩) (K + 1) cap')).heap[k]? = some o := fun k o hk ho hne => by
                refine (Below.heap_setCell _ _ _ _ (by show k ≠ w.heap.size + 1 + 1; omega)).trans ((hblk k hk).trans ((HB2.out.block k (Array.getElem?_eq_some_iff.1 ho).1).trans ho))
              exact ⟨hw _ _ hb1.2 h.sep (by omega), hw _ _ hb2.2 h.str (by omega), hw _ _ hb3.2 h.save (by omega)⟩
            · have hok : okP x = true := HO.out.symm
              refine ⟨?_, ⟨some ⟨g', 0, none⟩, cap', ?_, ?_⟩, ?_, ?_, ?_, ?_⟩
              · rw [HK.out, List.all_append, HI2.out.ok]; simp [hok]
              · have := obj_set c3 0 (.slice (some ⟨g', 0, none⟩) (K + 1) cap')
                rw [HK.out, List.length_append, ← HKe.out]
                simpa using this
              · rw [HK.out, List.length_append, ← HKe.out, List.map_append]
                refine ⟨by simpa using hown'.1, ?_⟩
                rcases hown'.2 with ⟨hv, _⟩ | ⟨g, c4, cur, hv, hb, hgg, rest⟩
                · cases hv
                · simp at hv
                  obtain ⟨rfl, rfl⟩ := hv
                  exact .inr ⟨g', cap', cur, rfl, hb, (Below.heap_setCell _ _ _ _ (by show g' ≠ w.heap.size + 1 + 1; omega)).trans hgg, rest⟩
              · exact (Below.heap_setCell _ _ _ _ (by show w.heap.size ≠ w.heap.size + 1 + 1; omega)).trans ((hblk _ (by omega)).trans HI2.out.r1)
              · exact (Below.heap_setCell _ _ _ _ (by show w.heap.size + 1 ≠ w.heap.size + 1 + 1; omega)).trans ((hblk _ (by omega)).trans HI2.out.r2)
              · exact ((HI2.out.bel.alloc (HI2.out.bel.size) _).grown hgrow (by simp; have := HI2.out.bel.size; omega) (fun k e => by have := (hrb k e).1; omega)).setCell (p := ⟨w.heap.size + 1 + 1, 0, none⟩) (by show _ ≤ w.heap.size + 1 + 1; omega) _
              · have := HI2.out.big
                simp at hsz3 ⊢
                omega
          clear hrb hblk hsz3 hown' hgrow c3
          gi_wp2
          exact HF.out _
  case done =>
    intro D W hD h hK
    obtain ⟨ao, cap, c1, c2⟩ := h.row
    have d1 : W.cell? ⟨w.heap.size + 1 + 1, 0, none⟩ = some (.slice ao (keepP (pieces bs)).length cap) := by simpa using obj_cell c1 0
    have d2 : W.cell? ⟨w.heap.size, 0, none⟩ = some (.slice none 0 0) := by simpa using obj_cell h.r1 0
    have f2 : W.frozen? ⟨w.heap.size, 0, none⟩ = false := obj_free h.r1 0
    have d3 : W.cell? ⟨w.heap.size + 1, 0, none⟩ = some (.int .i64 0) := by simpa using obj_cell h.r2 0
    have f3 : W.frozen? ⟨w.heap.size + 1, 0, none⟩ = false := obj_free h.r2 0
    have HH := Lib.hid h; have HC2 := Lib.hid c2; have HKd := Lib.hid hK
    clear h c2 c1 hK
    gi_wp2
    obtain ⟨V, hV⟩ : ∃ V, V = (W.setCell ⟨w.heap.size, 0, none⟩ (.slice ao (keepP (pieces bs)).length cap)).setCell ⟨w.heap.size + 1, 0, none⟩ (.int .i64 0) := ⟨_, rfl⟩
    have hVk : ∀ k, k ≠ w.heap.size → k ≠ w.heap.size + 1 → V.heap[k]? = W.heap[k]? := fun k h1 h2 => by
      rw [hV]
      exact (Below.heap_setCell _ _ _ _ (by show k ≠ w.heap.size + 1; exact h2)).trans (Below.heap_setCell _ _ _ _ (by show k ≠ w.heap.size; exact h1))
    have hr1 : V.heap[w.heap.size]? = some (.cells #[.slice ao (keepP (pieces bs)).length cap] 36 (0, 0)) := by
      rw [hV]
      refine (Below.heap_setCell _ _ _ _ (by show w.heap.size ≠ w.heap.size + 1; omega)).trans ?_
      simpa using obj_set HH.out.r1 0 (.slice ao (keepP (pieces bs)).length cap)
    have hr2 : V.heap[w.heap.size + 1]? = some (.cells #[.int .i64 0] 29 (0, 0)) := by
      rw [hV]
      have h2 : (W.setCell ⟨w.heap.size, 0, none⟩ (.slice ao (keepP (pieces bs)).length cap)).heap[w.heap.size + 1]? = some (.cells #[.int .i64 0] 29 (0, 0)) := (Below.heap_setCell _ _ _ _ (by show w.heap.size + 1 ≠ w.heap.size; omega)).trans HH.out.r2
      simpa using obj_set h2 0 (.int .i64 0)
    have hVD : V.heap[D]? = some (.deferred (some [])) := (hVk D (by omega) (by omega)).trans HKd.out
    have hVb : Below w.heap.size w V := by
      rw [hV]
      exact (HH.out.bel.setCell (p := ⟨w.heap.size, 0, none⟩) (Nat.le_refl _) _).setCell (p := ⟨w.heap.size + 1, 0, none⟩) (by show _ ≤ w.heap.size + 1; omega) _
    rw [← hV]
    refine ⟨by simp, .inl ⟨_, _, rfl, run_takeDeferred hVD, ?_⟩⟩
    have q1 : (V.putObj D (.deferred none)).cell? ⟨w.heap.size, 0, none⟩ = some (.slice ao (keepP (pieces bs)).length cap) := by
      have := (World.putObj_heap_other (o := .deferred none) (show w.heap.size ≠ D by omega)).trans hr1
      simpa using obj_cell this 0
    have q2 : (V.putObj D (.deferred none)).cell? ⟨w.heap.size + 1, 0, none⟩ = some (.int .i64 0) := by
      have := (World.putObj_heap_other (o := .deferred none) (show w.heap.size + 1 ≠ D by omega)).trans hr2
      simpa using obj_cell this 0
    refine ⟨_, results_cells2 rfl _ _ _ _ _ _ rfl rfl q1 q2 Tryz.isAgg36 Tryz.isAgg29, .inr ⟨ao, cap, HH.out.ok, rfl, ?_, hVb.trans (belowK_b (Nat.le_refl _) V D _ _ (by omega) hVD rfl rfl)⟩⟩
    refine ⟨HC2.out.1, ?_⟩
    rcases HC2.out.2 with hn | ⟨g, c4, cur, hv, hb, hgg, rest⟩
    · exact .inl hn
    · refine .inr ⟨g, c4, cur, hv, by omega, ?_, rest⟩
      have hgD : g ≠ D := by
        intro e
        rw [e, HKd.out] at hgg
        cases hgg
      exact (World.putObj_heap_other hgD).trans ((hVk g (by omega) (by omega)).trans hgg)
  case stop =>
    intro D pre W hD hpr h hK
    have d2 : W.cell? ⟨w.heap.size, 0, none⟩ = some (.slice none 0 0) := by simpa using obj_cell h.r1 0
    have d3 : W.cell? ⟨w.heap.size + 1, 0, none⟩ = some (.int .i64 9) := by simpa using obj_cell h.r2 0
    have HH := Lib.hid h; have HKd := Lib.hid hK
    clear h hK
    gi_wp2
    refine ⟨by simp, .inl ⟨_, _, rfl, run_takeDeferred HKd.out, ?_⟩⟩
    have q1 : (W.putObj D (.deferred none)).cell? ⟨w.heap.size, 0, none⟩ = some (.slice none 0 0) := by
      have := (World.putObj_heap_other (o := .deferred none) (show w.heap.size ≠ D by omega)).trans HH.out.r1
      simpa using obj_cell this 0
    have q2 : (W.putObj D (.deferred none)).cell? ⟨w.heap.size + 1, 0, none⟩ = some (.int .i64 9) := by
      have := (World.putObj_heap_other (o := .deferred none) (show w.heap.size + 1 ≠ D by omega)).trans HH.out.r2
      simpa using obj_cell this 0
    refine ⟨_, results_cells2 rfl _ _ _ _ _ _ rfl rfl q1 q2 Tryz.isAgg36 Tryz.isAgg29, .inl ⟨?_, rfl, HH.out.bel.trans (belowK_b (Nat.le_refl _) W D _ _ (by omega) HKd.out rfl rfl)⟩⟩
    obtain ⟨suf, hsuf⟩ := hpr
    obtain ⟨p, hp, hpo⟩ := HH.out.bad
    rw [List.all_eq_false]
    refine ⟨p, ?_, by simp [hpo]⟩
    rw [← hsuf]
    unfold keepP at hp ⊢
    rw [List.filter_append]
    exact List.mem_append_left _ hp

/-- name.Parts, of any path. -/
theorem parts_calls (l : List UInt8) (w : World) (hl : l.length ≤ 1000000) : Calls Tryz.prog 32 #[.string (strB l)] w (PartsP w l) := by
  have hT : (strB l).toList = l := by rw [Lib.toList_data]; rfl
  have hsz : (strB l).size = l.length := by simp [strB, ByteArray.size]
  by_cases h1 : l = []
  · refine (parts_bad (strB l) w (.inl (by rw [hT]; exact h1))).mono ?_
    rintro e w' ⟨rfl, hb⟩
    exact .inl ⟨by unfold partsOf; rw [if_pos (.inl h1)], rfl, hb⟩
  · have hne : ¬ (strB l).toList = [] := by rw [hT]; exact h1
    by_cases h2 : 4096 < l.length
    · refine (parts_bad (strB l) w (.inr (.inl ⟨hne, by rw [hsz]; omega⟩))).mono ?_
      rintro e w' ⟨rfl, hb⟩
      exact .inl ⟨by unfold partsOf; rw [if_pos (.inr (.inl h2))], rfl, hb⟩
    · cases l with
      | nil => exact absurd rfl h1
      | cons c r =>
        have h0 : 0 < (strB (c :: r)).size := by rw [hsz]; simp
        have h00 : (strB (c :: r))[0]'h0 = c := rfl
        by_cases h3 : c = 47
        · refine (parts_bad (strB (c :: r)) w (.inr (.inr ⟨hne, by rw [hsz]; omega, h0, by rw [h00, h3]; rfl⟩))).mono ?_
          rintro e w' ⟨rfl, hb⟩
          exact .inl ⟨by unfold partsOf; rw [if_pos (.inr (.inr (by rw [h3]; rfl)))], rfl, hb⟩
        · have hp : partsOf (c :: r) = if (keepP (pieces (c :: r))).all okP then some (keepP (pieces (c :: r))) else none := by
            unfold partsOf
            rw [if_neg]
            rintro (h | h | h)
            · exact h1 h
            · exact h2 h
            · simp at h; exact h3 h
          have hq : ((((strB (c :: r))[0]'h0).toNat : Int) == 47) = false := by
            rw [h00]
            have : c.toNat ≠ 47 := fun e => h3 (UInt8.toNat_inj.1 e)
            simp; omega
          refine (parts_good (strB (c :: r)) (c :: r) w (Lib.hid rfl) (Lib.hid hl) hne (by rw [hsz]; omega) h0 hq).mono ?_
          intro e w' h
          rcases h with ⟨ha, rfl, hb⟩ | ⟨ao, cap, ha, rfl, ho, hb⟩
          · exact .inl ⟨by rw [hp, ha]; rfl, rfl, hb⟩
          · exact .inr ⟨_, ao, cap, by rw [hp, ha]; rfl, rfl, ho, hb⟩
end Go.Proofs.YtgbakogihkdddaaGreatDoor

namespace Go.Proofs.YtgbakogihkdddaaGreatDoor
open Go.RowKit Go.Shelf
set_option linter.unusedVariables false
set_option linter.unusedSimpArgs false

theorem toNat_eq (x : UInt8) (n : Nat) (h : n < 256) : ((x.toNat : Int) == (n : Int)) = (x == UInt8.ofNat n) := by
  rw [Bool.eq_iff_iff]
  simp only [beq_iff_eq]
  constructor
  · intro e
    have : x.toNat = n := by omega
    apply UInt8.toNat.inj
    rw [this]; simp; omega
  · rintro rfl
    simp; omega

/-- A text has a nought. -/
def noughtL (l : List UInt8) : Bool := l.any (· == 0)
theorem drop_step (s : ByteArray) (k : Nat) (h : k < s.size) : s.data.toList.drop k = (s[k]'h) :: s.data.toList.drop (k + 1) := by
  have h2 : k < s.data.toList.length := by rw [Array.length_toList]; exact h
  rw [List.drop_eq_getElem_cons h2]
  rfl

/-- A byte that may be in no name. -/
def badB (b : UInt8) : Bool := b == 0 || b == 47
theorem badB_in (b : UInt8) : ([47, 0] : List UInt8).contains b = badB b := by
  simp [badB, List.contains_cons, Bool.or_comm]
  rfl
theorem indexAny_bad : ∀ l : List UInt8, decide (0 ≤ Lib.indexAny l [47, 0]) = l.any badB
  | [] => rfl
  | b :: l => by
    have ih := indexAny_bad l
    have hge := Lib.indexAny_ge [47, 0] l
    rw [Lib.indexAny, badB_in, List.any_cons]
    cases hb : badB b with
    | true => rfl
    | false =>
      rw [Bool.false_or, ← ih]
      rw [if_neg Bool.false_ne_true]
      by_cases h : Lib.indexAny l [47, 0] = -1
      · rw [h]; rfl
      · have : (Lib.indexAny l [47, 0] == -1) = false := by simpa using h
        rw [this]
        simp only [Bool.false_eq_true, if_false]
        rw [decide_eq_decide]
        omega
end Go.Proofs.YtgbakogihkdddaaGreatDoor

namespace Go.Proofs.YtgbakogihkdddaaGreatDoor
open Go.RowKit Go.Shelf
set_option linter.unusedVariables false
set_option linter.unusedSimpArgs false

theorem cells_str : Tryz.prog.cellsOf 9 = 1 := by kernel_rfl
/-- A slice of texts reads as ps. -/
def RdS (w : World) (B : Nat) (ao : Option Addr) (ps : List (List UInt8)) : Prop :=
  ∀ i, i < ps.length → ∃ g off, ao = some ⟨g, off, none⟩ ∧ g < B ∧ w.cell? ⟨g, off + i, none⟩ = some (.string (strB (ps.getD i [])))
theorem RdS.kept {S : Nat → Prop} {w w' : World} {B : Nat} {ao : Option Addr} {ps : List (List UInt8)} (h : RdS w B ao ps) (hk : Kept S w w') (hs : ∀ k, k < B → ¬ S k) : RdS w' B ao ps := by
  intro i hi
  obtain ⟨g, off, h1, h2, h3⟩ := h i hi
  exact ⟨g, off, h1, h2, (World.cell?_of_block (hk.block _ (World.block_lt_of_cell? w _ h3) (hs g h2))).trans h3⟩
theorem RdS.keptNo {w w' : World} {B : Nat} {ao : Option Addr} {ps : List (List UInt8)} (h : RdS w B ao ps) (hk : Kept NoB w w') : RdS w' B ao ps := h.kept hk (fun _ _ h => h)
theorem RdS.below {w w' : World} {B : Nat} {ao : Option Addr} {ps : List (List UInt8)} (h : RdS w w.heap.size ao ps) (hb : Below w.heap.size w w') : RdS w' w'.heap.size ao ps := by
  intro i hi
  obtain ⟨g, off, h1, h2, h3⟩ := h i hi
  exact ⟨g, off, h1, Nat.lt_of_lt_of_le h2 hb.size, (World.cell?_of_block (hb.block _ h2)).trans h3⟩
theorem RdS.belowB {w w' : World} {B : Nat} {ao : Option Addr} {ps : List (List UInt8)} (h : RdS w B ao ps) (hb : Below w.heap.size w w') : RdS w' B ao ps := by
  intro i hi
  obtain ⟨g, off, h1, h2, h3⟩ := h i hi
  exact ⟨g, off, h1, h2, (World.cell?_of_block (hb.block _ (World.block_lt_of_cell? w _ h3))).trans h3⟩
theorem RdS.room {w : World} {B : Nat} {ao : Option Addr} {ps : List (List UInt8)} (h : RdS w B ao ps) : RdS w w.heap.size ao ps := by
  intro i hi
  obtain ⟨g, off, h1, h2, h3⟩ := h i hi
  exact ⟨g, off, h1, World.block_lt_of_cell? w _ h3, h3⟩
theorem own_readsS {w : World} {base n cap : Nat} {ao : Option Addr} {ps : List (List UInt8)} (h : w.ownsRow base 9 1 (.slice ao n cap) n (ps.map strV)) (hn : ps.length = n) : RdS w w.heap.size ao ps := by
  intro i hi
  rcases h.2 with ⟨_, hz⟩ | ⟨g, c, cur, hv, _⟩
  · omega
  · simp at hv
    obtain ⟨rfl, rfl⟩ := hv
    have hc : w.cell? ⟨g, i, none⟩ = some (.string (strB (ps.getD i []))) := by
      rw [h.cellAt i (by omega)]; simp [List.getD, hi, strV]
    exact ⟨g, 0, rfl, World.block_lt_of_cell? w _ hc, by rw [Nat.zero_add]; exact hc⟩

theorem Arg.strs {w : World} {v : Value} (h : Arg w 36 v) :
    ∃ (ao : Option Addr) (cap : Nat) (ps : List (List UInt8)), v = .slice ao ps.length cap ∧ ps.length ≤ cap ∧ cap ≤ maxLen ∧ RdS w w.heap.size ao ps ∧ (∀ p ∈ ps, p.length ≤ maxLen) ∧ (ao = none → cap = 0) := by
  obtain ⟨ao, len, cap, rfl, hl, hm, hn, hc⟩ := h.slice Tryz.underlying36
  rw [cells_str] at hc
  have key : ∀ i, ∃ z : List UInt8, z.length ≤ maxLen ∧ (∀ x, ao = some x → i < len → w.cell? (x.add i) = some (.string (strB z))) := by
    intro i
    by_cases hi : i < len
    · cases ao with
      | none => exact ⟨[], by simp, (fun x hx => by cases hx)⟩
      | some x =>
        obtain ⟨cs, hr, hcl, hcc⟩ := hc x rfl i hi
        obtain ⟨z, rfl, hz⟩ := hr.string Tryz.underlying9
        refine ⟨z.data.toList, by rw [Array.length_toList]; exact hz, ?_⟩
        intro y hy _
        cases hy
        rw [strB_of]
        simpa using hcc 0 (by simp)
    · exact ⟨[], by simp, (fun x _ h => absurd h hi)⟩
  obtain ⟨f, hf⟩ := choose1 key
  refine ⟨ao, cap, (List.range len).map f, by simp, by simpa using hl, hm, ?_, ?_, (fun h => (hn h).2)⟩
  · intro i hi
    have hil : i < len := by simpa using hi
    cases ao with
    | none => have := (hn rfl).1; omega
    | some x =>
      have hcell := (hf i).2 x rfl hil
      obtain ⟨b, off, spot⟩ := x
      have hs : spot = none := by
        have := World.cell?_spot ((hf 0).2 _ rfl (by omega))
        simpa [Addr.add] using this
      subst hs
      have h2 : w.cell? ⟨b, off + i, none⟩ = some (.string (strB (f i))) := by rwa [addr_add] at hcell
      exact ⟨b, off, rfl, World.block_lt_of_cell? w _ h2, by rw [range_getD f len i [] hil]; exact h2⟩
  · intro p hp
    simp at hp
    obtain ⟨i, _, rfl⟩ := hp
    exact (hf i).1

theorem strB_inj {a b : List UInt8} : strB a = strB b ↔ a = b := by
  constructor
  · intro h
    exact congrArg (fun s => s.data.toList) h
  · rintro rfl; rfl

theorem drop_getDs (ps : List (List UInt8)) (j : Nat) (hj : j < ps.length) : ps.drop j = ps.getD j [] :: ps.drop (j + 1) := by
  rw [List.drop_eq_getElem_cons hj]; simp [List.getD, hj]
set_option maxHeartbeats 1000000 in
theorem sameT_any (a : Option Addr) (c : Nat) (xs : List (List UInt8)) (b : Option Addr) (d : Nat) (ys : List (List UInt8)) (A B : Nat) (w : World) (hx : RdS w A a xs) (hy : RdS w B b ys) (hm : xs.length ≤ 1000000) :
    Calls Tryz.prog 24 #[.slice a xs.length c, .slice b ys.length d] w fun e w' => e = .returned (.bool (decide (xs = ys))) ∧ Kept NoB w w' := by
  have HX := Lib.hid hx; have HY := Lib.hid hy
  clear hx hy
  by_cases hlen : xs.length = ys.length
  · obtain ⟨n, hn⟩ : ∃ n, n = xs.length := ⟨_, rfl⟩
    have hn2 : ys.length = n := by omega
    have HN := Lib.hid hn; have HN2 := Lib.hid hn2
    have hm2 : n ≤ 1000000 := by omega
    rw [← hn, hn2]
    clear hn hn2 hlen
    go_enter Tryz.func24, Tryz.ntmps24
    go_wp2
    go_loopw [5] (fun v5 wr => ∃ j : Nat, v5 = .int .i64 (j : Int) ∧ j ≤ n ∧ Hid (Kept NoB w wr) ∧ Hid ((xs = ys) ↔ (xs.drop j = ys.drop j))) (fun v5 _ => n - (intOf v5).toNat)
    case atStart => exact ⟨0, rfl, by omega, Kept.refl _ _, (by rw [List.drop_zero, List.drop_zero]; exact Iff.rfl)⟩
    case round =>
      obtain ⟨j, rfl, hj, HK, HI⟩ := hrel
      by_cases hlt : (j : Int) < n
      · obtain ⟨g, off, rfl, hgl, hc0⟩ := HX.out j (by have := HN.out; omega)
        obtain ⟨g2, off2, rfl, hgl2, hc1⟩ := HY.out j (by have := HN2.out; omega)
        have hc0' := HK.out.cell hc0
        have hc1' := HK.out.cell hc1
        have hi := HI.out
        rw [drop_getDs xs j (by have := HN.out; omega), drop_getDs ys j (by have := HN2.out; omega)] at hi
        obtain ⟨x, hx⟩ : ∃ x, xs.getD j [] = x := ⟨_, rfl⟩
        obtain ⟨y, hy⟩ : ∃ y, ys.getD j [] = y := ⟨_, rfl⟩
        rw [hx] at hc0' hi
        rw [hy] at hc1' hi
        clear hx hy hc0 hc1 hgl hgl2
        by_cases hxy : x = y
        · subst hxy
          have HI2 : Hid ((xs = ys) ↔ (xs.drop (j + 1) = ys.drop (j + 1))) := hi.trans ⟨fun h => by injection h, fun h => by rw [h]⟩
          obtain ⟨X, hX⟩ : ∃ X, X = strB x := ⟨_, rfl⟩
          rw [← hX] at hc0' hc1'
          have hd : (X.toList != X.toList) = false := by simp
          clear hi hX
          go_upto_region 6 with fail
          go_quiet (fail)
          go_wp2
          go_roundw
          case rel => exact ⟨j + 1, by go_num, by omega, HK.out.drewN _, HI2⟩
          case measure => simp [intOf]; omega
        · have hne : ¬ xs = ys := fun h => hxy (by have := hi.1 h; injection this)
          have hne2 : ¬ (strB x).toList = (strB y).toList := by rw [strB_list, strB_list]; exact hxy
          obtain ⟨X, hX⟩ : ∃ X, X = strB x := ⟨_, rfl⟩
          obtain ⟨Y, hY⟩ : ∃ Y, Y = strB y := ⟨_, rfl⟩
          rw [← hX] at hc0' hne2
          rw [← hY] at hc1' hne2
          have hd : (X.toList == Y.toList) = false := by simpa using hne2
          have hd3 : (!X.toList == Y.toList) = true := by rw [hd]; rfl
          clear hi hxy hX hY
          have HNe := Lib.hid hne
          clear hne
          go_upto_region 6 with fail
          go_quiet (fail)
          go_wp2
          go_ret
          exact ⟨by rw [decide_eq_false HNe.out]; rfl, HK.out.drewN _⟩
      · have he : xs = ys := by
          have hi := HI.out
          rw [List.drop_of_length_le (by have := HN.out; omega), List.drop_of_length_le (by have := HN2.out; omega)] at hi
          exact hi.2 rfl
        have HE := Lib.hid he
        clear he
        go_wp2
        go_ret
        exact ⟨by rw [decide_eq_true HE.out]; rfl, HK.out⟩
  · have hne : ¬ xs = ys := fun h => hlen (by rw [h])
    have HNe := Lib.hid hne
    have g1 : ((xs.length : Int) != (ys.length : Int)) = true := bne_iff_ne.2 (by omega)
    clear hne hlen
    go_enter Tryz.func24, Tryz.ntmps24
    go_wp2
    go_ret
    exact ⟨by rw [decide_eq_false HNe.out]; rfl, Kept.refl _ _⟩
end Go.Proofs.YtgbakogihkdddaaGreatDoor

namespace Go.Proofs.YtgbakogihkdddaaGreatDoor
open Go.RowKit Go.Shelf
set_option linter.unusedVariables false
set_option linter.unusedSimpArgs false
set_option maxRecDepth 20000

theorem find_nd {T : FsP} (hT : OkT T) {dir i : Int} {part : List UInt8} (h : findP T dir part = (i, 0)) : ∃ n, T.nd i = some n ∧ 1 ≤ i ∧ i ≤ T.next := by
  unfold findP at h
  by_cases hp : placeE T dir part = 0
  · rw [if_pos hp] at h
    cases hg : getK (namesP T dir) part with
    | none => rw [hg] at h; cases h
    | some j =>
      rw [hg] at h
      cases h
      have hm := getK_mem hg
      unfold namesP at hm
      cases hn : T.nd dir with
      | none => rw [hn] at hm; cases hm
      | some d =>
        rw [hn] at hm
        obtain ⟨_, _, m, h3, _⟩ := (hT.node dir d hn).names _ hm
        exact ⟨m, h3, (hT.node _ m h3).low, (hT.node _ m h3).high⟩
  · rw [if_neg hp] at h
    exact absurd (congrArg Prod.snd h) hp
def okI (x : Int) : Prop := -9223372036854775808 ≤ x ∧ x ≤ 9223372036854775807
/-- A way down, part by part. -/
def downP (T : FsP) : Int → List (List UInt8) → Int × Int
  | dir, [] => (dir, 0)
  | dir, p :: r => if (findP T dir p).2 = 0 then downP T (findP T dir p).1 r else (0, (findP T dir p).2)
set_option maxHeartbeats 4000000 in
theorem down_any {S : Nat → Prop} {w : World} {f : Nat} {T : FsP} (hF : FsSt S w f T) (hnx : T.next ≤ 4611686018427387904) (dir : Int) (hdir : okI dir) (ao : Option Addr) (c B : Nat) (ps : List (List UInt8)) (hr : RdS w B ao ps) (hp : ∀ p ∈ ps, p.length ≤ 1000000000) (hl : ps.length ≤ 1000000) :
    Calls Tryz.prog 23 #[.pointer (some ⟨f, 0, none⟩), .int .i64 dir, .slice ao ps.length c] w fun r w' => r = .returned (.tuple #[.int .i64 (downP T dir ps).1, .int .i64 (downP T dir ps).2]) ∧ Kept NoB w w' := by
  have hOk : OkT T := by obtain ⟨L, B, mb, h1⟩ := hF; exact h1.ok
  have HF := Lib.hid hF; have HOk := Lib.hid hOk; have HR := Lib.hid hr; have HLn := Lib.hid hp
  obtain ⟨D, hD⟩ : ∃ D, D = downP T dir ps := ⟨_, rfl⟩
  rw [← hD]
  obtain ⟨n, hn⟩ : ∃ n, n = ps.length := ⟨_, rfl⟩
  rw [← hn] at hl ⊢
  have HN := Lib.hid hn
  have HD := Lib.hid hD
  clear hF hOk hr hp hn hD
  go_enter Tryz.func23, Tryz.ntmps23
  go_upto_region 2 with fail
  go_loopw [1, 9, 10, 11, 14] (fun v1 v9 v10 v11 v14 wr => ∃ (i : Nat) (d : Int), v1 = .int .i64 d ∧ v14 = .int .i64 (i : Int) ∧ i ≤ n ∧ okI d ∧ Hid (Kept NoB w wr) ∧ Hid (D = downP T d (ps.drop i))) (fun _ _ _ _ v14 _ => n - (intOf v14).toNat)
  case atStart => exact ⟨0, dir, rfl, rfl, by omega, hdir, Lib.hid (Kept.refl _ _), HD⟩
  case round =>
    obtain ⟨i, d, rfl, rfl, hi, hd, HK, HQ⟩ := hrel
    by_cases hlt : (i : Int) < n
    · have hin : i < ps.length := by have := HN.out; omega
      obtain ⟨g, off, rfl, hgl, hc0⟩ := HR.out i hin
      have hc := HK.out.cell hc0
      obtain ⟨p, hpe⟩ : ∃ p, p = ps.getD i [] := ⟨_, rfl⟩
      have hpm : p ∈ ps := by rw [hpe]; simp [List.getD, hin]
      have hdr := drop_getDs ps i hin
      rw [← hpe] at hc hdr
      have HFd : Hid (Calls Tryz.prog 14 #[.pointer (some ⟨f, 0, none⟩), .int .i64 d, .string (strB p)] wr fun e w' => e = .returned (.tuple #[.int .i64 (findP T d p).1, .int .i64 (findP T d p).2]) ∧ Kept NoB wr w') := Lib.hid (find_any (HF.out.keptNo HK.out) d hd p (by have := HLn.out p hpm; omega))
      have HD2 : Hid (D = if (findP T d p).2 = 0 then downP T (findP T d p).1 (ps.drop (i + 1)) else (0, (findP T d p).2)) := Lib.hid (by
        have := HQ.out
        rw [hdr] at this
        exact this)
      have HOi : Hid ((findP T d p).2 = 0 → okI (findP T d p).1) := Lib.hid (fun h0 => by
        obtain ⟨m, _, q2, q3⟩ := find_nd HOk.out (part := p) (dir := d) (i := (findP T d p).1) (by rw [← h0])
        exact ⟨by omega, by omega⟩)
      obtain ⟨P, hP⟩ : ∃ P, P = strB p := ⟨_, rfl⟩
      rw [← hP] at hc HFd
      obtain ⟨fi, fe, hfe⟩ : ∃ fi fe, findP T d p = (fi, fe) := ⟨_, _, rfl⟩
      rw [hfe] at HFd HD2 HOi
      dsimp only at HFd HD2 HOi
      clear hpe hpm hdr hc0 hgl hP hfe HQ hin
      by_cases h0 : fe = 0
      · subst h0
        have HD3 : Hid (D = downP T fi (ps.drop (i + 1))) := Lib.hid (by have := HD2.out; rwa [if_pos rfl] at this)
        have hoi := HOi.out rfl
        clear HD2 HOi
        go_wp2_with (go_at_call 14; refine HFd.out.mono ?_; rintro e w2 ⟨rfl, hk2⟩)
        go_roundw
        case rel => exact ⟨i + 1, fi, rfl, by go_num, by omega, hoi, Lib.hid (HK.out.trans hk2), HD3⟩
        case measure => simp [intOf]; omega
      · have hne : (fe != 0) = true := by simpa using h0
        have HD3 : Hid (D = (0, fe)) := Lib.hid (by have := HD2.out; rwa [if_neg h0] at this)
        clear HD2 HOi h0
        go_wp2_with (go_at_call 14; refine HFd.out.mono ?_; rintro e w2 ⟨rfl, hk2⟩)
        go_ret2
        exact ⟨by rw [HD3.out]; rfl, HK.out.trans hk2⟩
    · have HD3 : Hid (D = (d, 0)) := Lib.hid (by
        have := HQ.out
        rw [List.drop_of_length_le (by have := HN.out; omega)] at this
        exact this)
      clear HQ
      go_wp2
      go_ret2
      exact ⟨by rw [HD3.out]; rfl, HK.out⟩
end Go.Proofs.YtgbakogihkdddaaGreatDoor

namespace Go.Proofs.YtgbakogihkdddaaGreatDoor
open Go.Lib
set_option linter.unusedVariables false

abbrev Pc := Int × List UInt8
/-- Pieces from a place on. -/
def okG (size : Int) : Int → List Pc → Bool
  | _, [] => true
  | free, p :: l => !p.2.isEmpty && decide (free ≤ p.1) && decide (p.1 ≤ size - (p.2.length : Int)) && okG size (p.1 + p.2.length + 1) l
def okS (size : Int) (l : List Pc) : Bool := decide (0 ≤ size) && decide (size ≤ 1099511627776) && decide (l.length ≤ 1000) && okG size 0 l
/-- Where the next piece may begin. -/
def freeS (l : List Pc) : Int := l.foldl (fun f p => p.1 + p.2.length + 1) 0
theorem freeS_take (l : List Pc) (i : Nat) (h : i < l.length) : freeS (l.take (i + 1)) = (l.getD i (0, [])).1 + ((l.getD i (0, [])).2.length : Int) + 1 := by
  rw [freeS, List.take_succ_eq_append_getElem h, List.foldl_append]
  simp [List.getD, h]
theorem okG_split (size : Int) : ∀ (a b : List Pc) (f : Int), okG size f (a ++ b) = (okG size f a && okG size (a.foldl (fun f p => p.1 + p.2.length + 1) f) b)
  | [], b, f => by simp [okG]
  | p :: a, b, f => by
    rw [List.cons_append, okG, okG, okG_split size a b, List.foldl_cons]
    simp only [Bool.and_assoc]
/-- One piece more. -/
theorem okG_step (size : Int) (l : List Pc) (i : Nat) (h : i < l.length) :
    okG size 0 (l.take (i + 1)) = (okG size 0 (l.take i) && (!(l.getD i (0, [])).2.isEmpty && decide (freeS (l.take i) ≤ (l.getD i (0, [])).1) && decide ((l.getD i (0, [])).1 ≤ size - ((l.getD i (0, [])).2.length : Int)))) := by
  rw [List.take_succ_eq_append_getElem h, okG_split]
  have e : l[i] = l.getD i (0, []) := by simp [List.getD, h]
  rw [e]
  show (okG size 0 (l.take i) && okG size (freeS (l.take i)) [l.getD i (0, [])]) = _
  simp only [okG, Bool.and_true]
theorem okG_take_no (size : Int) (l : List Pc) (i : Nat) (h : okG size 0 (l.take i) = false) : okG size 0 l = false := by
  have e := okG_split size (l.take i) (l.drop i) 0
  rw [List.take_append_drop, h, Bool.false_and] at e
  exact e
def sumS (l : List Pc) : Nat := (l.map fun p => p.2.length).sum
theorem sumS_take (l : List Pc) (i : Nat) (h : i < l.length) : sumS (l.take (i + 1)) = sumS (l.take i) + (l.getD i (0, [])).2.length := by
  rw [sumS, List.take_succ_eq_append_getElem h, List.map_append, List.sum_append]
  simp [sumS, List.getD, h]
/-- The bytes of pieces that may be do not go beyond the end. -/
theorem sumS_le (size : Int) : ∀ (l : List Pc) (f : Int), 0 ≤ f → f ≤ size + 1 → okG size f l = true → (sumS l : Int) ≤ size - f + 1
  | [], f, h0, h1, _ => by simp [sumS]; omega
  | p :: l, f, h0, h1, h => by
    simp only [okG, Bool.and_eq_true, decide_eq_true_eq] at h
    have ih := sumS_le size l (p.1 + p.2.length + 1) (by omega) (by omega) h.2
    have : sumS (p :: l) = p.2.length + sumS l := by simp [sumS]
    rw [this]
    have := h.1.1.2
    omega
end Go.Proofs.YtgbakogihkdddaaGreatDoor
