/-
  What was written of a file, in memory: put, where no piece is touched.
-/
import Derived.Test.YtilndmmjdbhmgaaFsM
import Derived.Great.BuildSlice
namespace Go.Proofs.Ytilndmmjdbhmgaa
open Go.RowKit
set_option linter.unusedVariables false
set_option linter.unusedSimpArgs false
set_option maxRecDepth 20000

theorem Kept.dom {S : Nat → Prop} {w w' : World} (h : Kept NoB w w') : Kept S w w' := h.mono (fun _ _ h => absurd h (fun h => h))
theorem Kept.cellS {S : Nat → Prop} {w w' : World} (hk : Kept S w w') {a : Addr} {v : Value} (h : w.cell? a = some v) (hne : ¬ S a.block) : w'.cell? a = some v :=
  (World.cell?_of_block (hk.block _ (World.block_lt_of_cell? w a h) hne)).trans h
theorem row2_ne {w : World} {base e z n : Nat} {v : Value} {xs : List Value} (ho : w.ownsRow base e z v n xs) {R : Nat} {cs : Array Value} {t : TypeId} (h : w.heap[R]? = some (.cells cs t (0, 0))) (ht : t ≠ e) : ∀ k, v.ownBlock = some k → k ≠ R := by
  intro k hk e'
  subst e'
  rcases ho.2 with ⟨rfl, _⟩ | ⟨g, cap, cur, rfl, _, hg, _⟩
  · simp [Value.ownBlock] at hk
  · simp [Value.ownBlock] at hk
    subst hk
    rw [hg] at h
    simp at h
    exact ht h.2.symm
theorem heap_push (W : World) (o : Obj) : (W.alloc o).heap[W.heap.size]? = some o := by
  show (W.heap.push o)[W.heap.size]? = some o
  simp
theorem fill_onePc (k : Int) (ao : Option Addr) (m c : Nat) : Instr.fill (fun i => some (i * 2, 2)) ((Array.range (1 * 2)).map ((Value.agg #[.int .i64 0, .slice none 0 0]).cells[· % (Value.agg #[.int .i64 0, .slice none 0 0]).cells.size]!)) [(0, .agg #[.int .i64 k, .slice ao m c])] = some #[.int .i64 k, .slice ao m c] := by
  kernel_rfl
theorem wpList_build_pc {ops : Array Oper} {rest : List Oper} {o : Oper} {act : Act} {w : World} {Q : Exit → Act → World → Prop} (hgd : o.guard = none) (x : Operand) (ho : o.op = .buildSlice 42 1 #[(0, x)]) (k : Int) (ao : Option Addr) (m c : Nat)
    (hx : act.eval x = .agg #[.int .i64 k, .slice ao m c]) (h : wpList Try.prog ops Q rest (act.put o.dst (.slice (some ⟨w.heap.size, 0, none⟩) 1 1)) (w.alloc (.cells #[.int .i64 k, .slice ao m c] 61))) : wpList Try.prog ops Q (o :: rest) act w :=
  wpList_plain hgd fun _ hK => by
    obtain ⟨i0, hi, hz0, hz1, hz2⟩ := info_parts infoFp
    refine wp_buildSlice 42 61 1 _ ho #[.int .i64 k, .slice ao m c] i0 _ Try.underlying42 hi hz0 (by rw [hz1]; decide) (by rw [hz1]; decide) ?_ (hK _ _ h)
    rw [hz1]
    have e : (#[(0, x)].map fun (i, x) => (i, act.eval x)).toList = [(0, .agg #[.int .i64 k, .slice ao m c])] := by simp [hx]
    rw [e]
    exact fill_onePc k ao m c

set_option maxHeartbeats 4000000 in
theorem put_free (D : Nat) (cs : Array Value) (a : Option Addr) (c : Nat) (qs : List FpQ) (k : Int) (bs : List UInt8) (ab : Option Addr) (cb : Nat) (w : World) (hD : w.heap[D]? = some (.cells cs 71 (0, 0))) (h13 : cs[13]? = some (.slice a qs.length c))
    (hown : w.ownsRow 0 61 2 (.slice a qs.length c) qs.length (fcells qs)) (hr : RdD w a (qs.map Prod.fst)) (hl : OkD (qs.map Prod.fst)) (hk : 0 ≤ k) (hb : bs ≠ []) (hkb : k + (bs.length : Int) ≤ 1099511627776) (hfree : touchP (qs.map Prod.fst) k (k + bs.length) = [])
    (hrb : Reads w ab (nb bs)) (hlen : qs.length ≤ 1099511627776) (hbl : bs.length ≤ 1099511627776) :
    Calls Try.prog 47 #[.pointer (some ⟨D, 13, none⟩), .int .i64 k, .slice ab bs.length cb] w fun e w' => e = .returned (.tuple #[]) ∧ ∃ (a' : Option Addr) (c' : Nat) (q : FpQ), q.1 = (k, bs) ∧
      w'.heap[D]? = some (.cells (cs.setIfInBounds 13 (.slice a' (qs.length + 1) c')) 71 (0, 0)) ∧ w'.ownsRow 0 61 2 (.slice a' (qs.length + 1) c') (qs.length + 1) (fcells (qs.take (aheadP (qs.map Prod.fst) k).length ++ q :: qs.drop (aheadP (qs.map Prod.fst) k).length)) ∧
      w'.ownsRow 0 5 1 (.slice q.2.1 bs.length q.2.2) bs.length (bc bs) ∧ (∀ j, (Value.slice q.2.1 bs.length q.2.2).ownBlock = some j → w.heap.size ≤ j) ∧ (∀ j, (Value.slice a' (qs.length + 1) c').ownBlock = some j → (Value.slice a qs.length c).ownBlock = some j ∨ w.heap.size ≤ j) ∧
      (∀ j, (Value.slice q.2.1 bs.length q.2.2).ownBlock = some j → (Value.slice a' (qs.length + 1) c').ownBlock ≠ some j) ∧ Kept (OrB (OneB D) (OwnB (.slice a qs.length c))) w w' := by
  obtain ⟨l, hle⟩ : ∃ l, l = qs.map Prod.fst := ⟨_, rfl⟩
  rw [← hle] at hr hl hfree ⊢
  have hll : l.length = qs.length := by rw [hle]; simp
  obtain ⟨n, hn⟩ : ∃ n, n = qs.length := ⟨_, rfl⟩
  rw [← hn] at h13 hown hlen hll ⊢
  have c13 : w.cell? ⟨D, 13, none⟩ = some (.slice a n c) := by rw [obj_cell hD]; exact h13
  have hcap : n ≤ c ∧ c ≤ maxLen := by
    rcases hown.2 with ⟨h1, h2⟩ | ⟨g, cc, cur, h1, _, _, h2, h3, _⟩
    · simp at h1; constructor; omega; unfold maxLen; omega
    · simp at h1; obtain ⟨_, rfl⟩ := h1; exact ⟨h2, h3⟩
  obtain ⟨A, hA⟩ : ∃ A, A = (aheadP l k).length := ⟨_, rfl⟩
  have hAn : A ≤ n := by rw [hA, ← hll]; exact ahead_le l k
  obtain ⟨mb, hmb⟩ : ∃ mb, mb = bs.length := ⟨_, rfl⟩
  obtain ⟨w2, hw2⟩ : ∃ w2, w2 = (w.alloc (.cells #[.slice a n c] 69)).alloc (.cells #[.int .i64 (k + (mb : Int))] 3) := ⟨_, rfl⟩
  have hk2 : Kept NoB w w2 := by rw [hw2]; exact ((Kept.refl NoB w).alloc _).alloc _
  have b1 : w2.cell? ⟨w.heap.size, 0, none⟩ = some (.slice a n c) := by rw [hw2]; exact ((Kept.refl NoB _).alloc _).cell (cell_new 0 rfl)
  have b3 : w2.cell? ⟨w.heap.size + 1, 0, none⟩ = some (.int .i64 (k + (mb : Int))) := by rw [hw2]; exact cell_new 0 (by simp)
  have s2 : w2.heap.size = w.heap.size + 2 := by rw [hw2]; simp
  have HA := Lib.hid (after_any l hl a c (k - 1) w2 (hr.kept hk2) (by omega) hcap.2 (by omega) (by omega))
  rw [hll, show k - 1 + 1 = k by omega, ← hA] at HA
  have HW := Lib.hid hw2; have HK2 := Lib.hid hk2; have HS2 := Lib.hid s2
  have HAll := Lib.hid (⟨hD, hown, hr, hl, hfree, hrb, hA, hll⟩ : _ ∧ _ ∧ _ ∧ _ ∧ _ ∧ _ ∧ _ ∧ _)
  have HMb := Lib.hid hmb
  rw [← hmb] at hkb hbl ⊢
  have hc63 : (c : Int) ≤ 9223372036854775807 := by have := hcap.2; unfold maxLen at this; omega
  have HCap := Lib.hid hcap
  have HCs := Lib.hid h13
  have HN := Lib.hid hn; have HLe := Lib.hid hle
  clear hw2 hk2 s2 hD hown hr hl hfree hrb hA hll hmb hcap h13 hn hle
  go_enter Try.func47, Try.ntmps47
  go_upto_region 2 with fail
  rw [← HW.out]
  go_wp2_with fail
  refine HA.out.mono ?_
  rintro e w3 ⟨rfl, hk3⟩
  have HK3 := Lib.hid (HK2.out.trans hk3)
  have d1 := hk3.cell b1
  have d3 := hk3.cell b3
  clear hk3 b1 b3 HA
  go_upto_region 3 with fail
  obtain ⟨w4, hw4⟩ : ∃ w4, w4 = w3.alloc (.cells #[.int .i64 (A : Int)] 3) := ⟨_, rfl⟩
  rw [← hw4]
  have hk4 : Kept NoB w3 w4 := by rw [hw4]; exact (Kept.refl NoB w3).alloc _
  have e1 := hk4.cell d1
  have e3 := hk4.cell d3
  have e2 : w4.cell? ⟨w3.heap.size, 0, none⟩ = some (.int .i64 (A : Int)) := by rw [hw4]; exact cell_new 0 rfl
  have HK4 := Lib.hid (HK3.out.trans hk4)
  have hnA : (n : Int) - (A : Int) = ((n - A : Nat) : Int) := by omega
  have HSr : Hid (∀ W, Kept NoB w4 W → Calls Try.prog 79 #[.int .i64 ((n : Int) - (A : Int)), .func (.func 80) #[] #[.pointer (some ⟨w.heap.size, 0, none⟩), .pointer (some ⟨w3.heap.size, 0, none⟩), .pointer (some ⟨w.heap.size + 1, 0, none⟩)]] W fun e w' => e = .returned (.int .i64 0) ∧ Kept NoB W w') := Lib.hid (fun W hkW => by
    obtain ⟨_, _, hr, hl, hfree, _, hA, hll⟩ := HAll.out
    have := search2_any l hl a c w.heap.size w3.heap.size (w.heap.size + 1) k (k + (mb : Int)) W ((hr.kept HK4.out).kept hkW) (by rw [hll]; exact hkW.cell e1) (by rw [← hA]; exact hkW.cell e2) (hkW.cell e3) (by omega)
    rw [← hA, hll, HMb.out, hfree] at this
    rw [hnA]; exact this)
  have D1 : ∀ W, Kept NoB w4 W → W.cell? ⟨w.heap.size, 0, none⟩ = some (.slice a n c) := fun W hk => hk.cell e1
  have D2 : ∀ W, Kept NoB w4 W → W.cell? ⟨w3.heap.size, 0, none⟩ = some (.int .i64 (A : Int)) := fun W hk => hk.cell e2
  have hwr : IntKind.i64.wrap ((n : Int) - (A : Int)) = (n : Int) - (A : Int) := by rw [IntKind.wrap_i64]; omega
  clear d1 d3 hk4 hw4 hnA e3
  go_region_held3 (fun W => Kept NoB w4 W) (first | assumption | exact Kept.refl _ _ | exact Kept.drew (Kept.refl _ _) | exact Kept.drew (by assumption) | exact Kept.trans (by assumption) hkn) ((go_at_call 79; ((with_reducible refine (HSr.out _ (by assumption)).mono ?_); rintro e wn ⟨rfl, hkn⟩)))
  have hkw : Kept NoB w4 wn := by assumption
  have f1 := hkw.cell e1
  have f2 := hkw.cell e2
  have HKn := Lib.hid (HK4.out.trans hkw)
  clear hkw hkn D1 D2 e1 e2 HSr
  go_upto_region 5 with fail
  have HCl : Hid (∀ W, Kept NoB wn W → Calls Try.prog 76 #[.slice ab mb cb] W fun e w' => ∃ ao cap, e = .returned (.slice ao mb cap) ∧ Hid (w'.ownsRow 0 5 1 (.slice ao mb cap) mb (bc bs) ∧ (∀ j, (Value.slice ao mb cap).ownBlock = some j → wn.heap.size ≤ j) ∧ Kept NoB wn w')) := Lib.hid (fun W hkW => by
    obtain ⟨_, _, _, _, _, hrb, _, _⟩ := HAll.out
    have e0 : (nb bs).length = mb := by rw [nb_len, HMb.out]
    have := clone_any ab cb (nb bs) W (hrb.kept (HKn.out.trans hkW) (fun _ _ e => e)) (by rw [e0]; omega)
    rw [e0] at this
    refine this.mono ?_
    rintro e w' ⟨ao, cap, rfl, h1, h2, _, h4⟩
    rw [e0] at h1 h2 ⊢
    refine ⟨ao, cap, rfl, Lib.hid ⟨?_, fun j hj => Nat.le_trans hkW.size (h2 j hj), hkW.trans h4⟩⟩
    rw [bc_nb]; exact h1)
  have HIn : Hid (∀ W vb ao cap, Kept NoB wn W → wn.heap.size ≤ vb → W.heap[vb]? = some (.cells #[.int .i64 k, .slice ao mb cap] 61 (0, 0)) → Calls Try.prog 81 #[.slice a n c, .int .i64 (A : Int), .slice (some ⟨vb, 0, none⟩) 1 1] W (InsP W a n c (fcells (qs.take A ++ ((k, bs), (ao, cap)) :: qs.drop A)))) := Lib.hid (fun W vb ao cap hkW hvb hv => by
    obtain ⟨_, hown, _, _, _, _, _, _⟩ := HAll.out
    have hkw := HKn.out.trans hkW
    refine insert_any a n c A qs ((k, bs), (ao, cap)) W HN.out (hkw.row hown (fun _ _ e => e)) hAn vb (by rw [hv, HMb.out]) (fun e => ?_) hlen
    have := (hown.lt _ e).2
    have := HKn.out.size
    omega)
  have D5 : ∀ W W', Kept NoB wn W → Kept (OwnB (.slice a n c)) W W' → Hid (W'.heap[D]? = some (.cells cs 71 (0, 0))) := fun W W' h1 h2 => Lib.hid (by
    obtain ⟨hD, hown, _, _, _, _, _, _⟩ := HAll.out
    refine h2.obj ((HKn.out.trans h1).obj hD (fun h => h)) (fun e => ?_)
    rcases hown.2 with ⟨q1, q2⟩ | ⟨g, cc, cur, q1, _, q2, _⟩
    · simp at q1; rw [q1.1] at e; cases e
    · simp at q1
      have e' : (Value.slice a n c).ownBlock = some D := e
      rw [q1.1] at e'
      have e2 : g = D := by injection e'
      rw [e2, hD] at q2
      injection q2 with q3; injection q3 with _ q4 _; revert q4; decide)
  have D0 : ∀ W, Kept NoB wn W → W.cell? ⟨D, 13, none⟩ = some (.slice a n c) := fun W hk => (HKn.out.trans hk).cell c13
  have hDl : D < w.heap.size ∧ ∀ j, (Value.slice a n c).ownBlock = some j → j < w.heap.size := ⟨obj_lt HAll.out.1, fun j hj => (HAll.out.2.1.lt j hj).2⟩
  have D1 : ∀ W, Kept (OrB (OneB D) (OwnB (.slice a n c))) wn W → W.cell? ⟨w.heap.size, 0, none⟩ = some (.slice a n c) := fun W hk => hk.cellS f1 (fun e => by
    rcases e with e | e
    · have e : w.heap.size = D := e
      have := hDl.1; omega
    · have := hDl.2 _ e; dsimp only at this; omega)
  have s3 : w.heap.size ≤ w3.heap.size := HK3.out.size
  have D2 : ∀ W, Kept (OrB (OneB D) (OwnB (.slice a n c))) wn W → W.cell? ⟨w3.heap.size, 0, none⟩ = some (.int .i64 (A : Int)) := fun W hk => hk.cellS f2 (fun e => by
    rcases e with e | e
    · have e : w3.heap.size = D := e
      have := hDl.1; omega
    · have := hDl.2 _ e; dsimp only at this; omega)
  have HDl := Lib.hid hDl
  clear hDl s3
  go_region_held3 (fun W => Kept (OrB (OneB D) (OwnB (.slice a n c))) wn W) (first | assumption | exact Kept.refl _ _ | exact Kept.drew (Kept.refl _ _) | exact Kept.drew (by assumption) | exact Kept.alloc (by assumption) _ | exact Kept.drew (Kept.alloc (by assumption) _) | exact Kept.setCell (by assumption) (.inl (.inl rfl)) _) (first
    | (go_at_call 76; ((with_reducible refine (HCl.out _ (by first | exact Kept.refl _ _ | exact (Kept.refl _ _).drew | exact (Kept.refl _ _).drewN _)).mono ?_); rintro e wc ⟨ao, cap, rfl, hCp⟩; have hkc : Kept (OrB (OneB D) (OwnB (.slice a n c))) wn wc := hCp.out.2.2.dom))
    | (refine wpList_build_pc rfl (.tmp 42) rfl k ao mb cap rfl ?_)
    | (go_at_call 81; ((with_reducible refine (HIn.out _ wc.heap.size ao cap (hCp.out.2.2.alloc _) hCp.out.2.2.size (heap_push _ _)).mono ?_); rintro e wi ⟨a', c', rfl, hI1, hIk, hI3⟩; (have HI := Lib.hid (And.intro hI1 (And.intro hIk hI3))); have HDi := D5 _ _ (hCp.out.2.2.alloc _) hIk; (have dc := obj_cell HDi.out 13); (rw [HCs.out] at dc); (have df := obj_free HDi.out 13); have hki : Kept (OrB (OneB D) (OwnB (.slice a n c))) wn wi := (hCp.out.2.2.alloc _).dom.trans (hIk.mono (fun _ _ e => .inr e)); clear hI1 hIk hI3)))
  have hkl : Kept (OrB (OneB D) (OwnB (.slice a n c))) wn wi := hki
  go_wp2_with fail
  obtain ⟨hIr, hIk, hI3⟩ := HI.out
  obtain ⟨hcr, hcf, hck⟩ := hCp.out
  obtain ⟨hD, hown, _, _, _, _, hA, _⟩ := HAll.out
  have sn : w.heap.size ≤ wn.heap.size := HKn.out.size
  have sc : wn.heap.size ≤ wc.heap.size := hck.size
  have sa : (wc.alloc (.cells #[.int .i64 k, .slice ao mb cap] 61)).heap.size = wc.heap.size + 1 := by simp
  have hqa : ∀ j, (Value.slice ao mb cap).ownBlock = some j → wn.heap.size ≤ j ∧ j < wc.heap.size := fun j hj => ⟨hcf j hj, (hcr.lt j hj).2⟩
  have hbD : ∀ j, (Value.slice a' (n + 1) c').ownBlock = some j → j ≠ D := fun j hj => by
    rcases hI3 j hj with e | e
    · exact row2_ne hown hD (by decide) j e
    · have := HDl.out.1; omega
  have hcr2 : wi.ownsRow 0 5 1 (.slice ao mb cap) mb (bc bs) := hIk.row ((Kept.refl NoB wc).alloc _ |>.row hcr (fun _ _ e => e)) (fun j hj e => by
    have := HDl.out.2 j e
    have := (hqa j hj).1
    omega)
  rw [← hA]
  refine bodyPost_ret (results_none rfl _ _ _) rfl ⟨rfl, a', c', ((k, bs), (ao, cap)), rfl, obj_set HDi.out 13 _, ?_, ?_, fun j hj => ?_, fun j hj => ?_, fun j hj e => ?_, HKn.out.dom.trans (hkl.setCell (p := ⟨D, 13, none⟩) (.inl (.inl rfl)) _)⟩
  · exact Kept.row (Kept.setCell (S := OneB D) (p := ⟨D, 13, none⟩) (Kept.refl _ _) (.inl rfl) _) hIr (fun j hj e => hbD j hj e)
  · exact Kept.row (Kept.setCell (S := OneB D) (p := ⟨D, 13, none⟩) (Kept.refl _ _) (.inl rfl) _) hcr2 (fun j hj e => by
      have e : j = D := e
      have := (hqa j hj).1
      have := HDl.out.1
      omega)
  · have := (hqa j hj).1; omega
  · rcases hI3 j hj with e | e
    · exact .inl e
    · right; omega
  · have h1 := hqa j hj
    rcases hI3 j e with e | e
    · have := HDl.out.2 j e; omega
    · omega
end Go.Proofs.Ytilndmmjdbhmgaa
