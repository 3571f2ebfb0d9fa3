/-
  What was written of a file, in memory: put, where no piece is touched.
  What was written of a file, in memory: how many bytes; how many more fit.
  How many bytes fit, on paper, a piece at a time.
-/
import Derived.Test.YtjjgadanobeamaaGreatDoorMt7
import Derived.Great.BuildSlice
namespace Go.Proofs.YtjjgadanobeamaaGreatDoor
open Go.RowKit
set_option linter.unusedVariables false
set_option linter.unusedSimpArgs false
set_option maxRecDepth 20000

theorem Kept.dom {S : Nat → Prop} {w w' : World} (h : Kept NoB w w') : Kept S w w' := h.mono (fun _ _ h => absurd h (fun h => h))
theorem Kept.cellS {S : Nat → Prop} {w w' : World} (hk : Kept S w w') {a : Addr} {v : Value} (h : w.cell? a = some v) (hne : ¬ S a.block) : w'.cell? a = some v :=
  (World.cell?_of_block (hk.block _ (World.block_lt_of_cell? w a h) hne)).trans h
theorem row2_ne {w : World} {base e z n : Nat} {v : Value} {xs : List Value} (ho : w.ownsRow base e z v n xs) {R : Nat} {cs : Array Value} {t : TypeId} (h : w.heap[R]? = some (.cells cs t (0, 0))) (ht : t ≠ e) : ∀ k, v.ownBlock = some k → k ≠ R := by
  intro k hk e'
  subst e'
  rcases ho.2 with ⟨rfl, _⟩ | ⟨g, cap, cur, rfl, _, hg, _⟩
  · simp [Value.ownBlock] at hk
  · simp [Value.ownBlock] at hk
    subst hk
    rw [hg] at h
    simp at h
    exact ht h.2.symm
theorem heap_push (W : World) (o : Obj) : (W.alloc o).heap[W.heap.size]? = some o := by
  show (W.heap.push o)[W.heap.size]? = some o
  simp
theorem fill_onePc (k : Int) (ao : Option Addr) (m c : Nat) : Instr.fill (fun i => some (i * 2, 2)) ((Array.range (1 * 2)).map ((Value.agg #[.int .i64 0, .slice none 0 0]).cells[· % (Value.agg #[.int .i64 0, .slice none 0 0]).cells.size]!)) [(0, .agg #[.int .i64 k, .slice ao m c])] = some #[.int .i64 k, .slice ao m c] := by
  kernel_rfl
theorem wpList_build_pc {ops : Array Oper} {rest : List Oper} {o : Oper} {act : Act} {w : World} {Q : Exit → Act → World → Prop} (hgd : o.guard = none) (x : Operand) (ho : o.op = .buildSlice 45 1 #[(0, x)]) (k : Int) (ao : Option Addr) (m c : Nat)
    (hx : act.eval x = .agg #[.int .i64 k, .slice ao m c]) (h : wpList Tryz.prog ops Q rest (act.put o.dst (.slice (some ⟨w.heap.size, 0, none⟩) 1 1)) (w.alloc (.cells #[.int .i64 k, .slice ao m c] 69))) : wpList Tryz.prog ops Q (o :: rest) act w :=
  wpList_plain hgd fun _ hK => by
    obtain ⟨i0, hi, hz0, hz1, hz2⟩ := info_parts infoFp
    refine wp_buildSlice 45 69 1 _ ho #[.int .i64 k, .slice ao m c] i0 _ Tryz.underlying45 hi hz0 (by rw [hz1]; decide) (by rw [hz1]; decide) ?_ (hK _ _ h)
    rw [hz1]
    have e : (#[(0, x)].map fun (i, x) => (i, act.eval x)).toList = [(0, .agg #[.int .i64 k, .slice ao m c])] := by simp [hx]
    rw [e]
    exact fill_onePc k ao m c

set_option maxHeartbeats 4000000 in
theorem put_free (D : Nat) (cs : Array Value) (a : Option Addr) (c : Nat) (qs : List FpQ) (k : Int) (bs : List UInt8) (ab : Option Addr) (cb : Nat) (w : World) (hD : w.heap[D]? = some (.cells cs 48 (0, 0))) (h13 : cs[13]? = some (.slice a qs.length c))
    (hown : w.ownsRow 0 69 2 (.slice a qs.length c) qs.length (fcells qs)) (hr : RdD w a (qs.map Prod.fst)) (hl : OkD (qs.map Prod.fst)) (hk : 0 ≤ k) (hb : bs ≠ []) (hkb : k + (bs.length : Int) ≤ 1099511627776) (hfree : touchP (qs.map Prod.fst) k (k + bs.length) = [])
    (hrb : Reads w ab (nb bs)) (hlen : qs.length ≤ 1099511627776) (hbl : bs.length ≤ 1099511627776) :
    Calls Tryz.prog 22 #[.pointer (some ⟨D, 13, none⟩), .int .i64 k, .slice ab bs.length cb] w fun e w' => e = .returned (.tuple #[]) ∧ ∃ (a' : Option Addr) (c' : Nat) (q : FpQ), q.1 = (k, bs) ∧
      w'.heap[D]? = some (.cells (cs.setIfInBounds 13 (.slice a' (qs.length + 1) c')) 48 (0, 0)) ∧ w'.ownsRow 0 69 2 (.slice a' (qs.length + 1) c') (qs.length + 1) (fcells (qs.take (aheadP (qs.map Prod.fst) k).length ++ q :: qs.drop (aheadP (qs.map Prod.fst) k).length)) ∧
      w'.ownsRow 0 5 1 (.slice q.2.1 bs.length q.2.2) bs.length (bc bs) ∧ (∀ j, (Value.slice q.2.1 bs.length q.2.2).ownBlock = some j → w.heap.size ≤ j) ∧ (∀ j, (Value.slice a' (qs.length + 1) c').ownBlock = some j → (Value.slice a qs.length c).ownBlock = some j ∨ w.heap.size ≤ j) ∧
      (∀ j, (Value.slice q.2.1 bs.length q.2.2).ownBlock = some j → (Value.slice a' (qs.length + 1) c').ownBlock ≠ some j) ∧ Kept (OrB (OneB D) (OwnB (.slice a qs.length c))) w w' := by
  obtain ⟨l, hle⟩ : ∃ l, l = qs.map Prod.fst := ⟨_, rfl⟩
  rw [← hle] at hr hl hfree ⊢
  have hll : l.length = qs.length := by rw [hle]; simp
  obtain ⟨n, hn⟩ : ∃ n, n = qs.length := ⟨_, rfl⟩
  rw [← hn] at h13 hown hlen hll ⊢
  have c13 : w.cell? ⟨D, 13, none⟩ = some (.slice a n c) := by rw [obj_cell hD]; exact h13
  have hcap : n ≤ c ∧ c ≤ maxLen := by
    rcases hown.2 with ⟨h1, h2⟩ | ⟨g, cc, cur, h1, _, _, h2, h3, _⟩
    · simp at h1; constructor; omega; unfold maxLen; omega
    · simp at h1; obtain ⟨_, rfl⟩ := h1; exact ⟨h2, h3⟩
  obtain ⟨A, hA⟩ : ∃ A, A = (aheadP l k).length := ⟨_, rfl⟩
  have hAn : A ≤ n := by rw [hA, ← hll]; exact ahead_le l k
  obtain ⟨mb, hmb⟩ : ∃ mb, mb = bs.length := ⟨_, rfl⟩
  obtain ⟨w2, hw2⟩ : ∃ w2, w2 = (w.alloc (.cells #[.slice a n c] 46)).alloc (.cells #[.int .i64 (k + (mb : Int))] 3) := ⟨_, rfl⟩
  have hk2 : Kept NoB w w2 := by rw [hw2]; exact ((Kept.refl NoB w).alloc _).alloc _
  have b1 : w2.cell? ⟨w.heap.size, 0, none⟩ = some (.slice a n c) := by rw [hw2]; exact ((Kept.refl NoB _).alloc _).cell (cell_new 0 rfl)
  have b3 : w2.cell? ⟨w.heap.size + 1, 0, none⟩ = some (.int .i64 (k + (mb : Int))) := by rw [hw2]; exact cell_new 0 (by simp)
  have s2 : w2.heap.size = w.heap.size + 2 := by rw [hw2]; simp
  have HA := Lib.hid (after_any l hl a c (k - 1) w2 (hr.kept hk2) (by omega) hcap.2 (by omega) (by omega))
  rw [hll, show k - 1 + 1 = k by omega, ← hA] at HA
  have HW := Lib.hid hw2; have HK2 := Lib.hid hk2; have HS2 := Lib.hid s2
  have HAll := Lib.hid (⟨hD, hown, hr, hl, hfree, hrb, hA, hll⟩ : _ ∧ _ ∧ _ ∧ _ ∧ _ ∧ _ ∧ _ ∧ _)
  have HMb := Lib.hid hmb
  rw [← hmb] at hkb hbl ⊢
  have hc63 : (c : Int) ≤ 9223372036854775807 := by have := hcap.2; unfold maxLen at this; omega
  have HCap := Lib.hid hcap
  have HCs := Lib.hid h13
  have HN := Lib.hid hn; have HLe := Lib.hid hle
  clear hw2 hk2 s2 hD hown hr hl hfree hrb hA hll hmb hcap h13 hn hle
  go_enter Tryz.func22, Tryz.ntmps22
  go_upto_region 2 with fail
  rw [← HW.out]
  go_wp2_with fail
  refine HA.out.mono ?_
  rintro e w3 ⟨rfl, hk3⟩
  have HK3 := Lib.hid (HK2.out.trans hk3)
  have d1 := hk3.cell b1
  have d3 := hk3.cell b3
  clear hk3 b1 b3 HA
  go_upto_region 3 with fail
  obtain ⟨w4, hw4⟩ : ∃ w4, w4 = w3.alloc (.cells #[.int .i64 (A : Int)] 3) := ⟨_, rfl⟩
  rw [← hw4]
  have hk4 : Kept NoB w3 w4 := by rw [hw4]; exact (Kept.refl NoB w3).alloc _
  have e1 := hk4.cell d1
  have e3 := hk4.cell d3
  have e2 : w4.cell? ⟨w3.heap.size, 0, none⟩ = some (.int .i64 (A : Int)) := by rw [hw4]; exact cell_new 0 rfl
  have HK4 := Lib.hid (HK3.out.trans hk4)
  have hnA : (n : Int) - (A : Int) = ((n - A : Nat) : Int) := by omega
  have HSr : Hid (∀ W, Kept NoB w4 W → Calls Tryz.prog 35 #[.int .i64 ((n : Int) - (A : Int)), .func (.func 36) #[] #[.pointer (some ⟨w.heap.size, 0, none⟩), .pointer (some ⟨w3.heap.size, 0, none⟩), .pointer (some ⟨w.heap.size + 1, 0, none⟩)]] W fun e w' => e = .returned (.int .i64 0) ∧ Kept NoB W w') := Lib.hid (fun W hkW => by
    obtain ⟨_, _, hr, hl, hfree, _, hA, hll⟩ := HAll.out
    have := search2_any l hl a c w.heap.size w3.heap.size (w.heap.size + 1) k (k + (mb : Int)) W ((hr.kept HK4.out).kept hkW) (by rw [hll]; exact hkW.cell e1) (by rw [← hA]; exact hkW.cell e2) (hkW.cell e3) (by omega)
    rw [← hA, hll, HMb.out, hfree] at this
    rw [hnA]; exact this)
  have D1 : ∀ W, Kept NoB w4 W → W.cell? ⟨w.heap.size, 0, none⟩ = some (.slice a n c) := fun W hk => hk.cell e1
  have D2 : ∀ W, Kept NoB w4 W → W.cell? ⟨w3.heap.size, 0, none⟩ = some (.int .i64 (A : Int)) := fun W hk => hk.cell e2
  have hwr : IntKind.i64.wrap ((n : Int) - (A : Int)) = (n : Int) - (A : Int) := by rw [IntKind.wrap_i64]; omega
  clear d1 d3 hk4 hw4 hnA e3
  go_region_held3 (fun W => Kept NoB w4 W) (first | assumption | exact Kept.refl _ _ | exact Kept.drew (Kept.refl _ _) | exact Kept.drew (by assumption) | exact Kept.trans (by assumption) hkn) ((go_at_call 35; ((with_reducible refine (HSr.out _ (by assumption)).mono ?_); rintro e wn ⟨rfl, hkn⟩)))
  have hkw : Kept NoB w4 wn := by assumption
  have f1 := hkw.cell e1
  have f2 := hkw.cell e2
  have HKn := Lib.hid (HK4.out.trans hkw)
  clear hkw hkn D1 D2 e1 e2 HSr
  go_upto_region 5 with fail
  have HCl : Hid (∀ W, Kept NoB wn W → Calls Tryz.prog 32 #[.slice ab mb cb] W fun e w' => ∃ ao cap, e = .returned (.slice ao mb cap) ∧ Hid (w'.ownsRow 0 5 1 (.slice ao mb cap) mb (bc bs) ∧ (∀ j, (Value.slice ao mb cap).ownBlock = some j → wn.heap.size ≤ j) ∧ Kept NoB wn w')) := Lib.hid (fun W hkW => by
    obtain ⟨_, _, _, _, _, hrb, _, _⟩ := HAll.out
    have e0 : (nb bs).length = mb := by rw [nb_len, HMb.out]
    have := clone_any ab cb (nb bs) W (hrb.kept (HKn.out.trans hkW) (fun _ _ e => e)) (by rw [e0]; omega)
    rw [e0] at this
    refine this.mono ?_
    rintro e w' ⟨ao, cap, rfl, h1, h2, _, h4⟩
    rw [e0] at h1 h2 ⊢
    refine ⟨ao, cap, rfl, Lib.hid ⟨?_, fun j hj => Nat.le_trans hkW.size (h2 j hj), hkW.trans h4⟩⟩
    rw [bc_nb]; exact h1)
  have HIn : Hid (∀ W vb ao cap, Kept NoB wn W → wn.heap.size ≤ vb → W.heap[vb]? = some (.cells #[.int .i64 k, .slice ao mb cap] 69 (0, 0)) → Calls Tryz.prog 37 #[.slice a n c, .int .i64 (A : Int), .slice (some ⟨vb, 0, none⟩) 1 1] W (InsP W a n c (fcells (qs.take A ++ ((k, bs), (ao, cap)) :: qs.drop A)))) := Lib.hid (fun W vb ao cap hkW hvb hv => by
    obtain ⟨_, hown, _, _, _, _, _, _⟩ := HAll.out
    have hkw := HKn.out.trans hkW
    refine insert_any a n c A qs ((k, bs), (ao, cap)) W HN.out (hkw.row hown (fun _ _ e => e)) hAn vb (by rw [hv, HMb.out]) (fun e => ?_) hlen
    have := (hown.lt _ e).2
    have := HKn.out.size
    omega)
  have D5 : ∀ W W', Kept NoB wn W → Kept (OwnB (.slice a n c)) W W' → Hid (W'.heap[D]? = some (.cells cs 48 (0, 0))) := fun W W' h1 h2 => Lib.hid (by
    obtain ⟨hD, hown, _, _, _, _, _, _⟩ := HAll.out
    refine h2.obj ((HKn.out.trans h1).obj hD (fun h => h)) (fun e => ?_)
    rcases hown.2 with ⟨q1, q2⟩ | ⟨g, cc, cur, q1, _, q2, _⟩
    · simp at q1; rw [q1.1] at e; cases e
    · simp at q1
      have e' : (Value.slice a n c).ownBlock = some D := e
      rw [q1.1] at e'
      have e2 : g = D := by injection e'
      rw [e2, hD] at q2
      injection q2 with q3; injection q3 with _ q4 _; revert q4; decide)
  have D0 : ∀ W, Kept NoB wn W → W.cell? ⟨D, 13, none⟩ = some (.slice a n c) := fun W hk => (HKn.out.trans hk).cell c13
  have hDl : D < w.heap.size ∧ ∀ j, (Value.slice a n c).ownBlock = some j → j < w.heap.size := ⟨obj_lt HAll.out.1, fun j hj => (HAll.out.2.1.lt j hj).2⟩
  have D1 : ∀ W, Kept (OrB (OneB D) (OwnB (.slice a n c))) wn W → W.cell? ⟨w.heap.size, 0, none⟩ = some (.slice a n c) := fun W hk => hk.cellS f1 (fun e => by
    rcases e with e | e
    · have e : w.heap.size = D := e
      have := hDl.1; omega
    · have := hDl.2 _ e; dsimp only at this; omega)
  have s3 : w.heap.size ≤ w3.heap.size := HK3.out.size
  have D2 : ∀ W, Kept (OrB (OneB D) (OwnB (.slice a n c))) wn W → W.cell? ⟨w3.heap.size, 0, none⟩ = some (.int .i64 (A : Int)) := fun W hk => hk.cellS f2 (fun e => by
    rcases e with e | e
    · have e : w3.heap.size = D := e
      have := hDl.1; omega
    · have := hDl.2 _ e; dsimp only at this; omega)
  have HDl := Lib.hid hDl
  clear hDl s3
  go_region_held3 (fun W => Kept (OrB (OneB D) (OwnB (.slice a n c))) wn W) (first | assumption | exact Kept.refl _ _ | exact Kept.drew (Kept.refl _ _) | exact Kept.drew (by assumption) | exact Kept.alloc (by assumption) _ | exact Kept.drew (Kept.alloc (by assumption) _) | exact Kept.setCell (by assumption) (.inl (.inl rfl)) _) (first
    | (go_at_call 32; ((with_reducible refine (HCl.out _ (by first | exact Kept.refl _ _ | exact (Kept.refl _ _).drew | exact (Kept.refl _ _).drewN _)).mono ?_); rintro e wc ⟨ao, cap, rfl, hCp⟩; have hkc : Kept (OrB (OneB D) (OwnB (.slice a n c))) wn wc := hCp.out.2.2.dom))
    | (refine wpList_build_pc rfl (.tmp 42) rfl k ao mb cap rfl ?_)
    | (go_at_call 37; ((with_reducible refine (HIn.out _ wc.heap.size ao cap (hCp.out.2.2.alloc _) hCp.out.2.2.size (heap_push _ _)).mono ?_); rintro e wi ⟨a', c', rfl, hI1, hIk, hI3⟩; (have HI := Lib.hid (And.intro hI1 (And.intro hIk hI3))); have HDi := D5 _ _ (hCp.out.2.2.alloc _) hIk; (have dc := obj_cell HDi.out 13); (rw [HCs.out] at dc); (have df := obj_free HDi.out 13); have hki : Kept (OrB (OneB D) (OwnB (.slice a n c))) wn wi := (hCp.out.2.2.alloc _).dom.trans (hIk.mono (fun _ _ e => .inr e)); clear hI1 hIk hI3)))
  have hkl : Kept (OrB (OneB D) (OwnB (.slice a n c))) wn wi := hki
  go_wp2_with fail
  obtain ⟨hIr, hIk, hI3⟩ := HI.out
  obtain ⟨hcr, hcf, hck⟩ := hCp.out
  obtain ⟨hD, hown, _, _, _, _, hA, _⟩ := HAll.out
  have sn : w.heap.size ≤ wn.heap.size := HKn.out.size
  have sc : wn.heap.size ≤ wc.heap.size := hck.size
  have sa : (wc.alloc (.cells #[.int .i64 k, .slice ao mb cap] 69)).heap.size = wc.heap.size + 1 := by simp
  have hqa : ∀ j, (Value.slice ao mb cap).ownBlock = some j → wn.heap.size ≤ j ∧ j < wc.heap.size := fun j hj => ⟨hcf j hj, (hcr.lt j hj).2⟩
  have hbD : ∀ j, (Value.slice a' (n + 1) c').ownBlock = some j → j ≠ D := fun j hj => by
    rcases hI3 j hj with e | e
    · exact row2_ne hown hD (by decide) j e
    · have := HDl.out.1; omega
  have hcr2 : wi.ownsRow 0 5 1 (.slice ao mb cap) mb (bc bs) := hIk.row ((Kept.refl NoB wc).alloc _ |>.row hcr (fun _ _ e => e)) (fun j hj e => by
    have := HDl.out.2 j e
    have := (hqa j hj).1
    omega)
  rw [← hA]
  refine bodyPost_ret (results_none rfl _ _ _) rfl ⟨rfl, a', c', ((k, bs), (ao, cap)), rfl, obj_set HDi.out 13 _, ?_, ?_, fun j hj => ?_, fun j hj => ?_, fun j hj e => ?_, HKn.out.dom.trans (hkl.setCell (p := ⟨D, 13, none⟩) (.inl (.inl rfl)) _)⟩
  · exact Kept.row (Kept.setCell (S := OneB D) (p := ⟨D, 13, none⟩) (Kept.refl _ _) (.inl rfl) _) hIr (fun j hj e => hbD j hj e)
  · exact Kept.row (Kept.setCell (S := OneB D) (p := ⟨D, 13, none⟩) (Kept.refl _ _) (.inl rfl) _) hcr2 (fun j hj e => by
      have e : j = D := e
      have := (hqa j hj).1
      have := HDl.out.1
      omega)
  · have := (hqa j hj).1; omega
  · rcases hI3 j hj with e | e
    · exact .inl e
    · right; omega
  · have h1 := hqa j hj
    rcases hI3 j e with e | e
    · have := HDl.out.2 j e; omega
    · omega
end Go.Proofs.YtjjgadanobeamaaGreatDoor

namespace Go.Proofs.YtjjgadanobeamaaGreatDoor
open Go.RowKit
set_option linter.unusedVariables false
set_option linter.unusedSimpArgs false
set_option maxRecDepth 20000

theorem sizeD_take (l : List Fp) (i : Nat) (h : i < l.length) : sizeD (l.take (i + 1)) = sizeD (l.take i) + l[i].2.length := by
  rw [List.take_succ_eq_append_getElem h, sizeD_append, sizeD_cons]
  simp [sizeD]
theorem sizeD_take_le (l : List Fp) (i : Nat) : sizeD (l.take i) ≤ sizeD l := by
  have : sizeD l = sizeD (l.take i) + sizeD (l.drop i) := by
    rw [← sizeD_append, List.take_append_drop]
  omega
set_option maxHeartbeats 2000000 in
theorem size_any (l : List Fp) (a : Option Addr) (c : Nat) (w : World) (hr : RdD w a l) (hc : l.length ≤ c) (hcm : c ≤ maxLen) (hs : sizeD l ≤ 4611686018427387904) :
    Calls Tryz.prog 30 #[.slice a l.length c] w fun e w' => e = .returned (.int .i64 (sizeD l : Int)) ∧ Kept NoB w w' := by
  have HSt := Lib.hid (fun i (hi : i < l.length) => sizeD_take l i hi)
  have HLe := Lib.hid (sizeD_take_le l)
  have HR := Lib.hid hr
  have hcm2 : l.length ≤ 9223372036854775807 := by unfold maxLen at hcm; omega
  obtain ⟨T, hT⟩ : ∃ T, T = sizeD l := ⟨_, rfl⟩
  rw [← hT] at hs HLe ⊢
  have HT := Lib.hid hT
  obtain ⟨n, hn⟩ : ∃ n, n = l.length := ⟨_, rfl⟩
  have HN := Lib.hid hn
  rw [← hn] at hc hcm2 ⊢
  clear hT hn hr hcm
  go_enter Tryz.func30, Tryz.ntmps30
  go_wp2
  go_loopw [3, 5, 8] (fun v3 v5 v8 wr => ∃ i s : Nat, v3 = .int .i64 (s : Int) ∧ v8 = .int .i64 (i : Int) ∧ i ≤ n ∧ s ≤ T ∧ Hid (s = sizeD (l.take i) ∧ Kept NoB w wr)) (fun _ _ v8 _ => n - (intOf v8).toNat)
  case atStart => exact ⟨0, 0, rfl, rfl, by omega, by omega, Lib.hid ⟨by simp [sizeD], Kept.refl _ _⟩⟩
  case round =>
    obtain ⟨i, s, rfl, rfl, hi, hsT, HS⟩ := hrel
    by_cases hlt : (i : Int) < (n : Int)
    · have hin : i < l.length := by have := HN.out; omega
      obtain ⟨b, off, bo, bc, rfl, c0, c1, q1, q2⟩ := HR.out i hin
      have d0 := HS.out.2.cell c0
      have d1 := HS.out.2.cell c1
      have e1 := HSt.out i hin
      have e2 := HLe.out (i + 1)
      rw [show off + (i * 2 + 1) = off + i * 2 + 1 by omega] at d1
      rw [← HS.out.1] at e1
      obtain ⟨z, hz⟩ : ∃ z, z = l[i].1 := ⟨_, rfl⟩
      obtain ⟨k, hk⟩ : ∃ k, k = l[i].2.length := ⟨_, rfl⟩
      rw [← hz] at d0
      rw [← hk] at d1 e1 q1
      rw [e1] at e2
      have HK1 := Lib.hid (HS.out.2.alloc (.cells #[.int .i64 z, .slice bo k bc] 69))
      have E1 := Lib.hid e1
      clear c0 c1 e1 hz hk
      go_wp2
      go_roundw
      case rel => exact ⟨i + 1, s + k, by go_num, by go_num, by omega, by omega, Lib.hid ⟨E1.out.symm, HK1.out⟩⟩
      case measure => simp [intOf]; omega
    · have hie : i = n := by omega
      have HF : Hid (s = T) := Lib.hid (by
        have h := HS.out.1
        rw [hie, HN.out, List.take_length, ← HT.out] at h
        exact h)
      clear hie
      go_wp2
      go_ret
      exact ⟨by rw [HF.out]; rfl, HS.out.2⟩
end Go.Proofs.YtjjgadanobeamaaGreatDoor

namespace Go.Proofs.YtjjgadanobeamaaGreatDoor
set_option linter.unusedVariables false
set_option linter.unusedSimpArgs false

def isD (l : List Fp) (x : Int) : Bool := l.any (fun p => decide (p.1 ≤ x) && decide (x < endP p))
theorem isD_no (l : List Fp) (x : Int) (i : Nat) (h1 : ∀ j (hj : j < l.length), j < i → endP l[j] ≤ x) (h2 : ∀ j (hj : j < l.length), i ≤ j → x < l[j].1) : isD l x = false := by
  unfold isD
  rw [List.any_eq_false]
  intro p hp
  obtain ⟨j, hj, rfl⟩ := List.getElem_of_mem hp
  rcases Nat.lt_or_ge j i with h | h
  · have := h1 j hj h; simp; omega
  · have := h2 j hj h; simp; omega
theorem isD_yes (l : List Fp) (x : Int) (i : Nat) (hi : i < l.length) (h1 : l[i].1 ≤ x) (h2 : x < endP l[i]) : isD l x = true := by
  unfold isD
  rw [List.any_eq_true]
  exact ⟨l[i], List.getElem_mem hi, by simp [h1, h2]⟩
theorem isD_has (l : List Fp) (x : Int) : isD l x = true ↔ ∃ c, HasB l x c := by
  unfold isD HasB
  rw [List.any_eq_true]
  constructor
  · rintro ⟨p, hp, h⟩
    simp at h
    have hlt : (x - p.1).toNat < p.2.length := by unfold endP at h; omega
    exact ⟨p.2[(x - p.1).toNat], p, hp, h.1, List.getElem?_eq_getElem hlt⟩
  · rintro ⟨c, p, hp, h1, h2⟩
    exact ⟨p, hp, by simp [h1, HasB.lt h1 h2]⟩
structure FitS (l : List Fp) (size : Nat) (k : Int) (room d fr i : Nat) : Prop where
  done : d ≤ size
  fresh : fr ≤ room
  eq : fitB (isD l) size k room = (d + (fitB (isD l) (size - d) (k + d) (room - fr)).1, fr + (fitB (isD l) (size - d) (k + d) (room - fr)).2)
  ahead : d < size → ∀ j (hj : j < l.length), j < i → endP l[j] ≤ k + d
  behind : d < size → ∀ j (hj : j < l.length), i ≤ j → k + d < endP l[j]
theorem FitS.start (l : List Fp) (size : Nat) (k : Int) (room i : Nat) (h1 : ∀ j (hj : j < l.length), j < i → endP l[j] ≤ k) (h2 : ∀ j (hj : j < l.length), i ≤ j → k < endP l[j]) : FitS l size k room 0 0 i :=
  ⟨Nat.zero_le _, Nat.zero_le _, by simp, fun _ j hj hi => by have := h1 j hj hi; omega, fun _ j hj hi => by have := h2 j hj hi; omega⟩
theorem FitS.ends {l : List Fp} {size : Nat} {k : Int} {room d fr i : Nat} (h : FitS l size k room d fr i) (hd : d = size) : fitB (isD l) size k room = (size, fr) := by
  rw [h.eq, hd, Nat.sub_self]
  unfold fitB
  simp
theorem FitS.gap {l : List Fp} (hl : OkD l) {size : Nat} {k : Int} {room d fr i g : Nat} (h : FitS l size k room d fr i) (hg : d + g ≤ size) (hb : ∀ j (hj : j < l.length), i ≤ j → k + d + g ≤ l[j].1) :
    (room - fr < g → fitB (isD l) size k room = (d + (room - fr), room)) ∧ (g ≤ room - fr → FitS l size k room (d + g) (fr + g) i) := by
  have hno : ∀ x : Nat, x < g → isD l (k + d + x) = false := fun x hx => isD_no l _ i (fun j hj hi => by have := h.ahead (by omega) j hj hi; omega) (fun j hj hi => by have := hb j hj hi; omega)
  have hf := h.fresh
  constructor
  · intro hr
    rw [h.eq, fitB_full (isD l) g (size - d) (k + d) (room - fr) (by omega) hr hno]
    exact Prod.ext rfl (by show fr + (room - fr) = room; omega)
  · intro hr
    refine ⟨hg, by omega, ?_, fun hd j hj hi => by have := h.ahead (by omega) j hj hi; omega, fun hd j hj hi => ?_⟩
    · rw [h.eq, fitB_gap (isD l) g (size - d) (k + d) (room - fr) (by omega) hr hno]
      have e1 : size - d - g = size - (d + g) := by omega
      have e2 : k + (d : Int) + (g : Int) = k + ((d + g : Nat) : Int) := by push_cast; omega
      have e3 : room - fr - g = room - (fr + g) := by omega
      rw [e1, e2, e3]
      refine Prod.ext ?_ ?_ <;> simp only <;> omega
    · have h1 := hb j hj hi
      have h2 := hl.each l[j] (List.getElem_mem hj)
      have h3 : 0 < l[j].2.length := List.length_pos_iff.2 h2.2.1
      unfold endP; omega
theorem FitS.within {l : List Fp} (hl : OkD l) {size : Nat} {k : Int} {room d fr i g : Nat} (h : FitS l size k room d fr i) (hi : i < l.length) (hg : d + g ≤ size) (h1 : 0 < g → l[i].1 ≤ k + d) (h2 : k + d + g ≤ endP l[i]) (h3 : d + g < size → k + d + g = endP l[i]) :
    FitS l size k room (d + g) fr (if d + g < size then i + 1 else i) := by
  have hyes : ∀ x : Nat, x < g → isD l (k + d + x) = true := fun x hx => isD_yes l _ i hi (by have := h1 (by omega); omega) (by omega)
  refine ⟨hg, h.fresh, ?_, ?_, ?_⟩
  · rw [h.eq, fitB_in (isD l) g (size - d) (k + d) (room - fr) (by omega) hyes]
    have e1 : size - d - g = size - (d + g) := by omega
    have e2 : k + (d : Int) + (g : Int) = k + ((d + g : Nat) : Int) := by push_cast; omega
    rw [e1, e2]
    refine Prod.ext ?_ rfl
    simp only
    omega
  · intro hd j hj hlt
    rw [if_pos hd] at hlt
    rcases Nat.lt_or_ge j i with e | e
    · have := h.ahead (by omega) j hj e; omega
    · have e2 : j = i := by omega
      subst e2
      have := h3 hd; omega
  · intro hd j hj hle
    rw [if_pos hd] at hle
    have := List.pairwise_iff_getElem.1 hl.apart i j hi hj (by omega)
    have h4 := h3 hd
    have h5 := hl.each l[j] (List.getElem_mem hj)
    have h6 : 0 < l[j].2.length := List.length_pos_iff.2 h5.2.1
    unfold endP at *; omega
theorem FitS.more {l : List Fp} {size : Nat} {k : Int} {room d fr i : Nat} (h : FitS l size k room d fr i) (hd : d = size) : FitS l size k room d fr (i + 1) :=
  ⟨h.done, h.fresh, h.eq, fun hd' => by omega, fun hd' => by omega⟩
end Go.Proofs.YtjjgadanobeamaaGreatDoor
