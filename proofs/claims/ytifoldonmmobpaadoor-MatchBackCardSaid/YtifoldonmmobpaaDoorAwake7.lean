/-
  What the document fixes of stage 7.
-/
import Derived.Test.YtifoldonmmobpaaDoorMatL
import Derived.ChangeKeysEq
import Derived.Laws.StructEq
import Derived.Lib.SlBytesConst
namespace Go.Proofs.YtifoldonmmobpaaDoor
open Go.RowKit
set_option linter.unusedVariables false
set_option linter.unusedSimpArgs false
set_option maxRecDepth 20000

theorem rest4 : restT 1 [97, 97, 97, 97] 0 = [⟨0, 0, 97⟩, ⟨3, 1, 0⟩] := by
  have h0 : lazyN 1 [97, 97, 97, 97] 0 = (0, 0) := by decide
  have h1 : lazyN 1 [97, 97, 97, 97] 1 = (3, 1) := by decide
  rw [rest_step 1 _ 0 (by decide), step_lit (by rw [h0]), rest_step 1 _ (0 + 1) (by decide), step_tok (by rw [h1]; decide), h1, rest_end 1 _ _ (by decide)]
  rfl
theorem long6 : longV [97, 98, 99, 97, 98, 99] 3 = (3, 3) := by decide
theorem tk_part (t : TypeId) (xs : Array Value) (off : Nat) (v : Value) (W : World) (ht : t = 3 ∨ t = 5) (h : xs[off]? = some v) : (part t xs off).run Tryd.prog W = .ok v W := by
  rcases ht with rfl | rfl
  · exact run_part_plain W (by kernel_rfl) h
  · exact run_part_plain W (by kernel_rfl) h
theorem tk_eqIn (W : World) (a b : Tk) : (Op.equalIn 10000 26 (.agg #[.int .i64 a.l, .int .i64 a.d, .int .u8 a.c]) (.agg #[.int .i64 b.l, .int .i64 b.d, .int .u8 b.c])).run Tryd.prog W = .ok (a.l == b.l && a.d == b.d && a.c == b.c) W := by
  have hs : Tryd.prog.cellsOf 3 = 1 := by kernel_rfl
  rw [run_equalIn_agg _ _ _ _ _ (by kernel_rfl) (by kernel_rfl)]
  rw [Program.fieldsOf, Tryd.underlying26]
  obtain ⟨al, ad, ac⟩ := a
  obtain ⟨bl, bd, bc⟩ := b
  have p1 := tk_part 3 #[.int .i64 al, .int .i64 ad, .int .u8 ac] 0 (.int .i64 al) W (.inl rfl) rfl
  have p2 := tk_part 3 #[.int .i64 bl, .int .i64 bd, .int .u8 bc] 0 (.int .i64 bl) W (.inl rfl) rfl
  have p3 := tk_part 3 #[.int .i64 al, .int .i64 ad, .int .u8 ac] 1 (.int .i64 ad) W (.inl rfl) rfl
  have p4 := tk_part 3 #[.int .i64 bl, .int .i64 bd, .int .u8 bc] 1 (.int .i64 bd) W (.inl rfl) rfl
  have p5 := tk_part 5 #[.int .i64 al, .int .i64 ad, .int .u8 ac] 2 (.int .u8 ac) W (.inr rfl) rfl
  have p6 := tk_part 5 #[.int .i64 bl, .int .i64 bd, .int .u8 bc] 2 (.int .u8 bc) W (.inr rfl) rfl
  have q1 : (Op.equalIn 9999 3 (.int .i64 al) (.int .i64 bl)).run Tryd.prog W = .ok (al == bl) W := run_equalIn_int (P := Tryd.prog) W 9998 3 .i64 .i64 al bl Tryd.underlying3
  have q2 : (Op.equalIn 9999 3 (.int .i64 ad) (.int .i64 bd)).run Tryd.prog W = .ok (ad == bd) W := run_equalIn_int (P := Tryd.prog) W 9998 3 .i64 .i64 ad bd Tryd.underlying3
  have q3 : (Op.equalIn 9999 5 (.int .u8 ac) (.int .u8 bc)).run Tryd.prog W = .ok (ac == bc) W := run_equalIn_int (P := Tryd.prog) W 9998 5 .u8 .u8 ac bc Tryd.underlying5
  simp only [Op.eqFields]
  rw [if_pos (by decide), if_pos (by decide), if_pos (by decide)]
  simp only [Sem.run_bind, p1, p2, p3, p4, p5, p6, q1, Result.andThen_ok, Sem.run_ite]
  cases (al == bl) with
  | false => simp
  | true =>
    simp only [Bool.not_true, Bool.false_eq_true, if_false, q2, Result.andThen_ok]
    cases (ad == bd) with
    | false => simp
    | true =>
      simp only [Bool.not_true, Bool.false_eq_true, if_false, p5, p6, q3, Result.andThen_ok]
      cases (ac == bc) <;> simp [p5, p6, q3]
theorem tk_eq (W : World) (a b : Tk) : (binOp .eql 26 (.agg #[.int .i64 a.l, .int .i64 a.d, .int .u8 a.c]) (.agg #[.int .i64 b.l, .int .i64 b.d, .int .u8 b.c])).run Tryd.prog W = .ok (.bool (a.l == b.l && a.d == b.d && a.c == b.c)) W := by
  rw [run_eql_struct, tk_eqIn]; rfl
theorem tk_neq (W : World) (a b : Tk) : (binOp .neq 26 (.agg #[.int .i64 a.l, .int .i64 a.d, .int .u8 a.c]) (.agg #[.int .i64 b.l, .int .i64 b.d, .int .u8 b.c])).run Tryd.prog W = .ok (.bool (!(a.l == b.l && a.d == b.d && a.c == b.c))) W := by
  rw [run_neq_struct, tk_eqIn]; rfl
/-- A row that was just made of bytes. -/
theorem rowB_new {w : World} {vs : Array Value} {t : TypeId} {fr : Nat × Nat} {L : List UInt8} (h : vs.toList = L.map (fun b => Value.int .u8 (b.toNat : Int))) : RowB (w.alloc (.cells vs t fr)) (w.heap.size + 1) (some ⟨w.heap.size, 0, none⟩) L := fun hl => by
  refine ⟨_, _, rfl, by omega, fun i hi => ?_⟩
  have hc := cell_of_row (w.alloc (.cells vs t fr)) w.heap.size i vs t fr (heap_alloc_new _ _)
  rw [Nat.zero_add, hc, ← Array.getElem?_toList, h, List.getElem?_map, List.getElem?_eq_getElem hi]
  simp [List.getD, hi]
set_option maxHeartbeats 4000000 in
theorem awake7 (w : World) (hT : DeB w) : Calls Tryd.prog 8 #[] w fun e w' => e = .returned (.bool true) ∧ Kept NoB w w' := by
  have HT := Lib.hid hT
  clear hT
  have kc := fun (w : World) (C : Array Value) (n c : Nat) => Lib.run_convert_bytes_const (P := Tryd.prog) w 22 5 C n c Tryd.underlying22 Tryd.underlying5
  obtain ⟨wA, hwA⟩ : ∃ wA, wA = w.alloc (.cells #[.int .u8 97, .int .u8 97, .int .u8 97, .int .u8 97] 5 (4, 5)) := ⟨_, rfl⟩
  have hkA : Kept NoB w wA := by rw [hwA]; exact (Kept.refl _ _).alloc _
  have hrA : RowB wA wA.heap.size (some ⟨w.heap.size, 0, none⟩) [97, 97, 97, 97] := by
    rw [hwA]
    exact (rowB_new rfl).room (by simp)
  have hA := tokens_any (some ⟨w.heap.size, 0, none⟩) 4 4 1 [97, 97, 97, 97] wA hrA rfl (by omega) (by omega) (by omega) (HT.out.kept hkA) (by omega)
  rw [rest4] at hA
  have HA := Lib.hid hA
  have HKA := Lib.hid hkA
  have HWA := Lib.hid hwA
  clear hA hrA hkA hwA
  go_enter Tryd.func8, Tryd.ntmps8
  go_wp2_with fail
  rw [← HWA.out]
  with_reducible refine HA.out.mono ?_
  rintro e w2 ⟨a2, c2, rfl, ht2, hk2⟩
  have HT2 := Lib.hid ht2
  have HK2 := Lib.hid (HKA.out.trans hk2)
  clear ht2 hk2
  obtain ⟨wB, hwB⟩ : ∃ wB, wB = w2.alloc (.cells #[.int .u8 97, .int .u8 98, .int .u8 99, .int .u8 97, .int .u8 98, .int .u8 99] 5 (6, 7)) := ⟨_, rfl⟩
  have hkB : Kept NoB w2 wB := by rw [hwB]; exact (Kept.refl _ _).alloc _
  have hrB : RowB wB wB.heap.size (some ⟨w2.heap.size, 0, none⟩) [97, 98, 99, 97, 98, 99] := by
    rw [hwB]
    exact (rowB_new rfl).room (by simp)
  have hB := longest_any (some ⟨w2.heap.size, 0, none⟩) 6 6 3 [97, 98, 99, 97, 98, 99] wB hrB rfl (by omega) (by omega) (HT.out.kept (HK2.out.trans hkB)) (by omega) (by omega)
  rw [long6] at hB
  have HB := Lib.hid hB
  have HKB := Lib.hid (HK2.out.trans hkB)
  have HTB := Lib.hid (HT2.out.keptS hkB (fun _ _ h => h))
  have HWB := Lib.hid hwB
  clear hB hrB hkB hwB
  go_wp2_with fail
  rw [← HWB.out]
  with_reducible refine HB.out.mono ?_
  rintro e w3 ⟨rfl, hk3⟩
  have HK3 := Lib.hid (HKB.out.trans hk3)
  have HT3 := Lib.hid (HTB.out.keptS hk3 (fun _ _ h => h))
  clear hk3
  obtain ⟨b, off, hab, e0, e1, e2⟩ := HT3.out.reads 0 (by decide)
  obtain ⟨b', off', hab', f0, f1, f2⟩ := HT3.out.reads 1 (by decide)
  rw [hab] at hab'
  cases hab'
  subst hab
  have e0' : w3.cell? ⟨b, off, none⟩ = some (.int .i64 0) := e0
  have e1' : w3.cell? ⟨b, off + 1, none⟩ = some (.int .i64 0) := e1
  have e2' : w3.cell? ⟨b, off + 2, none⟩ = some (.int .u8 97) := e2
  have f0' : w3.cell? ⟨b, off + 3, none⟩ = some (.int .i64 3) := f0
  have f1' : w3.cell? ⟨b, off + 3 + 1, none⟩ = some (.int .i64 1) := f1
  have f2' : w3.cell? ⟨b, off + 3 + 2, none⟩ = some (.int .u8 0) := f2
  clear e0 e1 e2 f0 f1 f2
  have q1 : ∀ W : World, (binOp .eql 26 (.agg #[.int .i64 0, .int .i64 0, .int .u8 97]) (.agg #[.int .i64 0, .int .i64 0, .int .u8 97])).run Tryd.prog W = .ok (.bool true) W := fun W => tk_eq W ⟨0, 0, 97⟩ ⟨0, 0, 97⟩
  have q2 : ∀ W : World, (binOp .eql 26 (.agg #[.int .i64 3, .int .i64 1, .int .u8 0]) (.agg #[.int .i64 3, .int .i64 1, .int .u8 0])).run Tryd.prog W = .ok (.bool true) W := fun W => tk_eq W ⟨3, 1, 0⟩ ⟨3, 1, 0⟩
  go_wp2
  go_ret
  exact ⟨rfl, HK3.out⟩
end Go.Proofs.YtifoldonmmobpaaDoor
