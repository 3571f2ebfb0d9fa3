/-
  sparse.Dense of no pieces; awake.
-/
import Derived.Test.YtbambcondcikbaaDoorSpNil
namespace Go.Proofs.YtbambcondcikbaaDoor
open Go.RowKit
set_option linter.unusedVariables false
set_option linter.unusedSimpArgs false

theorem ok_nil (size : Int) : okS size [] = (decide (0 ≤ size) && decide (size ≤ 1099511627776)) := by simp [okS, okG]
theorem rdp_nil (w : World) : RdP w w.heap.size none [] := fun i hi => by simp at hi
theorem intp_nil : IntP [] := fun p hp => by cases hp
/-- 'make([]byte, n)'. -/
theorem wpList_make_bytes (w : World) {ops : Array Oper} {rest : List Oper} {o : Oper} {a : Act} {Q : Exit → Act → World → Prop}
    (hg : o.guard = none) (l c : Operand) (hop : o.op = Op.makeSlice 26 l c) (n : Nat) (hl : a.eval l = .int .i64 (n : Int)) (hc : a.eval c = .int .i64 (n : Int)) (hm : n ≤ 1048576)
    (hK : ∀ w', w'.heap[w.heap.size]? = some (.cells (bc (List.replicate n 0)).toArray 5 (0, 0)) → Kept NoB w w' → wpList Tryd.prog ops Q rest (a.put o.dst (.slice (some ⟨w.heap.size, 0, none⟩) n n)) w') :
    wpList Tryd.prog ops Q (o :: rest) a w := by
  obtain ⟨i0, hi, hz0, hz1, hz2⟩ := info_parts info5
  refine wpList_plain hg fun K hK' => ?_
  have hr := run_make (P := Tryd.prog) w 26 5 i0 (.int .u8 0) Tryd.underlying26 hi hz0 .i64 .i64 n n (by omega) (by omega) (by rw [hz2]; omega) (by omega)
  simp only [Int.toNat_natCast] at hr
  unfold Oper.wp
  simp only [execOp, hop, hl, hc, hr, Sem.run_bind, Sem.run_pure, Result.andThen_ok]
  refine hK' _ _ (hK _ ?_ ((Kept.refl _ _).alloc _))
  refine (heap_alloc_new _ _).trans (congrArg (fun c => some (Obj.cells c 5 (0, 0))) ?_)
  apply Array.ext'
  rw [hz1, bc, List.map_replicate, List.toArray_replicate]
  have e : (madeCells #[Value.int .u8 0] (n * 1)).toList = List.replicate n (.int .u8 0) := by
    rw [List.eq_replicate_iff]
    refine ⟨by simp [madeCells], ?_⟩
    intro x hx
    simp only [madeCells, Array.toList_map, List.mem_map] at hx
    obtain ⟨i, _, rfl⟩ := hx
    rw [show i % (#[Value.int .u8 0] : Array Value).size = 0 from Nat.mod_one i]
    rfl
  exact e
set_option maxRecDepth 20000 in
set_option maxHeartbeats 2000000 in
theorem dense_big (size : Int) (w : World) (h0 : 1048576 < size) (h1 : size ≤ 9223372036854775807) :
    Calls Tryd.prog 14 #[.int .i64 size, .slice none 0 0] w fun e w' => e = .returned (.tuple #[.slice none 0 0, .bool false]) ∧ Kept NoB w w' := by
  have HO := Lib.hid (spok_any size none 0 0 [] w (by omega) h1 rfl (rdp_nil w) intp_nil (by omega) (by unfold maxLen; omega))
  obtain ⟨b, hb⟩ : ∃ b, b = okS size [] := ⟨_, rfl⟩
  rw [← hb] at HO
  clear hb
  go_enter Tryd.func14, Tryd.ntmps14
  go_wp2_with fail
  refine HO.out.mono ?_
  rintro e w1 ⟨rfl, hk1⟩
  have HK1 := Lib.hid hk1
  clear hk1
  cases b with
  | true =>
    go_wp2
    go_ret2
    exact ⟨rfl, HK1.out⟩
  | false =>
    go_wp2
    go_ret2
    exact ⟨rfl, HK1.out⟩
/-- A row of so many bytes, of the call's own. -/
def DenR (w : World) (n : Nat) (e : Ending) (w' : World) : Prop := ∃ g, e = .returned (.tuple #[.slice (some ⟨g, 0, none⟩) n n, .bool true]) ∧ w'.heap[g]? = some (.cells (bc (List.replicate n 0)).toArray 5 (0, 0)) ∧ w.heap.size ≤ g ∧ Kept NoB w w'
set_option maxRecDepth 20000 in
set_option maxHeartbeats 2000000 in
theorem dense_nil (n : Nat) (w : World) (h1 : n ≤ 1048576) :
    Calls Tryd.prog 14 #[.int .i64 (n : Int), .slice none 0 0] w (DenR w n) := by
  have HO := Lib.hid (spok_any (n : Int) none 0 0 [] w (by omega) (by omega) rfl (rdp_nil w) intp_nil (by omega) (by unfold maxLen; omega))
  rw [ok_nil, decide_eq_true (show (0 : Int) ≤ (n : Int) by omega), decide_eq_true (show (n : Int) ≤ 1099511627776 by omega)] at HO
  go_enter Tryd.func14, Tryd.ntmps14
  go_wp2_with fail
  refine HO.out.mono ?_
  rintro e w1 ⟨rfl, hk1⟩
  have HK1 := Lib.hid hk1
  clear hk1
  go_wp2_with (with_reducible refine wpList_make_bytes _ rfl _ _ rfl n rfl rfl h1 ?_)
  intro w2 h2 hk2
  have HK2 := Lib.hid (HK1.out.trans hk2)
  have H2 := Lib.hid h2
  have HS := Lib.hid HK1.out.size
  clear h2 hk2
  obtain ⟨G, hG⟩ : ∃ G, G = w1.heap.size := ⟨_, rfl⟩
  rw [← hG] at H2 HS ⊢
  clear hG
  go_wp2
  go_loopw [8, 21] (fun v8 v21 wr => v21 = .int .i64 0 ∧ wr = w2) (fun _ _ _ => 0)
  case atStart => exact ⟨rfl, rfl⟩
  case round =>
    obtain ⟨rfl, rfl⟩ := hrel
    go_wp2
    go_ret2
    exact ⟨G, rfl, H2.out, HS.out, HK2.out⟩
end Go.Proofs.YtbambcondcikbaaDoor
