/-
  A text copied onto a row of bytes that was made of a string.
-/
import Derived.Test.YtnhfbpikfkncpaaMarkB
import Derived.Laws.IdiomCopy
namespace Go.Proofs.Ytnhfbpikfkncpaa
open Go.RowKit
set_option linter.unusedVariables false
set_option linter.unusedSimpArgs false

/-- Bytes put over others. -/
def putL : List Int → Nat → List Int → List Int
  | bs, _, [] => bs
  | bs, o, y :: r => putL (bs.set o y) (o + 1) r
theorem putL_len : ∀ (ys bs : List Int) (o : Nat), (putL bs o ys).length = bs.length
  | [], _, _ => rfl
  | y :: r, bs, o => by rw [putL, putL_len r, List.length_set]
theorem allB_set {bs : List Int} (h : AllB bs) (o : Nat) (v : Int) (hv : 0 ≤ v ∧ v < 256) : AllB (bs.set o v) := by
  intro x hx
  rcases List.mem_or_eq_of_mem_set hx with h2 | h2
  · exact h x h2
  · rw [h2]; exact hv
theorem putL_all : ∀ (ys bs : List Int) (o : Nat), AllB bs → AllB ys → AllB (putL bs o ys)
  | [], _, _, h, _ => h
  | y :: r, bs, o, h, hy => by
    rw [putL]
    exact putL_all r _ _ (allB_set h o y (by have := hy y (by simp); omega)) (fun x hx => hy x (by simp [hx]))
theorem infoU8 : (Try.prog.info? 5).map (·.size) = some 1 := by kernel_rfl
theorem OwnM.cells {g cap n : Nat} : ∀ (ys bs : List Int) (o : Nat) (w : World), OwnM w (.slice (some ⟨g, 0, none⟩) n cap) bs → o + ys.length ≤ n → OwnM (w.setCells g o (ys.map (.int .u8))) (.slice (some ⟨g, 0, none⟩) n cap) (putL bs o ys)
  | [], bs, o, w, h, _ => h
  | y :: r, bs, o, w, h, hl => by
    rw [List.length_cons] at hl
    rw [List.map_cons, World.setCells, putL]
    exact OwnM.cells r _ (o + 1) _ (h.set o y (by omega)) (by omega)
theorem kept_cells {S : Nat → Prop} {a : World} {g : Nat} : ∀ (vs : List Value) (o : Nat) (w : World), Kept S a w → (S g ∨ a.heap.size ≤ g) → Kept S a (w.setCells g o vs)
  | [], _, _, h, _ => h
  | v :: r, o, w, h, hg => by
    rw [World.setCells]
    exact kept_cells r (o + 1) _ (h.setCell (p := ⟨g, o, none⟩) hg v) hg
/-- 'copy(c[o:], text)'. -/
theorem copy_mark {w : World} {g cap n : Nat} {bs ys : List Int} (h : OwnM w (.slice (some ⟨g, 0, none⟩) n cap) bs) (hy : AllB ys) (o d c : Nat) (h1 : o + ys.length ≤ n) (h2 : ys.length ≤ d) :
    (Builtin.copy_ #[24, 9] 3 #[.slice (some ⟨g, o, none⟩) d c, .string (strOfNums ys)]).run Try.prog w = .ok (goInt ys.length) (w.setCells g o (ys.map (.int .u8))) := by
  have hs : (strOfNums ys).size = ys.length := strOfNums_size ys
  have hm : Nat.min (strOfNums ys).size d = ys.length := by rw [hs]; exact Nat.min_eq_left h2
  have hn := h.at.1
  have hst := run_storeCells_cells (P := Try.prog) g o (ys.map (.int .u8)) 0 w
    (fun j hj => by
      rw [List.length_map] at hj
      have hh := h
      rw [hn] at hh
      rw [Nat.add_zero, hh.cellAt (o + j) (by omega)]; rfl)
    (fun j hj => by rw [List.length_map] at hj; rw [Nat.add_zero]; exact h.free (o + j) (by omega))
    (fun v hv => by obtain ⟨z, _, rfl⟩ := List.mem_map.1 hv; rfl)
  have hi := infoU8
  have hsc : List.take ys.length (scells (strOfNums ys)) = ys.map (.int .u8) := by rw [scells_num hy]; exact List.take_of_length_le (by simp)
  have htk : List.take ys.length (List.map (fun b : UInt8 => Value.int IntKind.u8 (b.toNat : Int)) (strOfNums ys).data.toList) = (scells (strOfNums ys)).take ys.length := rfl
  cases hq : Try.prog.info? 5 with
  | none => simp [hq] at hi
  | some i =>
    simp [Builtin.copy_, run_underlying Try.underlying24, Builtin.lenOf, Builtin.firstCells, sizeOf, typeInfo, hq]
    rw [hm, htk, hsc, hst]
    simp [Result.andThen]
end Go.Proofs.Ytnhfbpikfkncpaa
