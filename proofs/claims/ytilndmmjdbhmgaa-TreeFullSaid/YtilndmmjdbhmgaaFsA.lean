/-
  A tree of files in memory: its nodes, their names, what was written of them; the blocks of each bear a mark of their own.
-/
import Derived.Test.YtilndmmjdbhmgaaMapF
import Derived.Test.YtilndmmjdbhmgaaTrV
import Derived.Test.YtilndmmjdbhmgaaClone
import Derived.Test.YtilndmmjdbhmgaaKit
import Derived.OwnWalk
namespace Go.Proofs.Ytilndmmjdbhmgaa
open Go.RowKit
open Go.Maps (Keyed)
set_option linter.unusedVariables false
set_option linter.unusedSimpArgs false
set_option maxRecDepth 20000

/-! ### maps of nodes, and of names -/
/-- A pointer to a block's beginning, read. -/
def ptrR : Rdr := fun v => match v with
  | .pointer none => some (.nil, [])
  | .pointer (some a) => if a.off = 0 ∧ a.spot = none then some (.lit (.int .i64 a.block), []) else none
  | _ => none
def ptrV (o : Option Nat) : Value := .pointer (o.map fun b => ⟨b, 0, none⟩)
theorem ptrR_mk (b : Nat) : ptrR (.pointer (some ⟨b, 0, none⟩)) = some (.lit (.int .i64 b), []) := by simp [ptrR]
theorem ptrR_inv {v : Value} {b : Nat} {ps : List MemPlace} (h : ptrR v = some (.lit (.int .i64 b), ps)) : v = .pointer (some ⟨b, 0, none⟩) := by
  unfold ptrR at h
  split at h
  · cases h
  · rename_i a
    split at h
    · rename_i h2
      simp at h
      obtain ⟨x, o, s⟩ := a
      simp at h h2
      obtain ⟨rfl, rfl⟩ := h2
      have : x = b := by omega
      rw [this]
    · cases h
  · cases h
theorem ptrR_nil {v : Value} {ps : List MemPlace} (h : ptrR v = some (.nil, ps)) : v = .pointer none := by
  unfold ptrR at h
  split at h
  · rfl
  · split at h <;> cases h
  · cases h
/-- Which block a number's node lies in. -/
def ndF (B : Int → Option Nat) : Lit → Option Dt
  | .int .i64 k => (B k).map fun b => .lit (.int .i64 b)
  | _ => none
/-- Which number a name leads to. -/
def nmF (l : Nms) : Lit → Option Dt
  | .string s => (getK l s).map fun i => .lit (.int .i64 i)
  | _ => none
theorem ndF_upd (B : Int → Option Nat) (k : Int) (b : Nat) : updF (ndF B) (.int .i64 k) (.lit (.int .i64 b)) = ndF (fun j => if j = k then some b else B j) := by
  funext l
  unfold updF
  by_cases h : l.sameKey (.int .i64 k) = true
  · have := WideAt.sameKey_eq h
    subst this
    rw [if_pos h]
    simp [ndF]
  · rw [if_neg h]
    cases l with
    | int q n =>
      cases q <;> try rfl
      have : n ≠ k := fun e => h (by rw [e]; exact WideAt.sameKey_self trivial)
      simp [ndF, this]
    | _ => rfl
theorem ndF_del (B : Int → Option Nat) (k : Int) : delF (ndF B) (.int .i64 k) = ndF (fun j => if j = k then none else B j) := by
  funext l
  unfold delF
  by_cases h : l.sameKey (.int .i64 k) = true
  · have := WideAt.sameKey_eq h
    subst this
    rw [if_pos h]
    simp [ndF]
  · rw [if_neg h]
    cases l with
    | int q n =>
      cases q <;> try rfl
      have : n ≠ k := fun e => h (by rw [e]; exact WideAt.sameKey_self trivial)
      simp [ndF, this]
    | _ => rfl
theorem nmF_put {l : Nms} (h : OkK l) (k : List UInt8) (i : Int) (hn : getK l k = none) : updF (nmF l) (.string k) (.lit (.int .i64 i)) = nmF (putK l k i) := by
  funext x
  unfold updF
  by_cases hx : x.sameKey (.string k) = true
  · have := WideAt.sameKey_eq hx
    subst this
    rw [if_pos hx]
    simp [nmF, getK_put h k i hn]
  · rw [if_neg hx]
    cases x with
    | string s =>
      have : s ≠ k := fun e => hx (by rw [e]; exact WideAt.sameKey_self trivial)
      simp [nmF, getK_put h k i hn, this]
    | _ => rfl
theorem nmF_del {l : Nms} (h : OkK l) (k : List UInt8) : delF (nmF l) (.string k) = nmF (delK l k) := by
  funext x
  unfold delF
  by_cases hx : x.sameKey (.string k) = true
  · have := WideAt.sameKey_eq hx
    subst this
    rw [if_pos hx]
    simp [nmF, getK_del h]
  · rw [if_neg hx]
    cases x with
    | string s =>
      have : s ≠ k := fun e => hx (by rw [e]; exact WideAt.sameKey_self trivial)
      simp [nmF, getK_del h, this]
    | _ => rfl
theorem nmF_nil : nmF [] = fun _ => none := by
  funext x
  cases x <;> rfl

theorem law_int : Keyed Try.prog 3 := Maps.int_keyed Try.underlying3
theorem law_str : Keyed Try.prog 9 := Maps.string_keyed Try.underlying9
theorem zeroPtr (w : World) : (zeroValue 67).run Try.prog w = .ok (.pointer none) w := by kernel_rfl
theorem zeroInt (w : World) : (zeroValue 3).run Try.prog w = .ok (.int .i64 0) w := by kernel_rfl
/-- The map of nodes. -/
def NodesAt (w : World) (mb : Nat) (B : Int → Option Nat) (c : Nat) : Prop := MapF w Try.prog 3 ptrR mb (ndF B) c
/-- A directory's map of names. -/
def NamesAt (w : World) (mb : Nat) (l : Nms) : Prop := MapF w Try.prog 9 (plainElem Try.prog 3) mb (nmF l) l.length
theorem i64_wf {k : Int} (h : -9223372036854775808 ≤ k ∧ k ≤ 9223372036854775807) : (Lit.int .i64 k).wf = true := WalkArith.wf_i64 h
theorem nodes_ok {w : World} {mb : Nat} {B : Int → Option Nat} {c : Nat} (h : NodesAt w mb B c) (k : Int) (hk : -9223372036854775808 ≤ k ∧ k ≤ 9223372036854775807) :
    ∀ W, W.heap[mb]? = w.heap[mb]? → (Instr.lookup 72 (.map (some mb)) (.int .i64 k) true).run Try.prog W = .ok (.tuple #[ptrV (B k), .bool (B k).isSome]) W := by
  intro W hW
  have hm : NodesAt W mb B c := MapF.heap h hW
  obtain ⟨v, ps, hr, hv⟩ := MapF.look_ok hm law_int Try.underlying72 (zeroPtr W) (zd := .nil) (zp := []) rfl (Maps.keyOf_int_mk Try.underlying3 (i64_wf hk))
  rw [hr]
  cases hB : B k with
  | some b =>
    simp [ndF, hB] at hv
    rw [ptrR_inv hv]
    simp [ndF, hB, ptrV]
  | none =>
    simp [ndF, hB] at hv
    rw [ptrR_nil hv]
    simp [ndF, hB, ptrV]
theorem nodes_at {w : World} {mb : Nat} {B : Int → Option Nat} {c : Nat} (h : NodesAt w mb B c) (k : Int) (hk : -9223372036854775808 ≤ k ∧ k ≤ 9223372036854775807) :
    ∀ W, W.heap[mb]? = w.heap[mb]? → (Instr.lookup 72 (.map (some mb)) (.int .i64 k) false).run Try.prog W = .ok (ptrV (B k)) W := by
  intro W hW
  have hm : NodesAt W mb B c := MapF.heap h hW
  obtain ⟨v, ps, hr, hv⟩ := MapF.look hm law_int Try.underlying72 (zeroPtr W) (zd := .nil) (zp := []) rfl (Maps.keyOf_int_mk Try.underlying3 (i64_wf hk))
  rw [hr]
  cases hB : B k with
  | some b =>
    simp [ndF, hB] at hv
    rw [ptrR_inv hv]
    simp [ptrV]
  | none =>
    simp [ndF, hB] at hv
    rw [ptrR_nil hv]
    simp [ptrV]
theorem names_ok {w : World} {mb : Nat} {l : Nms} (h : NamesAt w mb l) (s : ByteArray) (hs : s.size ≤ maxLen) :
    ∀ W, W.heap[mb]? = w.heap[mb]? → (Instr.lookup 68 (.map (some mb)) (.string s) true).run Try.prog W = .ok (.tuple #[.int .i64 ((getK l s.data.toList).getD 0), .bool (getK l s.data.toList).isSome]) W := by
  intro W hW
  have hm : NamesAt W mb l := MapF.heap h hW
  obtain ⟨v, ps, hr, hv⟩ := MapF.look_ok hm law_str Try.underlying68 (zeroInt W) (plainElem_int Try.underlying3 (by decide)) (WideMaps.keyOf_string_mk Try.underlying9 hs)
  rw [hr]
  obtain ⟨a, rfl, ha, _⟩ := plainElem_int_inv Try.underlying3 hv
  cases hB : getK l s.data.toList with
  | some b =>
    simp [nmF, hB] at ha
    simp [nmF, hB, ha]
  | none =>
    simp [nmF, hB] at ha
    simp [nmF, hB, ha]
end Go.Proofs.Ytilndmmjdbhmgaa
