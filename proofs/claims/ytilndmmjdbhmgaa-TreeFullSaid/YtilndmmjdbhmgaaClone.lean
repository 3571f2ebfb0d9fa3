/-
  bytes.Clone: a copy in memory of the call's own.
-/
import Derived.Test.YtilndmmjdbhmgaaRows
import Derived.Test.YtilndmmjdbhmgaaBase
import Derived.Test.YtilndmmjdbhmgaaNum
namespace Go.Proofs.Ytilndmmjdbhmgaa
open Go.RowKit
set_option linter.unusedVariables false

theorem info5 : (Try.prog.info? 5).map (fun i => (i.zero, i.size, i.bytes)) = some (some (.int .u8 0), 1, 1) := by kernel_rfl

/-- A slice of bytes reads as xs. -/
def Reads (w : World) (ao : Option Addr) (xs : List Int) : Prop :=
  (ao = none → xs = []) ∧ ∀ a, ao = some a → ∀ i, i < xs.length → w.cell? (a.add i) = some (.int .u8 (xs.getD i 0))

theorem Reads.kept {S : Nat → Prop} {w w' : World} {ao : Option Addr} {xs : List Int} (h : Reads w ao xs) (hk : Kept S w w') (hs : ∀ a, ao = some a → ¬ S a.block) : Reads w' ao xs := by
  refine ⟨h.1, fun a ha i hi => ?_⟩
  have hc := h.2 a ha i hi
  have hb := World.block_lt_of_cell? w _ hc
  have e : (a.add i).block = a.block := by unfold Addr.add; split <;> rfl
  exact (World.cell?_of_block (hk.block _ hb (by rw [e]; exact hs a ha))).trans hc

theorem addr_add (g o i : Nat) : (⟨g, o, none⟩ : Addr).add i = ⟨g, o + i, none⟩ := by unfold Addr.add; split <;> simp_all

theorem own_reads {w : World} {ao : Option Addr} {n cap : Nat} {xs : List Int} (h : w.ownsRow 0 5 1 (.slice ao n cap) xs.length (xs.map (.int .u8))) (hn : n = xs.length) : Reads w ao xs := by
  subst hn
  refine ⟨fun e => ?_, fun a e i hi => ?_⟩
  · subst e
    rcases h.2 with ⟨_, hz⟩ | ⟨g, c, cur, hv, _⟩
    · exact List.eq_nil_of_length_eq_zero hz
    · simp at hv
  · subst e
    obtain ⟨g, rfl⟩ : ∃ g, a = ⟨g, 0, none⟩ := by
      rcases h.2 with ⟨hv, _⟩ | ⟨g, c, cur, hv, _⟩
      · simp at hv
      · simp at hv; exact ⟨g, hv.1⟩
    rw [addr_add, Nat.zero_add, h.cellAt i (by omega)]
    simp [List.getD, hi]

/-- What a copy is: a row of the call's own, nil as before. -/
def Copied (w : World) (ao : Option Addr) (xs : List Int) (e : Ending) (w' : World) : Prop :=
  ∃ ao' cap', e = .returned (.slice ao' xs.length cap') ∧ w'.ownsRow 0 5 1 (.slice ao' xs.length cap') xs.length (xs.map (.int .u8)) ∧
    (∀ k, (Value.slice ao' xs.length cap').ownBlock = some k → w.heap.size ≤ k) ∧ (ao' = none ↔ ao = none) ∧ Kept NoB w w'

theorem own_shape {w : World} {base e : Nat} {v : Value} {n : Nat} {xs : List Value} (h : w.ownsRow base e 1 v n xs) : ∃ ao cap, v = .slice ao n cap := by
  rcases h.2 with ⟨rfl, rfl⟩ | ⟨g, cap, cur, rfl, _⟩
  · exact ⟨none, 0, rfl⟩
  · exact ⟨_, cap, rfl⟩

set_option maxHeartbeats 1000000 in
theorem clone_any (ao : Option Addr) (cap : Nat) (xs : List Int) (w : World) (hr : Reads w ao xs) (hl : xs.length ≤ 140737488355328) :
    Calls Try.prog 76 #[.slice ao xs.length cap] w (Copied w ao xs) := by
  obtain ⟨i0, hi, hz0, hz1, hz2⟩ := info_parts info5
  have q22 : ∀ (w : World) (a : Option Addr) (n c n' c' : Nat), (binOp .eql 29 (.slice a n c) (.slice none n' c')).run Try.prog w = .ok (.bool a.isNone) w := fun w a n c n' c' => Lib.run_eql_slice_nil w _ _ a n c n' c' Try.underlying29
  cases ao with
  | none =>
    go_enter Try.func76, Try.ntmps76
    go_wp2
    go_ret
    have : xs = [] := hr.1 rfl
    subst this
    exact ⟨none, 0, rfl, World.ownsRow_nil _ _ _ _, by simp [Value.ownBlock], by simp, Kept.refl _ _⟩
  | some a =>
    have HA := Lib.hid (hr.2 a rfl); clear hr
    obtain ⟨n, hn⟩ : ∃ n, n = xs.length := ⟨_, rfl⟩
    have HN := Lib.hid hn
    rw [← hn] at hl ⊢
    clear hn
    go_enter Try.func76, Try.ntmps76
    go_wp2_with (at_builtin; refine wpList_append_own _ rfl _ _ 29 rfl w.heap.size 5 i0 (.int .u8 0) 1 1 Try.underlying29 hi hz0 hz1 hz2 rfl (by decide) _ _ _ rfl (World.ownsRow_made w #[] 0 (Nat.le_refl _) (Nat.zero_le _) rfl) a n cap (xs.map (Value.int .u8)) rfl ?qc1 ?qc2 ?qc3 ?qc4 ?qc5 ?qc6 ?_)
    case qc1 => simp [HN.out]
    case qc2 =>
      intro j u hj
      have hjn : j < xs.length := by
        have := (List.getElem?_eq_some_iff.1 hj).1
        simpa using this
      refine Lib.cell?_alloc_some _ ?_
      rw [HA.out j hjn]
      have e : (xs.map (Value.int .u8))[j]? = some (Value.int .u8 (xs.getD j 0)) := by simp [List.getD, List.getElem?_eq_getElem hjn]
      rw [e] at hj
      exact hj
    case qc3 => intro u hu; obtain ⟨x, _, rfl⟩ := List.mem_map.1 hu; rfl
    case qc4 => unfold maxLen; omega
    case qc5 => omega
    case qc6 => simp
    intro v' w1 hown hgrow hnil
    go_wp2
    go_ret
    obtain ⟨ao', cap', rfl⟩ := own_shape hown
    have hb := hown.lt
    rw [HN.out] at hown hb hnil ⊢
    refine ⟨ao', cap', rfl, ⟨hown.1, ?_⟩, fun k hk => (hb k hk).1, ?_, ?_⟩
    · rcases hown.2 with h | ⟨g, c, cur, e1, _, e2⟩
      · exact .inl h
      · exact .inr ⟨g, c, cur, e1, Nat.zero_le _, e2⟩
    · constructor
      · intro e
        subst e
        rcases hown.2 with ⟨h1, h2⟩ | ⟨g, c, cur, h1, _⟩
        · exact absurd h1 hnil
        · simp at h1
      · intro e; cases e
    · exact ((Kept.refl NoB w).alloc _).grown hgrow (by intro k hk e; simp [Value.ownBlock] at e; omega)
end Go.Proofs.Ytilndmmjdbhmgaa
