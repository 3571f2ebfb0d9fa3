/-
  Small things that many walks want: rows of bytes that are read, told as strings, told anew; rows that a call owns.
-/
import Derived.Test.YtilndmmjdbhmgaaRows
import Derived.Test.YtilndmmjdbhmgaaClone
import Derived.Test.YtilndmmjdbhmgaaRd
import Derived.Deep.DeepCutAuto
import Derived.Deep.RegionHeld3
import Derived.BigRegion
import Derived.Laws.BytesArg
import Derived.Laws.AppendOwnNone
namespace Go.Proofs.Ytilndmmjdbhmgaa
open Go.RowKit
set_option linter.unusedVariables false
set_option linter.unusedSimpArgs false

theorem Reads.at {w : World} {ao : Option Addr} {bs : List Int} (h : Reads w ao bs) (h0 : 0 < bs.length) :
    ∃ b off, ao = some ⟨b, off, none⟩ ∧ b < w.heap.size ∧ ∀ j, j < bs.length → w.cell? ⟨b, off + j, none⟩ = some (.int .u8 (bs.getD j 0)) := by
  cases ao with
  | none => have := h.1 rfl; subst this; simp at h0
  | some a =>
    obtain ⟨b, off, spot⟩ := a
    have hs : spot = none := by
      have := World.cell?_spot (h.2 _ rfl 0 h0)
      simpa [Addr.add] using this
    subst hs
    have h2 : ∀ j, j < bs.length → w.cell? ⟨b, off + j, none⟩ = some (.int .u8 (bs.getD j 0)) := fun j hj => by
      have := h.2 _ rfl j hj
      rwa [addr_add] at this
    exact ⟨b, off, rfl, World.block_lt_of_cell? w _ (h2 0 h0), h2⟩
theorem Reads.keptNo {w w' : World} {ao : Option Addr} {xs : List Int} (h : Reads w ao xs) (hk : Kept NoB w w') : Reads w' ao xs := h.kept hk (fun _ _ h => h)
theorem Kept.cell {w w' : World} (hk : Kept NoB w w') {a : Addr} {v : Value} (h : w.cell? a = some v) : w'.cell? a = some v :=
  (World.cell?_of_block (hk.block _ (World.block_lt_of_cell? w a h) (fun h => h))).trans h
theorem lit_reads {w : World} {g : Nat} {cs : Array Value} {t : TypeId} {fr : Nat × Nat} (bs : List Int) (h : w.heap[g]? = some (.cells cs t fr)) (hc : cs.toList = bs.map (.int .u8)) : Reads w (some ⟨g, 0, none⟩) bs := by
  refine ⟨(fun h => by cases h), ?_⟩
  intro a ha i hi
  cases ha
  rw [addr_add, Nat.zero_add, cell_of_row w g i cs t fr h]
  rw [← Array.getElem?_toList, hc]
  simp [List.getD, hi]
theorem cell_new {w : World} {cs : Array Value} {t : TypeId} {k : Nat} (i : Nat) (hk : k = w.heap.size) : (w.alloc (.cells cs t)).cell? ⟨k, i, none⟩ = cs[i]? := by
  subst hk; exact cell_of_row _ _ _ cs t (0, 0) (heap_alloc_new _ _)
theorem own_cap {w : World} {base e n cap : Nat} {ao : Option Addr} {xs : List Value} (h : w.ownsRow base e 1 (.slice ao n cap) n xs) : n ≤ cap ∧ cap ≤ maxLen := by
  rcases h.2 with ⟨hv, hn⟩ | ⟨g, c, cur, hv, _, _, h1, h2, _⟩
  · simp at hv; obtain ⟨_, rfl, rfl⟩ := hv; exact ⟨Nat.le_refl _, Nat.zero_le _⟩
  · simp at hv; obtain ⟨_, rfl⟩ := hv; exact ⟨h1, h2⟩
theorem own_nil {w : World} {base e n cap : Nat} {ao : Option Addr} {xs : List Value} (h : w.ownsRow base e 1 (.slice ao n cap) n xs) : ao = none → cap = 0 := by
  intro ha
  subst ha
  rcases h.2 with ⟨hv, hn⟩ | ⟨g, c, cur, hv, _⟩
  · simp at hv; exact hv.2
  · simp at hv
theorem choose1 {α : Type} {P : Nat → α → Prop} (h : ∀ i, ∃ a, P i a) : ∃ f : Nat → α, ∀ i, P i (f i) := ⟨fun i => (h i).choose, fun i => (h i).choose_spec⟩
theorem range_getD {α : Type} (f : Nat → α) (n i : Nat) (d : α) (hi : i < n) : ((List.range n).map f).getD i d = f i := by simp [List.getD, hi]
theorem conv_reads {w : World} {ao : Option Addr} {n cap : Nat} {xs : List Int} (h : Reads w ao xs) (hn : n = xs.length) (h0 : ao = none → cap = 0) :
    (convert 29 9 (.slice ao n cap)).run Try.prog w = .ok (.string (strOfNums xs)) w := by
  subst hn
  by_cases hx : xs = []
  · subst hx
    cases ao with
    | none => exact run_convert_bytes_nil (P := Try.prog) w _ 5 Try.underlying29 Try.underlying5 _ _ _ Try.underlying9
    | some a =>
      show (convert 29 9 (.slice (some a) 0 cap)).run Try.prog w = .ok (.string (strOfNums [])) w
      rw [run_convert_bytes_string w 29 9 5 (some a) 0 cap Try.underlying29 Try.underlying5 Try.underlying9]
      simp [Conv.bytesToString, loadCells, loadCellsFrom]
      rfl
  · obtain ⟨b, off, rfl, _, hc⟩ := h.at (by cases xs with | nil => exact absurd rfl hx | cons => simp)
    exact run_convert_bytes_arg (P := Try.prog) w _ 5 Try.underlying29 Try.underlying5 b off xs.length cap xs rfl hc _ Try.underlying9
theorem reads_take {w : World} {x : Addr} {bs : List Int} (k : Nat) (h : Reads w (some x) bs) : Reads w (some x) (bs.take k) := by
  refine ⟨(fun h => by cases h), ?_⟩
  intro a ha i hi
  cases ha
  rw [List.length_take] at hi
  rw [h.2 x rfl i (by omega)]
  simp [List.getD, show i < k from by omega]
theorem reads_drop {w : World} {x : Addr} {bs : List Int} (k : Nat) (h : Reads w (some x) bs) : Reads w (some (x.add k)) (bs.drop k) := by
  refine ⟨(fun h => by cases h), ?_⟩
  intro a ha i hi
  cases ha
  rw [List.length_drop] at hi
  rw [Go.Deep.add_add, h.2 x rfl (k + i) (by omega)]
  simp [List.getD]
theorem reads_empty {w : World} {x : Addr} : Reads w (some x) [] := ⟨(fun h => by cases h), (fun a _ i hi => by simp at hi)⟩
theorem own_block {w : World} {base n cap : Nat} {ao : Option Addr} {xs : List Value} {e : TypeId} (h : w.ownsRow base e 1 (.slice ao n cap) n xs) {a : Addr} (ha : ao = some a) : (Value.slice ao n cap).ownBlock = some a.block := by
  subst ha
  rcases h.2 with ⟨hv, _⟩ | ⟨g, c, cur, hv, _⟩
  · simp at hv
  · simp at hv; rw [hv.1]; rfl
theorem reads_news {w : World} {x : Addr} {xs : List Int} (h : Reads w (some x) xs) : ∀ (j : Nat) (u : Value), (xs.map (Value.int .u8))[j]? = some u → w.cell? (x.add j) = some u := by
  intro j u hj
  have hjl : j < xs.length := by have := (List.getElem?_eq_some_iff.1 hj).1; simpa using this
  rw [h.2 x rfl j hjl]
  have e : (xs.map (Value.int .u8))[j]? = some (Value.int .u8 (xs.getD j 0)) := by simp [List.getD, List.getElem?_eq_getElem hjl]
  rw [e] at hj
  exact hj
theorem news_one (xs : List Int) : ∀ u ∈ xs.map (Value.int .u8), u.oneCell' = true := by intro u hu; obtain ⟨y, _, rfl⟩ := List.mem_map.1 hu; rfl
theorem Reads.below {w w' : World} {ao : Option Addr} {bs : List Int} (h : Reads w ao bs) (hb : Below w.heap.size w w') : Reads w' ao bs := h.keptNo ((Kept.refl NoB w).ofBelow hb)
theorem str_append (a b : List Int) : strOfNums a ++ strOfNums b = strOfNums (a ++ b) := by
  apply ByteArray.ext
  apply Array.ext'
  rw [strOfNums_data]
  simp [strOfNums_data]
theorem take_add_drop (bs : List Int) (p n : Nat) : bs.take p ++ (bs.drop p).take n = bs.take (p + n) := by rw [List.take_add]
theorem str_extract3 (bs : List Int) (a n : Nat) : (strOfNums bs).extract a (a + n) = strOfNums ((bs.drop a).take n) := by
  apply ByteArray.ext
  apply Array.ext'
  rw [strOfNums_data]
  simp [strOfNums_data, List.map_take, List.map_drop]
theorem wpAnyH_mono2 {P : Program} {md : Region.Mode} {ops : Array Oper} {Q : Exit → Act → World → Prop} {S S' : World → Prop} (h : ∀ w, S' w → S w) :
    ∀ {fuel : Nat} {listed : Array Bool} {a : Act} {w : World}, wpAnyH P md ops Q S' fuel listed a w → wpAnyH P md ops Q S fuel listed a w := by
  intro fuel
  induction fuel with
  | zero => intro _ _ _ hh; exact hh
  | succ n ih => intro listed a w hh; exact ⟨hh.1, fun i hi => wpOp_mono (fun a w hw => ⟨h _ hw.1, ih hw.2⟩) (hh.2 i hi)⟩
end Go.Proofs.Ytilndmmjdbhmgaa
