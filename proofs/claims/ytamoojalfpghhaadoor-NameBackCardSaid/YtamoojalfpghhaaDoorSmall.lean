/-
  The form's reach: each text of a row that came in has fewer than 2^47 bytes.
-/
import Derived.Test.YtamoojalfpghhaaDoorJoinN
import Derived.SizedLaws
import Derived.SliceStrings
namespace Go.Proofs.YtamoojalfpghhaaDoor
open Go.RowKit Go.Shelf Go.ChangeShapes Go.WideShapes
set_option linter.unusedVariables false

def SmallS (w : World) (v : Value) : Prop := ∀ a len cap, v = .slice (some a) len cap → ∀ i, i < len → ∀ s : ByteArray, w.cell? (a.add i) = some (.string s) → s.size ≤ 140737488351232
theorem wAll_mem {H : Type} {P : Program} {e : TypeId} : ∀ {ds : List (DataW H)} {d : DataW H}, d ∈ ds → ∀ n ∈ d.weights P e, n ∈ DataW.weightsAll P e ds
  | x :: r, d, hd, n, hn => by
    simp only [DataW.weightsAll, List.mem_append]
    rcases List.mem_cons.1 hd with rfl | h
    · exact Or.inl hn
    · exact Or.inr (wAll_mem h n hn)
theorem small_of {H : Type} {enc : TypeId × Value → H} {ts : List TypeId} {ds : List (DataW H)} {w : World} {base j : Nat} {spare : Nat → Bool} {held : Bool} {v : Value} {d : DataW H} {p : List MemPlace}
    (hsz : (DataW.weightsEach Tryd.prog ts ds).all (· ≤ reachBytes) = true) (ht : ts[j]? = some 23) (hd : ds[j]? = some d) (h : DataW.Trod enc Tryd.prog w base spare held 23 v d p) : SmallS w v := by
  obtain ⟨fuel, hf⟩ := h
  intro a len cap hv i hi s hs
  subst hv
  rcases open_strings Tryd.underlying23 Tryd.underlying9 cells_str hf with ⟨hcs, _⟩ | ⟨a', len', cap', ss, hcs, _, hl, _, hsl, hx, hcell, _⟩
  · simp [Value.cells] at hcs
  · simp [Value.cells] at hcs
    obtain ⟨rfl, rfl, rfl⟩ := hcs
    have hil : i < ss.length := by rw [hsl]; split <;> omega
    have hc := hcell i hil
    rw [hs] at hc
    have hse : s = ss[i] := by
      have := Value.string.inj (Option.some.inj hc)
      rw [this]; simp [List.getD, hil]
    have hmem : (DataW.lit (.string s.data.toList) : DataW H) ∈ strs (ss.take len) := by
      refine List.mem_map.2 ⟨s, ?_, rfl⟩
      rw [hse, List.mem_take_iff_getElem]
      exact ⟨i, by omega, rfl⟩
    have hde : d = .slice (strs (ss.take len)) (strs (ss.drop len)) := (Prod.mk.inj hx).1
    have hw : s.data.toList.length ∈ d.weights Tryd.prog 23 := by
      rw [hde]
      simp only [DataW.weights, Tryd.underlying23, List.mem_cons, List.mem_append]
      exact Or.inr (Or.inl (wAll_mem hmem _ (by simp [DataW.weights])))
    have := of_decide_eq_true (List.all_eq_true.1 hsz _ (DataW.weights_mem_each ht hd _ hw))
    rw [Array.length_toList] at this
    exact this
