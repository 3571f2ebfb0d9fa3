/-
  A loop that ranges over strings.SplitSeq(s, "/"): what its body owes, and what follows.
-/
import Derived.RangeFuncFrom
import Derived.Test.YtamoojalfpghhaaDoorSeqA
namespace Go.Proofs.YtamoojalfpghhaaDoor
open Go.RowKit Go.Shelf
set_option linter.unusedVariables false
set_option linter.unusedSimpArgs false

/-- How a round may be left: off its end, or by a return. -/
def bodyEnd (b1 b2 b3 : Nat) (I Ix : List (List UInt8) → World → Prop) (xs : List (List UInt8)) (W : World) : Exit → Act → World → Prop
  | .normal, _, W' => KeepsOthers W W' ∧ (∀ s, SeqB W b1 b2 b3 s → SeqB W' b1 b2 b3 s) ∧ I xs W'
  | .ret, _, W' => KeepsOthers W W' ∧ Ix xs W'
  | _, _, _ => False
theorem SeqB.put {W : World} {b1 b2 b3 : Nat} {s : ByteArray} (h : SeqB W b1 b2 b3 s) (k : Nat) (o : Obj) (hk : k ≠ b1 ∧ k ≠ b2 ∧ k ≠ b3) : SeqB (W.putObj k o) b1 b2 b3 s :=
  ⟨(World.putObj_heap_other hk.1.symm).trans h.sep, (World.putObj_heap_other hk.2.1.symm).trans h.str, (World.putObj_heap_other hk.2.2.symm).trans h.save⟩
theorem loop_not {W : World} {k L : Nat} {cs : Array Value} {t : TypeId} {r : Loop} (h : W.heap[k]? = some (.cells cs t (0, 0))) (hl : W.heap[L]? = some (.loop r)) : L ≠ k := by
  rintro rfl
  rw [h] at hl
  cases hl

set_option maxHeartbeats 1000000 in
theorem range_seq {g : Operand} {p : Tmp} {assign body : Code} {Q : Exit → Act → World → Prop} {a : Act} {w : World} (b1 b2 b3 : Nat) (bs : List UInt8)
    (hg : a.eval g = .func (.func 24) #[] #[.pointer (some ⟨b1, 0, none⟩), .pointer (some ⟨b2, 0, none⟩), .pointer (some ⟨b3, 0, none⟩)])
    (hne : b1 ≠ b2 ∧ b3 ≠ b2) (hB : SeqB w b1 b2 b3 (strB bs)) (hlen : bs.length ≤ 1000000)
    (I Ix : List (List UInt8) → World → Prop) (hI : OwnFrom w.heap.size I) (hIx : OwnFrom w.heap.size Ix) (hIs : ∀ pre W (v : ByteArray), I pre W → I pre (W.setCell ⟨b2, 0, none⟩ (.string v))) (h0 : I [] w) (a1 : List UInt8 → Act)
    (hassign : ∀ (l : Nat) (x : List UInt8) (W : World) (K : Act → World → Prop), K (a1 x) W → assign.wpIn (Fence.wide.inRound l) 1 Tryd.prog (Exit.then K (fun _ _ _ => False)) { tmps := a.tmps.setIfInBounds p (.string (strB x)), defers := [] } W)
    (hbody : ∀ (l : Nat) (pre : List (List UInt8)) (x : List UInt8) (W : World), I pre W → pre.length < (pieces bs).length → x.length ≤ bs.length → body.wpIn (Fence.wide.inRound l) 1 Tryd.prog (bodyEnd b1 b2 b3 I Ix (pre ++ [x]) W) (a1 x) W)
    (hdone : ∀ (D : Nat) (W : World), w.heap.size ≤ D → I (pieces bs) W → W.heap[D]? = some (.deferred (some [])) → Q .normal { a with defers := { target := .collected D, args := #[] } :: a.defers } W)
    (hstop : ∀ (D : Nat) (pre : List (List UInt8)) (W : World), w.heap.size ≤ D → (∃ suf, pre ++ suf = pieces bs) → Ix pre W → W.heap[D]? = some (.deferred (some [])) → Code.ret.wpIn Fence.wide 3 Tryd.prog Q { a with defers := { target := .collected D, args := #[] } :: a.defers } W) :
    (Code.rangeFunc g #[p] assign body).wpIn Fence.wide 3 Tryd.prog Q a w := by
  refine wpIn_rangeFunc fun fn hfn => ?_
  obtain ⟨rec, hrec⟩ : ∃ rec : LoopState → Option Code → Loop, rec = fun st pe => { state := st, pending := pe, fn, tmps := a.tmps, params := #[p], assign, body, defers := w.heap.size } := ⟨_, rfl⟩
  obtain ⟨L, hL⟩ : ∃ L, L = w.heap.size + 1 := ⟨_, rfl⟩
  obtain ⟨V, hV⟩ : ∃ V, V = (w.alloc (.deferred (some []))).alloc (.loop (rec .ready none)) := ⟨_, rfl⟩
  have hVL : V.heap[L]? = some (.loop (rec .ready none)) := by
    rw [hV, hL]
    have := World.alloc_heap_new (w.alloc (.deferred (some []))) (.loop (rec .ready none))
    rwa [World.size_alloc] at this
  have hVD : V.heap[w.heap.size]? = some (.deferred (some [])) := by
    rw [hV]
    exact (Below.heap_alloc _ _ _ (by simp)).trans (World.alloc_heap_new w _)
  have hVB : SeqB V b1 b2 b3 (strB bs) := by
    have hk : Kept NoB w V := by rw [hV]; exact ((Kept.refl NoB w).alloc _).alloc _
    exact ⟨hk.obj hB.sep (fun h => h), hk.obj hB.str (fun h => h), hk.obj hB.save (fun h => h)⟩
  have hVI : I [] V := by rw [hV]; exact hI.alloc _ (hI.alloc _ h0)
  refine ⟨L, [{ target := .collected w.heap.size, args := #[] }], V, { target := .fn (.func 24) #[.pointer (some ⟨b1, 0, none⟩), .pointer (some ⟨b2, 0, none⟩), .pointer (some ⟨b3, 0, none⟩)], args := #[.func (.yield L) #[] #[]] }, V, 24,
    #[.func (.yield L) #[] #[], .pointer (some ⟨b1, 0, none⟩), .pointer (some ⟨b2, 0, none⟩), .pointer (some ⟨b3, 0, none⟩)], V, ?_, ?_, fun _ _ => trivial, ?_, fun h => (by omega), ?_⟩
  · rw [hV, hrec, hL]
    exact run_enterLoop_outer _ _ _ _ _
  · simp only [resolve, hg]
    simp [go_sem]
  · have he := enters_of (P := Tryd.prog) Tryd.func24 (by kernel_rfl) rfl
    simp [invoke, go_sem, he]
  · refine (seq_in bs L b1 b2 b3 hne
      (fun pre W => I pre W ∧ W.heap[L]? = some (.loop (rec .ready none)) ∧ W.heap[w.heap.size]? = some (.deferred (some [])) ∧ ∃ s, SeqB W b1 b2 b3 s)
      (fun pre W => Ix pre W ∧ W.heap[L]? = some (.loop (rec .done (some .ret))) ∧ W.heap[w.heap.size]? = some (.deferred (some [])))
      ?_ ?_ V hVB hlen ⟨hVI, hVL, hVD, _, hVB⟩).mono ?_
    · rintro pre W v ⟨h1, h2, h3, s, h4⟩
      have hL2 := loop_not h4.str h2
      have hD2 : w.heap.size ≠ b2 := by
        intro e
        have h5 := h4.str
        rw [← e, h3] at h5
        cases h5
      exact ⟨hIs _ _ _ h1, (Below.heap_setCell _ _ _ _ hL2).trans h2, (Below.heap_setCell _ _ _ _ hD2).trans h3, v,
        (Below.heap_setCell _ _ _ _ hne.1).trans h4.sep, by simpa using obj_set h4.str 0 (.string v), (Below.heap_setCell _ _ _ _ hne.2).trans h4.save⟩
    · rintro pre x W ⟨h1, h2, h3, s, h4⟩ hfew hxl
      have hlt : L < W.heap.size := (Array.getElem?_eq_some_iff.1 h2).1
      have hy := run_yield (P := Tryd.prog) (args := #[.string (strB x)]) h2 (by rw [hrec]; rfl)
      rw [hrec] at hy
      refine ⟨fn, a.tmps.setIfInBounds p (.string (strB x)), assign, body, by rw [hy]; simp, roundIn_of_wpIn hfn ?_⟩
      refine hassign L x W _ ?_
      refine ⟨_, run_beginRound h2 (by rw [hrec]), ?_⟩
      obtain ⟨W1, hW1⟩ : ∃ W1, W1 = W.putObj L (.loop { rec .ready none with state := .busy }) := ⟨_, rfl⟩
      rw [← hW1]
      have k2 : W1.heap[L]? = some (.loop { rec .ready none with state := .busy }) := by rw [hW1]; exact World.putObj_heap_same hlt
      have k3 : W1.heap[w.heap.size]? = some (.deferred (some [])) := by rw [hW1]; exact (World.putObj_heap_other (by omega)).trans h3
      have kB : ∀ s, SeqB W b1 b2 b3 s → SeqB W1 b1 b2 b3 s := fun s h => by rw [hW1]; exact h.put L _ ⟨loop_not h.sep h2, loop_not h.str h2, loop_not h.save h2⟩
      have kI : I pre W1 := by rw [hW1]; exact hI.putObj _ h1 (by omega) h2 rfl
      refine wpIn_mono (hbody L pre x W1 kI hfew hxl) ?_
      rintro e a3 W3 hp
      cases e with
      | normal =>
        obtain ⟨m1, m2, m3⟩ := hp
        have l2 := m1.same _ _ k2 rfl
        have l3 := m1.same _ _ k3 rfl
        have hr := run_endRound (P := Tryd.prog) none l2
        refine ⟨_, _, hr, .inl ⟨rfl, ⟨hI.putObj _ m3 (by omega) l2 rfl, ?_, (World.putObj_heap_other (by omega)).trans l3, s, ?_⟩, ?_⟩⟩
        · rw [World.putObj_heap_same (Array.getElem?_eq_some_iff.1 l2).1, hrec]
          rfl
        · have := m2 s (kB s h4)
          exact this.put L _ ⟨loop_not this.sep l2, loop_not this.str l2, loop_not this.save l2⟩
        · intro s' h
          have := m2 s' (kB s' h)
          exact this.put L _ ⟨loop_not this.sep l2, loop_not this.str l2, loop_not this.save l2⟩
      | ret =>
        obtain ⟨m1, m3⟩ := hp
        have l2 := m1.same _ _ k2 rfl
        have l3 := m1.same _ _ k3 rfl
        have hr := run_endRound (P := Tryd.prog) (some .ret) l2
        refine ⟨_, _, hr, .inr ⟨rfl, hIx.putObj _ m3 (by omega) l2 rfl, ?_, (World.putObj_heap_other (by omega)).trans l3⟩⟩
        rw [World.putObj_heap_same (Array.getElem?_eq_some_iff.1 l2).1, hrec]
        rfl
      | exit id => exact hp.elim
      | goto t => exact hp.elim
      | panic ch => exact hp.elim
      | outgrown => exact hp.elim
    · rintro e W2 ⟨⟨v, rfl⟩, (⟨h1, h2, h3, _⟩ | ⟨pre, hpr, h1, h2, h3⟩)⟩
      · refine ⟨none, _, by have := run_endLoop (P := Tryd.prog) h2 (by rw [hrec]; simp); rw [hrec] at this; exact this, ?_⟩
        exact hdone _ _ (Nat.le_refl _) (hI.putObj _ h1 (by omega) h2 rfl) ((World.putObj_heap_other (by omega)).trans h3)
      · refine ⟨some .ret, _, by have := run_endLoop (P := Tryd.prog) h2 (by rw [hrec]; simp); rw [hrec] at this; exact this, ?_⟩
        exact hstop _ pre _ (Nat.le_refl _) hpr (hIx.putObj _ h1 (by omega) h2 rfl) ((World.putObj_heap_other (by omega)).trans h3)
end Go.Proofs.YtamoojalfpghhaaDoor
