/-
  A tree of files in memory: a directory's names, in order.
-/
import Derived.Test.YtilndmmjdbhmgaaFsK
import Derived.Test.YtilndmmjdbhmgaaIter
import Derived.Sort.KeysCollected
namespace Go.Proofs.Ytilndmmjdbhmgaa
open Go.RowKit
open Go.Proofs (encStr)
set_option linter.unusedVariables false
set_option linter.unusedSimpArgs false
set_option maxRecDepth 20000

theorem keys_perm {w : World} {mb : Nat} {l : Nms} (hl : OkK l) {D : Dt} (ho : w.ownsMap Try.prog 9 (plainElem Try.prog 3) mb l.length D) (hh : ∀ x, Maps.has D x = (nmF l x).isSome) : (l.map Prod.fst).Perm (strKeys D) := by
  refine Collected.perm (left := fun _ => false) ⟨?_, fun x => ?_⟩ ho law_str Try.underlying9 (fun _ => rfl)
  · exact List.pairwise_map.2 (hl.imp (fun {p q} h => fun (e : p.1 = q.1) => lt_irr q.1 (by rw [e] at h; exact h)))
  · rw [hh]
    simp only [nmF, Option.isSome_map, and_true]
    constructor
    · intro h
      obtain ⟨p, hp, rfl⟩ := List.mem_map.1 h
      rw [(getK_iff hl).2 (show (p.1, p.2) ∈ l from hp)]; rfl
    · intro h
      obtain ⟨i, hi⟩ := Option.isSome_iff_exists.1 h
      exact List.mem_map.2 ⟨_, getK_mem hi, rfl⟩
theorem keys_sorted {l : Nms} (hl : OkK l) {ss : List (List UInt8)} (hp : ss.Perm (l.map Prod.fst)) : ss.mergeSort leB = l.map Prod.fst := by
  have tr : ∀ a b c : List UInt8, leB a b = true → leB b c = true → leB a c = true := fun a b c h1 h2 => by simp only [leB, decide_eq_true_eq] at *; exact List.le_trans h1 h2
  have tot : ∀ a b : List UInt8, (leB a b || leB b a) = true := fun a b => by simp only [leB, Bool.or_eq_true, decide_eq_true_eq]; exact List.le_total a b
  refine List.Perm.eq_of_pairwise (le := fun a b => leB a b = true) (fun a b _ _ h1 h2 => ?_) (List.pairwise_mergeSort tr tot ss) ?_ ((List.mergeSort_perm ss leB).trans hp)
  · simp only [leB, decide_eq_true_eq] at h1 h2
    exact List.le_antisymm h1 h2
  · refine List.pairwise_map.2 (hl.imp (fun {p q} h => ?_))
    simp only [leB, decide_eq_true_eq]
    exact List.le_of_lt h
/-- The names as texts. -/
def nmC (l : Nms) : List Value := l.map (fun p => .string (strB p.1))
theorem keys_none (l : Nms) : ∀ v : Value, v = .slice none 0 0 → l = [] → ∀ W : World, W.ownsRow 0 9 1 v l.length (nmC l) := by
  rintro v rfl rfl W
  exact World.ownsRow_nil _ _ _ _
/-- What Names tells. -/
def NmsP (w : World) (l : Nms) (v : Value) (w' : World) : Prop := w'.ownsRow 0 9 1 v l.length (nmC l) ∧ (∀ k, v.ownBlock = some k → w.heap.size ≤ k) ∧ Kept NoB w w'
theorem below_keptNo {w w' : World} (h : Below w.heap.size w w') : Kept NoB w w' := (Kept.refl NoB w).ofBelow h
set_option maxHeartbeats 2000000 in
theorem names_any {S : Nat → Prop} {w : World} {f : Nat} {T : FsP} (h : FsSt S w f T) (dir : Int) (hdir : -9223372036854775808 ≤ dir ∧ dir ≤ 9223372036854775807) (hclk : T.clock ≤ 1000000000) :
    Calls Try.prog 17 #[.pointer (some ⟨f, 0, none⟩), .int .i64 dir] w fun e w' => ∃ ao c, e = .returned (.slice ao (namesP T dir).length c) ∧ Hid (NmsP w (namesP T dir) (.slice ao (namesP T dir).length c) w') := by
  obtain ⟨L, B, mb, h⟩ := h
  obtain ⟨c0, c1, c2, c3, c4⟩ := h.cells
  have HT := Lib.hid h.tab
  have HK := Lib.hid (fun (o : Option Nat) (W : World) => (callsIn_wide (n := 5)).1 (Try.keysIn o W))
  cases hn : T.nd dir with
  | none =>
    have hB := h.gone hn
    have hp : namesP T dir = [] := by unfold namesP; rw [hn]
    rw [hp]
    clear h hp hn
    go_enter Try.func17, Try.ntmps17
    go_wp2_with (at_lookup; refine wpList_nodes_ok rfl _ _ rfl HT.out rfl rfl hdir ?_; rw [hB, ptrV_none])
    go_ret
    exact ⟨none, 0, rfl, Lib.hid ⟨World.ownsRow_nil _ _ _ _, fun k e => by simp [Value.ownBlock] at e, Kept.refl _ _⟩⟩
  | some n =>
    obtain ⟨b, m, a, c, qs, hB, hN⟩ := h.at hn
    have hp : namesP T dir = n.names := by unfold namesP; rw [hn]
    rw [hp]
    have k11 := hN.cell 11
    simp [ndC, nvC] at k11
    have okn := (h.ok.node dir n hn)
    by_cases h6 : n.v.kind = 6
    · obtain ⟨mb2, rfl, _, hM⟩ := hN.dir h6
      obtain ⟨D, ho, hsz, hh, ha⟩ := hM
      have hle : n.names.length ≤ 1000000000 := by have := okn.few; omega
      have HS : Hid (Calls Try.prog 42 #[.func (.func 74) #[] #[.pointer (some ⟨w.heap.size, 0, none⟩)]] (w.alloc (.cells #[.map (some mb2)] 68)) fun e w' => ∃ ao c, e = .returned (.slice ao n.names.length c) ∧ Hid (NmsP w n.names (.slice ao n.names.length c) w')) := Lib.hid (by
        have := (callsIn_wide (n := 5)).1 (Try.sortedKeys mb2 n.names.length D (plainElem Try.prog 3) w ho (by rw [hsz]; unfold maxLen; omega) (by rw [hsz]; omega))
        refine this.mono ?_
        rintro e w' ⟨v, ss, rfl, hperm, hrow, hnil, hb⟩
        have hp2 := hperm.trans (keys_perm okn.sorted ho hh).symm
        have hs : ss.mergeSort (fun x y => decide (x ≤ y)) = n.names.map Prod.fst := keys_sorted okn.sorted hp2
        have hl : ss.length = n.names.length := by rw [hp2.length_eq, List.length_map]
        rw [hs, hl] at hrow
        have hc : (n.names.map Prod.fst).map encStr = nmC n.names := by
          unfold nmC; rw [List.map_map]; rfl
        rw [hc] at hrow
        obtain ⟨ao, c, rfl⟩ := row_shape hrow
        refine ⟨ao, c, rfl, Lib.hid ⟨ownsRow_base_a hrow (Nat.zero_le _), fun k hk => ?_, ((Kept.refl NoB w).alloc _).trans (below_keptNo hb)⟩⟩
        have := (hrow.lt k hk).1
        simp at this
        omega)
      clear h hp hn hN h6 ho hsz hh ha okn
      go_enter Try.func17, Try.ntmps17
      go_wp2_with (first | (at_lookup; refine wpList_nodes_ok rfl _ _ rfl HT.out rfl rfl hdir ?_; rw [hB, ptrV_some]) | (go_at_call 43; refine (HK.out _ _).mono ?_; rintro e w' ⟨rfl, rfl⟩) | (go_at_call 42; refine HS.out.mono ?_; rintro e w' ⟨ao, c, rfl, hq⟩))
      go_ret
      exact ⟨ao, c, rfl, hq⟩
    · have hm := hN.plain h6
      subst hm
      have hnn := okn.file h6
      rw [hnn]
      have HS : Hid (Calls Try.prog 42 #[.func (.func 74) #[] #[.pointer (some ⟨w.heap.size, 0, none⟩)]] (w.alloc (.cells #[.map none] 68)) fun e w' => e = .returned (.slice none 0 0) ∧ Hid (NmsP w [] (.slice none 0 0) w')) := Lib.hid (by
        have := (callsIn_wide (n := 5)).1 (Try.sortedKeysNil w)
        refine this.mono ?_
        rintro e w' ⟨v, ss, rfl, hss, hrow, hnil, hb⟩
        rw [hnil.2 hss]
        exact ⟨rfl, Lib.hid ⟨World.ownsRow_nil _ _ _ _, fun k e => by simp [Value.ownBlock] at e, ((Kept.refl NoB w).alloc _).trans (below_keptNo hb)⟩⟩)
      clear h hp hn hN h6 okn hnn
      go_enter Try.func17, Try.ntmps17
      go_wp2_with (first | (at_lookup; refine wpList_nodes_ok rfl _ _ rfl HT.out rfl rfl hdir ?_; rw [hB, ptrV_some]) | (go_at_call 43; refine (HK.out _ _).mono ?_; rintro e w' ⟨rfl, rfl⟩) | (go_at_call 42; refine HS.out.mono ?_; rintro e w' ⟨rfl, hq⟩))
      go_ret
      exact ⟨none, 0, rfl, hq⟩
end Go.Proofs.Ytilndmmjdbhmgaa
