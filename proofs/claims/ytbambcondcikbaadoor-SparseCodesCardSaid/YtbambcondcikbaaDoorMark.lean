/-
  Bytes made of a string: a row of their own, with a mark behind it; one byte appended to such a row.
-/
import Derived.Test.YtbambcondcikbaaDoorKit
import Derived.ArgAppend
import Derived.Laws.IdiomStrings
namespace Go.Proofs.YtbambcondcikbaaDoor
open Go.RowKit
set_option linter.unusedVariables false
set_option linter.unusedSimpArgs false

/-- A row of bytes of the call's own, whose mark, if there is one, lies behind it. -/
def OwnM (w : World) (v : Value) (bs : List Int) : Prop :=
  (v = .slice none 0 0 ∧ bs = []) ∨ ∃ g cap cur fz, v = .slice (some ⟨g, 0, none⟩) bs.length cap ∧ w.heap[g]? = some (.cells cur 5 fz) ∧ (cur.size ≤ fz.1 ∨ fz.2 = 0) ∧ bs.length ≤ cap ∧ cap ≤ maxLen ∧ cur.size = cap ∧ cur.toList.take bs.length = bs.map (.int .u8)
theorem OwnM.cellAt {w : World} {g cap : Nat} {bs : List Int} (h : OwnM w (.slice (some ⟨g, 0, none⟩) bs.length cap) bs) (j : Nat) (hj : j < bs.length) : w.cell? ⟨g, j, none⟩ = some (.int .u8 (bs.getD j 0)) := by
  rcases h with ⟨h1, _⟩ | ⟨g', cap', cur, fz, h1, h2, _, _, _, _, h3⟩
  · simp at h1
  · simp at h1
    obtain ⟨rfl, rfl⟩ := h1
    rw [cell_of_row w g j cur _ fz h2]
    have e := congrArg (fun l => l[j]?) h3
    simp only [List.getElem?_take, if_pos hj] at e
    rw [← Array.getElem?_toList, e]
    simp [List.getD, hj]
theorem OwnM.reads {w : World} {ao : Option Addr} {cap : Nat} {bs : List Int} (h : OwnM w (.slice ao bs.length cap) bs) : Reads w ao bs := by
  refine ⟨fun e => ?_, fun a e i hi => ?_⟩
  · subst e
    rcases h with ⟨_, h2⟩ | ⟨g', cap', cur, fz, h1, _⟩
    · exact h2
    · simp at h1
  · subst e
    obtain ⟨g, rfl⟩ : ∃ g, a = ⟨g, 0, none⟩ := by
      rcases h with ⟨h1, _⟩ | ⟨g', cap', cur, fz, h1, _⟩
      · simp at h1
      · simp at h1; exact ⟨g', h1.1⟩
    rw [addr_add, Nat.zero_add]
    exact h.cellAt i hi
theorem OwnM.nil {w : World} {ao : Option Addr} {n cap : Nat} {bs : List Int} (h : OwnM w (.slice ao n cap) bs) : ao = none → cap = 0 := by
  rintro rfl
  rcases h with ⟨h1, _⟩ | ⟨g', cap', cur, fz, h1, _⟩
  · simp at h1; exact h1.2
  · simp at h1
theorem OwnM.shape {w : World} {v : Value} {bs : List Int} (h : OwnM w v bs) : ∃ ao cap, v = .slice ao bs.length cap := by
  rcases h with ⟨rfl, rfl⟩ | ⟨g', cap', cur, fz, rfl, _⟩
  · exact ⟨none, 0, rfl⟩
  · exact ⟨_, _, rfl⟩
theorem OwnM.lt {w : World} {v : Value} {bs : List Int} (h : OwnM w v bs) : ∀ k, v.ownBlock = some k → k < w.heap.size := by
  intro k hk
  rcases h with ⟨rfl, rfl⟩ | ⟨g', cap', cur, fz, rfl, h2, _⟩
  · simp [Value.ownBlock] at hk
  · simp [Value.ownBlock] at hk; subst hk; exact obj_lt h2
theorem OwnM.kept {S : Nat → Prop} {w w' : World} {v : Value} {bs : List Int} (h : OwnM w v bs) (hk : Kept S w w') (hs : ∀ k, v.ownBlock = some k → ¬ S k) : OwnM w' v bs := by
  rcases h with h | ⟨g, cap, cur, fz, rfl, h2, rest⟩
  · exact .inl h
  · exact .inr ⟨g, cap, cur, fz, rfl, hk.obj h2 (hs g rfl), rest⟩

/-- '[]byte(s)'. -/
theorem conv_mark (w : World) (bs : List Int) (h : bs.length ≤ 1000000) (hb : AllB bs) :
    ∃ cap w', (convert 9 26 (.string (strOfNums bs))).run Tryd.prog w = .ok (.slice (some ⟨w.heap.size, 0, none⟩) bs.length cap) w' ∧ OwnM w' (.slice (some ⟨w.heap.size, 0, none⟩) bs.length cap) bs ∧ Kept NoB w w' := by
  have hr := run_bytes_of_string (P := Tryd.prog) w 9 26 5 (strOfNums bs) Tryd.underlying9 Tryd.underlying26 Tryd.underlying5
  rw [strOfNums_size] at hr
  refine ⟨_, _, hr, .inr ⟨w.heap.size, _, _, _, rfl, heap_alloc_new w.drew _, .inl (Nat.le_refl _), grownCap_ge _ _ _ _, grownCap_le_maxLen _ _ _ _ (by unfold maxLen; omega), ?_, ?_⟩, ((Kept.refl NoB w).drew).alloc _⟩
  · have := grownCap_ge w bs.length 0 5
    have hs : (strOfNums bs).data.size = bs.length := strOfNums_size bs
    unfold bytesRow
    rw [Array.size_append, Array.size_map, Array.size_replicate, strOfNums_size, hs]
    omega
  · have hs : (strOfNums bs).data.size = bs.length := strOfNums_size bs
    unfold bytesRow
    rw [Array.toList_append, List.take_append_of_le_length (by simp [hs]), List.take_of_length_le (by simp [hs])]
    rw [Array.toList_map, strOfNums_data, List.map_map]
    apply List.map_congr_left
    intro b hbm
    have := hb b hbm
    simp
    omega

/-- One byte more. -/
theorem run_appM (w : World) (t ty : TypeId) (i : TypeInfo) (ht : Tryd.prog.underlying t = some (.slice 5)) (hi : Tryd.prog.info? 5 = some i) (hz : i.zero = some (.int .u8 0)) (hsize : i.size = 1) (hby : i.bytes = 1)
    (v : Value) (bs : List Int) (hown : OwnM w v bs) (r : Nat) (z : Int) (hn : bs.length ≤ 2000000) (hc : w.cell? ⟨r, 0, none⟩ = some (.int .u8 z)) :
    ∃ v' w', (Builtin.append_ #[t, t] ty #[v, .slice (some ⟨r, 0, none⟩) 1 1]).run Tryd.prog w = .ok v' w' ∧ OwnM w' v' (bs ++ [z]) ∧ Kept (OwnB v) w w' ∧ (∀ k, v'.ownBlock = some k → v.ownBlock = some k ∨ w.heap.size ≤ k) := by
  have hnews : ∀ (j : Nat) (u : Value), [Value.int .u8 z][j]? = some u → w.cell? ((⟨r, 0, none⟩ : Addr).add j) = some u := by
    intro j u hj
    match j with
    | 0 => simp at hj; subst hj; rw [addr_add]; exact hc
    | j + 1 => simp at hj
  have hone : ∀ u ∈ [Value.int .u8 z], u.oneCell' = true := by intro u hu; simp at hu; subst hu; rfl
  rcases hown with ⟨rfl, rfl⟩ | ⟨g, cap, cur, fz, rfl, hg, hfz, hnc, hcm, hcs, htk⟩
  · obtain ⟨v', w', hr, h2, h3, h4⟩ := run_app (P := Tryd.prog) w 5 t ty i (.int .u8 0) 1 1 ht hi hz hsize hby rfl (by decide) (.slice none 0 0) 0 [] (World.ownsRow_nil _ _ _ _) ⟨r, 0, none⟩ 1 1 [.int .u8 z] rfl hnews hone (by decide) (by decide)
    refine ⟨v', w', hr, ?_, (Kept.refl _ w).grown h3 (fun k _ e => e), h4⟩
    rcases h2.2 with ⟨_, h0⟩ | ⟨g, cap, cur, hv, _, hg, h5, h6, h7, h8⟩
    · omega
    · refine .inr ⟨g, cap, cur, (0, 0), hv, hg, .inr rfl, h5, h6, by omega, ?_⟩
      simpa using h8
  · by_cases hroom : bs.length + 1 ≤ cap
    · have hr := run_append_room_cells (P := Tryd.prog) w t ty 5 i ht hi g 0 bs.length cap ⟨r, 0, none⟩ 1 1 [.int .u8 z] (by rw [hsize]; rfl) hnews hone hroom
        (by intro j hj; rw [cell_of_row w g _ cur _ fz hg]; simp at hj; simp [hsize]; omega)
        (by
          intro j hj
          simp at hj
          unfold World.frozen?
          rw [hg]
          obtain ⟨lo, hi'⟩ := fz
          simp only [Bool.and_eq_false_iff, decide_eq_false_iff_not]
          simp only at hfz
          rw [hsize]
          rcases hfz with h | h
          · left; omega
          · right; omega)
      refine ⟨_, _, hr, ?_, ?_, fun k hk => .inl hk⟩
      · rw [hsize, Nat.zero_add, Nat.mul_one]
        have hset : (w.setCells g bs.length [.int .u8 z]).heap[g]? = some (.cells (cur.setIfInBounds bs.length (.int .u8 z)) 5 fz) := by
          show (w.setCell ⟨g, bs.length, none⟩ (.int .u8 z)).heap[g]? = _
          rw [setCell_eq_setRow w g _ cur _ fz _ hg]
          exact setRow_heap w g cur _ _ fz hg
        refine .inr ⟨g, cap, _, fz, by simp, hset, by simpa using hfz, by simp; omega, hcm, by simpa using hcs, ?_⟩
        rw [List.map_append, ← htk, List.length_append, Array.toList_setIfInBounds]
        apply List.ext_getElem?
        intro q
        simp only [List.length_cons, List.length_nil, List.getElem?_take, List.getElem?_set, List.map_cons, List.map_nil]
        have hlt : bs.length < cur.toList.length := by simp; omega
        by_cases h1 : q < bs.length
        · rw [if_pos (by omega), if_neg (by omega), List.getElem?_append_left (by rw [List.length_take]; omega), List.getElem?_take, if_pos h1]
        · by_cases h2 : q = bs.length
          · subst h2
            rw [if_pos (by omega), if_pos rfl, if_pos hlt, List.getElem?_append_right (by rw [List.length_take]; omega)]
            rw [List.length_take, Nat.min_eq_left (Nat.le_of_lt hlt), Nat.sub_self]
            rfl
          · rw [if_neg (by omega), List.getElem?_eq_none]
            rw [List.length_append, List.length_take]; simp; omega
      · rw [hsize]
        exact Kept.setCell (S := OwnB (.slice (some ⟨g, 0, none⟩) bs.length cap)) (p := ⟨g, 0 + bs.length * 1, none⟩) (Kept.refl _ w) (.inl rfl) _
    · have holds : ∀ (j : Nat) (u : Value), (bs.map (Value.int .u8))[j]? = some u → w.cell? ((⟨g, 0, none⟩ : Addr).add j) = some u := by
        intro j u hj
        have hjl : j < bs.length := by have := (List.getElem?_eq_some_iff.1 hj).1; simpa using this
        rw [addr_add, Nat.zero_add, cell_of_row w g j cur _ fz hg, ← Array.getElem?_toList]
        rw [← htk, List.getElem?_take, if_pos hjl] at hj
        exact hj
      have hr := run_append_grow (P := Tryd.prog) w t ty 5 i (.int .u8 0) ht hi hz ⟨g, 0, none⟩ bs.length cap (bs.map (.int .u8)) (by simp [hsize]) holds ⟨r, 0, none⟩ 1 1 [.int .u8 z] (by simp [hsize]) hnews (by omega) (by omega) (growslice_fits (by omega) (by rw [hby]; omega))
      refine ⟨_, _, hr, .inr ⟨w.heap.size, _, _, (0, 0), by simp; rfl, heap_alloc_new w.drew _, .inr rfl, ?_, ?_, ?_, ?_⟩, ((Kept.refl _ w).drew).alloc _, ?_⟩
      · have := grownCap_ge w (bs.length + 1) cap 5; simp; omega
      · exact grownCap_le_maxLen _ _ _ _ (by unfold maxLen; omega)
      · have := grownCap_ge w (bs.length + 1) cap 5
        simp [Builtin.zeroCells, Value.cells]
        omega
      · simp only [Array.toList_append, List.length_append, List.length_cons, List.length_nil, List.map_append, List.map_cons, List.map_nil]
        rw [List.take_append_of_le_length (by simp), List.take_of_length_le (by simp)]
      · intro k hk
        simp [Value.ownBlock] at hk
        right; omega

theorem wpList_appM {w : World} {ops : Array Oper} {rest : List Oper} {o : Oper} {a : Act} {Q : Exit → Act → World → Prop} (hgd : o.guard = none) (s x : Operand) (t : TypeId)
    (ho : o.op = .call { callee := .builtin .append, args := #[s, x], argTypes := #[t, t] }) (i : TypeInfo) (ht : Tryd.prog.underlying t = some (.slice 5)) (hi : Tryd.prog.info? 5 = some i) (hz : i.zero = some (.int .u8 0)) (hsize : i.size = 1) (hby : i.bytes = 1)
    (v : Value) (bs : List Int) (hs : a.eval s = v) (hown : OwnM w v bs) (r : Nat) (z : Int) (hx : a.eval x = .slice (some ⟨r, 0, none⟩) 1 1) (hn : bs.length ≤ 2000000) (hc : w.cell? ⟨r, 0, none⟩ = some (.int .u8 z))
    (h : ∀ v' w', OwnM w' v' (bs ++ [z]) → Kept (OwnB v) w w' → (∀ k, v'.ownBlock = some k → v.ownBlock = some k ∨ w.heap.size ≤ k) → wpList Tryd.prog ops Q rest (a.put o.dst v') w') : wpList Tryd.prog ops Q (o :: rest) a w :=
  wpList_plain hgd fun _ hK => by
    obtain ⟨v', w', hr, h2, h3, h4⟩ := run_appM w t o.type i ht hi hz hsize hby v bs hown r z hn hc
    unfold Oper.wp execOp
    simp only [ho, resolve, invoke, builtin, Sem.run_bind, Sem.run_pure, Result.andThen_ok, List.map_toArray, List.map_cons, List.map_nil, hs, hx, hr]
    exact hK _ _ (h v' w' h2 h3 h4)
end Go.Proofs.YtbambcondcikbaaDoor
