/-
  Noughts appended to a row of bytes of the call's own; an empty row of one's own; a row that is filled byte by byte.
-/
import Derived.Test.YtclcgiochjibjaaGreatDoorKvs
import Derived.Lib.AppendZerosOnto
namespace Go.Proofs.YtclcgiochjibjaaGreatDoor
open Go.RowKit
set_option linter.unusedVariables false
set_option maxRecDepth 20000
set_option linter.unusedSimpArgs false

theorem zero_cellsB (n : Nat) : (Builtin.zeroCells #[Value.int .u8 0] n).toList = List.replicate n (.int .u8 0) := by
  apply List.ext_getElem (by simp [Builtin.zeroCells])
  intro i h1 h2
  have e : i % 1 = 0 := Nat.mod_one i
  simp [Builtin.zeroCells, e]
theorem run_app_zerosB (w : World) (ty g m c : Nat) (xs : List Value) (n : Nat) (hown : w.ownsRow 0 5 1 (.slice (some ⟨g, 0, none⟩) m c) m xs) (hn : n ≤ 1000000) (hm : m ≤ 1000000) :
    ∃ (a' c' : Nat) (w' : World), (Builtin.append_ #[23, 3] ty #[.slice (some ⟨g, 0, none⟩) m c, .int .i64 (n : Int)]).run Tryz.prog w = .ok (.slice (some ⟨a', 0, none⟩) (m + n) c') w' ∧
      w'.ownsRow 0 5 1 (.slice (some ⟨a', 0, none⟩) (m + n) c') (m + n) (xs ++ List.replicate n (.int .u8 0)) ∧ w.grownBy w' (some g) ∧ (a' = g ∨ w.heap.size ≤ a') := by
  obtain ⟨i, hi, hz, hsz, hby⟩ := info_parts info5
  have ht : Tryz.prog.underlying 23 = some (.slice 5) := Tryz.underlying23
  have htn : Tryz.prog.underlying 3 = some (.int .i64) := rfl
  have hzc : (Value.int .u8 0).cells = #[.int .u8 0] := rfl
  have hlen : (xs ++ List.replicate n (Value.int .u8 0)).length = (m + n) * 1 := by
    rw [List.length_append, hown.1, List.length_replicate]; omega
  by_cases hn0 : n = 0
  · subst hn0
    refine ⟨g, c, w, ?_, by simpa using hown, ⟨rfl, rfl, rfl, Nat.le_refl _, fun _ _ _ => rfl⟩, .inl rfl⟩
    rcases hown.2 with ⟨h, _⟩ | ⟨g', cap', cur, h, hbg, hg, hnc, hcm, hcs, htake⟩
    · simp at h
    · simp only [Value.slice.injEq, Option.some.injEq, Addr.mk.injEq, and_true, true_and] at h
      obtain ⟨rfl, rfl⟩ := h
      simp [Builtin.append_, run_underlying ht, run_underlying htn, sizeOf, typeInfo, hi, asInt, asIntOf, IntKind.wrap_i64, hnc, storeCells]
  · rcases hown.2 with ⟨h, _⟩ | ⟨g', cap', cur, h, hbg, hg, hnc, hcm, hcs, htake⟩
    · simp at h
    · simp only [Value.slice.injEq, Option.some.injEq, Addr.mk.injEq, and_true, true_and] at h
      obtain ⟨rfl, rfl⟩ := h
      by_cases hroom : m + n ≤ c
      · have hfit : m * i.size + (List.replicate n (Value.int .u8 0)).length ≤ cur.size := by rw [hcs, hsz, List.length_replicate]; omega
        have hst := run_storeCells_at Tryz.prog g (m * i.size) 5 (List.replicate n (Value.int .u8 0)) 0 cur w hg (by simpa using hfit) (by intro v hv; rw [(List.mem_replicate.1 hv).2]; rfl)
        simp only [Nat.add_zero] at hst
        have hw : IntKind.i64.wrap (n : Int) = n := by rw [IntKind.wrap_i64]; omega
        have hneg : ¬ ((n : Int) < 0) := by omega
        have h48 : ¬ (281474976710656 < (n : Int) * (i.bytes : Int)) := by rw [hby]; omega
        have hns : ¬ (n * i.size = 0) := by rw [hsz]; omega
        obtain ⟨row, hrow⟩ : ∃ row, row = (cur.toList.take (m * 1) ++ List.replicate n (Value.int .u8 0) ++ cur.toList.drop (m * 1 + n)).toArray := ⟨_, rfl⟩
        have hrun : (Builtin.append_ #[23, 3] ty #[.slice (some ⟨g, 0, none⟩) m c, .int .i64 (n : Int)]).run Tryz.prog w = .ok (.slice (some ⟨g, 0, none⟩) (m + n) c) (w.setRow g row) := by
          rw [hsz] at hst
          simp only [List.length_replicate] at hst
          rw [← hrow] at hst
          simp at hst
          simp [Builtin.append_, run_underlying ht, run_underlying htn, sizeOf, typeInfo, zeroValue, hi, hz, asInt, asIntOf, hw, hn0, hneg, hns, h48, hroom, Addr.add_lit, hzc, zero_cellsB, hsz, hst]
        have hrs : row.size = c * 1 := by
          rw [hrow]
          simp only [List.size_toArray, List.length_append, List.length_take, List.length_drop, Array.length_toList, List.length_replicate]
          omega
        have hrt : row.toList.take ((m + n) * 1) = xs ++ List.replicate n (Value.int .u8 0) := by
          rw [hrow, List.toList_toArray, htake, ← hlen]
          exact List.take_left
        exact ⟨g, c, _, hrun, ⟨hlen, .inr ⟨g, c, row, rfl, hbg, setRow_heap w g cur _ _ _ hg, hroom, hcm, hrs, hrt⟩⟩, ⟨rfl, rfl, rfl, by simp, fun k _ hk => setRow_other w g k _ (fun e => hk (by simp [e]))⟩, .inl rfl⟩
      · have hnew : ∀ j u, xs[j]? = some u → w.drew.cell? ((⟨g, 0, none⟩ : Addr).add j) = some u := hown.cells (g := g) rfl
        have hold := run_firstCells_some (P := Tryz.prog) w.drew 1 m ⟨g, 0, none⟩ m c xs hown.1 hnew
        have hr := Go.Lib.run_append_grow_zeros (P := Tryz.prog) w 23 3 ty 5 i (.int .u8 0) .i64 .i64 ht htn hi hz (some ⟨g, 0, none⟩) m c xs (by rw [hsz]; exact hold) n (by omega) (by omega) (by omega) (by omega) (by rw [hby]; omega)
          (by rw [hby]; exact growslice_fits (by omega) (by omega))
        have hge := grownCap_ge w (m + n) c 5
        have hcm2 : grownCap w (m + n) c 5 ≤ maxLen := grownCap_le_maxLen w (m + n) c 5 (by unfold maxLen; omega)
        refine ⟨w.heap.size, _, _, hr, ⟨hlen, .inr ⟨w.heap.size, _, _, rfl, Nat.zero_le _, heap_alloc_new w.drew _, hge, hcm2, ?_, ?_⟩⟩, ⟨rfl, rfl, rfl, by simp, fun k hk _ => heap_alloc_old w.drew _ hk⟩, .inr (Nat.le_refl _)⟩
        · have h1 := hown.1
          simp only [Array.size_append, List.size_toArray, size_zeroCells, hzc, h1]
          simp
          omega
        · simp only [Array.toList_append, List.append_assoc, hzc, zero_cellsB]
          rw [← List.append_assoc, ← hlen]
          exact List.take_left

theorem BySt.some {w0 w : World} {a : Option Addr} {l c : Nat} {L : List UInt8} (h : BySt w0 w a l c L) (hne : L ≠ []) : ∃ g, a = some ⟨g, 0, none⟩ := by
  have hl := h.len
  have : 0 < L.length := by cases L with | nil => exact absurd rfl hne | cons _ _ => simp
  rcases h.own.2 with ⟨_, hz⟩ | ⟨g, cc, cur, hv, _⟩
  · omega
  · simp at hv; exact ⟨g, hv.1⟩
theorem by_empty {w0 w : World} (hk : Kept NoB w0 w) : BySt w0 (w.alloc (.cells #[] 5)) (some ⟨w.heap.size, 0, none⟩) 0 0 [] :=
  ⟨rfl, World.ownsRow_lit w #[] 0 (Nat.zero_le _) (Nat.zero_le _) rfl, hk.alloc _, fun k e => by have := hk.size; simp [Value.ownBlock] at e; omega⟩
theorem wpList_by_zeros {w : World} {ops : Array Oper} {rest : List Oper} {o : Oper} {act : Act} {Q : Exit → Act → World → Prop} (hgd : o.guard = none) (s x : Operand)
    (ho : o.op = .call { callee := .builtin .append, args := #[s, x], argTypes := #[23, 3] })
    {w0 : World} {a : Option Addr} {l c : Nat} {L : List UInt8} (hS : BySt w0 w a l c L) (hne : L ≠ []) (hs : act.eval s = .slice a l c) (n : Nat) (hx : act.eval x = .int .i64 (n : Int)) (hl : l ≤ 1000000) (hn : n ≤ 1000000)
    (h : ∀ a2 c2 w', BySt w0 w' a2 (l + n) c2 (L ++ List.replicate n 0) → wpList Tryz.prog ops Q rest (act.put o.dst (.slice a2 (l + n) c2)) w') : wpList Tryz.prog ops Q (o :: rest) act w := by
  obtain ⟨g, rfl⟩ := hS.some hne
  refine wpList_plain hgd fun _ hK => ?_
  obtain ⟨a', c', w', hr, h2, h3, h4⟩ := run_app_zerosB w o.type g l c (bc L) n hS.own hn hl
  unfold Oper.wp execOp
  simp only [ho, resolve, invoke, builtin, Sem.run_bind, Sem.run_pure, Result.andThen_ok, List.map_toArray, List.map_cons, List.map_nil, hs, hx, hr]
  have e : List.replicate n (Value.int .u8 0) = bc (List.replicate n 0) := by simp [bc]
  rw [e] at h2
  obtain ⟨a2, c2, hv, hb⟩ := hS.grow (M := List.replicate n 0) h2 (by simp) h3 (by
    intro k hk
    simp [Value.ownBlock] at hk
    subst hk
    rcases h4 with h | h
    · subst h; exact .inl rfl
    · exact .inr h)
  simp at hv
  obtain ⟨rfl, rfl⟩ := hv
  exact hK _ _ (h _ _ _ hb)

/-- A row that is filled up to j. -/
def fillI (f : Nat → Int) (N j : Nat) : List Int := (List.range N).map fun i => if i < j then f i else 0
theorem fill_len (f : Nat → Int) (N j : Nat) : (fillI f N j).length = N := by simp [fillI]
theorem fill_set (f : Nat → Int) (N j : Nat) : (fillI f N j).set j (f j) = fillI f N (j + 1) := by
  apply List.ext_getElem
  · simp [fillI]
  · intro i h1 h2
    rw [List.getElem_set]
    simp only [fillI, List.getElem_map, List.getElem_range]
    by_cases h : j = i
    · subst h; simp
    · rw [if_neg h]
      by_cases h3 : i < j
      · rw [if_pos h3, if_pos (by omega)]
      · rw [if_neg h3, if_neg (by omega)]
theorem fill_zero (f : Nat → Int) (N : Nat) : fillI f N 0 = List.replicate N 0 := by
  rw [List.eq_replicate_iff]
  refine ⟨by simp [fillI], fun b hb => ?_⟩
  simp [fillI] at hb
  exact hb.2.symm
theorem fill_full (f : Nat → Int) (N : Nat) : fillI f N N = (List.range N).map f := by
  apply List.map_congr_left
  intro i hi
  rw [if_pos (List.mem_range.1 hi)]
theorem fill_const (b : UInt8) (N : Nat) : strOfNums (fillI (fun _ => (b.toNat : Int)) N N) = strB (List.replicate N b) := by
  rw [fill_full, strOfNums, strB, List.map_map]
  congr 2
  rw [List.eq_replicate_iff]
  refine ⟨by simp, ?_⟩
  intro x hx
  simp at hx
  exact hx.2.symm
end Go.Proofs.YtclcgiochjibjaaGreatDoor
