/-
  Strings as lists of bytes; rows of bytes of the call's own that grow (for a seat without pax: out of XCutA, XKvs, XZeros).
-/
import Derived.Test.YtbambcondcikbaaDoorPaxP
import Derived.Test.YtbambcondcikbaaDoorDigA
import Derived.Test.YtbambcondcikbaaDoorAppS
import Derived.Shelf.RegionOpen
import Derived.Lib.AppendZerosOnto
namespace Go.Proofs.YtbambcondcikbaaDoor
open Go.RowKit
set_option linter.unusedVariables false
set_option linter.unusedSimpArgs false
set_option maxRecDepth 20000

def strB (l : List UInt8) : ByteArray := ⟨l.toArray⟩
theorem strB_of (s : ByteArray) : strB s.data.toList = s := by cases s; rfl
theorem strB_size (l : List UInt8) : (strB l).size = l.length := by simp [strB, ByteArray.size]
theorem strB_data (l : List UInt8) : (strB l).data.toList = l := rfl
theorem strB_list (l : List UInt8) : (strB l).toList = l := by rw [Lib.toList_data]; rfl
theorem strB_extract (l : List UInt8) (a b : Nat) : (strB l).extract a b = strB ((l.drop a).take (b - a)) := by
  apply ByteArray.ext
  apply Array.ext'
  rw [← Lib.toList_data, Lib.extract_toList]
  rfl
theorem strB_app (a b : List UInt8) : strB a ++ strB b = strB (a ++ b) := ByteArray.mk_append_mk a b

theorem cutP_index (c : UInt8) : ∀ l : List UInt8, (Lib.indexByte l c = -1 ∧ cutP c l = (l, [], false)) ∨ ∃ k : Nat, Lib.indexByte l c = (k : Int) ∧ k < l.length ∧ cutP c l = (l.take k, l.drop (k + 1), true)
  | [] => .inl ⟨rfl, rfl⟩
  | b :: l => by
    by_cases hb : b = c
    · refine .inr ⟨0, ?_, by simp, ?_⟩
      · rw [Lib.indexByte, if_pos (by simpa using hb)]; rfl
      · rw [cutP, if_pos hb]; simp
    · rcases cutP_index c l with ⟨h1, h2⟩ | ⟨k, h1, h2, h3⟩
      · refine .inl ⟨?_, ?_⟩
        · rw [Lib.indexByte, if_neg (by simpa using hb), h1]; rfl
        · rw [cutP, if_neg hb, h2]
      · refine .inr ⟨k + 1, ?_, by simpa using h2, ?_⟩
        · rw [Lib.indexByte, if_neg (by simpa using hb), h1, if_neg (by simp)]
          first | rfl | omega
        · rw [cutP, if_neg hb, h3]; rfl

/-- Bytes as cells, and as numbers. -/
def bc (L : List UInt8) : List Value := L.map fun b => Value.int .u8 (b.toNat : Int)
def nb (L : List UInt8) : List Int := L.map fun b => (b.toNat : Int)
theorem bc_nb (L : List UInt8) : bc L = (nb L).map (.int .u8) := by simp [bc, nb]
theorem nb_len (L : List UInt8) : (nb L).length = L.length := by simp [nb]
theorem nb_all (L : List UInt8) : AllB (nb L) := by
  intro b hb
  obtain ⟨c, _, rfl⟩ := List.mem_map.1 hb
  have := UInt8.toNat_lt c
  omega
theorem nb_str (L : List UInt8) : strOfNums (nb L) = strB L := strOf_bytes L
theorem byteCells_strB (L : List UInt8) : byteCells (strB L) = bc L := rfl
/-- Numbers that are bytes, as bytes. -/
def un (xs : List Int) : List UInt8 := xs.map fun n => UInt8.ofNat n.toNat
theorem nb_un {xs : List Int} (h : AllB xs) : nb (un xs) = xs := by
  unfold nb un
  rw [List.map_map]
  conv => rhs; rw [← List.map_id xs]
  apply List.map_congr_left
  intro x hx
  have := h x hx
  simp only [Function.comp_apply, id_eq, UInt8.toNat_ofNat']
  omega

/-- A row of bytes of the call's own. -/
structure BySt (w0 w : World) (a : Option Addr) (l c : Nat) (L : List UInt8) : Prop where
  len : l = L.length
  own : w.ownsRow 0 5 1 (.slice a l c) l (bc L)
  kept : Kept NoB w0 w
  fresh : ∀ k, (Value.slice a l c).ownBlock = some k → w0.heap.size ≤ k
theorem BySt.nil (w : World) : BySt w w none 0 0 [] := ⟨rfl, World.ownsRow_nil _ _ _ _, Kept.refl _ _, fun k hk => by simp [Value.ownBlock] at hk⟩
theorem BySt.on {w0 w w' : World} {a : Option Addr} {l c : Nat} {L : List UInt8} (h : BySt w0 w a l c L) (hk : Kept NoB w w') : BySt w0 w' a l c L := ⟨h.len, hk.row h.own (fun _ _ h => h), h.kept.trans hk, h.fresh⟩
theorem BySt.reads {w0 w : World} {a : Option Addr} {l c : Nat} {L : List UInt8} (h : BySt w0 w a l c L) : Reads w a (nb L) := by
  have ho := h.own
  have hl := h.len
  subst hl
  rw [bc_nb] at ho
  have e := nb_len L
  rw [← e] at ho
  exact own_reads ho rfl
theorem BySt.cap {w0 w : World} {a : Option Addr} {l c : Nat} {L : List UInt8} (h : BySt w0 w a l c L) : l ≤ c ∧ c ≤ maxLen ∧ (a = none → c = 0) := ⟨(own_cap h.own).1, (own_cap h.own).2, own_nil h.own⟩
theorem kv_shape {w : World} {base e s : Nat} {v : Value} {n : Nat} {xs : List Value} (h : w.ownsRow base e s v n xs) : ∃ ao cap, v = .slice ao n cap := by
  rcases h.2 with ⟨rfl, rfl⟩ | ⟨g, cap, cur, rfl, _⟩
  · exact ⟨none, 0, rfl⟩
  · exact ⟨_, cap, rfl⟩
theorem BySt.grow {w0 w w' : World} {a : Option Addr} {l c n : Nat} {L M : List UInt8} {v : Value} (h : BySt w0 w a l c L) (ho : w'.ownsRow 0 5 1 v (l + n) (bc L ++ bc M)) (hn : n = M.length) (hg : w.grownBy w' (Value.slice a l c).ownBlock)
    (hf : ∀ k, v.ownBlock = some k → (Value.slice a l c).ownBlock = some k ∨ w.heap.size ≤ k) : ∃ a2 c2, v = .slice a2 (l + n) c2 ∧ BySt w0 w' a2 (l + n) c2 (L ++ M) := by
  obtain ⟨a2, c2, rfl⟩ := kv_shape ho
  refine ⟨a2, c2, rfl, by rw [List.length_append, h.len, hn], by simpa [bc] using ho, h.kept.grown hg (fun k hk e => by have := h.fresh k e; omega), ?_⟩
  intro k hk
  rcases hf k hk with e | e
  · exact h.fresh k e
  · have := h.kept.size; omega
theorem wpList_by_str {w : World} {ops : Array Oper} {rest : List Oper} {o : Oper} {act : Act} {Q : Exit → Act → World → Prop} (hgd : o.guard = none) (s x : Operand)
    (ho : o.op = .call { callee := .builtin .append, args := #[s, x], argTypes := #[26, 9] })
    {w0 : World} {a : Option Addr} {l c : Nat} {L : List UInt8} (hS : BySt w0 w a l c L) (hs : act.eval s = .slice a l c) (X : ByteArray) (M : List UInt8) (hX : X = strB M) (hx : act.eval x = .string X) (h0 : M ≠ []) (hn : l + M.length ≤ 100000000)
    (h : ∀ a2 c2 w', BySt w0 w' a2 (l + M.length) c2 (L ++ M) → wpList Tryd.prog ops Q rest (act.put o.dst (.slice a2 (l + M.length) c2)) w') : wpList Tryd.prog ops Q (o :: rest) act w := by
  subst hX
  have hsz := strB_size M
  have h00 : 0 < M.length := by cases M with | nil => exact absurd rfl h0 | cons _ _ => simp
  refine wpList_app_str hgd s x 26 9 ho Tryd.underlying26 Tryd.underlying9 _ l (bc L) hs hS.own (strB M) hx (by omega) (by omega) ?_
  intro v' w' h2 h3 h4
  rw [byteCells_strB, hsz] at h2
  obtain ⟨a2, c2, rfl, hb⟩ := hS.grow h2 rfl h3 h4
  rw [hsz] at *
  exact h _ _ _ hb
theorem wpList_by_row {w : World} {ops : Array Oper} {rest : List Oper} {o : Oper} {act : Act} {Q : Exit → Act → World → Prop} (hgd : o.guard = none) (s x : Operand)
    (ho : o.op = .call { callee := .builtin .append, args := #[s, x], argTypes := #[26, 26] })
    {w0 : World} {a : Option Addr} {l c : Nat} {L : List UInt8} (hS : BySt w0 w a l c L) (hs : act.eval s = .slice a l c) (ad : Addr) (cx m : Nat) (M : List UInt8) (hm : m = M.length) (hx : act.eval x = .slice (some ad) m cx) (hr : Reads w (some ad) (nb M)) (hn : l + m ≤ 100000000)
    (h : ∀ a2 c2 w', BySt w0 w' a2 (l + m) c2 (L ++ M) → wpList Tryd.prog ops Q rest (act.put o.dst (.slice a2 (l + m) c2)) w') : wpList Tryd.prog ops Q (o :: rest) act w := by
  obtain ⟨i0, hi, hz0, hz1, hz2⟩ := info_parts info5
  refine wpList_app w hgd s x 26 ho 5 i0 (.int .u8 0) 1 1 Tryd.underlying26 hi hz0 hz1 hz2 rfl (by decide) _ l (bc L) hs hS.own ad m cx (bc M) hx (by simp [bc, hm]) ?_ ?_ (by unfold maxLen; omega) (by omega) ?_
  · rw [bc_nb]; exact reads_news hr
  · rw [bc_nb]; exact news_one _
  intro v' w' h2 h3 h4
  obtain ⟨a2, c2, rfl, hb⟩ := hS.grow h2 hm h3 h4
  exact h _ _ _ hb

theorem zero_cellsB (n : Nat) : (Builtin.zeroCells #[Value.int .u8 0] n).toList = List.replicate n (.int .u8 0) := by
  apply List.ext_getElem (by simp [Builtin.zeroCells])
  intro i h1 h2
  have e : i % 1 = 0 := Nat.mod_one i
  simp [Builtin.zeroCells, e]
theorem run_app_zerosB (w : World) (ty g m c : Nat) (xs : List Value) (n : Nat) (hown : w.ownsRow 0 5 1 (.slice (some ⟨g, 0, none⟩) m c) m xs) (hn : n ≤ 1000000) (hm : m ≤ 1000000) :
    ∃ (a' c' : Nat) (w' : World), (Builtin.append_ #[26, 3] ty #[.slice (some ⟨g, 0, none⟩) m c, .int .i64 (n : Int)]).run Tryd.prog w = .ok (.slice (some ⟨a', 0, none⟩) (m + n) c') w' ∧
      w'.ownsRow 0 5 1 (.slice (some ⟨a', 0, none⟩) (m + n) c') (m + n) (xs ++ List.replicate n (.int .u8 0)) ∧ w.grownBy w' (some g) ∧ (a' = g ∨ w.heap.size ≤ a') := by
  obtain ⟨i, hi, hz, hsz, hby⟩ := info_parts info5
  have ht : Tryd.prog.underlying 26 = some (.slice 5) := Tryd.underlying26
  have htn : Tryd.prog.underlying 3 = some (.int .i64) := rfl
  have hzc : (Value.int .u8 0).cells = #[.int .u8 0] := rfl
  have hlen : (xs ++ List.replicate n (Value.int .u8 0)).length = (m + n) * 1 := by
    rw [List.length_append, hown.1, List.length_replicate]; omega
  by_cases hn0 : n = 0
  · subst hn0
    refine ⟨g, c, w, ?_, by simpa using hown, ⟨rfl, rfl, rfl, Nat.le_refl _, fun _ _ _ => rfl⟩, .inl rfl⟩
    rcases hown.2 with ⟨h, _⟩ | ⟨g', cap', cur, h, hbg, hg, hnc, hcm, hcs, htake⟩
    · simp at h
    · simp only [Value.slice.injEq, Option.some.injEq, Addr.mk.injEq, and_true, true_and] at h
      obtain ⟨rfl, rfl⟩ := h
      simp [Builtin.append_, run_underlying ht, run_underlying htn, sizeOf, typeInfo, hi, asInt, asIntOf, IntKind.wrap_i64, hnc, storeCells]
  · rcases hown.2 with ⟨h, _⟩ | ⟨g', cap', cur, h, hbg, hg, hnc, hcm, hcs, htake⟩
    · simp at h
    · simp only [Value.slice.injEq, Option.some.injEq, Addr.mk.injEq, and_true, true_and] at h
      obtain ⟨rfl, rfl⟩ := h
      by_cases hroom : m + n ≤ c
      · have hfit : m * i.size + (List.replicate n (Value.int .u8 0)).length ≤ cur.size := by rw [hcs, hsz, List.length_replicate]; omega
        have hst := run_storeCells_at Tryd.prog g (m * i.size) 5 (List.replicate n (Value.int .u8 0)) 0 cur w hg (by simpa using hfit) (by intro v hv; rw [(List.mem_replicate.1 hv).2]; rfl)
        simp only [Nat.add_zero] at hst
        have hw : IntKind.i64.wrap (n : Int) = n := by rw [IntKind.wrap_i64]; omega
        have hneg : ¬ ((n : Int) < 0) := by omega
        have h48 : ¬ (281474976710656 < (n : Int) * (i.bytes : Int)) := by rw [hby]; omega
        have hns : ¬ (n * i.size = 0) := by rw [hsz]; omega
        obtain ⟨row, hrow⟩ : ∃ row, row = (cur.toList.take (m * 1) ++ List.replicate n (Value.int .u8 0) ++ cur.toList.drop (m * 1 + n)).toArray := ⟨_, rfl⟩
        have hrun : (Builtin.append_ #[26, 3] ty #[.slice (some ⟨g, 0, none⟩) m c, .int .i64 (n : Int)]).run Tryd.prog w = .ok (.slice (some ⟨g, 0, none⟩) (m + n) c) (w.setRow g row) := by
          rw [hsz] at hst
          simp only [List.length_replicate] at hst
          rw [← hrow] at hst
          simp at hst
          simp [Builtin.append_, run_underlying ht, run_underlying htn, sizeOf, typeInfo, zeroValue, hi, hz, asInt, asIntOf, hw, hn0, hneg, hns, h48, hroom, Addr.add_lit, hzc, zero_cellsB, hsz, hst]
        have hrs : row.size = c * 1 := by
          rw [hrow]
          simp only [List.size_toArray, List.length_append, List.length_take, List.length_drop, Array.length_toList, List.length_replicate]
          omega
        have hrt : row.toList.take ((m + n) * 1) = xs ++ List.replicate n (Value.int .u8 0) := by
          rw [hrow, List.toList_toArray, htake, ← hlen]
          exact List.take_left
        exact ⟨g, c, _, hrun, ⟨hlen, .inr ⟨g, c, row, rfl, hbg, setRow_heap w g cur _ _ _ hg, hroom, hcm, hrs, hrt⟩⟩, ⟨rfl, rfl, rfl, by simp, fun k _ hk => setRow_other w g k _ (fun e => hk (by simp [e]))⟩, .inl rfl⟩
      · have hnew : ∀ j u, xs[j]? = some u → w.drew.cell? ((⟨g, 0, none⟩ : Addr).add j) = some u := hown.cells (g := g) rfl
        have hold := run_firstCells_some (P := Tryd.prog) w.drew 1 m ⟨g, 0, none⟩ m c xs hown.1 hnew
        have hr := Go.Lib.run_append_grow_zeros (P := Tryd.prog) w 26 3 ty 5 i (.int .u8 0) .i64 .i64 ht htn hi hz (some ⟨g, 0, none⟩) m c xs (by rw [hsz]; exact hold) n (by omega) (by omega) (by omega) (by omega) (by rw [hby]; omega)
          (by rw [hby]; exact growslice_fits (by omega) (by omega))
        have hge := grownCap_ge w (m + n) c 5
        have hcm2 : grownCap w (m + n) c 5 ≤ maxLen := grownCap_le_maxLen w (m + n) c 5 (by unfold maxLen; omega)
        refine ⟨w.heap.size, _, _, hr, ⟨hlen, .inr ⟨w.heap.size, _, _, rfl, Nat.zero_le _, heap_alloc_new w.drew _, hge, hcm2, ?_, ?_⟩⟩, ⟨rfl, rfl, rfl, by simp, fun k hk _ => heap_alloc_old w.drew _ hk⟩, .inr (Nat.le_refl _)⟩
        · have h1 := hown.1
          simp only [Array.size_append, List.size_toArray, size_zeroCells, hzc, h1]
          simp
          omega
        · simp only [Array.toList_append, List.append_assoc, hzc, zero_cellsB]
          rw [← List.append_assoc, ← hlen]
          exact List.take_left

theorem BySt.some {w0 w : World} {a : Option Addr} {l c : Nat} {L : List UInt8} (h : BySt w0 w a l c L) (hne : L ≠ []) : ∃ g, a = some ⟨g, 0, none⟩ := by
  have hl := h.len
  have : 0 < L.length := by cases L with | nil => exact absurd rfl hne | cons _ _ => simp
  rcases h.own.2 with ⟨_, hz⟩ | ⟨g, cc, cur, hv, _⟩
  · omega
  · simp at hv; exact ⟨g, hv.1⟩
theorem by_empty {w0 w : World} (hk : Kept NoB w0 w) : BySt w0 (w.alloc (.cells #[] 5)) (some ⟨w.heap.size, 0, none⟩) 0 0 [] :=
  ⟨rfl, World.ownsRow_lit w #[] 0 (Nat.zero_le _) (Nat.zero_le _) rfl, hk.alloc _, fun k e => by have := hk.size; simp [Value.ownBlock] at e; omega⟩
theorem wpList_by_zeros {w : World} {ops : Array Oper} {rest : List Oper} {o : Oper} {act : Act} {Q : Exit → Act → World → Prop} (hgd : o.guard = none) (s x : Operand)
    (ho : o.op = .call { callee := .builtin .append, args := #[s, x], argTypes := #[26, 3] })
    {w0 : World} {a : Option Addr} {l c : Nat} {L : List UInt8} (hS : BySt w0 w a l c L) (hne : L ≠ []) (hs : act.eval s = .slice a l c) (n : Nat) (hx : act.eval x = .int .i64 (n : Int)) (hl : l ≤ 1000000) (hn : n ≤ 1000000)
    (h : ∀ a2 c2 w', BySt w0 w' a2 (l + n) c2 (L ++ List.replicate n 0) → wpList Tryd.prog ops Q rest (act.put o.dst (.slice a2 (l + n) c2)) w') : wpList Tryd.prog ops Q (o :: rest) act w := by
  obtain ⟨g, rfl⟩ := hS.some hne
  refine wpList_plain hgd fun _ hK => ?_
  obtain ⟨a', c', w', hr, h2, h3, h4⟩ := run_app_zerosB w o.type g l c (bc L) n hS.own hn hl
  unfold Oper.wp execOp
  simp only [ho, resolve, invoke, builtin, Sem.run_bind, Sem.run_pure, Result.andThen_ok, List.map_toArray, List.map_cons, List.map_nil, hs, hx, hr]
  have e : List.replicate n (Value.int .u8 0) = bc (List.replicate n 0) := by simp [bc]
  rw [e] at h2
  obtain ⟨a2, c2, hv, hb⟩ := hS.grow (M := List.replicate n 0) h2 (by simp) h3 (by
    intro k hk
    simp [Value.ownBlock] at hk
    subst hk
    rcases h4 with h | h
    · subst h; exact .inl rfl
    · exact .inr h)
  simp at hv
  obtain ⟨rfl, rfl⟩ := hv
  exact hK _ _ (h _ _ _ hb)

/-- A row that is filled up to j. -/
def fillI (f : Nat → Int) (N j : Nat) : List Int := (List.range N).map fun i => if i < j then f i else 0
theorem fill_len (f : Nat → Int) (N j : Nat) : (fillI f N j).length = N := by simp [fillI]
theorem fill_set (f : Nat → Int) (N j : Nat) : (fillI f N j).set j (f j) = fillI f N (j + 1) := by
  apply List.ext_getElem
  · simp [fillI]
  · intro i h1 h2
    rw [List.getElem_set]
    simp only [fillI, List.getElem_map, List.getElem_range]
    by_cases h : j = i
    · subst h; simp
    · rw [if_neg h]
      by_cases h3 : i < j
      · rw [if_pos h3, if_pos (by omega)]
      · rw [if_neg h3, if_neg (by omega)]
theorem fill_zero (f : Nat → Int) (N : Nat) : fillI f N 0 = List.replicate N 0 := by
  rw [List.eq_replicate_iff]
  refine ⟨by simp [fillI], fun b hb => ?_⟩
  simp [fillI] at hb
  exact hb.2.symm
theorem fill_full (f : Nat → Int) (N : Nat) : fillI f N N = (List.range N).map f := by
  apply List.map_congr_left
  intro i hi
  rw [if_pos (List.mem_range.1 hi)]
theorem fill_const (b : UInt8) (N : Nat) : strOfNums (fillI (fun _ => (b.toNat : Int)) N N) = strB (List.replicate N b) := by
  rw [fill_full, strOfNums, strB, List.map_map]
  congr 2
  rw [List.eq_replicate_iff]
  refine ⟨by simp, ?_⟩
  intro x hx
  simp at hx
  exact hx.2.symm
theorem by_cell {w0 w : World} {g l c : Nat} {L : List UInt8} (h : BySt w0 w (some ⟨g, 0, none⟩) l c L) (i : Nat) (hi : i < L.length) : w.cell? ⟨g, i, none⟩ = some (.int .u8 ((L.getD i 0).toNat : Int)) := by
  have hl := h.len
  rw [h.own.cellAt i (by omega)]
  simp [bc, List.getD, hi]
theorem strB_get (l : List UInt8) (i : Nat) (h : i < (strB l).size) : (strB l)[i] = l.getD i 0 := by
  have h2 : i < l.length := by rw [strB_size] at h; exact h
  have : l.getD i 0 = l[i] := by simp [List.getD, h2]
  rw [this]
  rfl
end Go.Proofs.YtbambcondcikbaaDoor
