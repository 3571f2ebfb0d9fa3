/-
  A string's bytes appended to a row of bytes of the call's own.
-/
import Derived.Test.YtbambcondcikbaaDoorKit
import Derived.Deep.AppendSrc
namespace Go.Proofs.YtbambcondcikbaaDoor
open Go.RowKit
set_option linter.unusedVariables false
set_option linter.unusedSimpArgs false

theorem run_app_str (w : World) (t tx ty : TypeId) (ht : Tryd.prog.underlying t = some (.slice 5)) (hk : Tryd.prog.underlying tx = some .string) (v : Value) (n : Nat) (xs : List Value) (hown : w.ownsRow 0 5 1 v n xs)
    (s : ByteArray) (h0 : 0 < s.size) (hn : n + s.size ≤ 100000000) :
    ∃ v' w', (Builtin.append_ #[t, tx] ty #[v, .string s]).run Tryd.prog w = .ok v' w' ∧ w'.ownsRow 0 5 1 v' (n + s.size) (xs ++ byteCells s) ∧ w.grownBy w' v.ownBlock ∧
      (∀ k, v'.ownBlock = some k → v.ownBlock = some k ∨ w.heap.size ≤ k) := by
  obtain ⟨i, hi, hz, hsz, hby⟩ := info_parts info5
  have hbl := byteCells_length s
  have hlen : (xs ++ byteCells s).length = (n + s.size) * 1 := by rw [List.length_append, hown.1, hbl]; omega
  rcases hown.2 with ⟨rfl, rfl⟩ | ⟨g, c, cur, rfl, hbg, hg, hnc, hcm, hcs, htake⟩
  · have hx : xs = [] := List.eq_nil_of_length_eq_zero (by simpa using hown.1)
    subst hx
    have hr := run_append_nil_string (P := Tryd.prog) w t tx ty 5 i (.int .u8 0) ht hk hi hz s h0 (by omega) (by rw [hby]; omega)
    have hge := grownCap_ge w s.size 0 5
    have hcm2 : grownCap w s.size 0 5 ≤ maxLen := grownCap_le_maxLen w s.size 0 5 (by unfold maxLen; omega)
    rw [Nat.zero_add]
    refine ⟨_, _, hr, ⟨by simpa using hlen, .inr ⟨w.heap.size, _, _, rfl, Nat.zero_le _, heap_alloc_new w.drew _, hge, hcm2, ?_, ?_⟩⟩, ⟨rfl, rfl, rfl, by simp, fun k hk _ => heap_alloc_old w.drew _ hk⟩, fun k hk => .inr (by simp [Value.ownBlock] at hk; omega)⟩
    · have hcc : (Value.int .u8 0).cells.size = 1 := rfl
      have e : s.data.size = s.size := rfl
      simp only [Array.size_append, Array.size_map, size_zeroCells, hcc, e]
      omega
    · rw [Array.toList_append, Array.toList_map, List.nil_append]
      have e : (s.size * 1) = (s.data.toList.map fun b => Value.int .u8 (b.toNat : Int)).length := by rw [← hbl]; simp [byteCells]
      rw [e, List.take_left]
      rfl
  · by_cases hroom : n + s.size ≤ c
    · have hfit : n * i.size + (byteCells s).length ≤ cur.size := by rw [hcs, hsz, hbl]; omega
      have hst := run_storeCells_at Tryd.prog g (n * i.size) 5 (byteCells s) 0 cur w hg (by simpa using hfit) (by intro v hv; obtain ⟨_, _, rfl⟩ := List.mem_map.1 hv; rfl)
      simp only [Nat.add_zero] at hst
      obtain ⟨row, hrow⟩ : ∃ row, row = (cur.toList.take (n * 1) ++ byteCells s ++ cur.toList.drop (n * 1 + (byteCells s).length)).toArray := ⟨_, rfl⟩
      have hsrc := Src.ofString (P := Tryd.prog) w hk s
      have hrun : (Builtin.append_ #[t, tx] ty #[.slice (some ⟨g, 0, none⟩) n c, .string s]).run Tryd.prog w = .ok (.slice (some ⟨g, 0, none⟩) (n + s.size) c) (w.setRow g row) := by
        rw [hsz] at hst
        rw [← hrow] at hst
        simp at hst
        have h2 := hsrc.cells
        have h3 := hsrc.len
        simp [Builtin.append_, run_underlying ht, run_underlying hk, sizeOf, typeInfo, hi, h3, hroom, hsz, h2, Addr.add_lit, hst]
      have hrs : row.size = c * 1 := by
        rw [hrow]
        simp only [List.size_toArray, List.length_append, List.length_take, List.length_drop, Array.length_toList, hbl]
        omega
      have hrt : row.toList.take ((n + s.size) * 1) = xs ++ byteCells s := by
        rw [hrow, List.toList_toArray, htake, ← hlen]
        exact List.take_left
      exact ⟨_, _, hrun, ⟨hlen, .inr ⟨g, c, row, rfl, hbg, setRow_heap w g cur _ _ _ hg, hroom, hcm, hrs, hrt⟩⟩, ⟨rfl, rfl, rfl, by simp, fun k hk _ => setRow_other w g k _ (fun e => by subst e; simp [Value.ownBlock] at *)⟩, fun k hk => .inl (by simpa [Value.ownBlock] using hk)⟩
    · have hnew : ∀ j u, xs[j]? = some u → w.drew.cell? ((⟨g, 0, none⟩ : Addr).add j) = some u := hown.cells (g := g) rfl
      have hold := run_firstCells_some (P := Tryd.prog) w.drew 1 n ⟨g, 0, none⟩ n c xs hown.1 hnew
      have hsrc := Src.ofString (P := Tryd.prog) w hk s
      have hr := run_append_grow_src (P := Tryd.prog) w t tx ty 5 i (.int .u8 0) ht hi hz (some ⟨g, 0, none⟩) n c xs (by rw [hsz]; exact hold) (.string s) s.size (byteCells s) (by rw [hsz]; exact hsrc) (by omega) (by omega)
        (by rw [hby]; exact growslice_fits (by omega) (by omega))
      have hge := grownCap_ge w (n + s.size) c 5
      have hcm2 : grownCap w (n + s.size) c 5 ≤ maxLen := grownCap_le_maxLen w (n + s.size) c 5 (by unfold maxLen; omega)
      refine ⟨_, _, hr, ⟨hlen, .inr ⟨w.heap.size, _, _, rfl, Nat.zero_le _, heap_alloc_new w.drew _, hge, hcm2, ?_, ?_⟩⟩, ⟨rfl, rfl, rfl, by simp, fun k hk _ => heap_alloc_old w.drew _ hk⟩, fun k hk => .inr (by simp [Value.ownBlock] at hk; omega)⟩
      · have h1 := hown.1
        have hcc : (Value.int .u8 0).cells.size = 1 := rfl
        simp only [Array.size_append, List.size_toArray, size_zeroCells, hcc, hlen]
        omega
      · rw [Array.toList_append, List.toList_toArray, ← hlen, List.take_left]

theorem wpList_app_str {w : World} {ops : Array Oper} {rest : List Oper} {o : Oper} {a : Act} {Q : Exit → Act → World → Prop} (hgd : o.guard = none) (s x : Operand) (t tx : TypeId)
    (ho : o.op = .call { callee := .builtin .append, args := #[s, x], argTypes := #[t, tx] }) (ht : Tryd.prog.underlying t = some (.slice 5)) (hk : Tryd.prog.underlying tx = some .string)
    (v : Value) (n : Nat) (xs : List Value) (hs : a.eval s = v) (hown : w.ownsRow 0 5 1 v n xs) (str : ByteArray) (hx : a.eval x = .string str) (h0 : 0 < str.size) (hn : n + str.size ≤ 100000000)
    (h : ∀ v' w', w'.ownsRow 0 5 1 v' (n + str.size) (xs ++ byteCells str) → w.grownBy w' v.ownBlock → (∀ k, v'.ownBlock = some k → v.ownBlock = some k ∨ w.heap.size ≤ k) → wpList Tryd.prog ops Q rest (a.put o.dst v') w') : wpList Tryd.prog ops Q (o :: rest) a w :=
  wpList_plain hgd fun _ hK => by
    obtain ⟨v', w', hr, h2, h3, h4⟩ := run_app_str w t tx o.type ht hk v n xs hown str h0 hn
    unfold Oper.wp execOp
    simp only [ho, resolve, invoke, builtin, Sem.run_bind, Sem.run_pure, Result.andThen_ok, List.map_toArray, List.map_cons, List.map_nil, hs, hx, hr]
    exact hK _ _ (h v' w' h2 h3 h4)
end Go.Proofs.YtbambcondcikbaaDoor
