/-
  append onto an own row that is there already, of as many elements as one likes, also of none; one element taken out of a row.
-/
import Derived.Test.YtilndmmjdbhmgaaAppG
namespace Go.Proofs.Ytilndmmjdbhmgaa
open Go.RowKit
set_option linter.unusedVariables false
set_option linter.unusedSimpArgs false
set_option maxRecDepth 20000

theorem run_app_src0 {P : Program} (w : World) (t tx ty e : TypeId) (i : TypeInfo) (z : Value) (size bytes : Nat) (ht : P.underlying t = some (.slice e)) (hi : P.info? e = some i) (hz : i.zero = some z)
    (hsize : i.size = size) (hby : i.bytes = bytes) (hzs : z.cells.size = size) (hsz : 0 < size) (g n c : Nat) (xs : List Value) (hown : w.ownsRow 0 e size (.slice (some ⟨g, 0, none⟩) n c) n xs)
    (x : Value) (m : Nat) (news : List Value) (hsrc : Src P size tx x m news w) (hl : news.length = m * size) (h1 : ∀ u ∈ news, u.oneCell' = true)
    (h63 : n + m ≤ maxLen) (hbytes : (n + m) * bytes ≤ 140737488355328) :
    ∃ v' w', (Builtin.append_ #[t, tx] ty #[.slice (some ⟨g, 0, none⟩) n c, x]).run P w = .ok v' w' ∧ w'.ownsRow 0 e size v' (n + m) (xs ++ news) ∧ w.grownBy w' (some g) ∧
      ∃ g' c', v' = .slice (some ⟨g', 0, none⟩) (n + m) c' ∧ (g' = g ∨ w.heap.size ≤ g') := by
  rcases Nat.eq_zero_or_pos m with hm | hm
  · subst hm
    have hnews : news = [] := List.eq_nil_of_length_eq_zero (by omega)
    subst hnews
    rcases hown.2 with ⟨h, _⟩ | ⟨g', c', cur, hv, hbg, hg, hnc, hcm, hcs, htake⟩
    · cases h
    · simp only [Value.slice.injEq, Option.some.injEq, Addr.mk.injEq, and_true, true_and] at hv
      obtain ⟨rfl, rfl⟩ := hv
      have hroom : n + 0 ≤ c := by omega
      have hlen : (xs ++ []).length = (n + 0) * size := by rw [List.append_nil, hown.1]; simp
      have hst := run_storeCells_at P g (n * size) e [] 0 cur w hg (by simp [hcs]; exact Nat.mul_le_mul_right _ hnc) (fun u hu => by cases hu)
      simp only [Nat.add_zero] at hst
      obtain ⟨row, hrow⟩ : ∃ row, row = (cur.toList.take (n * size) ++ [] ++ cur.toList.drop (n * size + ([] : List Value).length)).toArray := ⟨_, rfl⟩
      have hrun : (Builtin.append_ #[t, tx] ty #[.slice (some ⟨g, 0, none⟩) n c, x]).run P w = .ok (.slice (some ⟨g, 0, none⟩) (n + 0) c) (w.setRow g row) := by
        rw [← hrow] at hst
        have h2 := hsrc.cells
        have h3 := hsrc.len
        rcases hsrc.kind with ⟨e', hk⟩ | hk <;> simp [Builtin.append_, run_underlying ht, run_underlying hk, sizeOf, typeInfo, hi, h3, hnc, hsize, h2, Addr.add_lit, hst]
      have hrs : row.size = c * size := by
        rw [hrow]
        simp only [List.size_toArray, List.length_append, List.length_take, List.length_drop, Array.length_toList, List.length_nil]
        have := Nat.mul_le_mul_right size hnc
        omega
      have hrt : row.toList.take ((n + 0) * size) = xs ++ [] := by
        rw [hrow, List.toList_toArray, htake, ← hlen, List.append_assoc]
        simp
      exact ⟨_, _, hrun, ⟨hlen, .inr ⟨g, c, row, rfl, hbg, setRow_heap w g cur _ _ _ hg, hroom, hcm, hrs, hrt⟩⟩, ⟨rfl, rfl, rfl, by simp, fun k hk hne => setRow_other w g k _ (fun e => by subst e; exact hne rfl)⟩, g, c, rfl, .inl rfl⟩
  · obtain ⟨v', w', a1, a2, a3, a4⟩ := run_app_src w t tx ty e i z size bytes ht hi hz hsize hby hzs hsz _ n xs hown x m news hsrc hl h1 hm h63 hbytes
    rcases a2.2 with ⟨rfl, h0⟩ | ⟨g', c', cur, rfl, _⟩
    · omega
    · refine ⟨_, w', a1, a2, a3, g', c', rfl, ?_⟩
      rcases a4 g' rfl with e | e
      · exact .inl (by simpa [Value.ownBlock] using e.symm)
      · exact .inr e
/-- A piece of a row of elements of 'size' cells, sliced: its cells. -/
theorem slice_src {P : Program} (t e : TypeId) (size : Nat) (hk : P.underlying t = some (.slice e)) (g n c l h : Nat) (xs : List Value) (hxl : xs.length = n * size) (h1 : ∀ u ∈ xs, u.oneCell' = true) (hl : l ≤ h) (hh : h ≤ n)
    (W : World) (hcell : ∀ j u, xs[j]? = some u → W.cell? ⟨g, j, none⟩ = some u) (q : Addr) (c' : Nat) (hq : q = ⟨g, l * size, none⟩ ∨ h = l) : Src P size t (.slice (some q) (h - l) c') (h - l) ((xs.drop (l * size)).take ((h - l) * size)) W := by
  have hle : l * size ≤ h * size := Nat.mul_le_mul_right _ hl
  have hle2 : h * size ≤ n * size := Nat.mul_le_mul_right _ hh
  have hlen : ((xs.drop (l * size)).take ((h - l) * size)).length = (h - l) * size := by
    rw [List.length_take, List.length_drop, hxl, Nat.sub_mul]; omega
  refine Src.ofSlice W hk q (h - l) c' _ hlen (fun j u hj => ?_) (fun u hu => h1 u (List.mem_of_mem_drop (List.mem_of_mem_take hu)))
  rw [List.getElem?_take] at hj
  split at hj
  · rename_i hlt
    rw [List.getElem?_drop] at hj
    rcases hq with rfl | rfl
    · rw [Addr.add_lit]; exact hcell _ _ hj
    · simp at hlt
  · cases hj
theorem sliced_some (g c l h s : Nat) (hl : l ≤ h) (hc : h ≤ c) : ∃ q, sliced (some ⟨g, 0, none⟩) l h c s = .slice (some q) (h - l) (c - l) ∧ (q = ⟨g, l * s, none⟩ ∨ h = l) ∧ q.block = g := by
  by_cases hcl : c = l
  · refine ⟨⟨g, 0, none⟩, ?_, .inr (by omega), rfl⟩
    unfold sliced
    rw [if_pos hcl]
  · refine ⟨⟨g, l * s, none⟩, ?_, .inl rfl, rfl⟩
    unfold sliced
    rw [if_neg hcl]
    rw [Option.map_some, Addr.add_lit, Nat.zero_add]
theorem slice_upto {P : Program} {t : TypeId} {s : Nat} (ht : P.underlying t = some (.slice (P.elem t))) (hs : ∀ W : World, (sizeOf (P.elem t)).run P W = .ok s W) (g n c h : Nat) (hh : h ≤ n) (hc : n ≤ c) :
    ∃ q, (∀ W, (Instr.slice t (.slice (some ⟨g, 0, none⟩) n c) none (some (.int .i64 (h : Int))) none).run P W = .ok (.slice (some q) h c) W) ∧ (q = ⟨g, 0, none⟩ ∨ h = 0) := by
  obtain ⟨q, h1, h2, _⟩ := sliced_some g c 0 h s (Nat.zero_le _) (by omega)
  refine ⟨q, fun W => ?_, by rw [Nat.zero_mul] at h2; exact h2⟩
  rw [run_slice_h (P := P) (w := W) t (some ⟨g, 0, none⟩) n c ht .i64 (h : Int) (by omega) (by omega), hs]
  simp only [Result.andThen, Int.toNat_natCast]
  rw [h1]; rfl
theorem slice_from {P : Program} {t : TypeId} {s : Nat} (ht : P.underlying t = some (.slice (P.elem t))) (hs : ∀ W : World, (sizeOf (P.elem t)).run P W = .ok s W) (g n c l : Nat) (hl : l ≤ n) (hc : n ≤ c) :
    ∃ q c', (∀ W, (Instr.slice t (.slice (some ⟨g, 0, none⟩) n c) (some (.int .i64 (l : Int))) none none).run P W = .ok (.slice (some q) (n - l) c') W) ∧ (q = ⟨g, l * s, none⟩ ∨ n = l) := by
  obtain ⟨q, h1, h2, _⟩ := sliced_some g c l n s hl hc
  refine ⟨q, c - l, fun W => ?_, h2⟩
  rw [run_slice_l (P := P) (w := W) t (some ⟨g, 0, none⟩) n c ht .i64 (l : Int) (by omega) (by omega), hs]
  simp only [Result.andThen, Int.toNat_natCast]
  rw [h1]
/-- append at a step of a region that draws its order, where what it does is known. -/
theorem step_app_known {ops : Array Oper} {o : Oper} {a : Act} {w : World} {K : Act → World → Prop} {Q : Exit → Act → World → Prop} {E : Prop} (hg : o.guard = none) (s x : Operand) (t t' : TypeId) (hop : o.op = Op.call { callee := Callee.builtin Builtin.append, args := #[s, x], argTypes := #[t, t'] })
    (vx vy : Value) (hs : a.eval s = vx) (hx : a.eval x = vy) (v : Value) (w' : World) (hr : (Builtin.append_ #[t, t'] o.type #[vx, vy]).run Try.prog w = .ok v w') (hK : K (a.put o.dst v) w') :
    if Region.wanted o (yielded ops a.tmps) = true then Oper.wp Try.prog o a w K Q else E := by
  have hw : Region.wanted o (yielded ops a.tmps) = true := by simp [Region.wanted, hg]
  rw [if_pos hw]
  unfold Oper.wp execOp
  simp only [hop, resolve, invoke, builtin, Sem.run_bind, Sem.run_pure, Result.andThen_ok, List.map_toArray, List.map_cons, List.map_nil, hs, hx, hr]
  exact hK
end Go.Proofs.Ytilndmmjdbhmgaa
