/-
  Appends of texts at a step of a region that draws its order.
-/
import Derived.Test.YtamoojalfpghhaaDoorBackP

namespace Go.Proofs.YtamoojalfpghhaaDoor
open Go.RowKit Go.Shelf
set_option linter.unusedVariables false
set_option linter.unusedSimpArgs false

section
variable {ops : Array Oper} {o : Oper} {a : Act} {w : World} {K : Act → World → Prop} {Q : Exit → Act → World → Prop} {E : Prop}
/-- Numbers appended to an own row, at a step of a region that draws its order. -/
theorem step_strs (hg : o.guard = none) (s x : Operand) (hop : o.op = Op.call { callee := Callee.builtin Builtin.append, args := #[s, x], argTypes := #[23, 23] })
    {w0 : World} {a1 : Option Addr} {l1 c1 : Nat} {zs : List (List UInt8)} (hS : StrSt w0 w a1 l1 c1 zs) (hs : a.eval s = .slice a1 l1 c1)
    (ad : Addr) (m c : Nat) (news : List (List UInt8)) (hx : a.eval x = .slice (some ad) m c) (hl : news.length = m) (hnews : ∀ j u, (news.map strV)[j]? = some u → w.cell? (ad.add j) = some u) (h63 : l1 + m ≤ 100000)
    (hK : ∀ a2 c2 w', StrSt w0 w' a2 (l1 + m) c2 (zs ++ news) → Kept (OwnB (Value.slice a1 l1 c1)) w w' → K (a.put o.dst (.slice a2 (l1 + m) c2)) w') :
    if Region.wanted o (yielded ops a.tmps) = true then Oper.wp Tryd.prog o a w K Q else E := by
  have hw : Region.wanted o (yielded ops a.tmps) = true := by simp [Region.wanted, hg]
  rw [if_pos hw]
  obtain ⟨i0, hi, hz0, hz1, hz2⟩ := info_parts infoS
  have h1 : ∀ u ∈ news.map strV, u.oneCell' = true := by
    intro u hu; obtain ⟨y, _, rfl⟩ := List.mem_map.1 hu; rfl
  obtain ⟨v', w', hr, h2, h3, h4⟩ := run_app (P := Tryd.prog) w 9 23 o.type i0 (.string ⟨#[]⟩) 1 16 (by kernel_rfl) hi hz0 hz1 hz2 rfl (by decide) _ l1 (zs.map strV) hS.own ad m c (news.map strV) (by rw [List.length_map, hl, Nat.mul_one]) hnews h1 (by unfold maxLen; omega) (by omega)
  obtain ⟨a2, c2, rfl⟩ := str_shape h2
  unfold Oper.wp execOp
  simp only [hop, resolve, invoke, builtin, Sem.run_bind, Sem.run_pure, Result.andThen_ok, List.map_toArray, List.map_cons, List.map_nil, hs, hx, hr]
  refine hK _ _ _ ⟨by rw [List.length_append, hS.len, hl], by rw [List.map_append]; exact h2, hS.kept.grown h3 (fun k hk e => by have := hS.fresh k e; omega), ?_⟩ ((Kept.refl _ w).grown h3 (fun k hk e => e))
  intro k hk
  rcases h4 k hk with h | h
  · exact hS.fresh k h
  · have := hS.kept.size; omega
theorem step_strs_none (hg : o.guard = none) (s x : Operand) (hop : o.op = Op.call { callee := Callee.builtin Builtin.append, args := #[s, x], argTypes := #[23, 23] })
    {w0 : World} {a1 : Option Addr} {l1 c1 : Nat} {zs : List (List UInt8)} (hS : StrSt w0 w a1 l1 c1 zs) (hs : a.eval s = .slice a1 l1 c1) (hx : a.eval x = .slice none 0 0) (hK : K (a.put o.dst (.slice a1 l1 c1)) w) :
    if Region.wanted o (yielded ops a.tmps) = true then Oper.wp Tryd.prog o a w K Q else E := by
  have hw : Region.wanted o (yielded ops a.tmps) = true := by simp [Region.wanted, hg]
  rw [if_pos hw]
  obtain ⟨i0, hi, hz0, hz1, hz2⟩ := info_parts infoS
  have hr := run_append_owned_none (P := Tryd.prog) (w := w) 0 23 o.type 9 i0 1 (by kernel_rfl) hi _ l1 (zs.map strV) hS.own
  unfold Oper.wp execOp
  simp only [hop, resolve, invoke, builtin, Sem.run_bind, Sem.run_pure, Result.andThen_ok, List.map_toArray, List.map_cons, List.map_nil, hs, hx, hr]
  exact hK
end
theorem one_on {S : Nat → Prop} {w w' : World} {g : Nat} {v : Value} (hk : Kept S w w') (hg : ¬ S g) (hc : w.cell? ⟨g, 0, none⟩ = some v) : ∀ j u, [v][j]? = some u → w'.cell? ((⟨g, 0, none⟩ : Addr).add j) = some u := by
  intro j u h
  have hj : j = 0 := by
    have := (List.getElem?_eq_some_iff.1 h).1
    simp at this; omega
  subst hj
  simp at h
  subst h
  rw [addr_add]
  exact (World.cell?_of_block (hk.block _ (World.block_lt_of_cell? w _ hc) hg)).trans hc
theorem emp_strs {w0 w : World} (hk : Kept NoB w0 w) (k : Nat) (he : k = w.heap.size) : StrSt w0 (w.alloc (.cells #[] 9)) (some ⟨k, 0, none⟩) 0 0 [] := by
  subst he; exact ⟨rfl, World.ownsRow_lit w #[] 0 (Nat.zero_le _) (Nat.zero_le _) rfl, hk.alloc _, fun k e => by have := hk.size; simp [Value.ownBlock] at e; omega⟩
theorem StrSt.re {w0 w : World} {a : Option Addr} {l l' c : Nat} {zs zs' : List (List UInt8)} (h : StrSt w0 w a l c zs) (hl : l = l') (hz : zs = zs') : StrSt w0 w a l' c zs' := by subst hl hz; exact h
end Go.Proofs.YtamoojalfpghhaaDoor
