/-
  Records appended at a step of a region that draws its order; Encode's answer in one form; on paper: records of one edge more.
-/
import Derived.Test.YtclcgiochjibjaaGreatDoorSmallX
import Derived.Laws.AppendOwnNone
namespace Go.Proofs.YtclcgiochjibjaaGreatDoor
open Go.RowKit
set_option linter.unusedVariables false
set_option linter.unusedSimpArgs false
set_option maxRecDepth 20000

theorem rdk_cells {w : World} {n : Nat} {ad : Addr} {rs : List KVb} (h : RdK w n (some ad) rs) : ∀ j u, (kcells rs)[j]? = some u → w.cell? (ad.add j) = some u := by
  intro j u hj
  have hlt : j < (kcells rs).length := (List.getElem?_eq_some_iff.1 hj).1
  rw [kcells_len] at hlt
  obtain ⟨b, off, ha, _, c0, c1⟩ := h (j / 2) (by omega)
  cases ha
  obtain ⟨k0, k1⟩ := kcells_at rs (j / 2) (by omega)
  rw [addr_add]
  rcases (show j = j / 2 * 2 ∨ j = j / 2 * 2 + 1 by omega) with e | e
  · rw [← e] at c0 k0
    rw [c0]
    rw [hj] at k0
    exact k0.symm
  · rw [← e] at c1 k1
    rw [c1]
    rw [hj] at k1
    exact k1.symm
theorem kv_none {w : World} {n cap : Nat} {rs : List KVb} (h : RdK w n none rs) : rs = [] := by
  cases rs with
  | nil => rfl
  | cons r q =>
    obtain ⟨_, _, e, _⟩ := h 0 (by simp)
    cases e
section
variable {ops : Array Oper} {o : Oper} {a : Act} {w : World} {K : Act → World → Prop} {Q : Exit → Act → World → Prop} {E : Prop}
theorem step_kvs (hg : o.guard = none) (s x : Operand) (hop : o.op = Op.call { callee := Callee.builtin Builtin.append, args := #[s, x], argTypes := #[22, 22] })
    {w0 : World} {a1 : Option Addr} {l1 c1 : Nat} {zs : List KVb} (hS : KvSt w0 w a1 l1 c1 zs) (hs : a.eval s = .slice a1 l1 c1)
    (ad : Addr) (m c nn : Nat) (news : List KVb) (hx : a.eval x = .slice (some ad) m c) (hl : news.length = m) (hnews : RdK w nn (some ad) news) (h63 : l1 + m ≤ 100000)
    (hK : ∀ a2 c2 w', KvSt w0 w' a2 (l1 + m) c2 (zs ++ news) → Kept (OwnB (Value.slice a1 l1 c1)) w w' → K (a.put o.dst (.slice a2 (l1 + m) c2)) w') :
    if Region.wanted o (yielded ops a.tmps) = true then Oper.wp Tryz.prog o a w K Q else E := by
  have hw : Region.wanted o (yielded ops a.tmps) = true := by simp [Region.wanted, hg]
  rw [if_pos hw]
  obtain ⟨i0, hi, hz0, hz1, hz2⟩ := info_parts infoK
  have h1 : ∀ u ∈ kcells news, u.oneCell' = true := by
    intro u hu
    obtain ⟨p, _, hp⟩ := List.mem_flatMap.1 hu
    simp at hp
    rcases hp with rfl | rfl <;> rfl
  obtain ⟨v', w', hr, h2, h3, h4⟩ := run_app (P := Tryz.prog) w 28 22 o.type i0 (.agg #[.string ⟨#[]⟩, .string ⟨#[]⟩]) 2 32 Tryz.underlying22 hi hz0 hz1 hz2 rfl (by decide) _ l1 (kcells zs) hS.own ad m c (kcells news) (by rw [kcells_len, hl]) (rdk_cells hnews) h1 (by unfold maxLen; omega) (by omega)
  obtain ⟨a2, c2, rfl⟩ := kv_shape h2
  unfold Oper.wp execOp
  simp only [hop, resolve, invoke, builtin, Sem.run_bind, Sem.run_pure, Result.andThen_ok, List.map_toArray, List.map_cons, List.map_nil, hs, hx, hr]
  refine hK _ _ _ ⟨by rw [List.length_append, hS.len, hl], by simpa [kcells] using h2, hS.kept.grown h3 (fun k hk e => by have := hS.fresh k e; omega), ?_⟩ ((Kept.refl _ w).grown h3 (fun k hk e => e))
  intro k hk
  rcases h4 k hk with h | h
  · exact hS.fresh k h
  · have := hS.kept.size; omega
theorem step_kvs_none (hg : o.guard = none) (s x : Operand) (hop : o.op = Op.call { callee := Callee.builtin Builtin.append, args := #[s, x], argTypes := #[22, 22] })
    {w0 : World} {a1 : Option Addr} {l1 c1 : Nat} {zs : List KVb} (hS : KvSt w0 w a1 l1 c1 zs) (hs : a.eval s = .slice a1 l1 c1) (hx : a.eval x = .slice none 0 0) (hK : K (a.put o.dst (.slice a1 l1 c1)) w) :
    if Region.wanted o (yielded ops a.tmps) = true then Oper.wp Tryz.prog o a w K Q else E := by
  have hw : Region.wanted o (yielded ops a.tmps) = true := by simp [Region.wanted, hg]
  rw [if_pos hw]
  obtain ⟨i0, hi, hz0, hz1, hz2⟩ := info_parts infoK
  have hr := run_append_owned_none (P := Tryz.prog) (w := w) 0 22 o.type 28 i0 2 Tryz.underlying22 hi _ l1 (kcells zs) hS.own
  unfold Oper.wp execOp
  simp only [hop, resolve, invoke, builtin, Sem.run_bind, Sem.run_pure, Result.andThen_ok, List.map_toArray, List.map_cons, List.map_nil, hs, hx, hr]
  exact hK
end
theorem rdk_on {S : Nat → Prop} {w w' : World} {n g : Nat} {rs : List KVb} (h : RdK w n (some ⟨g, 0, none⟩) rs) (hk : Kept S w w') (hg : ¬ S g) : RdK w' n (some ⟨g, 0, none⟩) rs := by
  intro i hi
  obtain ⟨b, off, ha, hb, c0, c1⟩ := h i hi
  cases ha
  exact ⟨g, 0, rfl, hb, (World.cell?_of_block (hk.block _ (World.block_lt_of_cell? w _ c0) hg)).trans c0, (World.cell?_of_block (hk.block _ (World.block_lt_of_cell? w _ c1) hg)).trans c1⟩
theorem kv_cap2 {w : World} {a : Option Addr} {l c : Nat} {xs : List Value} (h : w.ownsRow 0 28 2 (.slice a l c) l xs) : l ≤ c ∧ c ≤ maxLen := by
  rcases h.2 with ⟨hv, hz⟩ | ⟨g, cc, cur, hv, _, _, h1, h2, _⟩
  · simp at hv
    obtain ⟨_, rfl, rfl⟩ := hv
    exact ⟨Nat.le_refl _, Nat.zero_le _⟩
  · simp at hv
    obtain ⟨_, rfl⟩ := hv
    exact ⟨h1, h2⟩
theorem str_empty2 (l : List UInt8) : ((strB l).toList = []) = (l = []) ∧ (strB l).toList.isEmpty = l.isEmpty := by rw [strB_list]; exact ⟨rfl, rfl⟩
theorem kv_empty {w0 w : World} (hk : Kept NoB w0 w) (k : Nat) (he : k = w.heap.size) : KvSt w0 (w.alloc (.cells #[] 28)) (some ⟨k, 0, none⟩) 0 0 [] := by
  subst he; exact ⟨rfl, World.ownsRow_lit w #[] 0 (Nat.zero_le _) (Nat.zero_le _) rfl, hk.alloc _, fun k e => by have := hk.size; simp [Value.ownBlock] at e; omega⟩
theorem KvSt.re {w0 w : World} {a : Option Addr} {l l' c : Nat} {rs rs' : List KVb} (h : KvSt w0 w a l c rs) (hl : l = l') (hz : rs = rs') : KvSt w0 w a l' c rs' := by subst hl hz; exact h
theorem encU {w w' : World} {rs : List KVb} {e : Ending} (h : EncR w rs e w') : ∃ a c, e = .returned (.tuple #[.slice a ((encS rs).getD []).length c, .bool (encS rs).isSome]) ∧ BySt w w' a ((encS rs).getD []).length c ((encS rs).getD []) := by
  rcases h with ⟨hn, rfl, hk⟩ | ⟨a, c, hs, rfl, hb⟩
  · rw [hn]
    exact ⟨none, 0, rfl, ⟨rfl, World.ownsRow_nil _ _ _ _, hk, fun k hk => by simp [Value.ownBlock] at hk⟩⟩
  · rw [hs]
    exact ⟨a, c, rfl, hb⟩
/-- A record whose key is edge. -/
def edgeR (N : Nat) : KVb := ([101, 100, 103, 101], List.replicate N 118)
theorem edge_ok (N : Nat) : okR (edgeR N) = true := by
  have : (List.replicate N (118 : UInt8)).any (· == 0) = false := by
    rw [List.any_eq_false]; intro x hx; rw [List.eq_of_mem_replicate hx]; decide
  simp only [okR, edgeR, this]
  decide
theorem rec_mid (r : KVb) (h : r.1.length ≤ 300 ∧ r.2.length ≤ 1100) : (recB r).length ≤ 1409 := by
  have h1 := restB_len r
  have h2 := recB_len r (by omega)
  have h3 := recD_le (restB r).length
  rw [h2, recL]; omega
theorem recs_mid : ∀ F : List KVb, (∀ p ∈ F, p.1.length ≤ 300 ∧ p.2.length ≤ 1100) → (recsB F).length ≤ F.length * 1409
  | [], _ => by simp [recsB]
  | r :: F, h => by
    have ih := recs_mid F (fun p hp => h p (List.mem_cons_of_mem _ hp))
    have := rec_mid r (h r List.mem_cons_self)
    rw [recsB_cons, List.length_append, List.length_cons]; omega
theorem enc_mid (F : List KVb) (hl : F.length ≤ 20) (h : ∀ p ∈ F, p.1.length ≤ 300 ∧ p.2.length ≤ 1100) : encS F = if F.all okR then some (recsB F) else none := by
  have := recs_mid F h
  unfold encS
  by_cases ha : F.all okR = true
  · rw [if_pos ⟨ha, by omega⟩, if_pos ha]
  · rw [if_neg (fun x => ha x.1), if_neg ha]
theorem recsB_ne (F : List KVb) (r : KVb) : recsB (F ++ [r]) ≠ [] := by
  rw [recsB_snoc]
  intro e
  have := congrArg List.length e
  have h2 := recB_lo r
  rw [List.length_append, List.length_nil] at this
  omega
theorem rdk_last {w : World} {n : Nat} {ao : Option Addr} {rs : List KVb} {r : KVb} (h : RdK w n ao (rs ++ [r])) (k : Nat) (hk : k = rs.length) : ∃ b off, ao = some ⟨b, off, none⟩ ∧ RdK w n (some ⟨b, off + k * 2, none⟩) [r] := by
  subst hk
  obtain ⟨b, off, ha, hb, c0, c1⟩ := h rs.length (by simp)
  have hg : (rs ++ [r]).getD rs.length ([], []) = r := by simp [List.getD]
  rw [hg] at c0 c1
  refine ⟨b, off, ha, ?_⟩
  intro i hi
  have hi0 : i = 0 := by simp at hi; exact hi
  subst hi0
  exact ⟨b, off + rs.length * 2, rfl, hb, by simpa using c0, by simpa [Nat.add_assoc] using c1⟩
end Go.Proofs.YtclcgiochjibjaaGreatDoor
