/-
  How the document reads a map, on paper.
-/
import Derived.Test.YtbambcondcikbaaDoorSpDec
import Derived.Test.YtbambcondcikbaaDoorDense
namespace Go.Proofs.YtbambcondcikbaaDoor
open Go.Lib
set_option linter.unusedVariables false

/-- A line's number, and how many bytes it has. -/
def lineR (b : List UInt8) : Option (Int × Nat) :=
  if (cutP 10 (b.take 20)).2.2 = false then none
  else if (numL (cutP 10 (b.take 20)).1).2 = false then none
  else if (numL (cutP 10 (b.take 20)).1).1 < 0 then none
  else some ((numL (cutP 10 (b.take 20)).1).1, (cutP 10 (b.take 20)).1.length + 1)
theorem cutP_none (c : UInt8) : ∀ l : List UInt8, (∀ x ∈ l, x ≠ c) → cutP c l = (l, [], false)
  | [], _ => rfl
  | b :: l, h => by
    rw [cutP, if_neg (h b List.mem_cons_self), cutP_none c l (fun x hx => h x (List.mem_cons_of_mem _ hx))]
/-- No end of a line among the first ones. -/
theorem lineR_no (b : List UInt8) (h : ∀ j, j < b.length → j < 20 → b.getD j 0 ≠ 10) : lineR b = none := by
  have hc : cutP 10 (b.take 20) = (b.take 20, [], false) := cutP_none 10 _ (fun x hx => by
    obtain ⟨j, hj, rfl⟩ := List.getElem_of_mem hx
    rw [List.length_take] at hj
    have := h j (by omega) (by omega)
    rw [List.getElem_take]
    simpa [List.getD, show j < b.length by omega] using this)
  unfold lineR
  rw [hc]
  exact if_pos rfl
/-- The first end of a line. -/
theorem lineR_at (b : List UInt8) (i : Nat) (hi : i < b.length) (h20 : i < 20) (h10 : b.getD i 0 = 10) (h : ∀ j, j < i → b.getD j 0 ≠ 10) :
    lineR b = if (numL (b.take i)).2 && decide (0 ≤ (numL (b.take i)).1) then some ((numL (b.take i)).1, i + 1) else none := by
  have e : b.take 20 = b.take i ++ 10 :: (b.take 20).drop (i + 1) := by
    have h1 : (b.take 20).take i = b.take i := by rw [List.take_take]; congr 1; omega
    have h2 : i < (b.take 20).length := by rw [List.length_take]; omega
    have h3 : (b.take 20)[i] = 10 := by rw [List.getElem_take]; simpa [List.getD, hi] using h10
    conv => lhs; rw [← List.take_append_drop i (b.take 20), h1, List.drop_eq_getElem_cons h2, h3]
  obtain ⟨D, hD⟩ : ∃ D, D = (b.take 20).drop (i + 1) := ⟨_, rfl⟩
  rw [← hD] at e
  have hc : cutP 10 (b.take 20) = (b.take i, D, true) := by
    have hc2 : cutP 10 (b.take i ++ 10 :: D) = (b.take i, D, true) := cutP_at 10 _ _ (fun x hx => by
      obtain ⟨j, hj, rfl⟩ := List.getElem_of_mem hx
      rw [List.length_take] at hj
      have := h j (by omega)
      rw [List.getElem_take]
      simpa [List.getD, show j < b.length by omega] using this)
    rw [← e] at hc2
    exact hc2
  unfold lineR
  rw [hc]
  simp only [if_neg (show ¬ true = false by decide), List.length_take, Nat.min_eq_left (Nat.le_of_lt hi)]
  cases (numL (b.take i)).2 with
  | false => rfl
  | true =>
    rw [if_neg (by decide)]
    by_cases h0 : 0 ≤ (numL (b.take i)).1
    · rw [if_neg (by omega), decide_eq_true h0]; rfl
    · rw [if_pos (by omega), decide_eq_false h0]; rfl
theorem lineR_bd {b : List UInt8} {x : Int} {k : Nat} (h : lineR b = some (x, k)) : 0 ≤ x ∧ x ≤ 9223372036854775807 ∧ 1 ≤ k ∧ k ≤ 20 ∧ k ≤ b.length := by
  unfold lineR at h
  split at h
  · cases h
  · split at h
    · cases h
    · split at h
      · cases h
      · rename_i h1 h2 h3
        simp only [Option.some.injEq, Prod.mk.injEq] at h
        obtain ⟨rfl, rfl⟩ := h
        have hb := numL_64 (cutP 10 (b.take 20)).1
        have hc := cutP_index 10 (b.take 20)
        rcases hc with ⟨_, h4⟩ | ⟨k, _, h5, h6⟩
        · rw [h4] at h1; exact absurd rfl h1
        · rw [h6] at h2 h3 hb ⊢
          simp only at h2 h3 hb ⊢
          simp only [List.length_take] at h5 ⊢
          obtain ⟨b1, b2⟩ := hb
          refine ⟨by omega, b2, by omega, by omega, by omega⟩
theorem lineR_yes (n : Int) (t : List UInt8) (h0 : 0 ≤ n) (h1 : n ≤ 1099511627776) : lineR (lineB n ++ t) = some (n, (lineB n).length) := by
  have hl := itoa_13 n h0 h1
  have e : (lineB n ++ t).take 20 = itoa n ++ 10 :: t.take (19 - (itoa n).length) := by
    rw [lineB, List.append_assoc, List.take_append, List.take_of_length_le (by omega)]
    congr 1
    rw [show 20 - (itoa n).length = (19 - (itoa n).length) + 1 by omega]
    rfl
  have hc : cutP 10 ((lineB n ++ t).take 20) = (itoa n, t.take (19 - (itoa n).length), true) := by
    rw [e]; exact cutP_at 10 _ _ (itoa_no10 n)
  unfold lineR
  rw [hc]
  simp only [numL_yes n (by omega) (by omega)]
  rw [if_neg (by decide), if_neg (by decide), if_neg (by omega), lineB, List.length_append]
  rfl

/-- A row that the bytes are told of. -/
def GoodM (size : Int) (L : List UInt8) (l : List Pc) : Prop := okS size l = true ∧ mapB size l = L
theorem good_dec {size : Int} {L : List UInt8} {l : List Pc} (h : GoodM size L l) : decS size L = some l := by rw [← h.2]; exact dec_yes size l h.1
theorem dec_none {size : Int} {L : List UInt8} (h : ∀ l, ¬ GoodM size L l) : decS size L = none := by
  unfold decS
  cases piecesS L with
  | none => rfl
  | some l =>
    simp only
    rw [if_neg]
    intro e
    rw [Bool.and_eq_true, beq_iff_eq] at e
    exact h l e
def tailM (size : Int) (l : List Pc) : List UInt8 := List.replicate (padN (headB size l).length) 0 ++ dataB l
/-- What is behind so many spans. -/
def restM (size : Int) (l : List Pc) (i : Nat) : List UInt8 := ((spansS size l).drop i).flatMap spanB ++ tailM size l
theorem spansM_len (size : Int) (l : List Pc) : l.length ≤ (spansS size l).length ∧ (spansS size l).length ≤ l.length + 1 := by
  rw [spansS, List.length_append, List.length_map]
  split <;> simp
theorem good_spans {size : Int} {L : List UInt8} {l : List Pc} (h : GoodM size L l) : (spansS size l).length ≤ 1001 ∧ ∀ s ∈ spansS size l, 0 ≤ s.1 ∧ s.1 ≤ 1099511627776 ∧ 0 ≤ s.2 ∧ s.2 ≤ 1099511627776 := by
  obtain ⟨h, _⟩ := h
  simp only [okS, Bool.and_eq_true, decide_eq_true_eq] at h
  obtain ⟨⟨⟨h0, h1⟩, h2⟩, h3⟩ := h
  have hp := okG_each size l 0 (by omega) h3
  have hsl := spansM_len size l
  refine ⟨by omega, fun s hs => ?_⟩
  rw [spansS] at hs
  rcases List.mem_append.1 hs with hs | hs
  · obtain ⟨p, hpl, rfl⟩ := List.mem_map.1 hs
    have := hp p hpl
    simp only
    omega
  · split at hs
    · cases hs
    · simp at hs; subst hs; simp only; omega
theorem good_line {size : Int} {L : List UInt8} {l : List Pc} (h : GoodM size L l) : lineR L = some (((spansS size l).length : Int), (lineB ((spansS size l).length : Int)).length) ∧ L.drop (lineB ((spansS size l).length : Int)).length = restM size l 0 := by
  obtain ⟨h1, _⟩ := good_spans h
  have e : L = lineB ((spansS size l).length : Int) ++ restM size l 0 := by
    rw [← h.2, mapB, headB, restM, tailM, headB, List.drop_zero]; simp
  constructor
  · conv => lhs; rw [e]
    exact lineR_yes _ _ (by omega) (by omega)
  · conv => lhs; rw [e]
    exact List.drop_left
theorem good_span {size : Int} {L : List UInt8} {l : List Pc} (h : GoodM size L l) (i a : Nat) (hi : i < (spansS size l).length) (hr : L.drop a = restM size l i) :
    ∃ k1 k2 : Nat, lineR (L.drop a) = some (((spansS size l)[i]).1, k1) ∧ lineR (L.drop (a + k1)) = some (((spansS size l)[i]).2, k2) ∧ L.drop (a + k1 + k2) = restM size l (i + 1) := by
  obtain ⟨_, h2⟩ := good_spans h
  obtain ⟨h3, h4, h5, h6⟩ := h2 _ (List.getElem_mem hi)
  have e : restM size l i = lineB ((spansS size l)[i]).1 ++ (lineB ((spansS size l)[i]).2 ++ restM size l (i + 1)) := by
    rw [restM, List.drop_eq_getElem_cons hi, List.flatMap_cons, spanB, restM]; simp
  have d1 : L.drop (a + (lineB ((spansS size l)[i]).1).length) = lineB ((spansS size l)[i]).2 ++ restM size l (i + 1) := by
    rw [← List.drop_drop, hr, e, List.drop_left]
  refine ⟨(lineB ((spansS size l)[i]).1).length, (lineB ((spansS size l)[i]).2).length, ?_, ?_, ?_⟩
  · rw [hr, e]; exact lineR_yes _ _ h3 h4
  · rw [d1]; exact lineR_yes _ _ h5 h6
  · rw [← List.drop_drop, d1, List.drop_left]
/-- Behind all spans. -/
theorem good_end {size : Int} {L : List UInt8} {l : List Pc} (h : GoodM size L l) (a : Nat) (ha : a ≤ L.length) (hr : L.drop a = restM size l (spansS size l).length) : a + padN a ≤ L.length ∧ L.drop (a + padN a) = dataB l := by
  have e : restM size l (spansS size l).length = tailM size l := by rw [restM, List.drop_of_length_le (Nat.le_refl _)]; rfl
  have hl : L.length = (headB size l).length + (tailM size l).length := by rw [← h.2, mapB, tailM]; simp
  have hl2 := congrArg List.length (hr.trans e)
  rw [List.length_drop] at hl2
  have ha2 : a = (headB size l).length := by omega
  have ht : (tailM size l).length = padN (headB size l).length + (dataB l).length := by simp [tailM]
  refine ⟨by rw [ha2]; omega, ?_⟩
  rw [← List.drop_drop, hr, e, tailM, ha2]
  exact List.drop_left' (by simp)
/-- A span is a piece's, or the last one, of no bytes. -/
theorem good_nth {size : Int} {L : List UInt8} {l : List Pc} (h : GoodM size L l) (i : Nat) (hi : i < (spansS size l).length) :
    (i < l.length ∧ ((spansS size l)[i]).1 = (l.getD i (0, [])).1 ∧ ((spansS size l)[i]).2 = ((l.getD i (0, [])).2.length : Int) ∧ (l.getD i (0, [])).2 ≠ []) ∨ (i = l.length ∧ (spansS size l).length = i + 1 ∧ ((spansS size l)[i]).2 = 0) := by
  have hsl := spansM_len size l
  have hok := h.1
  simp only [okS, Bool.and_eq_true, decide_eq_true_eq] at hok
  have hp := okG_each size l 0 (by omega) hok.2
  by_cases hil : i < l.length
  · have e : (spansS size l)[i] = ((l.getD i (0, [])).1, ((l.getD i (0, [])).2.length : Int)) := by
      have h1 : (spansS size l)[i]? = some ((l.getD i (0, [])).1, ((l.getD i (0, [])).2.length : Int)) := by
        rw [spansS, List.getElem?_append_left (by simpa using hil), List.getElem?_map]
        simp [List.getD, hil]
      rw [List.getElem?_eq_getElem hi] at h1
      exact Option.some.inj h1
    refine .inl ⟨hil, by rw [e], by rw [e], ?_⟩
    have e2 : l.getD i (0, []) = l[i] := by simp [List.getD, hil]
    rw [e2]
    exact (hp _ (List.getElem_mem hil)).1
  · have hie : i = l.length := by omega
    refine .inr ⟨hie, by omega, ?_⟩
    have hne : ¬ endsS size l = true := fun hh => by
      have : (spansS size l).length = l.length := by rw [spansS, if_pos hh]; simp
      omega
    have h1 : (spansS size l)[i]? = some (size, 0) := by
      rw [spansS, if_neg hne, List.getElem?_append_right (by simp; omega)]
      simp [hie]
    rw [List.getElem?_eq_getElem hi] at h1
    rw [Option.some.inj h1]
theorem data_drop (l : List Pc) (i : Nat) (h : i < l.length) : dataB (l.drop i) = (l.getD i (0, [])).2 ++ dataB (l.drop (i + 1)) := by
  rw [List.drop_eq_getElem_cons h]
  have e : l.getD i (0, []) = l[i] := by simp [List.getD, h]
  rw [e, dataB, dataB, List.flatMap_cons]
/-- One piece more, from bytes. -/
theorem good_piece {size : Int} {L : List UInt8} {l : List Pc} (h : GoodM size L l) (i a : Nat) (hi : i < l.length) (hr : L.drop a = dataB (l.drop i)) :
    (l.getD i (0, [])).2.length ≤ L.length - a ∧ (L.drop a).take (l.getD i (0, [])).2.length = (l.getD i (0, [])).2 ∧ L.drop (a + (l.getD i (0, [])).2.length) = dataB (l.drop (i + 1)) := by
  have e := data_drop l i hi
  rw [e] at hr
  have hl := congrArg List.length hr
  rw [List.length_drop, List.length_append] at hl
  refine ⟨by omega, by rw [hr, List.take_left], by rw [← List.drop_drop, hr, List.drop_left]⟩
theorem take_getD (l : List Pc) (i : Nat) (h : i < l.length) : l.take (i + 1) = l.take i ++ [l.getD i (0, [])] := by
  rw [List.take_succ_eq_append_getElem h]
  simp [List.getD, h]

/-- Dense, as the document puts it. -/
def dnS (s : List UInt8) (p : Pc) : List UInt8 := s ++ List.replicate (p.1 - (s.length : Int)).toNat 0 ++ p.2
def dnL (l : List Pc) : List UInt8 := l.foldl dnS []
theorem dnL_take (l : List Pc) (i : Nat) (h : i < l.length) : dnL (l.take (i + 1)) = dnS (dnL (l.take i)) (l.getD i (0, [])) := by
  rw [dnL, List.take_succ_eq_append_getElem h, List.foldl_append]
  simp [List.getD, h, dnL]
theorem dn_inv (size : Int) : ∀ (l : List Pc) (f : Int) (s : List UInt8) (N : Nat), size = (N : Int) → okG size f l = true → (s.length : Int) ≤ f → s.length ≤ N →
    (l.foldl dnS s).length ≤ N ∧ l.foldl (fun b p => splice b p.1.toNat p.2) (s ++ List.replicate (N - s.length) 0) = l.foldl dnS s ++ List.replicate (N - (l.foldl dnS s).length) 0
  | [], f, s, N, hN, _, hs, hsN => ⟨hsN, rfl⟩
  | p :: l, f, s, N, hN, h, hs, hsN => by
    simp only [okG, Bool.and_eq_true, decide_eq_true_eq] at h
    obtain ⟨⟨⟨h1, h2⟩, h3⟩, h4⟩ := h
    obtain ⟨a, ha⟩ : ∃ a : Nat, p.1 = (a : Int) := ⟨p.1.toNat, by omega⟩
    have hl : (dnS s p).length = a + p.2.length := by
      rw [dnS, List.length_append, List.length_append, List.length_replicate, ha]; omega
    have e : splice (s ++ List.replicate (N - s.length) 0) p.1.toNat p.2 = dnS s p ++ List.replicate (N - (dnS s p).length) 0 := by
      rw [hl, splice, dnS, ha, Int.toNat_natCast, show ((a : Int) - (s.length : Int)).toNat = a - s.length by omega]
      rw [List.take_append, List.take_of_length_le (by omega : s.length ≤ a), List.take_replicate, Nat.min_eq_left (by omega)]
      rw [List.drop_append, List.drop_of_length_le (by omega : s.length ≤ a + p.2.length), List.drop_replicate, List.nil_append]
      rw [show N - s.length - (a + p.2.length - s.length) = N - (a + p.2.length) by omega, List.append_assoc (s ++ List.replicate (a - s.length) 0)]
    rw [List.foldl_cons, List.foldl_cons, e]
    exact dn_inv size l _ (dnS s p) N hN h4 (by rw [hl]; omega) (by rw [hl]; omega)
theorem dn_den (l : List Pc) (N : Nat) (h : okS (N : Int) l = true) : (dnL l).length ≤ N ∧ denS N l = dnL l ++ List.replicate (N - (dnL l).length) 0 := by
  simp only [okS, Bool.and_eq_true, decide_eq_true_eq] at h
  have := dn_inv (N : Int) l 0 [] N rfl h.2 (by simp) (by simp)
  simpa [denS, dnL] using this
theorem dnL_len (size : Int) (l : List Pc) (N : Nat) (hN : size = (N : Int)) (h : okS size l = true) (i : Nat) : (dnL (l.take i)).length ≤ N ∧ (i < l.length → ((dnL (l.take i)).length : Int) ≤ (l.getD i (0, [])).1 ∧ (l.getD i (0, [])).1 + ((l.getD i (0, [])).2.length : Int) ≤ N) := by
  simp only [okS, Bool.and_eq_true, decide_eq_true_eq] at h
  have key : ∀ (l : List Pc) (f : Int) (s : List UInt8) (i : Nat), okG size f l = true → (s.length : Int) ≤ f → s.length ≤ N → ((l.take i).foldl dnS s).length ≤ N ∧ (i < l.length → (((l.take i).foldl dnS s).length : Int) ≤ (l.getD i (0, [])).1 ∧ (l.getD i (0, [])).1 + ((l.getD i (0, [])).2.length : Int) ≤ N) := by
    intro l
    induction l with
    | nil => intro f s i _ _ hs; exact ⟨by simpa using hs, (fun h => by simp at h)⟩
    | cons p l ih =>
      intro f s i h hf hs
      simp only [okG, Bool.and_eq_true, decide_eq_true_eq] at h
      obtain ⟨⟨⟨h1, h2⟩, h3⟩, h4⟩ := h
      cases i with
      | zero => exact ⟨by simpa using hs, fun _ => ⟨by simp; omega, by simp; omega⟩⟩
      | succ i =>
        have hl : ((dnS s p).length : Int) = p.1 + (p.2.length : Int) := by
          rw [dnS, List.length_append, List.length_append, List.length_replicate]; omega
        have := ih _ (dnS s p) i h4 (by omega) (by omega)
        simpa using this
  exact key l 0 [] i h.2 (by simp) (by simp)
end Go.Proofs.YtbambcondcikbaaDoor
