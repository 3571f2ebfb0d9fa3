/-
  Places without a code, ahead of others and behind them: on paper; a row of noughts behind a row of one's own.
-/
import Derived.Test.YtokdlmpnokmniaaLawCanonReads
import Derived.Lib.AppendZerosOnto
namespace Go.Proofs.Ytokdlmpnokmniaa
open Go.RowKit
set_option linter.unusedVariables false
set_option linter.unusedSimpArgs false

theorem zero_cells1 (n : Nat) : (Builtin.zeroCells #[Value.int .i64 0] n).toList = List.replicate n (.int .i64 0) := by
  apply List.ext_getElem (by simp [Builtin.zeroCells])
  intro i h1 h2
  have e : i % 1 = 0 := Nat.mod_one i
  simp [Builtin.zeroCells, e]
theorem run_app_zeros (w : World) (ty g m c : Nat) (xs : List Value) (n : Nat) (hown : w.ownsRow 0 3 1 (.slice (some ⟨g, 0, none⟩) m c) m xs) (hn : n ≤ 1000) (hm : m ≤ 1000) :
    ∃ (a' c' : Nat) (w' : World), (Builtin.append_ #[22, 3] ty #[.slice (some ⟨g, 0, none⟩) m c, .int .i64 (n : Int)]).run Try.prog w = .ok (.slice (some ⟨a', 0, none⟩) (m + n) c') w' ∧
      w'.ownsRow 0 3 1 (.slice (some ⟨a', 0, none⟩) (m + n) c') (m + n) (xs ++ List.replicate n (.int .i64 0)) ∧ w.grownBy w' (some g) ∧ (a' = g ∨ w.heap.size ≤ a') := by
  obtain ⟨i, hi, hz, hsz, hby⟩ := info_parts infoI
  have ht : Try.prog.underlying 22 = some (.slice 3) := Try.underlying22
  have htn : Try.prog.underlying 3 = some (.int .i64) := rfl
  have hzc : (Value.int .i64 0).cells = #[.int .i64 0] := rfl
  have hlen : (xs ++ List.replicate n (Value.int .i64 0)).length = (m + n) * 1 := by
    rw [List.length_append, hown.1, List.length_replicate]; omega
  by_cases hn0 : n = 0
  · subst hn0
    refine ⟨g, c, w, ?_, by simpa using hown, ⟨rfl, rfl, rfl, Nat.le_refl _, fun _ _ _ => rfl⟩, .inl rfl⟩
    rcases hown.2 with ⟨h, _⟩ | ⟨g', cap', cur, h, hbg, hg, hnc, hcm, hcs, htake⟩
    · simp at h
    · simp only [Value.slice.injEq, Option.some.injEq, Addr.mk.injEq, and_true, true_and] at h
      obtain ⟨rfl, rfl⟩ := h
      simp [Builtin.append_, run_underlying ht, run_underlying htn, sizeOf, typeInfo, hi, asInt, asIntOf, IntKind.wrap_i64, hnc, storeCells]
  · rcases hown.2 with ⟨h, _⟩ | ⟨g', cap', cur, h, hbg, hg, hnc, hcm, hcs, htake⟩
    · simp at h
    · simp only [Value.slice.injEq, Option.some.injEq, Addr.mk.injEq, and_true, true_and] at h
      obtain ⟨rfl, rfl⟩ := h
      by_cases hroom : m + n ≤ c
      · have hfit : m * i.size + (List.replicate n (Value.int .i64 0)).length ≤ cur.size := by rw [hcs, hsz, List.length_replicate]; omega
        have hst := run_storeCells_at Try.prog g (m * i.size) 3 (List.replicate n (Value.int .i64 0)) 0 cur w hg (by simpa using hfit) (by intro v hv; rw [(List.mem_replicate.1 hv).2]; rfl)
        simp only [Nat.add_zero] at hst
        have hw : IntKind.i64.wrap (n : Int) = n := by rw [IntKind.wrap_i64]; omega
        have hneg : ¬ ((n : Int) < 0) := by omega
        have h48 : ¬ (281474976710656 < (n : Int) * (i.bytes : Int)) := by rw [hby]; omega
        have hns : ¬ (n * i.size = 0) := by rw [hsz]; omega
        obtain ⟨row, hrow⟩ : ∃ row, row = (cur.toList.take (m * 1) ++ List.replicate n (Value.int .i64 0) ++ cur.toList.drop (m * 1 + n)).toArray := ⟨_, rfl⟩
        have hrun : (Builtin.append_ #[22, 3] ty #[.slice (some ⟨g, 0, none⟩) m c, .int .i64 (n : Int)]).run Try.prog w = .ok (.slice (some ⟨g, 0, none⟩) (m + n) c) (w.setRow g row) := by
          rw [hsz] at hst
          simp only [List.length_replicate] at hst
          rw [← hrow] at hst
          simp at hst
          simp [Builtin.append_, run_underlying ht, run_underlying htn, sizeOf, typeInfo, zeroValue, hi, hz, asInt, asIntOf, hw, hn0, hneg, hns, h48, hroom, Addr.add_lit, hzc, zero_cells1, hsz, hst]
        have hrs : row.size = c * 1 := by
          rw [hrow]
          simp only [List.size_toArray, List.length_append, List.length_take, List.length_drop, Array.length_toList, List.length_replicate]
          omega
        have hrt : row.toList.take ((m + n) * 1) = xs ++ List.replicate n (Value.int .i64 0) := by
          rw [hrow, List.toList_toArray, htake, ← hlen]
          exact List.take_left
        exact ⟨g, c, _, hrun, ⟨hlen, .inr ⟨g, c, row, rfl, hbg, setRow_heap w g cur _ _ _ hg, hroom, hcm, hrs, hrt⟩⟩, ⟨rfl, rfl, rfl, by simp, fun k _ hk => setRow_other w g k _ (fun e => hk (by simp [e]))⟩, .inl rfl⟩
      · have hnew : ∀ j u, xs[j]? = some u → w.drew.cell? ((⟨g, 0, none⟩ : Addr).add j) = some u := hown.cells (g := g) rfl
        have hold := run_firstCells_some (P := Try.prog) w.drew 1 m ⟨g, 0, none⟩ m c xs hown.1 hnew
        have hr := Go.Lib.run_append_grow_zeros (P := Try.prog) w 22 3 ty 3 i (.int .i64 0) .i64 .i64 ht htn hi hz (some ⟨g, 0, none⟩) m c xs (by rw [hsz]; exact hold) n (by omega) (by omega) (by omega) (by omega) (by rw [hby]; omega)
          (by rw [hby]; exact growslice_fits (by omega) (by omega))
        have hge := grownCap_ge w (m + n) c 3
        have hcm2 : grownCap w (m + n) c 3 ≤ maxLen := grownCap_le_maxLen w (m + n) c 3 (by unfold maxLen; omega)
        refine ⟨w.heap.size, _, _, hr, ⟨hlen, .inr ⟨w.heap.size, _, _, rfl, Nat.zero_le _, heap_alloc_new w.drew _, hge, hcm2, ?_, ?_⟩⟩, ⟨rfl, rfl, rfl, by simp, fun k hk _ => heap_alloc_old w.drew _ hk⟩, .inr (Nat.le_refl _)⟩
        · have h1 := hown.1
          simp only [Array.size_append, List.size_toArray, size_zeroCells, hzc, h1]
          simp
          omega
        · simp only [Array.toList_append, List.append_assoc, hzc, zero_cells1]
          rw [← List.append_assoc, ← hlen]
          exact List.take_left

/-- Noughts ahead and behind. -/
def padZ (n : Nat) (L : List Int) : List Int := List.replicate n 0 ++ L ++ List.replicate n 0
theorem pad_len (n : Nat) (L : List Int) : (padZ n L).length = n + L.length + n := by simp [padZ]; omega
theorem pad_small (n : Nat) (L : List Int) (h : Small 15 L) : Small 15 (padZ n L) := by
  intro z hz
  unfold padZ at hz
  rw [List.mem_append, List.mem_append] at hz
  rcases hz with (hz | hz) | hz
  · rw [(List.mem_replicate.1 hz).2]; omega
  · exact h z hz
  · rw [(List.mem_replicate.1 hz).2]; omega
theorem pad_count (n : Nat) (L : List Int) (z : Int) (hz : z ≠ 0) : (padZ n L).count z = L.count z := by
  have h : ∀ k : Nat, (List.replicate k (0 : Int)).count z = 0 := fun k => by rw [List.count_replicate]; simp; intro e; exact absurd e.symm hz
  unfold padZ
  rw [List.count_append, List.count_append, h n]; omega
theorem pad_count0 (n : Nat) (L : List Int) : (padZ n L).count 0 = L.count 0 + 2 * n := by
  unfold padZ
  rw [List.count_append, List.count_append, count_rep0]; omega
theorem pad_at (n : Nat) (L : List Int) (i : Nat) (h : i < L.length) : (padZ n L).getD (n + i) 0 = L.getD i 0 := by
  unfold padZ
  simp [List.getD, List.append_assoc, List.getElem?_append_right, List.getElem?_append_left, h]
theorem pad_out (n : Nat) (L : List Int) (j : Nat) (h : j < n ∨ n + L.length ≤ j) : (padZ n L).getD j 0 = 0 := by
  unfold padZ
  rw [List.append_assoc]
  rcases h with h | h
  · simp [List.getD, List.getElem?_append_left, h]
  · by_cases hj : j < n + L.length + n
    · rw [List.getD, List.getElem?_append_right (by simp; omega), List.getElem?_append_right (by simp; omega)]
      simp
      rw [List.getElem?_replicate]
      split <;> rfl
    · rw [List.getD, List.getElem?_eq_none (by simp; omega)]; rfl
theorem pad_take (n : Nat) (L : List Int) (i : Nat) (h : i ≤ L.length) (z : Int) (hz : z ≠ 0) : ((padZ n L).take (n + i)).count z = (L.take i).count z := by
  have h0 : (List.replicate n (0 : Int)).count z = 0 := by rw [List.count_replicate]; simp; intro e; exact absurd e.symm hz
  unfold padZ
  rw [List.append_assoc, List.take_append, List.take_of_length_le (by simp), List.count_append, h0, Nat.zero_add]
  rw [List.length_replicate, show n + i - n = i from by omega, List.take_append, show i - L.length = 0 from by omega]
  simp
theorem pad_kraft (n : Nat) (L : List Int) : kraftL (padZ n L) = kraftL L := by
  unfold padZ
  rw [kraft_append, kraft_append, kraft_zero]; omega
theorem pad_kind (n : Nat) (L : List Int) : kindS (padZ n L) = kindS L := by
  unfold kindS
  rw [pad_kraft, pad_len, pad_count0, pad_count n L 1 (by decide)]
  have e1 : (n + L.length + n = L.count 0 + 2 * n) = (L.length = L.count 0) := by apply propext; omega
  have e2 : (n + L.length + n = L.count 0 + 2 * n + 1 ∧ L.count 1 = 1) = (L.length = L.count 0 + 1 ∧ L.count 1 = 1) := by apply propext; omega
  simp only [e1, e2]
theorem pad_ref (n : Nat) (L : List Int) : refS (padZ n L) = refS L := by unfold refS; rw [pad_kind]
theorem pad_fC (n : Nat) (L : List Int) : ∀ m, m ≤ 16 → fC (cntsL (padZ n L)) m = fC (cntsL L) m
  | 0, _ => rfl
  | 1, _ => rfl
  | m + 2, h => by
    rw [fC, fC, pad_fC n L (m + 1) (by omega), cnts_get _ _ (by omega), cnts_get _ _ (by omega), pad_count n L _ (by omega)]
theorem pad_code (n : Nat) (L : List Int) (hs : Small 15 L) (i : Nat) (h : i < L.length) : codeAt (padZ n L) (n + i) = codeAt L i := by
  have hb := hs.getD i h
  unfold codeAt
  rw [pad_at n L i h]
  by_cases h0 : 0 < L.getD i 0
  · rw [if_pos h0, if_pos h0, pad_fC n L _ (by omega), pad_take n L i (by omega) _ (by omega)]
  · rw [if_neg h0, if_neg h0]
theorem pad_sN (n : Nat) (L : List Int) : ∀ m, m ≤ 16 → sN (cnt0 (padZ n L)) m = sN (cnt0 L) m
  | 0, _ => rfl
  | m + 1, h => by
    rw [sN, sN, pad_sN n L m (by omega), cnt0_get _ _ (by omega), cnt0_get _ _ (by omega)]
    by_cases e : m = 0
    · rw [if_pos e, if_pos e]
    · rw [if_neg e, if_neg e, pad_count n L _ (by omega)]
theorem pad_no (n : Nat) (L : List Int) (hs : Small 15 L) (v m : Nat) (hm : 1 ≤ m) (h : NoAt L v m) : NoAt (padZ n L) v m := by
  intro j hj hz e
  by_cases hj2 : j < n ∨ n + L.length ≤ j
  · rw [pad_out n L j hj2] at hz; omega
  · obtain ⟨i, rfl⟩ : ∃ i, j = n + i := ⟨j - n, by omega⟩
    have hi : i < L.length := by omega
    rw [pad_at n L i hi] at hz
    rw [pad_code n L hs i hi] at e
    exact h i hi hz e
/-- What is read by padded lengths. -/
theorem pad_read (n : Nat) (L : List Int) (hs : Small 15 L) (T v p : Nat) (s f : Int) (q : Nat) (h : ReadS L T v p s f q) : ∃ s', ReadS (padZ n L) T v p s' f q ∧ (f = 0 → s' = s + (n : Int) ∧ 0 ≤ s ∧ s < L.length) := by
  rcases h with ⟨m, i, h1, h2, h3, h4, h5, h6, rfl, rfl, rfl⟩ | ⟨h1, rfl, rfl, rfl⟩
  · refine ⟨((n + i : Nat) : Int), .inl ⟨m, n + i, h1, h2, by rw [pad_len]; omega, by rw [pad_at n L i h3]; exact h4, by rw [pad_code n L hs i h3]; exact h5, fun k hk1 hk2 => pad_no n L hs v k hk1 (h6 k hk1 hk2), rfl, rfl, rfl⟩, fun _ => ⟨by omega, by omega, by omega⟩⟩
  · refine ⟨0, .inr ⟨fun m a b => pad_no n L hs v m a (h1 m a b), rfl, by rw [pad_kind, pad_sN n L 16 (by omega)], rfl⟩, ?_⟩
    intro hf
    exfalso
    split at hf <;> omega
end Go.Proofs.Ytokdlmpnokmniaa
