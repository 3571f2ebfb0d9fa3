/-
  head: readNumbers.
-/
import Derived.Test.YtnhfbpikfkncpaaHeadB
namespace Go.Proofs.Ytnhfbpikfkncpaa
open Go.RowKit
set_option linter.unusedVariables false
set_option linter.unusedSimpArgs false

def atT : Nat → Nat
  | 0 => 100
  | 1 => 108
  | 2 => 116
  | 3 => 124
  | 4 => 136
  | 5 => 329
  | _ => 337
def wdT : Nat → Nat
  | 3 => 12
  | 4 => 12
  | _ => 8
def numC (cs : Array Value) (bs : List Int) : Nat → Array Value
  | 0 => cs
  | i + 1 => (numC cs bs i).setIfInBounds (5 + i) (.int .i64 (readS (seg bs (atT i) (wdT i))).1)
def okTo (bs : List Int) : Nat → Bool
  | 0 => true
  | i + 1 => okTo bs i && (readS (seg bs (atT i) (wdT i))).2
theorem numsOk_to (bs : List Int) : numsOk bs = okTo bs 7 := by
  simp [numsOk, okTo, atT, wdT]
theorem okTo_no (bs : List Int) (i : Nat) (h : (readS (seg bs (atT i) (wdT i))).2 = false) : ∀ k, i < k → okTo bs k = false
  | 0, hk => by omega
  | k + 1, hk => by
    rw [okTo]
    by_cases e : i = k
    · subst e; rw [h, Bool.and_false]
    · rw [okTo_no bs i h k (by omega), Bool.false_and]
theorem numC_size (cs : Array Value) (bs : List Int) : ∀ i, (numC cs bs i).size = cs.size
  | 0 => rfl
  | i + 1 => by rw [numC, Array.size_setIfInBounds, numC_size cs bs i]
theorem at_bd (i : Nat) : atT i + wdT i ≤ 512 ∧ wdT i ≤ 12 ∧ 8 ≤ wdT i := by
  unfold atT wdT
  split <;> split <;> omega
set_option maxHeartbeats 400000 in
theorem numC7 (a0 a1 a2 a3 a4 a5 a6 a7 a8 a9 a10 a11 : Value) (bs : List Int) : numC #[a0, a1, a2, a3, a4, a5, a6, a7, a8, a9, a10, a11] bs 7 =
    #[a0, a1, a2, a3, a4, .int .i64 (readS (seg bs 100 8)).1, .int .i64 (readS (seg bs 108 8)).1, .int .i64 (readS (seg bs 116 8)).1, .int .i64 (readS (seg bs 124 12)).1, .int .i64 (readS (seg bs 136 12)).1, .int .i64 (readS (seg bs 329 8)).1, .int .i64 (readS (seg bs 337 8)).1] := by
  simp only [numC, atT, wdT]
  simp only [List.setIfInBounds_toArray, List.set_cons_zero, List.set_cons_succ, Nat.add_zero, Nat.reduceAdd]
/-- What readNumbers gives. -/
def NumsR (w : World) (H : Nat) (cs : Array Value) (bs : List Int) (e : Ending) (w' : World) : Prop :=
  e = .returned (.bool (numsOk bs)) ∧ Kept (OneB H) w w' ∧ (numsOk bs = true → w'.heap[H]? = some (.cells (numC cs bs 7) 23 (0, 0)))
theorem numC_get (cs : Array Value) (bs : List Int) (j : Nat) : ∀ i, 5 + i ≤ j → (numC cs bs i)[j]? = cs[j]?
  | 0, _ => rfl
  | i + 1, h => by
    rw [numC, Array.getElem?_setIfInBounds, if_neg (by omega)]
    exact numC_get cs bs j i (by omega)
theorem Kept.cellOne {H : Nat} {w w' : World} (hk : Kept (OneB H) w w') {a : Addr} {v : Value} (hne : a.block ≠ H) (h : w.cell? a = some v) : w'.cell? a = some v :=
  (World.cell?_of_block (hk.block _ (World.block_lt_of_cell? w a h) (fun e => hne e))).trans h
theorem tbl_cells {w : World} {T H : Nat} {t : TypeId} {fr : Nat × Nat}
    (h : w.heap[T]? = some (.cells #[.pointer (some ⟨H, 5, none⟩), .int .i64 100, .int .i64 8, .pointer (some ⟨H, 6, none⟩), .int .i64 108, .int .i64 8, .pointer (some ⟨H, 7, none⟩), .int .i64 116, .int .i64 8, .pointer (some ⟨H, 8, none⟩), .int .i64 124, .int .i64 12, .pointer (some ⟨H, 9, none⟩), .int .i64 136, .int .i64 12, .pointer (some ⟨H, 10, none⟩), .int .i64 329, .int .i64 8, .pointer (some ⟨H, 11, none⟩), .int .i64 337, .int .i64 8] t fr)) :
    ∀ i, i < 7 → w.cell? ⟨T, i * 3, none⟩ = some (.pointer (some ⟨H, 5 + i, none⟩)) ∧ w.cell? ⟨T, i * 3 + 1, none⟩ = some (.int .i64 (atT i : Int)) ∧ w.cell? ⟨T, i * 3 + 2, none⟩ = some (.int .i64 (wdT i : Int)) := by
  intro i hi
  have hc := fun j => cell_of_row w T j _ t fr h
  rcases (by omega : i = 0 ∨ i = 1 ∨ i = 2 ∨ i = 3 ∨ i = 4 ∨ i = 5 ∨ i = 6) with rfl | rfl | rfl | rfl | rfl | rfl | rfl <;> exact ⟨hc _, hc _, hc _⟩
set_option maxRecDepth 100000 in
set_option maxHeartbeats 8000000 in
theorem nums_any (g o cap H : Nat) (bs : List Int) (cs : Array Value) (w : World) (hn : bs.length = 512) (hb : AllB bs) (hr : Reads w (some ⟨g, o, none⟩) bs) (hc : 512 ≤ cap) (hm : cap ≤ 9223372036854775807)
    (hH : w.heap[H]? = some (.cells cs 23 (0, 0))) (hs : cs.size = 12) (hi : ∀ i, 5 ≤ i → i < 12 → ∃ z, cs[i]? = some (.int .i64 z)) (hgH : g ≠ H) :
    Calls Try.prog 27 #[.slice (some ⟨g, o, none⟩) 512 cap, .pointer (some ⟨H, 0, none⟩)] w (NumsR w H cs bs) := by
  have HH := Lib.hid hH; have HR := Lib.hid hr; have HB := Lib.hid hb; have HN := Lib.hid hn; have HI := Lib.hid hi; have HS := Lib.hid hs
  clear hH hr hb hn hi hs
  go_enter Try.func27, Try.ntmps27
  go_wp2_with fail
  go_region
  obtain ⟨T, hT⟩ : ∃ T, T = w.heap.size := ⟨_, rfl⟩
  rw [← hT]
  obtain ⟨wT, hwT⟩ : ∃ wT, wT = (w.alloc (.cells #[.pointer (some ⟨H, 5, none⟩), .int .i64 100, .int .i64 8, .pointer (some ⟨H, 6, none⟩), .int .i64 108, .int .i64 8, .pointer (some ⟨H, 7, none⟩), .int .i64 116, .int .i64 8, .pointer (some ⟨H, 8, none⟩), .int .i64 124, .int .i64 12, .pointer (some ⟨H, 9, none⟩), .int .i64 136, .int .i64 12, .pointer (some ⟨H, 10, none⟩), .int .i64 329, .int .i64 8, .pointer (some ⟨H, 11, none⟩), .int .i64 337, .int .i64 8] 83)).drew := ⟨_, rfl⟩
  rw [← hwT]
  have hTH : T ≠ H := by have := obj_lt HH.out; omega
  have hcT : ∀ i, i < 7 → wT.cell? ⟨T, i * 3, none⟩ = some (.pointer (some ⟨H, 5 + i, none⟩)) ∧ wT.cell? ⟨T, i * 3 + 1, none⟩ = some (.int .i64 (atT i : Int)) ∧ wT.cell? ⟨T, i * 3 + 2, none⟩ = some (.int .i64 (wdT i : Int)) := by
    refine tbl_cells (t := 83) (fr := (0, 0)) ?_
    rw [hwT, hT]
    exact heap_alloc_new _ _
  have hkT : Kept NoB w wT := by rw [hwT]; exact ((Kept.refl NoB w).alloc _).drew
  have HCT := Lib.hid hcT; have HKT := Lib.hid hkT; have HTH := Lib.hid hTH
  have HG := Lib.hid hgH
  clear hcT hkT hwT hT hTH hgH
  go_wp2
  go_loopw [39] (fun v39 wr => ∃ i : Nat, v39 = .int .i64 (i : Int) ∧ i ≤ 7 ∧ Hid (okTo bs i = true) ∧ Hid (wr.heap[H]? = some (.cells (numC cs bs i) 23 (0, 0))) ∧ Hid (Kept (OneB H) wT wr)) (fun v39 _ => 7 - (intOf v39).toNat)
  case atStart => exact ⟨0, rfl, by omega, Lib.hid rfl, Lib.hid (HKT.out.obj HH.out (fun h => h)), Kept.refl _ _⟩
  case round =>
    obtain ⟨i, rfl, hi7, HOk, HHr, HKr⟩ := hrel
    by_cases hlt : (i : Int) < 7
    · obtain ⟨c0, c1, c2⟩ := HCT.out i (by omega)
      have d0 := HKr.out.cellOne HTH.out c0
      have d1 := HKr.out.cellOne HTH.out c1
      have d2 := HKr.out.cellOne HTH.out c2
      have hbd := at_bd i
      have HStep : Hid (okTo bs (i + 1) = (okTo bs i && (readS (seg bs (atT i) (wdT i))).2)) := Lib.hid rfl
      have HNs : Hid (numC cs bs (i + 1) = (numC cs bs i).setIfInBounds (5 + i) (.int .i64 (readS (seg bs (atT i) (wdT i))).1)) := Lib.hid rfl
      have HNo := Lib.hid (fun h => okTo_no bs i h 7 (by omega))
      obtain ⟨A, hA⟩ : ∃ A, A = atT i := ⟨_, rfl⟩
      obtain ⟨D, hD⟩ : ∃ D, D = wdT i := ⟨_, rfl⟩
      rw [← hA] at d1 hbd HStep HNs HNo
      rw [← hD] at d2 hbd HStep HNs HNo
      obtain ⟨z, hz⟩ := HI.out (5 + i) (by omega) (by omega)
      have hcell : wr.cell? ⟨H, 5 + i, none⟩ = some (.int .i64 z) := by
        rw [obj_cell HHr.out, numC_get cs bs (5 + i) i (by omega)]; exact hz
      have hfz : wr.frozen? ⟨H, 5 + i, none⟩ = false := obj_free HHr.out _
      have hRs : ∀ W, Kept (OneB H) wT W → Calls Try.prog 25 #[.slice (some ⟨g, o + A, none⟩) D (cap - A)] W fun e w' => e = .returned (.tuple #[.int .i64 (readS (seg bs A D)).1, .bool (readS (seg bs A D)).2]) ∧ W = w' := fun W hW => by
        have h1 : Reads W (some ⟨g, o, none⟩) bs := (HR.out.keptNo HKT.out).kept hW (fun a ha e => by cases ha; exact HG.out e)
        have h2 := reads_take D (reads_drop A h1)
        rw [addr_add] at h2
        exact read_any _ (cap - A) D (seg bs A D) W h2 (seg_all HB.out _ _) (seg_len bs A D (by have := HN.out; omega)) (by omega) (by omega)
      obtain ⟨q, hq⟩ : ∃ q, q = readS (seg bs A D) := ⟨_, rfl⟩
      rw [← hq] at hRs HStep HNs HNo
      obtain ⟨x, ok⟩ := q
      have HRs := Lib.hid hRs
      have hAD : (A : Int) + (D : Int) ≤ 512 := by omega
      have hHlt := obj_lt HHr.out
      clear hRs c0 c1 c2 hz hq hA hD
      go_wp2_with fail
      with_reducible refine (HRs.out _ (HKr.out.alloc _)).mono ?_
      rintro e w5 ⟨rfl, rfl⟩
      cases ok with
      | false =>
        have HF : Hid (numsOk bs = false) := Lib.hid (by rw [numsOk_to]; exact HNo.out rfl)
        have HKe := Lib.hid (HKr.out.alloc (.cells #[Value.pointer (some ⟨H, 5 + i, none⟩), Value.int IntKind.i64 ↑A, Value.int IntKind.i64 ↑D] 83))
        go_wp2
        go_ret
        exact ⟨by rw [HF.out]; rfl, (HKT.out.mono (fun _ _ h => h.elim)).trans HKe.out, fun h => by rw [HF.out] at h; cases h⟩
      | true =>
        have HKe := Lib.hid ((HKr.out.setCell (p := ⟨H, 5 + i, none⟩) (.inl rfl) (.int .i64 x)).alloc (.cells #[Value.pointer (some ⟨H, 5 + i, none⟩), Value.int IntKind.i64 ↑A, Value.int IntKind.i64 ↑D] 83))
        have HHe : Hid (((wr.setCell ⟨H, 5 + i, none⟩ (.int .i64 x)).alloc (.cells #[Value.pointer (some ⟨H, 5 + i, none⟩), Value.int IntKind.i64 ↑A, Value.int IntKind.i64 ↑D] 83)).heap[H]? = some (.cells (numC cs bs (i + 1)) 23 (0, 0))) := Lib.hid (by
          rw [HNs.out]
          exact ((Kept.refl NoB _).alloc _).obj (obj_set HHr.out (5 + i) _) (fun h => h))
        have HOk2 : Hid (okTo bs (i + 1) = true) := Lib.hid (by rw [HStep.out, HOk.out]; rfl)
        go_wp2
        go_roundw
        case rel => exact ⟨i + 1, by go_num, by omega, HOk2, HHe, HKe⟩
        case measure => simp [intOf]; omega
    · have hi : i = 7 := by omega
      have HF : Hid (numsOk bs = true ∧ wr.heap[H]? = some (.cells (numC cs bs 7) 23 (0, 0))) := Lib.hid ⟨by rw [numsOk_to, ← hi]; exact HOk.out, by rw [← hi]; exact HHr.out⟩
      subst hi
      go_wp2
      go_ret
      exact ⟨by rw [HF.out.1]; rfl, (HKT.out.mono (fun _ _ h => h.elim)).trans HKr.out, fun _ => HF.out.2⟩
end Go.Proofs.Ytnhfbpikfkncpaa
