/-
  The library's stable sort at leaves: a row of leaves of the call's own, two of them put one in the other's place, ranges of them.
-/
import Derived.Test.YtokdlmpnokmniaaHuffT
import Derived.BigRegion
namespace Go.Proofs.Ytokdlmpnokmniaa
open Go.RowKit
set_option linter.unusedVariables false
set_option linter.unusedSimpArgs false

abbrev Lf := Int × Int
/-- A row of n leaves in block G. -/
structure SrtSt (G n c : Nat) (w0 w : World) (rs : List Lf) : Prop where
  len : rs.length = n
  own : w.ownsRow 0 82 2 (.slice (some ⟨G, 0, none⟩) n c) n (lcells rs)
  kept : Kept (OneB G) w0 w
def swp (rs : List Lf) (i j : Nat) : List Lf := (rs.set i (rs.getD j (0, 0))).set j (rs.getD i (0, 0))
theorem lcells_len (rs : List Lf) : (lcells rs).length = rs.length * 2 := by
  induction rs with
  | nil => rfl
  | cons p r ih =>
    have e : lcells (p :: r) = .int .i64 p.1 :: .int .i64 p.2 :: lcells r := by simp [lcells]
    rw [e, List.length_cons, List.length_cons, ih, List.length_cons]; omega
theorem lcells_set : ∀ (rs : List Lf) (i : Nat) (p x : Int), lcells (rs.set i (p, x)) = ((lcells rs).set (i * 2) (.int .i64 p)).set (i * 2 + 1) (.int .i64 x)
  | [], i, p, x => by simp [lcells]
  | r :: rs, 0, p, x => by simp [lcells]
  | r :: rs, i + 1, p, x => by
    have e : ∀ q : List Lf, lcells (r :: q) = .int .i64 r.1 :: .int .i64 r.2 :: lcells q := fun q => by simp [lcells]
    rw [List.set_cons_succ, e, lcells_set rs i p x, e, show (i + 1) * 2 = i * 2 + 1 + 1 by omega, List.set_cons_succ, List.set_cons_succ, List.set_cons_succ, List.set_cons_succ]
theorem SrtSt.cell {G n c : Nat} {w0 w : World} {rs : List Lf} (h : SrtSt G n c w0 w rs) (i : Nat) (hi : i < n) :
    w.cell? ⟨G, i * 2, none⟩ = some (.int .i64 (rs.getD i (0, 0)).1) ∧ w.cell? ⟨G, i * 2 + 1, none⟩ = some (.int .i64 (rs.getD i (0, 0)).2) := by
  have hl := h.len
  obtain ⟨h1, h2⟩ := lcells_at rs i (by omega)
  exact ⟨by rw [← h1]; exact h.own.cellAt (i * 2) (by omega), by rw [← h2]; exact h.own.cellAt (i * 2 + 1) (by omega)⟩
theorem SrtSt.frozen {G n c : Nat} {w0 w : World} {rs : List Lf} (h : SrtSt G n c w0 w rs) (j : Nat) : w.frozen? ⟨G, j, none⟩ = false := h.own.frozenAt j
theorem SrtSt.put {G n c : Nat} {w0 w : World} {rs : List Lf} (h : SrtSt G n c w0 w rs) (i : Nat) (p x : Int) :
    SrtSt G n c w0 ((w.setCell ⟨G, i * 2, none⟩ (.int .i64 p)).setCell ⟨G, i * 2 + 1, none⟩ (.int .i64 x)) (rs.set i (p, x)) := by
  obtain ⟨s1, s2⟩ := h.own.stored (i * 2) (.int .i64 p)
  obtain ⟨s3, s4⟩ := s1.stored (i * 2 + 1) (.int .i64 x)
  refine ⟨by rw [List.length_set]; exact h.len, ?_, ?_⟩
  · rw [lcells_set]; exact s3
  · exact Kept.setCell (p := ⟨G, i * 2 + 1, none⟩) (Kept.setCell (p := ⟨G, i * 2, none⟩) h.kept (.inl rfl) _) (.inl rfl) _
theorem SrtSt.then {S : Nat → Prop} {G n c : Nat} {w0 w w' : World} {rs : List Lf} (h : SrtSt G n c w0 w rs) (hk : Kept S w w') (hS : ∀ k, S k → False) : SrtSt G n c w0 w' rs :=
  ⟨h.len, hk.row h.own (fun k _ hs => hS k hs), h.kept.trans (hk.mono (fun k _ hs => (hS k hs).elim))⟩
theorem SrtSt.from {G n c : Nat} {w0 w w' : World} {rs rs' : List Lf} (h : SrtSt G n c w0 w rs) (h' : SrtSt G n c w w' rs') : SrtSt G n c w0 w' rs' := ⟨h'.len, h'.own, h.kept.trans h'.kept⟩
theorem SrtSt.start {G n c : Nat} {w0 w : World} {rs : List Lf} (h : SrtSt G n c w0 w rs) : SrtSt G n c w w rs := ⟨h.len, h.own, Kept.refl _ _⟩
theorem swp_app (A B C : List Lf) (x y : Lf) : swp (A ++ x :: (B ++ y :: C)) A.length (A.length + 1 + B.length) = A ++ y :: (B ++ x :: C) := by
  have h1 : (A ++ x :: (B ++ y :: C)).getD A.length (0, 0) = x := by simp [List.getD]
  have h2 : (A ++ x :: (B ++ y :: C)).getD (A.length + 1 + B.length) (0, 0) = y := by
    rw [List.getD, List.getElem?_append_right (by omega), show A.length + 1 + B.length - A.length = B.length + 1 by omega, List.getElem?_cons_succ, List.getElem?_append_right (by omega)]; simp
  unfold swp
  rw [h1, h2, List.set_append_right _ _ (by omega), Nat.sub_self, List.set_cons_zero, List.set_append_right _ _ (by omega), show A.length + 1 + B.length - A.length = B.length + 1 by omega, List.set_cons_succ, List.set_append_right _ _ (by omega), Nat.sub_self, List.set_cons_zero]
theorem app_getD (A C : List Lf) (x : Lf) : (A ++ x :: C).getD A.length (0, 0) = x := by simp [List.getD]
theorem app_getD2 (A B C : List Lf) (x y : Lf) : (A ++ x :: (B ++ y :: C)).getD (A.length + 1 + B.length) (0, 0) = y := by
  rw [List.getD, List.getElem?_append_right (by omega), show A.length + 1 + B.length - A.length = B.length + 1 by omega, List.getElem?_cons_succ, List.getElem?_append_right (by omega)]; simp

/-- Two places of a row: what stands there, and the row when each stands in the other's place. -/
structure TwoAt (G n c : Nat) (w0 w : World) (s t : Nat) (x y : Lf) (rs' : List Lf) : Prop where
  ls : s < n
  lt : t < n
  ne : s < t
  x0 : w.cell? ⟨G, s * 2, none⟩ = some (.int .i64 x.1)
  x1 : w.cell? ⟨G, s * 2 + 1, none⟩ = some (.int .i64 x.2)
  y0 : w.cell? ⟨G, t * 2, none⟩ = some (.int .i64 y.1)
  y1 : w.cell? ⟨G, t * 2 + 1, none⟩ = some (.int .i64 y.2)
  fr : ∀ j, w.frozen? ⟨G, j, none⟩ = false
  up : SrtSt G n c w0 ((((w.setCell ⟨G, s * 2, none⟩ (.int .i64 y.1)).setCell ⟨G, s * 2 + 1, none⟩ (.int .i64 y.2)).setCell ⟨G, t * 2, none⟩ (.int .i64 x.1)).setCell ⟨G, t * 2 + 1, none⟩ (.int .i64 x.2)) rs'
  down : SrtSt G n c w0 ((((w.setCell ⟨G, t * 2, none⟩ (.int .i64 x.1)).setCell ⟨G, t * 2 + 1, none⟩ (.int .i64 x.2)).setCell ⟨G, s * 2, none⟩ (.int .i64 y.1)).setCell ⟨G, s * 2 + 1, none⟩ (.int .i64 y.2)) rs'
theorem SrtSt.two {G n c s t : Nat} {w0 w : World} {A B C : List Lf} {x y : Lf} (h : SrtSt G n c w0 w (A ++ x :: (B ++ y :: C))) (hA : A.length = s) (hB : s + 1 + B.length = t) :
    TwoAt G n c w0 w s t x y (A ++ y :: (B ++ x :: C)) := by
  subst hA
  subst hB
  have hlen := h.len
  simp only [List.length_append, List.length_cons] at hlen
  have hx := app_getD A (B ++ y :: C) x
  have hy := app_getD2 A B C x y
  obtain ⟨d0, d1⟩ := h.cell A.length (by omega)
  obtain ⟨d2, d3⟩ := h.cell (A.length + 1 + B.length) (by omega)
  rw [hx] at d0 d1
  rw [hy] at d2 d3
  have hsw := swp_app A B C x y
  unfold swp at hsw
  rw [hx, hy] at hsw
  have e1 : (y.1, y.2) = y := rfl
  have e2 : (x.1, x.2) = x := rfl
  refine ⟨by omega, by omega, by omega, d0, d1, d2, d3, h.frozen, ?_, ?_⟩
  · have := (h.put A.length y.1 y.2).put (A.length + 1 + B.length) x.1 x.2
    rw [e1, e2, hsw] at this
    exact this
  · have := (h.put (A.length + 1 + B.length) x.1 x.2).put A.length y.1 y.2
    rw [e1, e2, List.set_comm _ _ (by omega), hsw] at this
    exact this

set_option maxRecDepth 20000 in
set_option maxHeartbeats 1000000 in
theorem swapRange_calls (G n c a b k : Nat) (p X M Y q : List Lf) (fv : Value) (w : World) (h : SrtSt G n c w w (p ++ (X ++ (M ++ (Y ++ q))))) (ha : p.length = a) (hX : X.length = k) (hY : Y.length = k) (hb : a + k + M.length = b) (hn : n ≤ 1000) :
    Calls Try.prog 53 #[.slice (some ⟨G, 0, none⟩) n c, .int .i64 (a : Int), .int .i64 (b : Int), .int .i64 (k : Int), fv] w fun e w' => e = .returned (.tuple #[]) ∧ SrtSt G n c w w' (p ++ (Y ++ (M ++ (X ++ q)))) := by
  have hlen := h.len
  have hbn : b + k ≤ n := by simp at hlen; omega
  have HS0 := Lib.hid h; have HA := Lib.hid ha; have HX := Lib.hid hX; have HY := Lib.hid hY; have HB := Lib.hid hb
  clear h ha hX hY hb hlen
  go_enter Try.func53, Try.ntmps53
  go_wp2
  go_loopw [10] (fun v10 wr => ∃ (i : Nat) (X1 X2 Y1 Y2 : List Lf), v10 = .int .i64 (i : Int) ∧ i ≤ k ∧ Hid (X = X1 ++ X2) ∧ Hid (Y = Y1 ++ Y2) ∧ Hid (X1.length = i ∧ Y1.length = i) ∧ Hid (SrtSt G n c w wr (p ++ (Y1 ++ (X2 ++ (M ++ (X1 ++ (Y2 ++ q)))))))) (fun v10 _ => k - (intOf v10).toNat)
  case atStart => exact ⟨0, [], X, [], Y, rfl, by omega, Lib.hid rfl, Lib.hid rfl, Lib.hid ⟨rfl, rfl⟩, HS0⟩
  case round =>
    obtain ⟨i, X1, X2, Y1, Y2, rfl, hi, HX1, HY1, HL, HS⟩ := hrel
    by_cases hlt : (i : Int) < k
    · have h2 : X2.length = k - i ∧ Y2.length = k - i := by
        have e1 := HX.out; have e2 := HY.out
        rw [HX1.out, List.length_append] at e1
        rw [HY1.out, List.length_append] at e2
        have := HL.out
        omega
      obtain ⟨x, X3, rfl⟩ : ∃ x X3, X2 = x :: X3 := by
        cases X2 with
        | nil => simp at h2; omega
        | cons x X3 => exact ⟨x, X3, rfl⟩
      obtain ⟨y, Y3, rfl⟩ : ∃ y Y3, Y2 = y :: Y3 := by
        cases Y2 with
        | nil => simp at h2; omega
        | cons x X3 => exact ⟨x, X3, rfl⟩
      simp only [List.length_cons] at h2
      obtain ⟨s, hs⟩ : ∃ s, s = a + i := ⟨_, rfl⟩
      obtain ⟨t, ht⟩ : ∃ t, t = b + i := ⟨_, rfl⟩
      have hrow : SrtSt G n c w wr ((p ++ Y1) ++ x :: ((X3 ++ (M ++ X1)) ++ y :: (Y3 ++ q))) := by
        have := HS.out
        simpa [List.append_assoc] using this
      have hA : (p ++ Y1).length = s := by rw [List.length_append, HA.out, HL.out.2]; exact hs.symm
      have hB : s + 1 + (X3 ++ (M ++ X1)).length = t := by
        simp only [List.length_append]
        have := HB.out; have := HL.out; omega
      obtain ⟨b5, b6, hst, d0, d1, d2, d3, hfr, hup, _⟩ := hrow.two hA hB
      obtain ⟨x1, x2⟩ := x
      obtain ⟨y1, y2⟩ := y
      have HF := Lib.hid hup
      have b1 : IntKind.i64.wrap ((a : Int) + (i : Int)) = (s : Int) := by rw [IntWalk.i64_in _ (by omega)]; omega
      have b2 : IntKind.i64.wrap ((b : Int) + (i : Int)) = (t : Int) := by rw [IntWalk.i64_in _ (by omega)]; omega
      have b3 : (s : Int) < n := by omega
      have b4 : (t : Int) < n := by omega
      have hst2 : ¬ s = t := by omega
      have f0 := hfr (s * 2)
      have f1 := hfr (s * 2 + 1)
      have f2 := hfr (t * 2)
      have f3 := hfr (t * 2 + 1)
      clear hs ht hA hB h2 hrow hup hfr hst
      go_upto_region 3 with fail
      go_region
      have HF2 : Hid (SrtSt G n c w _ _) := Lib.hid (HF.out.then (Kept.drew (Kept.refl NoB _)) (fun _ h => h))
      clear HF d0 d1 d2 d3 f0 f1 f2 f3
      go_wp2
      go_roundw
      case rel =>
        refine ⟨i + 1, X1 ++ [(x1, x2)], X3, Y1 ++ [(y1, y2)], Y3, by go_num, by omega, Lib.hid (by rw [HX1.out]; simp), Lib.hid (by rw [HY1.out]; simp), Lib.hid (by have := HL.out; simp; exact this), Lib.hid ?_⟩
        have := HF2.out
        simpa [List.append_assoc] using this
      case measure => simp [intOf]; omega
    · have hik : i = k := by omega
      subst hik
      have h2 : X2 = [] ∧ Y2 = [] := by
        have e1 := HX.out; have e2 := HY.out
        rw [HX1.out, List.length_append] at e1
        rw [HY1.out, List.length_append] at e2
        have := HL.out
        exact ⟨List.eq_nil_of_length_eq_zero (by omega), List.eq_nil_of_length_eq_zero (by omega)⟩
      obtain ⟨rfl, rfl⟩ := h2
      go_wp2
      go_end0
      refine ⟨rfl, ?_⟩
      have := HS.out
      rw [HX1.out, HY1.out]
      simpa [List.append_assoc] using this
end Go.Proofs.Ytokdlmpnokmniaa
