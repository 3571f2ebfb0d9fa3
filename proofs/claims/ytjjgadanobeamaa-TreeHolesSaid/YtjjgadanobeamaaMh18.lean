/-
  What was written of a file, in memory: cut.
  A tree of files in memory: a file's size.
-/
import Derived.Test.YtjjgadanobeamaaMh17
namespace Go.Proofs.Ytjjgadanobeamaa
open Go.RowKit
set_option linter.unusedVariables false
set_option linter.unusedSimpArgs false
set_option maxRecDepth 20000

theorem set_split {α : Type} {l : List α} {i : Nat} {q q' : α} (h : l[i]? = some q) : (l.set i q').take (i + 1) = l.take i ++ [q'] := by
  obtain ⟨hi, rfl⟩ := List.getElem?_eq_some_iff.1 h
  rw [List.take_add_one, List.take_set_of_le (Nat.le_refl _), List.getElem?_set_self hi]; rfl
set_option maxHeartbeats 4000000 in
theorem cut_any (D : Nat) (cs : Array Value) (a : Option Addr) (c : Nat) (qs : List FpQ) (s : Int) (w : World) (hD : w.heap[D]? = some (.cells cs 50 (0, 0))) (h13 : cs[13]? = some (.slice a qs.length c))
    (hd : DatO w a c qs) (hl : OkD (qs.map Prod.fst)) (hx : ∀ j, BytB qs j → j ≠ D) (hs : 0 ≤ s ∧ s ≤ 1099511627776) :
    Calls Try.prog 19 #[.pointer (some ⟨D, 13, none⟩), .int .i64 s] w (CutR w D cs a c qs s) := by
  have hr := bytes_rd hd
  have hol := ok_len hl
  obtain ⟨l, hle⟩ : ∃ l, l = qs.map Prod.fst := ⟨_, rfl⟩
  rw [← hle] at hr hl hol
  have hll : l.length = qs.length := by rw [hle]; simp
  obtain ⟨n, hn⟩ : ∃ n, n = qs.length := ⟨_, rfl⟩
  have hown := hd.own
  rw [← hn] at h13 hown hll
  have hlen : n ≤ 1099511627776 := by omega
  have c13 : w.cell? ⟨D, 13, none⟩ = some (.slice a n c) := by rw [obj_cell hD]; exact h13
  have hcap : n ≤ c ∧ c ≤ maxLen := by
    rcases hown.2 with ⟨h1, h2⟩ | ⟨g, cc, cur, h1, _, _, h2, h3, _⟩
    · simp at h1; constructor; omega; unfold maxLen; omega
    · simp at h1; obtain ⟨_, rfl⟩ := h1; exact ⟨h2, h3⟩
  have hc63 : (c : Int) ≤ 9223372036854775807 := by have := hcap.2; unfold maxLen at this; omega
  obtain ⟨A, hA⟩ : ∃ A, A = (aheadP l (s + 1)).length := ⟨_, rfl⟩
  obtain ⟨hAn, hcc⟩ := cut_cases qs s A (by rw [hA, hle])
  obtain ⟨S0, hS0⟩ : ∃ S0, S0 = sizeD l := ⟨_, rfl⟩
  have HSz := Lib.hid (size_any l a c w hr (by omega) hcap.2 (by omega))
  have HAf : Hid (∀ W, Kept NoB w W → Calls Try.prog 29 #[.slice a n c, .int .i64 s] W fun e w' => e = .returned (.int .i64 (A : Int)) ∧ Kept NoB W w') := Lib.hid (fun W hW => by
    have := after_any l hl a c s W (hr.kept hW) (by omega) hcap.2 (by omega) (by omega)
    rw [hll, ← hA] at this
    exact this)
  rw [hll, ← hS0] at HSz
  have HAll := Lib.hid (⟨hD, hd, hl, hx, hle, hS0, hn, h13⟩ : _ ∧ _ ∧ _ ∧ _ ∧ _ ∧ _ ∧ _ ∧ _)
  rw [← hn] at hAn
  -- the end, whatever was taken away
  have HEnd : Hid (∀ (wd we : World) (qs' : List FpQ) (i : Nat), Kept (fun j => (Value.slice a n c).ownBlock = some j) w wd → we = wd.setCell ⟨D, 13, none⟩ (.slice a i c) → qs'.map Prod.fst = cutP l s → i = qs'.length → wd.ownsRow 0 43 2 (.slice a i c) i (fcells qs') → (∀ q ∈ qs', q ∈ qs ∨ (wd.ownsRow 0 5 1 (.slice q.2.1 q.1.2.length q.2.2) q.1.2.length (bc q.1.2) ∧ ∀ j, pcB q = some j → w.heap.size ≤ j)) →
      qs'.Pairwise (fun p q => ∀ j, pcB p = some j → pcB q ≠ some j) → DatO we a c qs' ∧ we.heap[D]? = some (.cells (cs.setIfInBounds 13 (.slice a i c)) 50 (0, 0)) ∧ (∀ j, BytB qs' j → BytB qs j ∨ w.heap.size ≤ j) ∧ Kept (fun j => j = D ∨ (Value.slice a n c).ownBlock = some j ∨ BytB qs j) w we ∧ (∀ j, (Value.slice a i c).ownBlock = some j → (Value.slice a n c).ownBlock = some j)) := Lib.hid (fun wd we qs' i hk hwe hq hi hro hby hap => by
    obtain ⟨hD, hd, hl, hx, hle, hS0, hn, h13⟩ := HAll.out
    have hrD : ∀ j, (Value.slice a n c).ownBlock = some j → j ≠ D := fun j hj => row2_ne (by have := hd.own; rw [← hn] at this; exact this) hD (by decide) j hj
    have hDd : wd.heap[D]? = some (.cells cs 50 (0, 0)) := hk.obj hD (fun e => hrD D e rfl)
    have ks : Kept (OneB D) wd we := by rw [hwe]; exact Kept.setCell (S := OneB D) (p := ⟨D, 13, none⟩) (Kept.refl _ wd) (.inl rfl) _
    have hob : ∀ j, (Value.slice a i c).ownBlock = some j → (Value.slice a n c).ownBlock = some j := fun j hj => by cases a with
      | none => cases hj
      | some x => exact hj
    have heach : ∀ q ∈ qs', wd.ownsRow 0 5 1 (.slice q.2.1 q.1.2.length q.2.2) q.1.2.length (bc q.1.2) := fun q hq2 => by
      rcases hby q hq2 with h | h
      · exact hk.row (hd.each q h) (fun j hj e => row_byt hd ⟨q, h, hj⟩ (by rw [← hn]; exact e))
      · exact h.1
    refine ⟨⟨?_, fun q hq2 => ?_, hap⟩, by rw [hwe]; exact obj_set hDd 13 _, fun j hj => ?_, (hk.mono (fun j _ e => .inr (.inl e))).trans (ks.mono (fun j _ e => .inl e)), hob⟩
    · rw [← hi]
      exact ks.row hro (fun j hj e => hrD j (hob j hj) e)
    · refine ks.row (heach q hq2) (fun j hj e => ?_)
      have e : j = D := e
      rcases hby q hq2 with h | h
      · exact hx j ⟨q, h, hj⟩ e
      · have := h.2 j hj
        have := obj_lt hD
        omega
    · obtain ⟨q, hq2, hj2⟩ := hj
      rcases hby q hq2 with h | h
      · exact .inl ⟨q, h, hj2⟩
      · exact .inr (h.2 j hj2))
  have HFin : Hid (∀ (we w5 : World) (qs' : List FpQ) (i : Nat), Kept NoB we w5 → qs'.map Prod.fst = cutP l s → i = qs'.length → (DatO we a c qs' ∧ we.heap[D]? = some (.cells (cs.setIfInBounds 13 (.slice a i c)) 50 (0, 0)) ∧ (∀ j, BytB qs' j → BytB qs j ∨ w.heap.size ≤ j) ∧ Kept (fun j => j = D ∨ (Value.slice a n c).ownBlock = some j ∨ BytB qs j) w we ∧ (∀ j, (Value.slice a i c).ownBlock = some j → (Value.slice a n c).ownBlock = some j)) →
      CutR w D cs a c qs s (.returned (.int .i64 ((S0 : Int) - (sizeD (cutP l s) : Int)))) w5) := Lib.hid (fun we w5 qs' i hk hq hi ⟨h1, h2, h3, h4, h5⟩ => by
    obtain ⟨hD, hd, hl, hx, hle, hS0, hn, h13⟩ := HAll.out
    subst hi
    refine ⟨by rw [hS0, hle], a, c, qs', by rw [← hle]; exact hq, hk.obj h2 id, ⟨hk.row h1.own (fun _ _ e => e), fun q hq2 => hk.row (h1.each q hq2) (fun _ _ e => e), h1.apart⟩, fun j hj => .inl (by rw [← hn]; exact h5 j hj), h3, ?_⟩
    rw [← hn]
    exact h4.trans hk.dom)
  have HSn : Hid (∀ W qs', DatO W a c qs' → qs'.map Prod.fst = cutP l s → Calls Try.prog 28 #[.slice a qs'.length c] W fun e w' => e = .returned (.int .i64 (sizeD (cutP l s) : Int)) ∧ Kept NoB W w') := Lib.hid (fun W qs' hdo hq => by
    have hok := cut_ok hl s hs.1
    have hb := (ok_len hok).2
    have hcp : qs'.length ≤ c ∧ c ≤ maxLen := by
      rcases hdo.own.2 with ⟨h1, h2⟩ | ⟨g, cc, cur, h1, _, _, h2, h3, _⟩
      · simp at h1; constructor; omega; unfold maxLen; omega
      · simp at h1; obtain ⟨_, rfl⟩ := h1; exact ⟨h2, h3⟩
    have := size_any (qs'.map Prod.fst) a c W (bytes_rd hdo) (by rw [List.length_map]; exact hcp.1) hcp.2 (by rw [hq]; omega)
    rw [List.length_map, hq] at this
    exact this)
  have hsc := (ok_len (cut_ok hl s hs.1)).2
  obtain ⟨S1, hS1⟩ : ∃ S1, S1 = sizeD (cutP l s) := ⟨_, rfl⟩
  rw [← hS1] at HSn hsc
  have hS0b : S0 ≤ 1099511627776 := by omega
  have HS1 := Lib.hid hS1
  have HLe := Lib.hid hle; have HN := Lib.hid hn; have HS0 := Lib.hid hS0
  have HOwn := Lib.hid hown
  have hCs := Lib.hid h13
  rcases hcc with ⟨q, hqA, hqs, hqe, hcut⟩ | ⟨hno, hcut⟩
  · have hAlt : A < n := by rw [hn]; exact (List.getElem?_eq_some_iff.1 hqA).1
    obtain ⟨g, rfl⟩ : ∃ g, a = some ⟨g, 0, none⟩ := by
      rcases hown.2 with ⟨h1, h2⟩ | ⟨g, cc, cur, h1, _⟩
      · omega
      · simp only [Value.slice.injEq] at h1; exact ⟨g, h1.1⟩
    have hgcur : ∃ cur, w.heap[g]? = some (.cells cur 43 (0, 0)) := by
      rcases hown.2 with ⟨h1, h2⟩ | ⟨g', cc, cur, h1, _, hg, _⟩
      · cases h1
      · simp only [Value.slice.injEq, Option.some.injEq, Addr.mk.injEq, and_true, true_and] at h1
        obtain ⟨rfl, _⟩ := h1
        exact ⟨cur, hg⟩
    obtain ⟨cur, hcur⟩ := hgcur
    have hq12 := fcells_at2 qs A q hqA
    have y0 : w.cell? ⟨g, A * 2, none⟩ = some (.int .i64 q.1.1) := by
      have := hown.cells (g := g) rfl _ _ hq12.1
      rw [Addr.add_lit, Nat.zero_add] at this; exact this
    have y1 : w.cell? ⟨g, A * 2 + 1, none⟩ = some (.slice q.2.1 q.1.2.length q.2.2) := by
      have := hown.cells (g := g) rfl _ _ hq12.2
      rw [Addr.add_lit, Nat.zero_add] at this; exact this
    have hqm : q ∈ qs := List.mem_of_getElem? hqA
    have hqr := hd.each q hqm
    have hqok := hl.each q.1 (by rw [hle]; exact List.mem_map.2 ⟨q, hqm, rfl⟩)
    obtain ⟨z, hz⟩ : ∃ z, z = q.1.1 := ⟨_, rfl⟩
    obtain ⟨m, hm⟩ : ∃ m, m = q.1.2.length := ⟨_, rfl⟩
    obtain ⟨qc, hqc⟩ : ∃ qc, qc = q.2.2 := ⟨_, rfl⟩
    obtain ⟨qa, hqa⟩ : ∃ qa, qa = q.2.1 := ⟨_, rfl⟩
    unfold endP at hqe hqok
    rw [← hz] at hqs hqe hqok y0
    rw [← hm] at hqe hqok
    rw [← hqa, ← hm, ← hqc] at y1 hqr
    have hmc : m ≤ qc ∧ qc ≤ maxLen := by
      rcases hqr.2 with ⟨h1, h2⟩ | ⟨gx, cc, cux, h1, _, _, h2, h3, _⟩
      · simp at h1; constructor; omega; unfold maxLen; omega
      · simp at h1; obtain ⟨_, rfl⟩ := h1; exact ⟨h2, h3⟩
    have hqc63 : (qc : Int) ≤ 9223372036854775807 := by have := hmc.2; unfold maxLen at this; omega
    obtain ⟨gq, hgq⟩ : ∃ gq, qa = some ⟨gq, 0, none⟩ := by
      rcases hqr.2 with ⟨h1, h2⟩ | ⟨gx, cc, cux, h1, _⟩
      · omega
      · simp only [Value.slice.injEq] at h1; exact ⟨gx, h1.1⟩
    subst hgq
    obtain ⟨P, hP⟩ : ∃ P, P = (s - z).toNat := ⟨_, rfl⟩
    have hPm : P < m := by omega
    have hpl : (q.1.2.take P).length = P := by rw [List.length_take, ← hm]; omega
    have HCl : Hid (∀ W, Kept NoB w W → Calls Try.prog 30 #[.slice (some ⟨gq, 0, none⟩) (s - z).toNat qc] W fun e w' => ∃ ao cap, e = .returned (.slice ao (s - z).toNat cap) ∧ Hid (w'.ownsRow 0 5 1 (.slice ao P cap) P (bc (q.1.2.take P)) ∧ (∀ j, (Value.slice ao P cap).ownBlock = some j → w.heap.size ≤ j) ∧ Kept NoB w w')) := Lib.hid (fun W hW => by
      have hrow := hW.row hqr (fun _ _ e => e)
      have h0 : W.ownsRow 0 5 1 (.slice (some ⟨gq, 0, none⟩) (nb q.1.2).length qc) (nb q.1.2).length ((nb q.1.2).map (.int .u8)) := by
        rw [nb_len, ← hm, ← bc_nb]; exact hrow
      have h1 := reads_takeA P (own_reads h0 rfl)
      have e : nb (q.1.2.take P) = (nb q.1.2).take P := by simp [nb, List.map_take]
      rw [← e] at h1
      have e0 : (nb (q.1.2.take P)).length = P := by rw [nb_len, hpl]
      have := clone_any (some ⟨gq, 0, none⟩) qc (nb (q.1.2.take P)) W h1 (by rw [e0]; omega)
      rw [e0] at this
      rw [← hP]
      refine this.mono ?_
      rintro e w' ⟨ao, cap, rfl, h1, h2, _, h4⟩
      rw [e0] at h1 h2 ⊢
      refine ⟨ao, cap, rfl, Lib.hid ⟨?_, fun j hj => Nat.le_trans hW.size (h2 j hj), hW.trans h4⟩⟩
      rw [bc_nb]; exact h1)
    have HDl : Hid (∀ (W : World) (q2 : FpQ), W.ownsRow 0 43 2 (.slice (some ⟨g, 0, none⟩) n c) n (fcells (qs.set A q2)) → Kept (OwnB (.slice (some ⟨g, 0, none⟩) n c)) w W → Calls Try.prog 31 #[.slice (some ⟨g, 0, none⟩) n c, .int .i64 ((A : Int) + 1), .int .i64 (n : Int)] W fun e w' => e = .returned (.slice (some ⟨g, 0, none⟩) (A + 1) c) ∧ Hid (w'.ownsRow 0 43 2 (.slice (some ⟨g, 0, none⟩) (A + 1) c) (A + 1) (fcells (qs.take A ++ [q2])) ∧ Kept (OwnB (.slice (some ⟨g, 0, none⟩) n c)) W w' ∧ Kept (OwnB (.slice (some ⟨g, 0, none⟩) n c)) w w')) := Lib.hid (fun W q2 ho hk => by
      have := delete_any (some ⟨g, 0, none⟩) n c (A + 1) (qs.set A q2) W (by rw [List.length_set]; exact hn) ho (by omega) hlen
      rw [set_split hqA] at this
      rw [show ((A + 1 : Nat) : Int) = (A : Int) + 1 by push_cast; rfl] at this
      refine this.mono ?_
      rintro e w' ⟨rfl, h1, h2⟩
      exact ⟨rfl, Lib.hid ⟨h1, h2, hk.trans h2⟩⟩)
    have HQ := Lib.hid (⟨hqA, hz, hm, hqc, hqa, hP, hpl, hcut⟩ : _ ∧ _ ∧ _ ∧ _ ∧ _ ∧ _ ∧ _ ∧ _)
    have hAlt2 : (A : Int) < (n : Int) := by omega
    have hsz0 : 0 ≤ s - z := by omega
    have hzs2 : z ≤ s := by omega
    have hszm : s - z ≤ (m : Int) := by omega
    have hszc : s - z ≤ (qc : Int) := by have := hmc.1; omega
    have hszw : IntKind.i64.wrap (s - z) = s - z := by rw [IntKind.wrap_i64]; omega
    have HMc := Lib.hid hmc
    have HCur := Lib.hid hcur
    clear hcut hr hl hle hll hn hown hd hD h13 hA hS0 hS1 hx hcap hol hqA hz hm hqc hqa hP hpl hq12 hqm hqr hqok hmc hcur
    go_enter Try.func19, Try.ntmps19
    go_wp2_with fail
    refine HSz.out.mono ?_
    rintro e w1 ⟨rfl, hk1⟩
    go_wp2_with fail
    refine (HAf.out _ hk1).mono ?_
    rintro e w2 ⟨rfl, hk2⟩
    have hk12 := hk1.trans hk2
    have HK2 := Lib.hid hk12
    have d13 := hk12.cell c13
    have z0 := hk12.cell y0
    have z1 := hk12.cell y1
    clear hk1 hk2 hk12 HSz HAf c13 y0 y1
    go_upto_region 5 with fail
    have HCl := Lib.hid (fun W (hW : Kept NoB w2 W) => HCl.out W (HK2.out.trans hW))
    have HS3 : Hid (∀ W, Kept NoB w W → W.cell? ⟨g, A * 2 + 1, none⟩ = some (.slice (some ⟨gq, 0, none⟩) m qc) ∧ W.frozen? ⟨g, A * 2 + 1, none⟩ = false ∧ W.cell? ⟨g, A * 2, none⟩ = some (.int .i64 z)) := Lib.hid (fun W hW => by
      have o := hW.obj HCur.out id
      have h1 := (hW.row HOwn.out (fun _ _ e => e)).cells (g := g) rfl
      have h2 := fcells_at2 qs A q HQ.out.1
      have h3 := h1 _ _ h2.1
      have h4 := h1 _ _ h2.2
      rw [Addr.add_lit, Nat.zero_add] at h3 h4
      rw [← HQ.out.2.1] at h3
      rw [← HQ.out.2.2.1, ← HQ.out.2.2.2.1, ← HQ.out.2.2.2.2.1] at h4
      exact ⟨h4, obj_free o _, h3⟩)
    go_region_law (first
      | (go_simp; go_at_call 30; (with_reducible refine (HCl.out _ (Kept.refl NoB w2).drew).mono ?_); rintro e w3 ⟨ao, cap, rfl, h3⟩; have k3 := HS3.out w3 h3.out.2.2; obtain ⟨k3a, k3b, k3c⟩ := k3))
    all_goals go_simp
    all_goals
      obtain ⟨q2, hq2⟩ : ∃ q2 : FpQ, q2 = ((z, q.1.2.take P), (ao, cap)) := ⟨_, rfl⟩
      obtain ⟨w4, hw4⟩ : ∃ w4, w4 = w3.setCell ⟨g, A * 2 + 1, none⟩ (.slice ao (s - z).toNat cap) := ⟨_, rfl⟩
      have hrow3 := h3.out.2.2.row HOwn.out (fun _ _ e => e)
      have hval : (Value.slice ao (s - z).toNat cap) = .slice q2.2.1 q2.1.2.length q2.2.2 := by rw [hq2, ← HQ.out.2.2.2.2.2.1]; show _ = Value.slice ao (q.1.2.take P).length cap; rw [HQ.out.2.2.2.2.2.2.1]
      have hq21 : q2.1.1 = q.1.1 := by rw [hq2]; exact HQ.out.2.1
      have o4 : w4.ownsRow 0 43 2 (.slice (some ⟨g, 0, none⟩) n c) n (fcells (qs.set A q2)) := by rw [hw4, hval]; exact own_set hrow3 HN.out A q q2 HQ.out.1 hq21
      have k34 : Kept (OneB g) w3 w4 := by rw [hw4]; exact Kept.setCell (S := OneB g) (p := ⟨g, A * 2 + 1, none⟩) (Kept.refl _ w3) (.inl rfl) _
      have k4 : Kept (OwnB (.slice (some ⟨g, 0, none⟩) n c)) w w4 := (h3.out.2.2.dom).trans (k34.mono (fun j _ e => by have e : j = g := e; rw [e]; rfl))
      have b4 : w4.ownsRow 0 5 1 (.slice ao P cap) P (bc (q.1.2.take P)) := k34.row h3.out.1 (fun j hj e => by
        have e : j = g := e
        have h1 := h3.out.2.1 j hj
        have h2 := (HOwn.out.lt g rfl).2
        omega)
      have HDl := Lib.hid (HDl.out w4 q2 o4 k4)
      have H4 := Lib.hid (⟨o4, k4, b4, hq2⟩ : _ ∧ _ ∧ _ ∧ _)
      have HW4 := Lib.hid hw4
      clear o4 k4 b4 hq2 hw4 hrow3 hval hq21 k34 k3a k3b k3c
      rw [← HW4.out]
      have d4 : w4.cell? ⟨D, 13, none⟩ = some (.slice (some ⟨g, 0, none⟩) n c) := by rw [obj_cell (H4.out.2.1.obj HAll.out.1 (fun e => row2_ne HOwn.out HAll.out.1 (by decide) D e rfl)), hCs.out]
      clear d13 z0 z1
      have hAw : IntKind.i64.wrap ((A : Int) + 1) = (A : Int) + 1 := by rw [IntKind.wrap_i64]; omega
      go_upto_region 8 with (first | (go_at_call 31; refine HDl.out.mono ?_; rintro e w5 ⟨rfl, h5⟩; (have o5 : w5.heap[D]? = some (.cells cs 50 (0, 0)) := h5.out.2.2.obj HAll.out.1 (fun e => row2_ne HOwn.out HAll.out.1 (by decide) D e rfl)); (have c5 := obj_cell o5 13); (rw [hCs.out] at c5); (have f5 := obj_free o5 13); have HO5 := Lib.hid o5; clear o5) | fail)
      have hm4 : (qs.take A ++ [q2]).map Prod.fst = cutP l s := by
        rw [HLe.out, HQ.out.2.2.2.2.2.2.2, List.map_append, H4.out.2.2.2]
        show _ ++ [(z, q.1.2.take P)] = _
        rw [HQ.out.2.2.2.2.2.1, HQ.out.2.1]
      have hl4 : A + 1 = (qs.take A ++ [q2]).length := by rw [List.length_append, List.length_take, ← HN.out]; simp; omega
      have hq2b : ∀ j, pcB q2 = some j → w.heap.size ≤ j := fun j hj => by
        refine h3.out.2.1 j ?_
        rw [← hj, H4.out.2.2.2]
        show _ = (Value.slice ao (q.1.2.take P).length cap).ownBlock
        rw [HQ.out.2.2.2.2.2.2.1]
      have e4 := HEnd.out w5 _ (qs.take A ++ [q2]) (A + 1) h5.out.2.2 rfl hm4 hl4 h5.out.1 (fun x hx => by
        rcases List.mem_append.1 hx with h | h
        · exact .inl (List.mem_of_mem_take h)
        · right
          rw [List.mem_singleton] at h
          subst h
          refine ⟨?_, hq2b⟩
          have := h5.out.2.1.row H4.out.2.2.1 (fun j hj e => by
            have h1 := h3.out.2.1 j hj
            have h2 := (HOwn.out.lt j e).2
            omega)
          rw [H4.out.2.2.2]
          show w5.ownsRow 0 _ 1 (.slice ao (q.1.2.take P).length cap) (q.1.2.take P).length (bc (q.1.2.take P))
          rw [HQ.out.2.2.2.2.2.2.1]
          exact this) (by
        rw [List.pairwise_append]
        refine ⟨HAll.out.2.1.apart.sublist (List.take_sublist _ _), List.pairwise_singleton _ _, fun x hx y hy j hj e => ?_⟩
        rw [List.mem_singleton] at hy
        subst hy
        have h1 := hq2b j e
        have h2 := ((HAll.out.2.1.each x (List.mem_of_mem_take hx)).lt j hj).2
        omega)
      have HM4 := Lib.hid hm4
      have HL4 := Lib.hid hl4
      generalize w5.setCell ⟨D, 13, none⟩ (.slice (some ⟨g, 0, none⟩) (A + 1) c) = w6 at e4 ⊢
      have d6 : w6.cell? ⟨D, 13, none⟩ = some (.slice (some ⟨g, 0, none⟩) (A + 1) c) := by rw [obj_cell e4.2.1, Array.getElem?_setIfInBounds_self_of_lt (Array.getElem?_eq_some_iff.1 hCs.out).1]
      have HSn := Lib.hid (HSn.out w6 (qs.take A ++ [q2]) e4.1 hm4)
      rw [← hl4] at HSn
      have HE4 := Lib.hid e4
      clear e4 hm4 hl4 c5 f5 hq2b d4
      go_wp2_with (go_at_call 28; refine HSn.out.mono ?_; rintro e w7 ⟨rfl, hk7⟩)
      go_ret
      rw [HS1.out]
      exact HFin.out w6 w7 (qs.take A ++ [q2]) (A + 1) hk7 HM4.out HL4.out HE4.out
  · have hgd : ((A : Int) < (n : Int)) → ∃ g z, a = some ⟨g, 0, none⟩ ∧ w.cell? ⟨g, A * 2, none⟩ = some (.int .i64 z) ∧ ¬ z < s := fun hlt => by
      obtain ⟨g, rfl⟩ : ∃ g, a = some ⟨g, 0, none⟩ := by
        rcases hown.2 with ⟨h1, h2⟩ | ⟨g, cc, cur, h1, _⟩
        · omega
        · simp only [Value.slice.injEq] at h1; exact ⟨g, h1.1⟩
      have hq : qs[A]? = some (qs[A]'(by omega)) := List.getElem?_eq_getElem (by omega)
      refine ⟨g, (qs[A]'(by omega)).1.1, rfl, ?_, hno _ hq⟩
      have := hown.cells (g := g) rfl _ _ (fcells_at2 qs A _ hq).1
      rw [Addr.add_lit, Nat.zero_add] at this
      exact this
    have HDl : Hid (∀ W, Kept NoB w W → Calls Try.prog 31 #[.slice a n c, .int .i64 (A : Int), .int .i64 (n : Int)] W fun e w' => e = .returned (.slice a A c) ∧ Hid (w'.ownsRow 0 43 2 (.slice a A c) A (fcells (qs.take A)) ∧ Kept (OwnB (.slice a n c)) w w')) := Lib.hid (fun W hW => by
      have := delete_any a n c A qs W hn (hW.row hown (fun _ _ e => e)) hAn hlen
      refine this.mono ?_
      rintro e w' ⟨rfl, h1, h2⟩
      exact ⟨rfl, Lib.hid ⟨h1, hW.dom.trans h2⟩⟩)
    have HGd := Lib.hid hgd
    have HCut := Lib.hid hcut
    clear hgd hno hcut hr hl hle hll hn hown hd hD h13 hA hS0 hS1 hx hcap hol
    go_enter Try.func19, Try.ntmps19
    go_wp2_with fail
    refine HSz.out.mono ?_
    rintro e w1 ⟨rfl, hk1⟩
    go_wp2_with fail
    refine (HAf.out _ hk1).mono ?_
    rintro e w2 ⟨rfl, hk2⟩
    have hk12 := hk1.trans hk2
    have HK2 := Lib.hid hk12
    have d13 := hk12.cell c13
    clear hk1 hk2 hk12 HSz HAf c13
    by_cases hlt : (A : Int) < (n : Int)
    · obtain ⟨g, z, rfl, hz, hzs⟩ := HGd.out hlt
      have hz2 := HK2.out.cell hz
      clear hz
      go_upto_region 7 with fail
      have HDl := Lib.hid (HDl.out _ HK2.out)
      go_upto_region 8 with (first | (go_at_call 31; refine HDl.out.mono ?_; rintro e w3 ⟨rfl, h3⟩; (have o3 : w3.heap[D]? = some (.cells cs 50 (0, 0)) := h3.out.2.obj HAll.out.1 (fun e => row2_ne HOwn.out HAll.out.1 (by decide) D e rfl)); (have c3 := obj_cell o3 13); (rw [hCs.out] at c3); (have f3 := obj_free o3 13); have HO3 := Lib.hid o3; clear o3) | fail)
      have hm4 : (qs.take A).map Prod.fst = cutP l s := by rw [HLe.out]; exact HCut.out.symm
      have hl4 : A = (qs.take A).length := by rw [List.length_take, ← HN.out]; omega
      have e4 := HEnd.out w3 _ (qs.take A) A h3.out.2 rfl hm4 hl4 h3.out.1 (fun q hq => .inl (List.mem_of_mem_take hq)) (HAll.out.2.1.apart.sublist (List.take_sublist _ _))
      have HM4 := Lib.hid hm4
      have HL4 := Lib.hid hl4
      generalize w3.setCell ⟨D, 13, none⟩ (.slice (some ⟨g, 0, none⟩) A c) = w4 at e4 ⊢
      have d4 : w4.cell? ⟨D, 13, none⟩ = some (.slice (some ⟨g, 0, none⟩) A c) := by rw [obj_cell e4.2.1, Array.getElem?_setIfInBounds_self_of_lt (Array.getElem?_eq_some_iff.1 hCs.out).1]
      have HSn := Lib.hid (HSn.out w4 (qs.take A) e4.1 hm4)
      rw [← hl4] at HSn
      have HE4 := Lib.hid e4
      clear e4 hm4 hl4 c3 f3
      go_wp2_with (go_at_call 28; refine HSn.out.mono ?_; rintro e w5 ⟨rfl, hk5⟩)
      go_ret
      rw [HS1.out]
      exact HFin.out w4 w5 (qs.take A) A hk5 HM4.out HL4.out HE4.out
    · have hlt2 : (n : Int) ≤ (A : Int) := by omega
      go_upto_region 7 with fail
      have HDl := Lib.hid (HDl.out _ HK2.out)
      go_upto_region 8 with (first | (go_at_call 31; refine HDl.out.mono ?_; rintro e w3 ⟨rfl, h3⟩; (have o3 : w3.heap[D]? = some (.cells cs 50 (0, 0)) := h3.out.2.obj HAll.out.1 (fun e => row2_ne HOwn.out HAll.out.1 (by decide) D e rfl)); (have c3 := obj_cell o3 13); (rw [hCs.out] at c3); (have f3 := obj_free o3 13); have HO3 := Lib.hid o3; clear o3) | fail)
      have hm4 : (qs.take A).map Prod.fst = cutP l s := by rw [HLe.out]; exact HCut.out.symm
      have hl4 : A = (qs.take A).length := by rw [List.length_take, ← HN.out]; omega
      have e4 := HEnd.out w3 _ (qs.take A) A h3.out.2 rfl hm4 hl4 h3.out.1 (fun q hq => .inl (List.mem_of_mem_take hq)) (HAll.out.2.1.apart.sublist (List.take_sublist _ _))
      have HM4 := Lib.hid hm4
      have HL4 := Lib.hid hl4
      generalize w3.setCell ⟨D, 13, none⟩ (.slice a A c) = w4 at e4 ⊢
      have d4 : w4.cell? ⟨D, 13, none⟩ = some (.slice a A c) := by rw [obj_cell e4.2.1, Array.getElem?_setIfInBounds_self_of_lt (Array.getElem?_eq_some_iff.1 hCs.out).1]
      have HSn := Lib.hid (HSn.out w4 (qs.take A) e4.1 hm4)
      rw [← hl4] at HSn
      have HE4 := Lib.hid e4
      clear e4 hm4 hl4 c3 f3
      go_wp2_with (go_at_call 28; refine HSn.out.mono ?_; rintro e w5 ⟨rfl, hk5⟩)
      go_ret
      rw [HS1.out]
      exact HFin.out w4 w5 (qs.take A) A hk5 HM4.out HL4.out HE4.out
end Go.Proofs.Ytjjgadanobeamaa

namespace Go.Proofs.Ytjjgadanobeamaa
open Go.RowKit
set_option linter.unusedVariables false
set_option linter.unusedSimpArgs false
set_option maxRecDepth 20000

theorem cut_inside {l : List Fp} (h : OkD l) (s : Int) : ∀ p ∈ cutP l s, endP p ≤ s := by
  intro p hp
  unfold cutP at hp
  rcases List.mem_append.1 hp with h1 | h1
  · have := mem_tw h1; simpa using this
  · split at h1
    · rename_i q t _
      split at h1
      · rename_i hq
        rw [List.mem_singleton] at h1
        subst h1
        unfold endP
        simp only [List.length_take]
        omega
      · cases h1
    · cases h1
theorem cut_size (l : List Fp) (s : Int) : sizeD (cutP l s) ≤ sizeD l := by
  have h1 : l = l.takeWhile (fun p => decide (endP p ≤ s)) ++ l.dropWhile (fun p => decide (endP p ≤ s)) := (List.takeWhile_append_dropWhile).symm
  have h2 := congrArg sizeD h1
  rw [sizeD_append] at h2
  unfold cutP
  rw [sizeD_append]
  cases hq : l.dropWhile (fun p => decide (endP p ≤ s)) with
  | nil => rw [hq] at h2; simp only; omega
  | cons q t =>
    rw [hq, sizeD_cons] at h2
    simp only
    split
    · rw [sizeD_cons]
      simp only [List.length_take]
      have : sizeD [] = 0 := rfl
      omega
    · have : sizeD [] = 0 := rfl
      omega
def grN (n : NdP) (c s : Int) : NdP := { n with data := cutP n.data s, v := { n.v with size := s, change := c } }
def growT (T : FsP) (i : Int) (n : NdP) (s : Int) : FsP :=
  { T with clock := T.clock + 1, used := T.used - ((sizeD n.data : Int) - (sizeD (cutP n.data s) : Int)), nd := updN T.nd i (some (grN n (T.clock + 1) s)) }
def growP (T : FsP) (i s : Int) : FsP × Int :=
  match T.nd i with
  | none => (T, 10)
  | some n => if n.v.kind = 1 then (if s < 0 ∨ 1099511627776 < s then (T, 1) else (growT T i n s, 0)) else (T, 13)
theorem growT_ok {T : FsP} (h : OkT T) {i : Int} {n : NdP} (hn : T.nd i = some n) (h1 : n.v.kind = 1) (s : Int) (hs : 0 ≤ s ∧ s ≤ 1099511627776) : OkT (growT T i n s) := by
  have on := h.node i n hn
  have hc := cut_size n.data s
  refine same_ok h hn rfl rfl rfl rfl (cut_ok on.data s hs.1) (fun e => absurd h1 e) (cut_inside on.data s) hs rfl on.mode on.user on.group on.time ⟨rfl, rfl, rfl⟩ ?_ ?_
  · show T.used - ((sizeD n.data : Int) - (sizeD (cutP n.data s) : Int)) + (sizeD n.data : Nat) = T.used + (sizeD (cutP n.data s) : Nat)
    omega
  · have := h.room
    omega
theorem growP_no {T : FsP} {i s : Int} (h : fileE T i ≠ 0) : growP T i s = (T, fileE T i) := by
  unfold growP fileE at *
  cases hn : T.nd i with
  | none => rfl
  | some n =>
    rw [hn] at h
    simp only at h ⊢
    by_cases h1 : n.v.kind = 1
    · rw [if_pos h1] at h; exact absurd rfl h
    · rw [if_neg h1, if_neg h1]
theorem growP_yes {T : FsP} {i s : Int} {n : NdP} (hn : T.nd i = some n) (h1 : n.v.kind = 1) : growP T i s = if s < 0 ∨ 1099511627776 < s then (T, 1) else (growT T i n s, 0) := by
  unfold growP
  rw [hn]
  simp only
  rw [if_pos h1]

set_option maxHeartbeats 4000000 in
theorem grow_any {S : Nat → Prop} {w : World} {f : Nat} {T : FsP} (h : FsSt S w f T) (i : Int) (hi : -9223372036854775808 ≤ i ∧ i ≤ 9223372036854775807) (s : Int) (hs : -9223372036854775808 ≤ s ∧ s ≤ 9223372036854775807) (hclk : T.clock + 1 ≤ 4611686018427387904) (hquo : T.quota ≤ 4611686018427387904) :
    Calls Try.prog 7 #[.pointer (some ⟨f, 0, none⟩), .int .i64 i, .int .i64 s] w fun e w' =>
      e = .returned (.int .i64 (growP T i s).2) ∧ FsSt (Grow S w w') w' f (growP T i s).1 ∧ Kept S w w' := by
  obtain ⟨L, B, mb, h⟩ := h
  have HP := Lib.hid (file_in h i hi)
  have same : ∀ w', Kept NoB w w' → FsSt (Grow S w w') w' f T ∧ Kept S w w' := fun w' hk => ⟨⟨L, B, mb, (h.keptNo hk).mono (fun k e => .inl e)⟩, hk.mono (fun k _ e => e.elim)⟩
  by_cases hp : fileE T i = 0
  rotate_left
  · rw [if_neg hp, ptrV_none] at HP
    rw [growP_no hp]
    obtain ⟨z, hz⟩ : ∃ z, z = fileE T i := ⟨_, rfl⟩
    rw [← hz] at hp HP ⊢
    have hz2 : (z == 0) = false := by simpa using hp
    have HSm := Lib.hid same
    clear hz h hp same
    go_enter Try.func7, Try.ntmps7
    go_wp2_with fail
    refine HP.out.mono ?_
    rintro e w2 ⟨rfl, hk2⟩
    go_wp2
    go_ret
    exact ⟨rfl, HSm.out _ hk2⟩
  obtain ⟨n, hn, h1⟩ := fileE_file hp
  rw [growP_yes hn h1]
  rw [if_pos hp, hp] at HP
  obtain ⟨D, m, a, c, qs, hB, hN⟩ := h.at hn
  rw [hB, ptrV_some] at HP
  by_cases hbad : s < 0 ∨ 1099511627776 < s
  · rw [if_pos hbad]
    have HSm := Lib.hid same
    clear h hp same hN hB
    go_enter Try.func7, Try.ntmps7
    by_cases hb1 : s < 0
    · go_wp2_with fail
      refine HP.out.mono ?_
      rintro e w2 ⟨rfl, hk2⟩
      go_wp2
      go_ret
      exact ⟨rfl, HSm.out _ hk2⟩
    · have hb2 : 1099511627776 < s := by omega
      go_wp2_with fail
      refine HP.out.mono ?_
      rintro e w2 ⟨rfl, hk2⟩
      go_wp2
      go_ret
      exact ⟨rfl, HSm.out _ hk2⟩
  rw [if_neg hbad]
  have hs0 : 0 ≤ s ∧ s ≤ 1099511627776 := by omega
  have HA := Lib.hid (⟨h, hN, hB, hn, h1⟩ : _ ∧ _ ∧ _ ∧ _ ∧ _)
  have HCk := Lib.hid h.ok.clock
  have HU := Lib.hid (⟨h.ok.used, h.ok.room, h.ok.quota⟩ : _ ∧ _ ∧ _)
  have HOn := Lib.hid (h.ok.node i n hn)
  have hl1 : s < 0 ↔ False := by simp; omega
  clear h hp same hN hB hn hbad h1 hl1
  go_enter Try.func7, Try.ntmps7
  have hb1 : ¬ s < 0 := by omega
  have hb2 : ¬ 1099511627776 < s := by omega
  go_wp2_with fail
  refine HP.out.mono ?_
  rintro e wn ⟨rfl, hkw⟩
  have HKw := Lib.hid hkw
  clear hkw HP
  go_upto_region 6 with fail
  -- the clock
  have hn3 : FsIn L B mb S wn f T := HA.out.1.keptNo HKw.out
  have hN3 : NdSt L i wn D n m a c qs := HA.out.2.1.kept HKw.out (fun _ _ e => e) (fun _ _ e => e) (fun _ _ e => e) (fun _ _ e => e)
  have HTk := Lib.hid (tick_any (w := wn) (f := f) (fc := (fsC mb T).toArray) (c := T.clock) [] (fun _ => #[]) none 0 hn3.obj rfl ⟨HCk.out, by omega⟩ (fun i hi => absurd hi (by simp)) (fun x hx => by simp at hx) (by simp))
  have HI3 := Lib.hid hn3; have HN3 := Lib.hid hN3
  clear hn3 hN3
  go_wp2_with fail
  refine HTk.out.mono ?_
  rintro e w3 ⟨rfl, o3, _, k3, s3⟩
  have o3' : w3.heap[f]? = some (.cells (fsC mb { T with clock := T.clock + 1 }).toArray 53 (0, 0)) := o3
  have k3' : Kept (OneB f) wn w3 := k3.mono (fun j _ e => by rcases e with e | e; exact e; simp at e)
  have hlf := HI3.out.labf
  have N3 : NdSt L i w3 D n m a c qs := HN3.out.kept k3' (fun j e hj => by rw [hj, hlf] at e; cases e) (fun j e hj => by rw [hj, hlf] at e; cases e) (fun j e hj => by rw [hj, hlf] at e; cases e) (fun j e hj => by rw [hj, hlf] at e; cases e)
  have hSl : ∀ j x, L j = x → x ≠ .no → S j ∧ j < w.heap.size := fun j x => HA.out.1.low
  have hlen : n.data.length = qs.length := N3.dat.len
  have hdat : DatO w3 a c qs := ⟨by have := N3.dat.own; rw [hlen] at this; exact this, N3.dat.each, N3.dat.apart⟩
  have hbyt : ∀ j, BytB qs j → L j = .byt i := fun j ⟨q, hq, hj⟩ => N3.dat.labs q hq j hj
  have hrow : ∀ j, (Value.slice a qs.length c).ownBlock = some j → L j = .row i := fun j hj => N3.dat.lab j (by rw [hlen]; exact hj)
  have hlD := N3.lab
  have HCut : Hid (∀ W, Kept NoB w3 W → Calls Try.prog 19 #[.pointer (some ⟨D, 13, none⟩), .int .i64 s] W (CutR W D (ndC n m a c).toArray a c qs s)) := Lib.hid (fun W hW =>
    cut_any D (ndC n m a c).toArray a c qs s W (hW.obj N3.obj id) (by simp [ndC, nvC, hlen]) ⟨hW.row hdat.own (fun _ _ e => e), fun q hq => hW.row (hdat.each q hq) (fun _ _ e => e), hdat.apart⟩ (by rw [N3.data]; exact HOn.out.data)
      (fun j hj e => by have h9 := hbyt j hj; rw [e, hlD] at h9; cases h9) hs0)
  obtain ⟨us, huse⟩ : ∃ us, us = T.used := ⟨_, rfl⟩
  obtain ⟨S0, hS0⟩ : ∃ S0, S0 = sizeD n.data := ⟨_, rfl⟩
  obtain ⟨S1, hS1⟩ : ∃ S1, S1 = sizeD (cutP n.data s) := ⟨_, rfl⟩
  have hdd := N3.data
  have HSb : 0 ≤ us ∧ us ≤ 4611686018427387904 ∧ S0 ≤ 1099511627776 ∧ S1 ≤ S0 := by
    have h1 := (ok_len HOn.out.data).2
    have h2 := cut_size n.data s
    have h3 := HU.out.1
    have h4 := HU.out.2.1
    omega
  have hfD : D ≠ f := fun e => by rw [e, hlf] at hlD; cases hlD
  have f3 : ∀ W, Kept NoB w3 W → W.cell? ⟨f, 3, none⟩ = some (.int .i64 us) := fun W hW => by rw [obj_cell (hW.obj o3' id), huse]; rfl
  have HQ := Lib.hid (⟨N3, hSl, hlen, hdat, hbyt, hrow, hlD, hdd, hfD, k3', o3', huse, hS0, hS1⟩ : _ ∧ _ ∧ _ ∧ _ ∧ _ ∧ _ ∧ _ ∧ _ ∧ _ ∧ _ ∧ _ ∧ _ ∧ _ ∧ _)
  have hf3 := f3 w3 (Kept.refl _ _)
  clear o3 k3 s3 o3' k3' N3 hSl hlen hdat hbyt hrow hlD hdd HTk hlf huse hS0 hS1
  go_upto_region 7 with fail
  have HCut := Lib.hid (HCut.out w3.drew (Kept.refl _ _).drew)
  have HF4 : Hid (∀ W e, CutR w3.drew D (ndC n m a c).toArray a c qs s e W → e = .returned (.int .i64 ((S0 : Int) - (S1 : Int))) ∧ W.cell? ⟨f, 3, none⟩ = some (.int .i64 us) ∧ W.frozen? ⟨f, 3, none⟩ = false) := Lib.hid (fun W e hc => by
    obtain ⟨N3, hSl, hlen, hdat, hbyt, hrow, hlD, hdd, hfD, k3', o3', huse, hS0, hS1⟩ := HQ.out
    obtain ⟨he, a', c', qs', e1, e2, e3, e4, e5, e6⟩ := hc
    have hlf := HI3.out.labf
    have o4 : W.heap[f]? = some (.cells (fsC mb { T with clock := T.clock + 1 }).toArray 53 (0, 0)) := e6.obj (show w3.drew.heap[f]? = _ from o3') (fun e => by
      rcases e with e | e | e
      · exact hfD e.symm
      · have := hrow f e; rw [hlf] at this; cases this
      · have := hbyt f e; rw [hlf] at this; cases this)
    refine ⟨by rw [he, hdd, hS0, hS1], by rw [obj_cell o4, huse]; rfl, obj_free o4 3⟩)
  go_region_law (first
    | (go_simp; go_at_call 19; (with_reducible refine HCut.out.mono ?_); rintro e w4 hc4; have hq4 := HF4.out w4 e hc4; obtain ⟨rfl, c4, g4⟩ := hq4))
  all_goals go_simp
  all_goals
    obtain ⟨he4, a', c', qs', e1, e2, e3, e4, e5, e6⟩ := hc4
    obtain ⟨N3, hSl, hlen, hdat, hbyt, hrow, hlD, hdd, hfD, k3', o3', huse, hS0, hS1⟩ := HQ.out
    clear he4
    have hlf := HI3.out.labf
    have o4 : w4.heap[f]? = some (.cells (fsC mb { T with clock := T.clock + 1 }).toArray 53 (0, 0)) := e6.obj (show w3.drew.heap[f]? = _ from o3') (fun e => by
      rcases e with e | e | e
      · exact hfD e.symm
      · have := hrow f e; rw [hlf] at this; cases this
      · have := hbyt f e; rw [hlf] at this; cases this)
    rw [hdd] at e1
    have hl' : qs'.length = (cutP n.data s).length := by rw [← e1]; simp
    have n4 : w4.heap[D]? = some (.cells (ndC { n with data := cutP n.data s } m a' c').toArray 50 (0, 0)) := by
      rw [e2, hl']; rfl
    obtain ⟨w5, hw5⟩ : ∃ w5, w5 = w4.setCell ⟨f, 3, none⟩ (.int .i64 (us - ((S0 : Int) - (S1 : Int)))) := ⟨_, rfl⟩
    have o5 : w5.heap[f]? = some (.cells (fsC mb { T with clock := T.clock + 1, used := us - ((S0 : Int) - (S1 : Int)) }).toArray 53 (0, 0)) := by rw [hw5]; exact obj_set o4 3 _
    have n5 : w5.heap[D]? = some (.cells (ndC { n with data := cutP n.data s } m a' c').toArray 50 (0, 0)) := by rw [hw5, Below.heap_setCell _ _ _ _ hfD]; exact n4
    have k5 : Kept (OneB f) w4 w5 := by rw [hw5]; exact kept_one _ _ _ _
    have f8 : w5.cell? ⟨D, 8, none⟩ = some (.int .i64 n.v.size) := by rw [obj_cell n5]; rfl
    have g8 := obj_free n5 8
    obtain ⟨w6, hw6⟩ : ∃ w6, w6 = w5.setCell ⟨D, 8, none⟩ (.int .i64 s) := ⟨_, rfl⟩
    have o6 : w6.heap[f]? = some (.cells (fsC mb { T with clock := T.clock + 1, used := us - ((S0 : Int) - (S1 : Int)) }).toArray 53 (0, 0)) := by rw [hw6, Below.heap_setCell _ _ _ _ hfD.symm]; exact o5
    have n6 : w6.heap[D]? = some (.cells (ndC { n with data := cutP n.data s, v := { n.v with size := s } } m a' c').toArray 50 (0, 0)) := by rw [hw6]; exact obj_set n5 8 _
    have k6 : Kept (OneB D) w5 w6 := by rw [hw6]; exact kept_one _ _ _ _
    obtain ⟨cl, hcl⟩ : ∃ cl, cl = T.clock + 1 := ⟨_, rfl⟩
    have f4 : w6.cell? ⟨f, 4, none⟩ = some (.int .i64 cl) := by rw [obj_cell o6, hcl]; rfl
    have g10 := obj_free n6 10
    have f10 : w6.cell? ⟨D, 10, none⟩ = some (.int .i64 n.v.change) := by rw [obj_cell n6]; rfl
    obtain ⟨w7, hw7⟩ : ∃ w7, w7 = w6.setCell ⟨D, 10, none⟩ (.int .i64 cl) := ⟨_, rfl⟩
    have o7 : w7.heap[f]? = some (.cells (fsC mb { T with clock := T.clock + 1, used := us - ((S0 : Int) - (S1 : Int)) }).toArray 53 (0, 0)) := by rw [hw7, Below.heap_setCell _ _ _ _ hfD.symm]; exact o6
    have n7 : w7.heap[D]? = some (.cells (ndC { n with data := cutP n.data s, v := { n.v with size := s, change := cl } } m a' c').toArray 50 (0, 0)) := by rw [hw7]; exact obj_set n6 10 _
    have k7 : Kept (OneB D) w6 w7 := by rw [hw7]; exact kept_one _ _ _ _
    have hfin : Hid (FsSt (Grow S w w7) w7 f (growT T i n s) ∧ Kept S w w7) := Lib.hid (by
      obtain ⟨h, hN, hB, hn, h1⟩ := HA.out
      have hk03 : Kept (OneB f) w w3 := HKw.out.dom.trans k3'
      have sw : w.heap.size ≤ w3.heap.size := hk03.size
      have hlt : f < w.heap.size ∧ D < w.heap.size := ⟨(hSl f _ hlf (by simp)).2, (hSl D _ hlD (by simp)).2⟩
      have k47 : Kept (fun j => j = f ∨ j = D) w4 w7 := ((k5.mono (fun j _ e => .inl e)).trans (k6.mono (fun j _ e => .inr e))).trans (k7.mono (fun j _ e => .inr e))
      have e6' : Kept (fun j => j = D ∨ (Value.slice a qs.length c).ownBlock = some j ∨ BytB qs j) w3 w4 := (Kept.refl _ w3).drew.trans e6
      have k07 : Kept (fun j => j = f ∨ j = D ∨ (Value.slice a qs.length c).ownBlock = some j ∨ BytB qs j) w w7 :=
        ((hk03.mono (fun j _ e => .inl e)).trans (e6'.mono (fun j _ e => .inr e))).trans (k47.mono (fun j _ e => by rcases e with e | e; exact .inl e; exact .inr (.inl e)))
      have hrow2 : ∀ j, (Value.slice a' qs'.length c').ownBlock = some j → L j = .row i ∨ w.heap.size ≤ j := fun j hj => by
        rcases e4 j hj with e | e
        · exact .inl (hrow j e)
        · right
          have e : w3.heap.size ≤ j := e
          omega
      have hbyt2 : ∀ j, BytB qs' j → L j = .byt i ∨ w.heap.size ≤ j := fun j hj => by
        rcases e5 j hj with e | e
        · exact .inl (hbyt j e)
        · right
          have e : w3.heap.size ≤ j := e
          omega
      have hrow4 : ∀ j, (Value.slice a' qs'.length c').ownBlock = some j → ¬ (j = f ∨ j = D) := fun j hj e => by
        rcases hrow2 j hj with h2 | h2
        · rcases e with e | e
          · rw [e, hlf] at h2; cases h2
          · rw [e, hlD] at h2; cases h2
        · omega
      have hbyt4 : ∀ j, BytB qs' j → ¬ (j = f ∨ j = D) := fun j hj e => by
        rcases hbyt2 j hj with h2 | h2
        · rcases e with e | e
          · rw [e, hlf] at h2; cases h2
          · rw [e, hlD] at h2; cases h2
        · omega
      have hok := growT_ok h.ok hn h1 s hs0
      refine data_done (n' := grN n (T.clock + 1) s) h hB hN hok rfl rfl rfl rfl k07 (fun j hj _ => ?_) ?_ ?_ ⟨k47.row e3.own hrow4, fun q hq => k47.row (e3.each q hq) (fun j hj => hbyt4 j ⟨q, hq, hj⟩), e3.apart⟩ e1 hrow2 hbyt2
      · rcases hj with e | e | e | e
        · exact .inl e
        · exact .inr (.inl e)
        · exact .inr (.inr (.inl (hrow j e)))
        · exact .inr (.inr (.inr (hbyt j e)))
      · rw [huse, hS0, hS1] at o7; exact o7
      · rw [hcl] at n7; exact n7)
    have HW5 := Lib.hid hw5; have HW6 := Lib.hid hw6; have HW7 := Lib.hid hw7
    have HCl2 := Lib.hid hcl
    clear hw5 hw6 hw7 o4 o5 o6 o7 n4 n5 n6 n7 k5 k6 k7 hcl hfD e1 e2 e3 e4 e5 e6 hl' hlf hlD N3 hSl hlen hdat hbyt hrow hdd k3' o3' huse hS0 hS1 c4 g4 hf3
    rw [show IntKind.i64.wrap (us - ((S0 : Int) - (S1 : Int))) = us - ((S0 : Int) - (S1 : Int)) by rw [IntKind.wrap_i64]; omega]
    rw [← HW5.out]
    go_upto_region 9 with fail
    rw [← HW6.out]
    clear f8 g8
    go_upto_region 10 with fail
    rw [← HW7.out]
    clear f4 g10 f10
    go_wp2
    go_ret
    exact ⟨rfl, hfin.out⟩
end Go.Proofs.Ytjjgadanobeamaa
