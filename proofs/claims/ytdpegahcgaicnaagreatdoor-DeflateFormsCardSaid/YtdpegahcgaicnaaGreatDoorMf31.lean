/-
  The document's own: TokenOk, Put.
  DeflateCounts: each symbol that tokens are told by is counted.
-/
import Derived.Test.YtdpegahcgaicnaaGreatDoorMf30
import Derived.Laws.Concat
namespace Go.Proofs.YtdpegahcgaicnaaGreatDoor
open Go.RowKit
set_option linter.unusedVariables false
set_option linter.unusedSimpArgs false

set_option maxHeartbeats 2000000 in
theorem refOk_any (t : Tk) (w : World) : Calls Tryz.prog 22 #[t.v] w fun e w' => e = .returned (.bool t.ok) ∧ Kept NoB w w' := by
  obtain ⟨l, d, c⟩ := t
  have hc0 : (w.alloc (.cells #[.int .i64 l, .int .i64 d, .int .u8 c] 32)).cell? ⟨w.heap.size, 0, none⟩ = some (.int .i64 l) := by rw [cell_new 0 rfl]; rfl
  have hc1 : (w.alloc (.cells #[.int .i64 l, .int .i64 d, .int .u8 c] 32)).cell? ⟨w.heap.size, 1, none⟩ = some (.int .i64 d) := by rw [cell_new 1 rfl]; rfl
  have hc2 : (w.alloc (.cells #[.int .i64 l, .int .i64 d, .int .u8 c] 32)).cell? ⟨w.heap.size, 2, none⟩ = some (.int .u8 c) := by rw [cell_new 2 rfl]; rfl
  have hk : Kept NoB w (w.alloc (.cells #[.int .i64 l, .int .i64 d, .int .u8 c] 32)) := (Kept.refl _ _).alloc _
  have HK := Lib.hid hk
  clear hk
  unfold Tk.v
  simp only []
  have hcase : (l = 0 ∧ d = 0) ∨ (l = 0 ∧ d ≠ 0) ∨ (l ≠ 0 ∧ ¬ 3 ≤ l) ∨ (l ≠ 0 ∧ 3 ≤ l ∧ ¬ l ≤ 258) ∨ (l ≠ 0 ∧ 3 ≤ l ∧ l ≤ 258 ∧ ¬ 1 ≤ d) ∨ (l ≠ 0 ∧ 3 ≤ l ∧ l ≤ 258 ∧ 1 ≤ d ∧ ¬ d ≤ 32768) ∨ (l ≠ 0 ∧ 3 ≤ l ∧ l ≤ 258 ∧ 1 ≤ d ∧ d ≤ 32768 ∧ c ≠ 0) ∨ (l ≠ 0 ∧ 3 ≤ l ∧ l ≤ 258 ∧ 1 ≤ d ∧ d ≤ 32768 ∧ c = 0) := by omega
  go_enter Tryz.func22, Tryz.ntmps22
  rcases hcase with ⟨h1, h2⟩ | ⟨h1, h2⟩ | ⟨h1, h2⟩ | ⟨h1, h2, h3⟩ | ⟨h1, h2, h3, h4⟩ | ⟨h1, h2, h3, h4, h5⟩ | ⟨h1, h2, h3, h4, h5, h6⟩ | ⟨h1, h2, h3, h4, h5, h6⟩
  · subst h1 h2
    go_wp2
    go_ret
    exact ⟨rfl, HK.out⟩
  · subst h1
    have g : (d == 0) = false := by simp; exact h2
    go_wp2
    go_ret
    exact ⟨by simp [Tk.ok, h2], HK.out⟩
  all_goals have g1 : (l == 0) = false := by simp; exact h1
  · go_wp2
    go_ret
    exact ⟨by rw [tok_no l d c h1 (by omega)]; rfl, HK.out⟩
  · go_wp2
    go_ret
    exact ⟨by rw [tok_no l d c h1 (by omega)]; rfl, HK.out⟩
  · go_wp2
    go_ret
    exact ⟨by rw [tok_no l d c h1 (by omega)]; rfl, HK.out⟩
  · go_wp2
    go_ret
    exact ⟨by rw [tok_no l d c h1 (by omega)]; rfl, HK.out⟩
  · have g : (c == 0) = false := by simp; exact h6
    go_wp2
    go_ret
    exact ⟨by rw [tok_no l d c h1 (by omega)]; rfl, HK.out⟩
  · subst h6
    go_wp2
    go_ret
    exact ⟨by simp [Tk.ok, h1, h2, h3, h4, h5], HK.out⟩


theorem ownM_ne {w : World} {v : Value} {bs : List Int} (h : OwnM w v bs) {X : Nat} {cs : Array Value} {t : TypeId} {fr : Nat × Nat} (hx : w.heap[X]? = some (.cells cs t fr)) (ht : t ≠ 5) : v.ownBlock ≠ some X := by
  intro e
  rcases h with ⟨rfl, _⟩ | ⟨g, cap, cur, fz, rfl, hg, _⟩
  · simp [Value.ownBlock] at e
  · simp [Value.ownBlock] at e
    subst e
    rw [hg] at hx
    simp at hx
    exact ht hx.2.1.symm

set_option maxHeartbeats 4000000 in
theorem refPut_no (t : Tk) (s : ByteArray) (n : Nat) (most : Int) (w : World) (hs : s.size = n) (hn : n ≤ 1000000) (ht : t.wf) (hm : -9223372036854775808 ≤ most ∧ most ≤ 9223372036854775807) (hno : t.no n most ≠ 0) :
    Calls Tryz.prog 26 #[.string s, t.v, .int .i64 most] w fun e w' => e = .returned (.tuple #[.string ⟨#[]⟩, .int .i64 (t.no n most)]) ∧ Kept NoB w w' := by
  have HOk := Lib.hid (fun w => refOk_any t w)
  obtain ⟨l, d, c⟩ := t
  obtain ⟨⟨hl1, hl2⟩, ⟨hd1, hd2⟩, hc⟩ := ht
  simp only at hl1 hl2 hd1 hd2
  have hk : Kept NoB w (w.alloc (.cells #[.int .i64 l, .int .i64 d, .int .u8 c] 32)) := (Kept.refl _ _).alloc _
  have HK := Lib.hid hk
  have hload : ∀ W : World, Kept NoB (w.alloc (.cells #[.int .i64 l, .int .i64 d, .int .u8 c] 32)) W → W.cell? ⟨w.heap.size, 0, none⟩ = some (.int .i64 l) ∧ W.cell? ⟨w.heap.size, 1, none⟩ = some (.int .i64 d) ∧ W.cell? ⟨w.heap.size, 2, none⟩ = some (.int .u8 c) := fun W hk =>
    ⟨hk.cell (by rw [cell_new 0 rfl]; rfl), hk.cell (by rw [cell_new 1 rfl]; rfl), hk.cell (by rw [cell_new 2 rfl]; rfl)⟩
  obtain ⟨a0, a1, a2⟩ := hload _ (Kept.refl _ _)
  have HLoad := Lib.hid hload
  have HNo := Lib.hid hno
  clear hk hload hc hno
  unfold Tk.v at HOk ⊢
  simp only [] at HOk ⊢
  go_enter Tryz.func26, Tryz.ntmps26
  go_wp2_with fail
  refine (HOk.out _).mono ?_
  rintro e w1 ⟨rfl, hk1⟩
  obtain ⟨b0, b1, b2⟩ := HLoad.out _ hk1
  have HK1 := Lib.hid (HK.out.trans hk1)
  clear hk1 a0 a1 a2 HLoad HK HOk
  cases hok : (Tk.mk l d c).ok with
  | false =>
    have e : (Tk.mk l d c).no n most = 1 := by unfold Tk.no; rw [if_pos hok]
    clear hok
    go_wp2
    go_ret2
    exact ⟨by rw [e]; rfl, HK1.out⟩
  | true =>
    have hlb : l ≤ 258 := by
      by_cases h : l = 0
      · omega
      · have := hok; unfold Tk.ok at this; rw [if_neg h] at this; exact (of_decide_eq_true this).2.1
    have hne : ¬ (Tk.mk l d c).ok = false := by rw [hok]; decide
    by_cases hd : (n : Int) < d
    · have e : (Tk.mk l d c).no n most = 4 := by unfold Tk.no; rw [if_neg hne, if_pos hd]
      clear hok hne
      go_wp2
      go_ret2
      exact ⟨by rw [e]; rfl, HK1.out⟩
    · by_cases hq : most < (n : Int) + (if l < 1 then 1 else l)
      · have e : (Tk.mk l d c).no n most = 5 := by unfold Tk.no; rw [if_neg hne, if_neg hd, if_pos hq]
        have E := Lib.hid e
        have hcase : most < (n : Int) ∨ (¬ most < (n : Int) ∧ l < 1 ∧ most - (n : Int) < 1) ∨ (¬ most < (n : Int) ∧ ¬ l < 1 ∧ most - (n : Int) < l) := by split at hq <;> omega
        clear hok hne e hq
        rcases hcase with g1 | ⟨g1, g2, g3⟩ | ⟨g1, g2, g3⟩
        all_goals
          go_wp2
          go_ret2
          exact ⟨by rw [E.out]; rfl, HK1.out⟩
      · exact absurd (show (Tk.mk l d c).no n most = 0 by unfold Tk.no; rw [if_neg hne, if_neg hd, if_neg hq]) HNo.out
end Go.Proofs.YtdpegahcgaicnaaGreatDoor

namespace Go.Proofs.YtdpegahcgaicnaaGreatDoor
open Go.RowKit
set_option linter.unusedVariables false
set_option linter.unusedSimpArgs false
set_option maxRecDepth 20000

theorem rlen_sym {n sy v : Nat} (h : (n = 258 ∧ sy = 285) ∨ (∃ i, i < 28 ∧ v < 2 ^ le4 i ∧ n = lb i + v ∧ n ≤ 257 ∧ sy = 257 + i)) (W : World) :
    Calls Tryz.prog 27 #[.int .i64 (n : Int)] W fun e w' => ∃ a b : Nat, e = .returned (.tuple #[.int .i64 (sy : Int), .int .i64 (a : Int), .int .u32 (b : Int)]) ∧ Kept NoB W w' := by
  have hb : 3 ≤ n ∧ n ≤ 258 := by
    rcases h with ⟨rfl, _⟩ | ⟨i, hi, hv, hn, hn2, _⟩
    · omega
    · have := lb_top i hi; omega
  refine (rlenSym_any n W hb).mono ?_
  rintro e w' ⟨k, hk, h1, h2, rfl, hk2⟩
  have e1 : 257 + k = sy := by
    have h28 : bX 28 = 258 := by decide
    rcases h with ⟨rfl, rfl⟩ | ⟨i, hi, hv, hn, hn2, rfl⟩
    · by_cases hk28 : k < 28
      · have := h2 28 hk28 (by omega); omega
      · omega
    · by_cases hk28 : k = 28
      · subst hk28; omega
      · have hk3 : k < 28 := by omega
        have hbi : bX i = lb i := by unfold bX; rw [if_pos hi]
        have hbk : bX k = lb k := by unfold bX; rw [if_pos hk3]
        by_cases c1 : k < i
        · have := h2 i c1 (by omega); omega
        · by_cases c2 : i < k
          · have := lb_next k hk3 i hi c2; omega
          · omega
  exact ⟨eX k, n - bX k, by rw [e1], hk2⟩
theorem rdist_sym {d j u : Nat} (hj : j < 30) (hu : u < 2 ^ de j) (hd : d = db j + u) (W : World) :
    Calls Tryz.prog 28 #[.int .i64 (d : Int)] W fun e w' => ∃ a b : Nat, e = .returned (.tuple #[.int .i64 (j : Int), .int .i64 (a : Int), .int .u32 (b : Int)]) ∧ Kept NoB W w' := by
  have ht := db_top j hj
  refine (rdistSym_any d W (by omega)).mono ?_
  rintro e w' ⟨k, hk, h1, h2, rfl, hk2⟩
  have e1 : k = j := by
    by_cases c1 : k < j
    · have := h2 j c1 (by omega); omega
    · by_cases c2 : j < k
      · have := db_next k (by omega) j hj c2; omega
      · omega
  subst e1
  exact ⟨de k, d - db k, rfl, hk2⟩
theorem doc_syms {t : Tk} (hcp : (∃ j u, j < 30 ∧ u < 2 ^ de j ∧ t = ⟨258, ((db j + u : Nat) : Int), 0⟩) ∨ (∃ i v j u, i < 28 ∧ v < 2 ^ le4 i ∧ lb i + v ≤ 257 ∧ j < 30 ∧ u < 2 ^ de j ∧ t = ⟨((lb i + v : Nat) : Int), ((db j + u : Nat) : Int), 0⟩)) :
    ∃ (n d sy j : Nat), t = ⟨(n : Int), (d : Int), 0⟩ ∧ 1 ≤ n ∧ sy < 286 ∧ j < 30 ∧ litSy t = sy ∧ distSy t = j ∧
    (∀ W, Calls Tryz.prog 27 #[.int .i64 (n : Int)] W fun e w' => ∃ a b : Nat, e = .returned (.tuple #[.int .i64 (sy : Int), .int .i64 (a : Int), .int .u32 (b : Int)]) ∧ Kept NoB W w') ∧
    (∀ W, Calls Tryz.prog 28 #[.int .i64 (d : Int)] W fun e w' => ∃ a b : Nat, e = .returned (.tuple #[.int .i64 (j : Int), .int .i64 (a : Int), .int .u32 (b : Int)]) ∧ Kept NoB W w') := by
  rcases hcp with ⟨j, u, hj, hu, rfl⟩ | ⟨i, v, j, u, hi, hv, hlv, hj, hu, rfl⟩
  · refine ⟨258, db j + u, 285, j, rfl, by decide, by decide, hj, rfl, ?_, rlen_sym (v := 0) (.inl ⟨rfl, rfl⟩), rdist_sym hj hu rfl⟩
    unfold distSy
    rw [Int.toNat_natCast]
    exact db_last hj hu
  · have h3 := lb_top i hi
    refine ⟨lb i + v, db j + u, 257 + i, j, rfl, by omega, by omega, hj, ?_, ?_, rlen_sym (v := v) (.inr ⟨i, hi, hv, rfl, hlv, rfl⟩), rdist_sym hj hu rfl⟩
    · unfold litSy
      rw [if_neg (by simp only; omega), if_neg (by simp only; omega), Int.toNat_natCast, lb_last hi hv]
    · unfold distSy
      rw [Int.toNat_natCast]
      exact db_last hj hu
theorem good_oks {ts : List Tk} (h : good 1048576 ts []) (j : Nat) (hj : j < ts.length) : (ts.getD j ⟨0, 0, 0⟩).ok = true := by
  have := good_at _ ts [] h j hj
  unfold Tk.no at this
  cases hok : (ts.getD j ⟨0, 0, 0⟩).ok with
  | true => rfl
  | false => rw [if_pos hok] at this; exact absurd this (by decide)
theorem OwnZ.rdI {w : World} {G n : Nat} {L : List Int} (h : OwnZ w G n L) (hl : L.length = n) : RdI w w.heap.size (some ⟨G, 0, none⟩) L := h.reads hl
end Go.Proofs.YtdpegahcgaicnaaGreatDoor
