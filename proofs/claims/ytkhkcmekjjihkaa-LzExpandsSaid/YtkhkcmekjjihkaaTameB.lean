/-
  Tame: tokens that may be, made of some.
-/
import Derived.Test.YtkhkcmekjjihkaaTame
namespace Go.Proofs.Ytkhkcmekjjihkaa
open Go.RowKit
set_option linter.unusedVariables false
set_option linter.unusedSimpArgs false

/-- What the made tokens are: few bytes each, and each may be put behind those ahead. -/
def TameS (ts : List Tk) (n : Nat) : Prop := AllT ts ∧ good 1048576 ts [] ∧ (putAll ts []).length = n ∧ n ≤ 52 * ts.length ∧ (0 < ts.length → 0 < n)
theorem tame_lit (ts : List Tk) (n : Nat) (c : Int) (h : TameS ts n) (hn : n ≤ 100000) (hc : 0 ≤ c ∧ c < 256) : TameS (ts ++ [⟨0, 0, c⟩]) (n + 1) := by
  obtain ⟨h1, h2, h3, h4, h5⟩ := h
  have hok : (Tk.mk 0 0 c).ok = true := by simp [Tk.ok]
  have hno : (Tk.mk 0 0 c).no (putAll ts []).length 1048576 = 0 := by
    unfold Tk.no; rw [if_neg (by rw [hok]; decide), if_neg (by simp only; omega), if_neg (by simp only; rw [h3]; omega)]
  refine ⟨?_, good_snoc _ _ _ _ h2 hno, ?_, by simp; omega, by simp⟩
  · intro t ht
    rcases List.mem_append.1 ht with ht | ht
    · exact h1 t ht
    · simp at ht; subst ht; unfold Tk.wf; simp only; omega
  · rw [putAll_snoc, put_len, h3]; rfl
theorem tame_copy (ts : List Tk) (n L D : Nat) (h : TameS ts n) (hn : n ≤ 100000) (hL : 3 ≤ L ∧ L ≤ 52) (hD : 1 ≤ D ∧ D ≤ n) (hD2 : D ≤ 32768) : TameS (ts ++ [⟨L, D, 0⟩]) (n + L) := by
  obtain ⟨h1, h2, h3, h4, h5⟩ := h
  have hl0 : ¬ ((L : Int) = 0) := by omega
  have hok : (Tk.mk L D 0).ok = true := by
    unfold Tk.ok
    rw [if_neg hl0]
    exact decide_eq_true ⟨(by omega : (3 : Int) ≤ L), (by omega : (L : Int) ≤ 258), (by omega : (1 : Int) ≤ D), (by omega : (D : Int) ≤ 32768), rfl⟩
  have hno : (Tk.mk L D 0).no (putAll ts []).length 1048576 = 0 := by
    unfold Tk.no; rw [if_neg (by rw [hok]; decide), if_neg (by simp only; omega), if_neg (by simp only; rw [h3, if_neg (by omega)]; omega)]
  refine ⟨?_, good_snoc _ _ _ _ h2 hno, ?_, by simp; omega, by simp; omega⟩
  · intro t ht
    rcases List.mem_append.1 ht with ht | ht
    · exact h1 t ht
    · simp at ht; subst ht; unfold Tk.wf; simp only; omega
  · rw [putAll_snoc, put_len, h3, if_neg hl0]; simp
theorem mask3 (n : Int) : bits .and .i64 n 3 = n % 4 := i64_mask n 2 (by decide)

theorem set3 {wr wa : World} {X : Nat} {a b c : Value} (hb : wa.heap[X]? = some (.cells #[a, b, c] 31 (0, 0))) (hk : Kept NoB wr wa) (hX : wr.heap.size ≤ X) (p q r : Value) :
    (((wa.setCell ⟨X, 0, none⟩ p).setCell ⟨X, 1, none⟩ q).setCell ⟨X, 2, none⟩ r).heap[X]? = some (.cells #[p, q, r] 31 (0, 0)) ∧ Kept NoB wr (((wa.setCell ⟨X, 0, none⟩ p).setCell ⟨X, 1, none⟩ q).setCell ⟨X, 2, none⟩ r) := by
  have h1 := obj_set hb 0 p
  have h2 := obj_set h1 1 q
  have h3 := obj_set h2 2 r
  exact ⟨by simpa using h3, Kept.setCell (p := ⟨X, 2, none⟩) (Kept.setCell (p := ⟨X, 1, none⟩) (Kept.setCell (p := ⟨X, 0, none⟩) hk (.inr hX) _) (.inr hX) _) (.inr hX) _⟩
/-- What Tame tells. -/
def Tamed (w : World) (M : Nat) (e : Ending) (w' : World) : Prop :=
  ∃ ao cap ts n, e = .returned (.slice ao ts.length cap) ∧ Hid (Toks w' ao ts) ∧ Hid (TameS ts n) ∧ ts.length ≤ M ∧ ts.length ≤ cap ∧ cap ≤ maxLen ∧ Hid (ao = none → cap = 0) ∧ Hid (Kept NoB w w')

set_option maxRecDepth 100000 in
set_option maxHeartbeats 4000000 in
theorem tame_any (ao : Option Addr) (cap len : Nat) (ts0 : List Tk) (M : Nat) (w : World) (hlen : ts0.length = len) (hr : Toks w ao ts0) (ha : AllT ts0) (hm : len ≤ maxLen) (hM : M ≤ 60) :
    Calls Try.prog 7 #[.slice ao len cap, .int .i64 M] w (Tamed w M) := by
  unfold maxLen at hm
  obtain ⟨i0, hi, hz0, hz1, hz2⟩ := info_parts infoT
  have HLen := Lib.hid hlen; have HR := Lib.hid hr; have HA := Lib.hid ha
  clear hlen hr ha
  go_enter Try.func7, Try.ntmps7
  go_wp2
  go_loopw [5, 6, 7] (fun v nn i wr => ∃ (ts : List Tk) (n : Nat) (ab : Option Addr) (cb : Nat), ts.length ≤ len ∧ ts.length ≤ M ∧ i = .int .i64 ts.length ∧ nn = .int .i64 n ∧ v = .slice ab ts.length cb ∧ Hid (TameS ts n) ∧ Hid (wr.ownsRow 0 31 3 (.slice ab ts.length cb) ts.length (tcells ts)) ∧
    Hid (∀ k, (Value.slice ab ts.length cb).ownBlock = some k → w.heap.size ≤ k) ∧ Hid (Kept NoB w wr)) (fun _ _ i _ => M + 1 - (intOf i).toNat)
  case atStart => exact ⟨[], 0, none, 0, by simp, by simp, rfl, rfl, rfl, ⟨(by intro t ht; cases ht), trivial, rfl, by simp, by simp⟩, World.ownsRow_nil _ _ _ _, (by intro k hk; simp [Value.ownBlock] at hk), Kept.refl _ _⟩
  case round =>
    obtain ⟨ts, n, ab, cb, hj1, hj2, rfl, rfl, rfl, HT, HOwn, HFr, HK⟩ := hrel
    have hn52 := HT.out.2.2.2.1
    obtain ⟨j, hj⟩ : ∃ j, j = ts.length := ⟨_, rfl⟩
    rw [← hj] at hj1 hj2 hn52 HOwn HFr ⊢
    have HJ := Lib.hid hj
    clear hj
    have hcase : ((j : Int) < len ∧ (j : Int) < M) ∨ ¬ (j : Int) < len ∨ ((j : Int) < len ∧ ¬ (j : Int) < M) := by omega
    rcases hcase with ⟨g1, g2⟩ | g1 | ⟨g1, g2⟩
    · obtain ⟨b, off, rfl, c0, c1, c2⟩ := (HR.out.keptNo HK.out) j (by have := HLen.out; omega)
      have hwf := HA.out.getD j
      generalize ts0.getD j ⟨0, 0, 0⟩ = t at c0 c1 c2 hwf
      obtain ⟨l, d, c⟩ := t
      have HWf := Lib.hid hwf
      simp only at c0 c1 c2
      clear hwf
      have hm3 := mask3 l
      have hm255 := mask255 l
      have hm65 := mask65535 d
      obtain ⟨q, hq⟩ : ∃ q : Bool, q = decide (l % 4 = 0 ∨ n = 0) := ⟨_, rfl⟩
      have HQ := Lib.hid hq; clear hq
      go_upto_region 7 with fail
      have hbx := heap_alloc_new wr (.cells #[.int .i64 l, .int .i64 d, .int .u8 c] 31)
      have hkx : Kept NoB wr (wr.alloc (.cells #[.int .i64 l, .int .i64 d, .int .u8 c] 31)) := (Kept.refl _ _).alloc _
      generalize wr.alloc (.cells #[.int .i64 l, .int .i64 d, .int .u8 c] 31) = wa at hbx hkx ⊢
      have e0 : wa.cell? ⟨wr.heap.size, 0, none⟩ = some (.int .i64 l) := by rw [obj_cell hbx 0]; rfl
      have e1 : wa.cell? ⟨wr.heap.size, 1, none⟩ = some (.int .i64 d) := by rw [obj_cell hbx 1]; rfl
      have e2 : wa.cell? ⟨wr.heap.size, 2, none⟩ = some (.int .u8 c) := by rw [obj_cell hbx 2]; rfl
      have f0 : wa.frozen? ⟨wr.heap.size, 0, none⟩ = false := obj_free hbx 0
      have f1 : wa.frozen? ⟨wr.heap.size, 1, none⟩ = false := obj_free hbx 1
      have f2 : wa.frozen? ⟨wr.heap.size, 2, none⟩ = false := obj_free hbx 2
      obtain ⟨X, hX⟩ : ∃ X, X = wr.heap.size := ⟨_, rfl⟩
      rw [← hX] at hbx e0 e1 e2 f0 f1 f2 ⊢
      have HXe := Lib.hid hX; have HBx := Lib.hid hbx; have HKx := Lib.hid hkx
      clear hX hbx hkx c0 c1 c2
      go_cut [31] from 24 to 31 (fun s wx => s = .bool q ∧ wa = wx)
      case first =>
        have hcq : ((l % 4 == 0) = true ∧ q = true) ∨ ((l % 4 == 0) = false ∧ ((n : Int) == 0) = true ∧ q = true) ∨ ((l % 4 == 0) = false ∧ ((n : Int) == 0) = false ∧ q = false) := by
          rw [HQ.out]
          by_cases h1 : l % 4 = 0
          · exact .inl ⟨by simp [h1], by simp [h1]⟩
          · by_cases h2 : n = 0
            · exact .inr (.inl ⟨by simp [h1], by simp [h2], by simp [h2]⟩)
            · exact .inr (.inr ⟨by simp [h1], by simp; omega, by simp [h1, h2]⟩)
        rcases hcq with ⟨k1, rfl⟩ | ⟨k1, k2, rfl⟩ | ⟨k1, k2, rfl⟩
        all_goals
          go_wp2
          go_meet
          exact ⟨rfl, rfl⟩
      case rest =>
      obtain ⟨rfl, hw⟩ := hcut
      subst hw
      go_upto_if 31 with fail
      go_cut [6] from 32 to 52 (fun s wx => ∃ (t' : Tk) (n' : Nat), s = .int .i64 n' ∧ wx.heap[X]? = some (.cells #[.int .i64 t'.l, .int .i64 t'.d, .int .u8 t'.c] 31 (0, 0)) ∧ Kept NoB wr wx ∧ Hid (TameS (ts ++ [t']) n'))
      case first =>
        cases q with
        | true =>
          have hwf := HWf.out
          have hs3 := set3 HBx.out HKx.out (by rw [HXe.out]; exact Nat.le_refl _) (.int .i64 0) (.int .i64 0) (.int .u8 c)
          have HS3 := Lib.hid hs3
          clear hs3 hwf
          go_wp2
          go_meet
          exact ⟨⟨0, 0, c⟩, n + 1, by push_cast; rfl, HS3.out.1, HS3.out.2, tame_lit _ _ _ HT.out (by omega) HWf.out.2.2⟩
        | false =>
          have hqf := of_decide_eq_false HQ.out.symm
          have hl4 : ¬ l % 4 = 0 := fun h => hqf (.inl h)
          have hn0 : ¬ n = 0 := fun h => hqf (.inr h)
          obtain ⟨L, hL⟩ : ∃ L : Nat, (L : Int) = l % 256 % 50 + 3 := ⟨(l % 256 % 50 + 3).toNat, by omega⟩
          have hLb : 3 ≤ L ∧ L ≤ 52 := by omega
          have hr1 := Int.emod_nonneg (d % 65536) (show (n : Int) ≠ 0 by omega)
          have hr2 := Int.emod_lt_of_pos (d % 65536) (show (0 : Int) < (n : Int) by omega)
          obtain ⟨D, hD⟩ : ∃ D : Nat, (D : Int) = d % 65536 % (n : Int) + 1 := ⟨(d % 65536 % (n : Int) + 1).toNat, by omega⟩
          have hDb : 1 ≤ D ∧ D ≤ n := by omega
          have hne : ((n : Int) == 0) = false := by simp; exact hn0
          have hLe : l % 256 % 50 + 3 = (L : Int) := hL.symm
          have hDe : d % 65536 % (n : Int) + 1 = (D : Int) := hD.symm
          have hDw : IntKind.i64.wrap (D : Int) = D := IntWalk.i64_in _ (by omega)
          have hLw : IntKind.i64.wrap (L : Int) = L := IntWalk.i64_in _ (by omega)
          have hDw2 : wrap64 (d % 65536 % (n : Int) + 1) = D := by rw [hDe]; exact IntWalk.wrap64_in _ (by omega)
          clear hqf hl4 hn0 hL hD hr1 hr2
          go_wp2
          go_region
          have hs3 := set3 HBx.out HKx.out (by rw [HXe.out]; exact Nat.le_refl _) (.int .i64 L) (.int .i64 D) (.int .u8 0)
          generalize ((wa.setCell ⟨X, 0, none⟩ (.int .i64 L)).setCell ⟨X, 1, none⟩ (.int .i64 D)).setCell ⟨X, 2, none⟩ (.int .u8 0) = wz at hs3 ⊢
          have e0' : wz.cell? ⟨X, 0, none⟩ = some (.int .i64 L) := by rw [obj_cell hs3.1 0]; rfl
          have HS3 := Lib.hid hs3
          clear hs3 hLe hDe hDw hLw hDw2 hm255 hm65 hm3 e0 e1 e2 f0 f1 f2
          go_wp2
          go_meet
          exact ⟨⟨L, D, 0⟩, n + L, by push_cast; rfl, HS3.out.1, HS3.out.2.drew, tame_copy _ _ _ _ HT.out (by omega) hLb hDb (by omega)⟩
      case rest =>
      obtain ⟨t', n', rfl, hbx, hkx, HT'⟩ := hcut
      obtain ⟨l', d', c'⟩ := t'
      simp only at hbx
      have e0' : wc.cell? ⟨X, 0, none⟩ = some (.int .i64 l') := by rw [obj_cell hbx 0]; rfl
      have e1' : wc.cell? ⟨X, 1, none⟩ = some (.int .i64 d') := by rw [obj_cell hbx 1]; rfl
      have e2' : wc.cell? ⟨X, 2, none⟩ = some (.int .u8 c') := by rw [obj_cell hbx 2]; rfl
      have HKw := Lib.hid (HK.out.trans hkx)
      have HOwn2 : Hid (wc.ownsRow 0 31 3 (.slice ab j cb) j (tcells ts)) := hkx.row HOwn.out (fun _ _ h => h)
      have hnews : ∀ (k : Nat) (u : Value), [Value.int .i64 l', .int .i64 d', .int .u8 c'][k]? = some u → (wc.alloc (.cells #[.int .i64 l', .int .i64 d', .int .u8 c'] 31)).cell? ((⟨wc.heap.size, 0, none⟩ : Addr).add k) = some u := by
        intro k u hk
        rw [addr_add, Nat.zero_add, cell_new k rfl]
        simpa using hk
      have hjb : j ≤ 60 := by omega
      clear hbx hkx hm3 hm255 hm65 e0 e1 e2 f0 f1 f2 HBx HKx HOwn
      go_wp2_with (at_builtin; refine wpList_app _ rfl _ _ 22 rfl 31 i0 (.agg #[.int .i64 0, .int .i64 0, .int .u8 0]) 3 24 Try.underlying22 hi hz0 hz1 hz2 rfl (by decide) _ j (tcells ts) rfl (HOwn2.out.alloc _) ⟨wc.heap.size, 0, none⟩ 1 1 [.int .i64 l', .int .i64 d', .int .u8 c'] rfl rfl hnews ?d2 ?d3 ?d4 ?_)
      case d2 => first | rfl | (intro u hu; simp at hu; rcases hu with rfl | rfl | rfl <;> rfl) | (simp [Value.oneCell'])
      case d3 => unfold maxLen; omega
      case d4 => omega
      intro v' w2 hown' hgrow hnew
      obtain ⟨ao2, cap2, rfl⟩ := own_shapeS hown'
      have hx1 : tcells ts ++ [.int .i64 l', .int .i64 d', .int .u8 c'] = tcells (ts ++ [Tk.mk l' d' c']) := (tcells_snoc ts ⟨l', d', c'⟩).symm
      have hx2 : j + 1 = (ts ++ [Tk.mk l' d' c']).length := by rw [HJ.out]; simp
      rw [hx1] at hown'
      have hfr2 : ∀ k, (Value.slice ao2 (j + 1) cap2).ownBlock = some k → w.heap.size ≤ k := by
        intro k hk
        rcases hnew k hk with h | h
        · exact HFr.out k h
        · have := HKw.out.size; first | omega | (simp at h; omega)
      have hk2 : Kept NoB w w2 := (HKw.out.alloc _).grown hgrow (by
        intro k hk e
        have := HFr.out k e
        omega)
      rw [hx2] at hown' hfr2
      have HF1 := Lib.hid hown'; have HF2 := Lib.hid hfr2; have HF3 := Lib.hid hk2; have HX2 := Lib.hid hx2
      clear hown' hfr2 hk2 hgrow hnew hx1 hx2 hnews e0' e1' e2'
      go_wp2
      go_roundw
      case rel => exact ⟨ts ++ [Tk.mk l' d' c'], n', ao2, cap2, by rw [← HX2.out]; omega, by rw [← HX2.out]; omega, by rw [← HX2.out]; go_num, rfl, by rw [← HX2.out], HT', HF1, HF2, HF3⟩
      case measure => simp [intOf]; omega
    · have HE : Hid (Tamed w M (.returned (.slice ab j cb)) wr) := by
        have hown := HOwn.out
        have hc : j ≤ cb ∧ cb ≤ maxLen ∧ (ab = none → cb = 0) := by
          rcases hown.2 with ⟨h1, h2⟩ | ⟨g, c, cur, h1, _, _, h2, h3, _⟩
          · simp at h1; unfold maxLen; exact ⟨by omega, by omega, fun _ => h1.2.2⟩
          · simp at h1; obtain ⟨h4, h5⟩ := h1; subst h5; exact ⟨h2, h3, fun h => by rw [h4] at h; cases h⟩
        have hj := HJ.out
        subst hj
        exact ⟨ab, cb, ts, n, rfl, toks_own hown, HT, hj2, hc.1, hc.2.1, hc.2.2, HK⟩
      go_wp2
      go_ret
      exact HE.out
    · have HE : Hid (Tamed w M (.returned (.slice ab j cb)) wr) := by
        have hown := HOwn.out
        have hc : j ≤ cb ∧ cb ≤ maxLen ∧ (ab = none → cb = 0) := by
          rcases hown.2 with ⟨h1, h2⟩ | ⟨g, c, cur, h1, _, _, h2, h3, _⟩
          · simp at h1; unfold maxLen; exact ⟨by omega, by omega, fun _ => h1.2.2⟩
          · simp at h1; obtain ⟨h4, h5⟩ := h1; subst h5; exact ⟨h2, h3, fun h => by rw [h4] at h; cases h⟩
        have hj := HJ.out
        subst hj
        exact ⟨ab, cb, ts, n, rfl, toks_own hown, HT, hj2, hc.1, hc.2.1, hc.2.2, HK⟩
      go_wp2
      go_ret
      exact HE.out
end Go.Proofs.Ytkhkcmekjjihkaa
