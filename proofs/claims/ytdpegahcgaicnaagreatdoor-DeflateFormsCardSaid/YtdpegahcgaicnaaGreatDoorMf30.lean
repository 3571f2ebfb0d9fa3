/-
  Tame: tokens that may be, made of some.
  law6.Tame once more: what it tells lies in new memory.
  Bytes made of a string: a row of their own, with a mark behind it; one byte appended to such a row.
-/
import Derived.Test.YtdpegahcgaicnaaGreatDoorMf29
import Derived.ArgAppend
import Derived.Laws.IdiomStrings
namespace Go.Proofs.YtdpegahcgaicnaaGreatDoor
open Go.RowKit
set_option linter.unusedVariables false
set_option linter.unusedSimpArgs false

/-- What the made tokens are: few bytes each, and each may be put behind those ahead. -/
def TameS (ts : List Tk) (n : Nat) : Prop := AllT ts ∧ good 1048576 ts [] ∧ (putAll ts []).length = n ∧ n ≤ 52 * ts.length ∧ (0 < ts.length → 0 < n)
theorem tame_lit (ts : List Tk) (n : Nat) (c : Int) (h : TameS ts n) (hn : n ≤ 100000) (hc : 0 ≤ c ∧ c < 256) : TameS (ts ++ [⟨0, 0, c⟩]) (n + 1) := by
  obtain ⟨h1, h2, h3, h4, h5⟩ := h
  have hok : (Tk.mk 0 0 c).ok = true := by simp [Tk.ok]
  have hno : (Tk.mk 0 0 c).no (putAll ts []).length 1048576 = 0 := by
    unfold Tk.no; rw [if_neg (by rw [hok]; decide), if_neg (by simp only; omega), if_neg (by simp only; rw [h3]; omega)]
  refine ⟨?_, good_snoc _ _ _ _ h2 hno, ?_, by simp; omega, by simp⟩
  · intro t ht
    rcases List.mem_append.1 ht with ht | ht
    · exact h1 t ht
    · simp at ht; subst ht; unfold Tk.wf; simp only; omega
  · rw [putAll_snoc, put_len, h3]; rfl
theorem tame_copy (ts : List Tk) (n L D : Nat) (h : TameS ts n) (hn : n ≤ 100000) (hL : 3 ≤ L ∧ L ≤ 52) (hD : 1 ≤ D ∧ D ≤ n) (hD2 : D ≤ 32768) : TameS (ts ++ [⟨L, D, 0⟩]) (n + L) := by
  obtain ⟨h1, h2, h3, h4, h5⟩ := h
  have hl0 : ¬ ((L : Int) = 0) := by omega
  have hok : (Tk.mk L D 0).ok = true := by
    unfold Tk.ok
    rw [if_neg hl0]
    exact decide_eq_true ⟨(by omega : (3 : Int) ≤ L), (by omega : (L : Int) ≤ 258), (by omega : (1 : Int) ≤ D), (by omega : (D : Int) ≤ 32768), rfl⟩
  have hno : (Tk.mk L D 0).no (putAll ts []).length 1048576 = 0 := by
    unfold Tk.no; rw [if_neg (by rw [hok]; decide), if_neg (by simp only; omega), if_neg (by simp only; rw [h3, if_neg (by omega)]; omega)]
  refine ⟨?_, good_snoc _ _ _ _ h2 hno, ?_, by simp; omega, by simp; omega⟩
  · intro t ht
    rcases List.mem_append.1 ht with ht | ht
    · exact h1 t ht
    · simp at ht; subst ht; unfold Tk.wf; simp only; omega
  · rw [putAll_snoc, put_len, h3, if_neg hl0]; simp
theorem mask3 (n : Int) : bits .and .i64 n 3 = n % 4 := i64_mask n 2 (by decide)

theorem set3 {wr wa : World} {X : Nat} {a b c : Value} (hb : wa.heap[X]? = some (.cells #[a, b, c] 32 (0, 0))) (hk : Kept NoB wr wa) (hX : wr.heap.size ≤ X) (p q r : Value) :
    (((wa.setCell ⟨X, 0, none⟩ p).setCell ⟨X, 1, none⟩ q).setCell ⟨X, 2, none⟩ r).heap[X]? = some (.cells #[p, q, r] 32 (0, 0)) ∧ Kept NoB wr (((wa.setCell ⟨X, 0, none⟩ p).setCell ⟨X, 1, none⟩ q).setCell ⟨X, 2, none⟩ r) := by
  have h1 := obj_set hb 0 p
  have h2 := obj_set h1 1 q
  have h3 := obj_set h2 2 r
  exact ⟨by simpa using h3, Kept.setCell (p := ⟨X, 2, none⟩) (Kept.setCell (p := ⟨X, 1, none⟩) (Kept.setCell (p := ⟨X, 0, none⟩) hk (.inr hX) _) (.inr hX) _) (.inr hX) _⟩
/-- What Tame tells. -/
def Tamed (w : World) (M : Nat) (e : Ending) (w' : World) : Prop :=
  ∃ ao cap ts n, e = .returned (.slice ao ts.length cap) ∧ Hid (Toks w' ao ts) ∧ Hid (TameS ts n) ∧ ts.length ≤ M ∧ ts.length ≤ cap ∧ cap ≤ maxLen ∧ Hid (ao = none → cap = 0) ∧ Hid (Kept NoB w w')

set_option maxRecDepth 100000 in
set_option maxHeartbeats 4000000 in
theorem tame_any (ao : Option Addr) (cap len : Nat) (ts0 : List Tk) (M : Nat) (w : World) (hlen : ts0.length = len) (hr : Toks w ao ts0) (ha : AllT ts0) (hm : len ≤ maxLen) (hM : M ≤ 60) :
    Calls Tryz.prog 25 #[.slice ao len cap, .int .i64 M] w (Tamed w M) := by
  unfold maxLen at hm
  obtain ⟨i0, hi, hz0, hz1, hz2⟩ := info_parts infoT
  have HLen := Lib.hid hlen; have HR := Lib.hid hr; have HA := Lib.hid ha
  clear hlen hr ha
  go_enter Tryz.func25, Tryz.ntmps25
  go_wp2
  go_loopw [5, 6, 7] (fun v nn i wr => ∃ (ts : List Tk) (n : Nat) (ab : Option Addr) (cb : Nat), ts.length ≤ len ∧ ts.length ≤ M ∧ i = .int .i64 ts.length ∧ nn = .int .i64 n ∧ v = .slice ab ts.length cb ∧ Hid (TameS ts n) ∧ Hid (wr.ownsRow 0 32 3 (.slice ab ts.length cb) ts.length (tcells ts)) ∧
    Hid (∀ k, (Value.slice ab ts.length cb).ownBlock = some k → w.heap.size ≤ k) ∧ Hid (Kept NoB w wr)) (fun _ _ i _ => M + 1 - (intOf i).toNat)
  case atStart => exact ⟨[], 0, none, 0, by simp, by simp, rfl, rfl, rfl, ⟨(by intro t ht; cases ht), trivial, rfl, by simp, by simp⟩, World.ownsRow_nil _ _ _ _, (by intro k hk; simp [Value.ownBlock] at hk), Kept.refl _ _⟩
  case round =>
    obtain ⟨ts, n, ab, cb, hj1, hj2, rfl, rfl, rfl, HT, HOwn, HFr, HK⟩ := hrel
    have hn52 := HT.out.2.2.2.1
    obtain ⟨j, hj⟩ : ∃ j, j = ts.length := ⟨_, rfl⟩
    rw [← hj] at hj1 hj2 hn52 HOwn HFr ⊢
    have HJ := Lib.hid hj
    clear hj
    have hcase : ((j : Int) < len ∧ (j : Int) < M) ∨ ¬ (j : Int) < len ∨ ((j : Int) < len ∧ ¬ (j : Int) < M) := by omega
    rcases hcase with ⟨g1, g2⟩ | g1 | ⟨g1, g2⟩
    · obtain ⟨b, off, rfl, c0, c1, c2⟩ := (HR.out.keptNo HK.out) j (by have := HLen.out; omega)
      have hwf := HA.out.getD j
      generalize ts0.getD j ⟨0, 0, 0⟩ = t at c0 c1 c2 hwf
      obtain ⟨l, d, c⟩ := t
      have HWf := Lib.hid hwf
      simp only at c0 c1 c2
      clear hwf
      have hm3 := mask3 l
      have hm255 := mask255 l
      have hm65 := mask65535 d
      obtain ⟨q, hq⟩ : ∃ q : Bool, q = decide (l % 4 = 0 ∨ n = 0) := ⟨_, rfl⟩
      have HQ := Lib.hid hq; clear hq
      go_upto_region 7 with fail
      have hbx := heap_alloc_new wr (.cells #[.int .i64 l, .int .i64 d, .int .u8 c] 32)
      have hkx : Kept NoB wr (wr.alloc (.cells #[.int .i64 l, .int .i64 d, .int .u8 c] 32)) := (Kept.refl _ _).alloc _
      generalize wr.alloc (.cells #[.int .i64 l, .int .i64 d, .int .u8 c] 32) = wa at hbx hkx ⊢
      have e0 : wa.cell? ⟨wr.heap.size, 0, none⟩ = some (.int .i64 l) := by rw [obj_cell hbx 0]; rfl
      have e1 : wa.cell? ⟨wr.heap.size, 1, none⟩ = some (.int .i64 d) := by rw [obj_cell hbx 1]; rfl
      have e2 : wa.cell? ⟨wr.heap.size, 2, none⟩ = some (.int .u8 c) := by rw [obj_cell hbx 2]; rfl
      have f0 : wa.frozen? ⟨wr.heap.size, 0, none⟩ = false := obj_free hbx 0
      have f1 : wa.frozen? ⟨wr.heap.size, 1, none⟩ = false := obj_free hbx 1
      have f2 : wa.frozen? ⟨wr.heap.size, 2, none⟩ = false := obj_free hbx 2
      obtain ⟨X, hX⟩ : ∃ X, X = wr.heap.size := ⟨_, rfl⟩
      rw [← hX] at hbx e0 e1 e2 f0 f1 f2 ⊢
      have HXe := Lib.hid hX; have HBx := Lib.hid hbx; have HKx := Lib.hid hkx
      clear hX hbx hkx c0 c1 c2
      go_cut [31] from 24 to 31 (fun s wx => s = .bool q ∧ wa = wx)
      case first =>
        have hcq : ((l % 4 == 0) = true ∧ q = true) ∨ ((l % 4 == 0) = false ∧ ((n : Int) == 0) = true ∧ q = true) ∨ ((l % 4 == 0) = false ∧ ((n : Int) == 0) = false ∧ q = false) := by
          rw [HQ.out]
          by_cases h1 : l % 4 = 0
          · exact .inl ⟨by simp [h1], by simp [h1]⟩
          · by_cases h2 : n = 0
            · exact .inr (.inl ⟨by simp [h1], by simp [h2], by simp [h2]⟩)
            · exact .inr (.inr ⟨by simp [h1], by simp; omega, by simp [h1, h2]⟩)
        rcases hcq with ⟨k1, rfl⟩ | ⟨k1, k2, rfl⟩ | ⟨k1, k2, rfl⟩
        all_goals
          go_wp2
          go_meet
          exact ⟨rfl, rfl⟩
      case rest =>
      obtain ⟨rfl, hw⟩ := hcut
      subst hw
      go_upto_if 31 with fail
      go_cut [6] from 32 to 52 (fun s wx => ∃ (t' : Tk) (n' : Nat), s = .int .i64 n' ∧ wx.heap[X]? = some (.cells #[.int .i64 t'.l, .int .i64 t'.d, .int .u8 t'.c] 32 (0, 0)) ∧ Kept NoB wr wx ∧ Hid (TameS (ts ++ [t']) n'))
      case first =>
        cases q with
        | true =>
          have hwf := HWf.out
          have hs3 := set3 HBx.out HKx.out (by rw [HXe.out]; exact Nat.le_refl _) (.int .i64 0) (.int .i64 0) (.int .u8 c)
          have HS3 := Lib.hid hs3
          clear hs3 hwf
          go_wp2
          go_meet
          exact ⟨⟨0, 0, c⟩, n + 1, by push_cast; rfl, HS3.out.1, HS3.out.2, tame_lit _ _ _ HT.out (by omega) HWf.out.2.2⟩
        | false =>
          have hqf := of_decide_eq_false HQ.out.symm
          have hl4 : ¬ l % 4 = 0 := fun h => hqf (.inl h)
          have hn0 : ¬ n = 0 := fun h => hqf (.inr h)
          obtain ⟨L, hL⟩ : ∃ L : Nat, (L : Int) = l % 256 % 50 + 3 := ⟨(l % 256 % 50 + 3).toNat, by omega⟩
          have hLb : 3 ≤ L ∧ L ≤ 52 := by omega
          have hr1 := Int.emod_nonneg (d % 65536) (show (n : Int) ≠ 0 by omega)
          have hr2 := Int.emod_lt_of_pos (d % 65536) (show (0 : Int) < (n : Int) by omega)
          obtain ⟨D, hD⟩ : ∃ D : Nat, (D : Int) = d % 65536 % (n : Int) + 1 := ⟨(d % 65536 % (n : Int) + 1).toNat, by omega⟩
          have hDb : 1 ≤ D ∧ D ≤ n := by omega
          have hne : ((n : Int) == 0) = false := by simp; exact hn0
          have hLe : l % 256 % 50 + 3 = (L : Int) := hL.symm
          have hDe : d % 65536 % (n : Int) + 1 = (D : Int) := hD.symm
          have hDw : IntKind.i64.wrap (D : Int) = D := IntWalk.i64_in _ (by omega)
          have hLw : IntKind.i64.wrap (L : Int) = L := IntWalk.i64_in _ (by omega)
          have hDw2 : wrap64 (d % 65536 % (n : Int) + 1) = D := by rw [hDe]; exact IntWalk.wrap64_in _ (by omega)
          clear hqf hl4 hn0 hL hD hr1 hr2
          go_wp2
          go_region
          have hs3 := set3 HBx.out HKx.out (by rw [HXe.out]; exact Nat.le_refl _) (.int .i64 L) (.int .i64 D) (.int .u8 0)
          generalize ((wa.setCell ⟨X, 0, none⟩ (.int .i64 L)).setCell ⟨X, 1, none⟩ (.int .i64 D)).setCell ⟨X, 2, none⟩ (.int .u8 0) = wz at hs3 ⊢
          have e0' : wz.cell? ⟨X, 0, none⟩ = some (.int .i64 L) := by rw [obj_cell hs3.1 0]; rfl
          have HS3 := Lib.hid hs3
          clear hs3 hLe hDe hDw hLw hDw2 hm255 hm65 hm3 e0 e1 e2 f0 f1 f2
          go_wp2
          go_meet
          exact ⟨⟨L, D, 0⟩, n + L, by push_cast; rfl, HS3.out.1, HS3.out.2.drew, tame_copy _ _ _ _ HT.out (by omega) hLb hDb (by omega)⟩
      case rest =>
      obtain ⟨t', n', rfl, hbx, hkx, HT'⟩ := hcut
      obtain ⟨l', d', c'⟩ := t'
      simp only at hbx
      have e0' : wc.cell? ⟨X, 0, none⟩ = some (.int .i64 l') := by rw [obj_cell hbx 0]; rfl
      have e1' : wc.cell? ⟨X, 1, none⟩ = some (.int .i64 d') := by rw [obj_cell hbx 1]; rfl
      have e2' : wc.cell? ⟨X, 2, none⟩ = some (.int .u8 c') := by rw [obj_cell hbx 2]; rfl
      have HKw := Lib.hid (HK.out.trans hkx)
      have HOwn2 : Hid (wc.ownsRow 0 32 3 (.slice ab j cb) j (tcells ts)) := hkx.row HOwn.out (fun _ _ h => h)
      have hnews : ∀ (k : Nat) (u : Value), [Value.int .i64 l', .int .i64 d', .int .u8 c'][k]? = some u → (wc.alloc (.cells #[.int .i64 l', .int .i64 d', .int .u8 c'] 32)).cell? ((⟨wc.heap.size, 0, none⟩ : Addr).add k) = some u := by
        intro k u hk
        rw [addr_add, Nat.zero_add, cell_new k rfl]
        simpa using hk
      have hjb : j ≤ 60 := by omega
      clear hbx hkx hm3 hm255 hm65 e0 e1 e2 f0 f1 f2 HBx HKx HOwn
      go_wp2_with (at_builtin; refine wpList_app _ rfl _ _ 30 rfl 32 i0 (.agg #[.int .i64 0, .int .i64 0, .int .u8 0]) 3 24 Tryz.underlying30 hi hz0 hz1 hz2 rfl (by decide) _ j (tcells ts) rfl (HOwn2.out.alloc _) ⟨wc.heap.size, 0, none⟩ 1 1 [.int .i64 l', .int .i64 d', .int .u8 c'] rfl rfl hnews ?d2 ?d3 ?d4 ?_)
      case d2 => first | rfl | (intro u hu; simp at hu; rcases hu with rfl | rfl | rfl <;> rfl) | (simp [Value.oneCell'])
      case d3 => unfold maxLen; omega
      case d4 => omega
      intro v' w2 hown' hgrow hnew
      obtain ⟨ao2, cap2, rfl⟩ := own_shapeS hown'
      have hx1 : tcells ts ++ [.int .i64 l', .int .i64 d', .int .u8 c'] = tcells (ts ++ [Tk.mk l' d' c']) := (tcells_snoc ts ⟨l', d', c'⟩).symm
      have hx2 : j + 1 = (ts ++ [Tk.mk l' d' c']).length := by rw [HJ.out]; simp
      rw [hx1] at hown'
      have hfr2 : ∀ k, (Value.slice ao2 (j + 1) cap2).ownBlock = some k → w.heap.size ≤ k := by
        intro k hk
        rcases hnew k hk with h | h
        · exact HFr.out k h
        · have := HKw.out.size; first | omega | (simp at h; omega)
      have hk2 : Kept NoB w w2 := (HKw.out.alloc _).grown hgrow (by
        intro k hk e
        have := HFr.out k e
        omega)
      rw [hx2] at hown' hfr2
      have HF1 := Lib.hid hown'; have HF2 := Lib.hid hfr2; have HF3 := Lib.hid hk2; have HX2 := Lib.hid hx2
      clear hown' hfr2 hk2 hgrow hnew hx1 hx2 hnews e0' e1' e2'
      go_wp2
      go_roundw
      case rel => exact ⟨ts ++ [Tk.mk l' d' c'], n', ao2, cap2, by rw [← HX2.out]; omega, by rw [← HX2.out]; omega, by rw [← HX2.out]; go_num, rfl, by rw [← HX2.out], HT', HF1, HF2, HF3⟩
      case measure => simp [intOf]; omega
    · have HE : Hid (Tamed w M (.returned (.slice ab j cb)) wr) := by
        have hown := HOwn.out
        have hc : j ≤ cb ∧ cb ≤ maxLen ∧ (ab = none → cb = 0) := by
          rcases hown.2 with ⟨h1, h2⟩ | ⟨g, c, cur, h1, _, _, h2, h3, _⟩
          · simp at h1; unfold maxLen; exact ⟨by omega, by omega, fun _ => h1.2.2⟩
          · simp at h1; obtain ⟨h4, h5⟩ := h1; subst h5; exact ⟨h2, h3, fun h => by rw [h4] at h; cases h⟩
        have hj := HJ.out
        subst hj
        exact ⟨ab, cb, ts, n, rfl, toks_own hown, HT, hj2, hc.1, hc.2.1, hc.2.2, HK⟩
      go_wp2
      go_ret
      exact HE.out
    · have HE : Hid (Tamed w M (.returned (.slice ab j cb)) wr) := by
        have hown := HOwn.out
        have hc : j ≤ cb ∧ cb ≤ maxLen ∧ (ab = none → cb = 0) := by
          rcases hown.2 with ⟨h1, h2⟩ | ⟨g, c, cur, h1, _, _, h2, h3, _⟩
          · simp at h1; unfold maxLen; exact ⟨by omega, by omega, fun _ => h1.2.2⟩
          · simp at h1; obtain ⟨h4, h5⟩ := h1; subst h5; exact ⟨h2, h3, fun h => by rw [h4] at h; cases h⟩
        have hj := HJ.out
        subst hj
        exact ⟨ab, cb, ts, n, rfl, toks_own hown, HT, hj2, hc.1, hc.2.1, hc.2.2, HK⟩
      go_wp2
      go_ret
      exact HE.out
end Go.Proofs.YtdpegahcgaicnaaGreatDoor

namespace Go.Proofs.YtdpegahcgaicnaaGreatDoor
open Go.RowKit
set_option linter.unusedVariables false
set_option linter.unusedSimpArgs false

/-- What Tame tells, and that it is new. -/
def TamedF (w : World) (M : Nat) (e : Ending) (w' : World) : Prop :=
  ∃ ao cap ts n, e = .returned (.slice ao ts.length cap) ∧ Hid (Toks w' ao ts) ∧ Hid (TameS ts n) ∧ ts.length ≤ M ∧ ts.length ≤ cap ∧ cap ≤ maxLen ∧ Hid (∀ a, ao = some a → w.heap.size ≤ a.block) ∧ Hid (Kept NoB w w')
set_option maxRecDepth 100000 in
set_option maxHeartbeats 4000000 in
theorem tamef_any (ao : Option Addr) (cap len : Nat) (ts0 : List Tk) (M : Nat) (w : World) (hlen : ts0.length = len) (hr : Toks w ao ts0) (ha : AllT ts0) (hm : len ≤ maxLen) (hM : M ≤ 60) :
    Calls Tryz.prog 25 #[.slice ao len cap, .int .i64 M] w (TamedF w M) := by
  unfold maxLen at hm
  obtain ⟨i0, hi, hz0, hz1, hz2⟩ := info_parts infoT
  have HLen := Lib.hid hlen; have HR := Lib.hid hr; have HA := Lib.hid ha
  clear hlen hr ha
  go_enter Tryz.func25, Tryz.ntmps25
  go_wp2
  go_loopw [5, 6, 7] (fun v nn i wr => ∃ (ts : List Tk) (n : Nat) (ab : Option Addr) (cb : Nat), ts.length ≤ len ∧ ts.length ≤ M ∧ i = .int .i64 ts.length ∧ nn = .int .i64 n ∧ v = .slice ab ts.length cb ∧ Hid (TameS ts n) ∧ Hid (wr.ownsRow 0 32 3 (.slice ab ts.length cb) ts.length (tcells ts)) ∧
    Hid (∀ k, (Value.slice ab ts.length cb).ownBlock = some k → w.heap.size ≤ k) ∧ Hid (Kept NoB w wr)) (fun _ _ i _ => M + 1 - (intOf i).toNat)
  case atStart => exact ⟨[], 0, none, 0, by simp, by simp, rfl, rfl, rfl, ⟨(by intro t ht; cases ht), trivial, rfl, by simp, by simp⟩, World.ownsRow_nil _ _ _ _, (by intro k hk; simp [Value.ownBlock] at hk), Kept.refl _ _⟩
  case round =>
    obtain ⟨ts, n, ab, cb, hj1, hj2, rfl, rfl, rfl, HT, HOwn, HFr, HK⟩ := hrel
    have hn52 := HT.out.2.2.2.1
    obtain ⟨j, hj⟩ : ∃ j, j = ts.length := ⟨_, rfl⟩
    rw [← hj] at hj1 hj2 hn52 HOwn HFr ⊢
    have HJ := Lib.hid hj
    clear hj
    have hcase : ((j : Int) < len ∧ (j : Int) < M) ∨ ¬ (j : Int) < len ∨ ((j : Int) < len ∧ ¬ (j : Int) < M) := by omega
    rcases hcase with ⟨g1, g2⟩ | g1 | ⟨g1, g2⟩
    · obtain ⟨b, off, rfl, c0, c1, c2⟩ := (HR.out.keptNo HK.out) j (by have := HLen.out; omega)
      have hwf := HA.out.getD j
      generalize ts0.getD j ⟨0, 0, 0⟩ = t at c0 c1 c2 hwf
      obtain ⟨l, d, c⟩ := t
      have HWf := Lib.hid hwf
      simp only at c0 c1 c2
      clear hwf
      have hm3 := mask3 l
      have hm255 := mask255 l
      have hm65 := mask65535 d
      obtain ⟨q, hq⟩ : ∃ q : Bool, q = decide (l % 4 = 0 ∨ n = 0) := ⟨_, rfl⟩
      have HQ := Lib.hid hq; clear hq
      go_upto_region 7 with fail
      have hbx := heap_alloc_new wr (.cells #[.int .i64 l, .int .i64 d, .int .u8 c] 32)
      have hkx : Kept NoB wr (wr.alloc (.cells #[.int .i64 l, .int .i64 d, .int .u8 c] 32)) := (Kept.refl _ _).alloc _
      generalize wr.alloc (.cells #[.int .i64 l, .int .i64 d, .int .u8 c] 32) = wa at hbx hkx ⊢
      have e0 : wa.cell? ⟨wr.heap.size, 0, none⟩ = some (.int .i64 l) := by rw [obj_cell hbx 0]; rfl
      have e1 : wa.cell? ⟨wr.heap.size, 1, none⟩ = some (.int .i64 d) := by rw [obj_cell hbx 1]; rfl
      have e2 : wa.cell? ⟨wr.heap.size, 2, none⟩ = some (.int .u8 c) := by rw [obj_cell hbx 2]; rfl
      have f0 : wa.frozen? ⟨wr.heap.size, 0, none⟩ = false := obj_free hbx 0
      have f1 : wa.frozen? ⟨wr.heap.size, 1, none⟩ = false := obj_free hbx 1
      have f2 : wa.frozen? ⟨wr.heap.size, 2, none⟩ = false := obj_free hbx 2
      obtain ⟨X, hX⟩ : ∃ X, X = wr.heap.size := ⟨_, rfl⟩
      rw [← hX] at hbx e0 e1 e2 f0 f1 f2 ⊢
      have HXe := Lib.hid hX; have HBx := Lib.hid hbx; have HKx := Lib.hid hkx
      clear hX hbx hkx c0 c1 c2
      go_cut [31] from 24 to 31 (fun s wx => s = .bool q ∧ wa = wx)
      case first =>
        have hcq : ((l % 4 == 0) = true ∧ q = true) ∨ ((l % 4 == 0) = false ∧ ((n : Int) == 0) = true ∧ q = true) ∨ ((l % 4 == 0) = false ∧ ((n : Int) == 0) = false ∧ q = false) := by
          rw [HQ.out]
          by_cases h1 : l % 4 = 0
          · exact .inl ⟨by simp [h1], by simp [h1]⟩
          · by_cases h2 : n = 0
            · exact .inr (.inl ⟨by simp [h1], by simp [h2], by simp [h2]⟩)
            · exact .inr (.inr ⟨by simp [h1], by simp; omega, by simp [h1, h2]⟩)
        rcases hcq with ⟨k1, rfl⟩ | ⟨k1, k2, rfl⟩ | ⟨k1, k2, rfl⟩
        all_goals
          go_wp2
          go_meet
          exact ⟨rfl, rfl⟩
      case rest =>
      obtain ⟨rfl, hw⟩ := hcut
      subst hw
      go_upto_if 31 with fail
      go_cut [6] from 32 to 52 (fun s wx => ∃ (t' : Tk) (n' : Nat), s = .int .i64 n' ∧ wx.heap[X]? = some (.cells #[.int .i64 t'.l, .int .i64 t'.d, .int .u8 t'.c] 32 (0, 0)) ∧ Kept NoB wr wx ∧ Hid (TameS (ts ++ [t']) n'))
      case first =>
        cases q with
        | true =>
          have hwf := HWf.out
          have hs3 := set3 HBx.out HKx.out (by rw [HXe.out]; exact Nat.le_refl _) (.int .i64 0) (.int .i64 0) (.int .u8 c)
          have HS3 := Lib.hid hs3
          clear hs3 hwf
          go_wp2
          go_meet
          exact ⟨⟨0, 0, c⟩, n + 1, by push_cast; rfl, HS3.out.1, HS3.out.2, tame_lit _ _ _ HT.out (by omega) HWf.out.2.2⟩
        | false =>
          have hqf := of_decide_eq_false HQ.out.symm
          have hl4 : ¬ l % 4 = 0 := fun h => hqf (.inl h)
          have hn0 : ¬ n = 0 := fun h => hqf (.inr h)
          obtain ⟨L, hL⟩ : ∃ L : Nat, (L : Int) = l % 256 % 50 + 3 := ⟨(l % 256 % 50 + 3).toNat, by omega⟩
          have hLb : 3 ≤ L ∧ L ≤ 52 := by omega
          have hr1 := Int.emod_nonneg (d % 65536) (show (n : Int) ≠ 0 by omega)
          have hr2 := Int.emod_lt_of_pos (d % 65536) (show (0 : Int) < (n : Int) by omega)
          obtain ⟨D, hD⟩ : ∃ D : Nat, (D : Int) = d % 65536 % (n : Int) + 1 := ⟨(d % 65536 % (n : Int) + 1).toNat, by omega⟩
          have hDb : 1 ≤ D ∧ D ≤ n := by omega
          have hne : ((n : Int) == 0) = false := by simp; exact hn0
          have hLe : l % 256 % 50 + 3 = (L : Int) := hL.symm
          have hDe : d % 65536 % (n : Int) + 1 = (D : Int) := hD.symm
          have hDw : IntKind.i64.wrap (D : Int) = D := IntWalk.i64_in _ (by omega)
          have hLw : IntKind.i64.wrap (L : Int) = L := IntWalk.i64_in _ (by omega)
          have hDw2 : wrap64 (d % 65536 % (n : Int) + 1) = D := by rw [hDe]; exact IntWalk.wrap64_in _ (by omega)
          clear hqf hl4 hn0 hL hD hr1 hr2
          go_wp2
          go_region
          have hs3 := set3 HBx.out HKx.out (by rw [HXe.out]; exact Nat.le_refl _) (.int .i64 L) (.int .i64 D) (.int .u8 0)
          generalize ((wa.setCell ⟨X, 0, none⟩ (.int .i64 L)).setCell ⟨X, 1, none⟩ (.int .i64 D)).setCell ⟨X, 2, none⟩ (.int .u8 0) = wz at hs3 ⊢
          have e0' : wz.cell? ⟨X, 0, none⟩ = some (.int .i64 L) := by rw [obj_cell hs3.1 0]; rfl
          have HS3 := Lib.hid hs3
          clear hs3 hLe hDe hDw hLw hDw2 hm255 hm65 hm3 e0 e1 e2 f0 f1 f2
          go_wp2
          go_meet
          exact ⟨⟨L, D, 0⟩, n + L, by push_cast; rfl, HS3.out.1, HS3.out.2.drew, tame_copy _ _ _ _ HT.out (by omega) hLb hDb (by omega)⟩
      case rest =>
      obtain ⟨t', n', rfl, hbx, hkx, HT'⟩ := hcut
      obtain ⟨l', d', c'⟩ := t'
      simp only at hbx
      have e0' : wc.cell? ⟨X, 0, none⟩ = some (.int .i64 l') := by rw [obj_cell hbx 0]; rfl
      have e1' : wc.cell? ⟨X, 1, none⟩ = some (.int .i64 d') := by rw [obj_cell hbx 1]; rfl
      have e2' : wc.cell? ⟨X, 2, none⟩ = some (.int .u8 c') := by rw [obj_cell hbx 2]; rfl
      have HKw := Lib.hid (HK.out.trans hkx)
      have HOwn2 : Hid (wc.ownsRow 0 32 3 (.slice ab j cb) j (tcells ts)) := hkx.row HOwn.out (fun _ _ h => h)
      have hnews : ∀ (k : Nat) (u : Value), [Value.int .i64 l', .int .i64 d', .int .u8 c'][k]? = some u → (wc.alloc (.cells #[.int .i64 l', .int .i64 d', .int .u8 c'] 32)).cell? ((⟨wc.heap.size, 0, none⟩ : Addr).add k) = some u := by
        intro k u hk
        rw [addr_add, Nat.zero_add, cell_new k rfl]
        simpa using hk
      have hjb : j ≤ 60 := by omega
      clear hbx hkx hm3 hm255 hm65 e0 e1 e2 f0 f1 f2 HBx HKx HOwn
      go_wp2_with (at_builtin; refine wpList_app _ rfl _ _ 30 rfl 32 i0 (.agg #[.int .i64 0, .int .i64 0, .int .u8 0]) 3 24 Tryz.underlying30 hi hz0 hz1 hz2 rfl (by decide) _ j (tcells ts) rfl (HOwn2.out.alloc _) ⟨wc.heap.size, 0, none⟩ 1 1 [.int .i64 l', .int .i64 d', .int .u8 c'] rfl rfl hnews ?d2 ?d3 ?d4 ?_)
      case d2 => first | rfl | (intro u hu; simp at hu; rcases hu with rfl | rfl | rfl <;> rfl) | (simp [Value.oneCell'])
      case d3 => unfold maxLen; omega
      case d4 => omega
      intro v' w2 hown' hgrow hnew
      obtain ⟨ao2, cap2, rfl⟩ := own_shapeS hown'
      have hx1 : tcells ts ++ [.int .i64 l', .int .i64 d', .int .u8 c'] = tcells (ts ++ [Tk.mk l' d' c']) := (tcells_snoc ts ⟨l', d', c'⟩).symm
      have hx2 : j + 1 = (ts ++ [Tk.mk l' d' c']).length := by rw [HJ.out]; simp
      rw [hx1] at hown'
      have hfr2 : ∀ k, (Value.slice ao2 (j + 1) cap2).ownBlock = some k → w.heap.size ≤ k := by
        intro k hk
        rcases hnew k hk with h | h
        · exact HFr.out k h
        · have := HKw.out.size; first | omega | (simp at h; omega)
      have hk2 : Kept NoB w w2 := (HKw.out.alloc _).grown hgrow (by
        intro k hk e
        have := HFr.out k e
        omega)
      rw [hx2] at hown' hfr2
      have HF1 := Lib.hid hown'; have HF2 := Lib.hid hfr2; have HF3 := Lib.hid hk2; have HX2 := Lib.hid hx2
      clear hown' hfr2 hk2 hgrow hnew hx1 hx2 hnews e0' e1' e2'
      go_wp2
      go_roundw
      case rel => exact ⟨ts ++ [Tk.mk l' d' c'], n', ao2, cap2, by rw [← HX2.out]; omega, by rw [← HX2.out]; omega, by rw [← HX2.out]; go_num, rfl, by rw [← HX2.out], HT', HF1, HF2, HF3⟩
      case measure => simp [intOf]; omega
    · have HE : Hid (TamedF w M (.returned (.slice ab j cb)) wr) := by
        have hown := HOwn.out
        have hc : j ≤ cb ∧ cb ≤ maxLen ∧ (ab = none → cb = 0) := by
          rcases hown.2 with ⟨h1, h2⟩ | ⟨g, c, cur, h1, _, _, h2, h3, _⟩
          · simp at h1; unfold maxLen; exact ⟨by omega, by omega, fun _ => h1.2.2⟩
          · simp at h1; obtain ⟨h4, h5⟩ := h1; subst h5; exact ⟨h2, h3, fun h => by rw [h4] at h; cases h⟩
        have hj := HJ.out
        subst hj
        exact ⟨ab, cb, ts, n, rfl, toks_own hown, HT, hj2, hc.1, hc.2.1, (fun a h => HFr.out _ (by rw [h]; rfl)), HK⟩
      go_wp2
      go_ret
      exact HE.out
    · have HE : Hid (TamedF w M (.returned (.slice ab j cb)) wr) := by
        have hown := HOwn.out
        have hc : j ≤ cb ∧ cb ≤ maxLen ∧ (ab = none → cb = 0) := by
          rcases hown.2 with ⟨h1, h2⟩ | ⟨g, c, cur, h1, _, _, h2, h3, _⟩
          · simp at h1; unfold maxLen; exact ⟨by omega, by omega, fun _ => h1.2.2⟩
          · simp at h1; obtain ⟨h4, h5⟩ := h1; subst h5; exact ⟨h2, h3, fun h => by rw [h4] at h; cases h⟩
        have hj := HJ.out
        subst hj
        exact ⟨ab, cb, ts, n, rfl, toks_own hown, HT, hj2, hc.1, hc.2.1, (fun a h => HFr.out _ (by rw [h]; rfl)), HK⟩
      go_wp2
      go_ret
      exact HE.out
end Go.Proofs.YtdpegahcgaicnaaGreatDoor

namespace Go.Proofs.YtdpegahcgaicnaaGreatDoor
open Go.RowKit
set_option linter.unusedVariables false
set_option linter.unusedSimpArgs false

/-- A row of bytes of the call's own, whose mark, if there is one, lies behind it. -/
def OwnM (w : World) (v : Value) (bs : List Int) : Prop :=
  (v = .slice none 0 0 ∧ bs = []) ∨ ∃ g cap cur fz, v = .slice (some ⟨g, 0, none⟩) bs.length cap ∧ w.heap[g]? = some (.cells cur 5 fz) ∧ (cur.size ≤ fz.1 ∨ fz.2 = 0) ∧ bs.length ≤ cap ∧ cap ≤ maxLen ∧ cur.size = cap ∧ cur.toList.take bs.length = bs.map (.int .u8)
theorem OwnM.cellAt {w : World} {g cap : Nat} {bs : List Int} (h : OwnM w (.slice (some ⟨g, 0, none⟩) bs.length cap) bs) (j : Nat) (hj : j < bs.length) : w.cell? ⟨g, j, none⟩ = some (.int .u8 (bs.getD j 0)) := by
  rcases h with ⟨h1, _⟩ | ⟨g', cap', cur, fz, h1, h2, _, _, _, _, h3⟩
  · simp at h1
  · simp at h1
    obtain ⟨rfl, rfl⟩ := h1
    rw [cell_of_row w g j cur _ fz h2]
    have e := congrArg (fun l => l[j]?) h3
    simp only [List.getElem?_take, if_pos hj] at e
    rw [← Array.getElem?_toList, e]
    simp [List.getD, hj]
theorem OwnM.reads {w : World} {ao : Option Addr} {cap : Nat} {bs : List Int} (h : OwnM w (.slice ao bs.length cap) bs) : Reads w ao bs := by
  refine ⟨fun e => ?_, fun a e i hi => ?_⟩
  · subst e
    rcases h with ⟨_, h2⟩ | ⟨g', cap', cur, fz, h1, _⟩
    · exact h2
    · simp at h1
  · subst e
    obtain ⟨g, rfl⟩ : ∃ g, a = ⟨g, 0, none⟩ := by
      rcases h with ⟨h1, _⟩ | ⟨g', cap', cur, fz, h1, _⟩
      · simp at h1
      · simp at h1; exact ⟨g', h1.1⟩
    rw [addr_add, Nat.zero_add]
    exact h.cellAt i hi
theorem OwnM.nil {w : World} {ao : Option Addr} {n cap : Nat} {bs : List Int} (h : OwnM w (.slice ao n cap) bs) : ao = none → cap = 0 := by
  rintro rfl
  rcases h with ⟨h1, _⟩ | ⟨g', cap', cur, fz, h1, _⟩
  · simp at h1; exact h1.2
  · simp at h1
theorem OwnM.shape {w : World} {v : Value} {bs : List Int} (h : OwnM w v bs) : ∃ ao cap, v = .slice ao bs.length cap := by
  rcases h with ⟨rfl, rfl⟩ | ⟨g', cap', cur, fz, rfl, _⟩
  · exact ⟨none, 0, rfl⟩
  · exact ⟨_, _, rfl⟩
theorem OwnM.lt {w : World} {v : Value} {bs : List Int} (h : OwnM w v bs) : ∀ k, v.ownBlock = some k → k < w.heap.size := by
  intro k hk
  rcases h with ⟨rfl, rfl⟩ | ⟨g', cap', cur, fz, rfl, h2, _⟩
  · simp [Value.ownBlock] at hk
  · simp [Value.ownBlock] at hk; subst hk; exact obj_lt h2
theorem OwnM.kept {S : Nat → Prop} {w w' : World} {v : Value} {bs : List Int} (h : OwnM w v bs) (hk : Kept S w w') (hs : ∀ k, v.ownBlock = some k → ¬ S k) : OwnM w' v bs := by
  rcases h with h | ⟨g, cap, cur, fz, rfl, h2, rest⟩
  · exact .inl h
  · exact .inr ⟨g, cap, cur, fz, rfl, hk.obj h2 (hs g rfl), rest⟩

/-- '[]byte(s)'. -/
theorem conv_mark (w : World) (bs : List Int) (h : bs.length ≤ 1000000) (hb : AllB bs) :
    ∃ cap w', (convert 9 22 (.string (strOfNums bs))).run Tryz.prog w = .ok (.slice (some ⟨w.heap.size, 0, none⟩) bs.length cap) w' ∧ OwnM w' (.slice (some ⟨w.heap.size, 0, none⟩) bs.length cap) bs ∧ Kept NoB w w' := by
  have hr := run_bytes_of_string (P := Tryz.prog) w 9 22 5 (strOfNums bs) Tryz.underlying9 Tryz.underlying22 Tryz.underlying5
  rw [strOfNums_size] at hr
  refine ⟨_, _, hr, .inr ⟨w.heap.size, _, _, _, rfl, heap_alloc_new w.drew _, .inl (Nat.le_refl _), grownCap_ge _ _ _ _, grownCap_le_maxLen _ _ _ _ (by unfold maxLen; omega), ?_, ?_⟩, ((Kept.refl NoB w).drew).alloc _⟩
  · have := grownCap_ge w bs.length 0 5
    have hs : (strOfNums bs).data.size = bs.length := strOfNums_size bs
    unfold bytesRow
    rw [Array.size_append, Array.size_map, Array.size_replicate, strOfNums_size, hs]
    omega
  · have hs : (strOfNums bs).data.size = bs.length := strOfNums_size bs
    unfold bytesRow
    rw [Array.toList_append, List.take_append_of_le_length (by simp [hs]), List.take_of_length_le (by simp [hs])]
    rw [Array.toList_map, strOfNums_data, List.map_map]
    apply List.map_congr_left
    intro b hbm
    have := hb b hbm
    simp
    omega

/-- One byte more. -/
theorem run_appM (w : World) (t ty : TypeId) (i : TypeInfo) (ht : Tryz.prog.underlying t = some (.slice 5)) (hi : Tryz.prog.info? 5 = some i) (hz : i.zero = some (.int .u8 0)) (hsize : i.size = 1) (hby : i.bytes = 1)
    (v : Value) (bs : List Int) (hown : OwnM w v bs) (r : Nat) (z : Int) (hn : bs.length ≤ 2000000) (hc : w.cell? ⟨r, 0, none⟩ = some (.int .u8 z)) :
    ∃ v' w', (Builtin.append_ #[t, t] ty #[v, .slice (some ⟨r, 0, none⟩) 1 1]).run Tryz.prog w = .ok v' w' ∧ OwnM w' v' (bs ++ [z]) ∧ Kept (OwnB v) w w' ∧ (∀ k, v'.ownBlock = some k → v.ownBlock = some k ∨ w.heap.size ≤ k) := by
  have hnews : ∀ (j : Nat) (u : Value), [Value.int .u8 z][j]? = some u → w.cell? ((⟨r, 0, none⟩ : Addr).add j) = some u := by
    intro j u hj
    match j with
    | 0 => simp at hj; subst hj; rw [addr_add]; exact hc
    | j + 1 => simp at hj
  have hone : ∀ u ∈ [Value.int .u8 z], u.oneCell' = true := by intro u hu; simp at hu; subst hu; rfl
  rcases hown with ⟨rfl, rfl⟩ | ⟨g, cap, cur, fz, rfl, hg, hfz, hnc, hcm, hcs, htk⟩
  · obtain ⟨v', w', hr, h2, h3, h4⟩ := run_app (P := Tryz.prog) w 5 t ty i (.int .u8 0) 1 1 ht hi hz hsize hby rfl (by decide) (.slice none 0 0) 0 [] (World.ownsRow_nil _ _ _ _) ⟨r, 0, none⟩ 1 1 [.int .u8 z] rfl hnews hone (by decide) (by decide)
    refine ⟨v', w', hr, ?_, (Kept.refl _ w).grown h3 (fun k _ e => e), h4⟩
    rcases h2.2 with ⟨_, h0⟩ | ⟨g, cap, cur, hv, _, hg, h5, h6, h7, h8⟩
    · omega
    · refine .inr ⟨g, cap, cur, (0, 0), hv, hg, .inr rfl, h5, h6, by omega, ?_⟩
      simpa using h8
  · by_cases hroom : bs.length + 1 ≤ cap
    · have hr := run_append_room_cells (P := Tryz.prog) w t ty 5 i ht hi g 0 bs.length cap ⟨r, 0, none⟩ 1 1 [.int .u8 z] (by rw [hsize]; rfl) hnews hone hroom
        (by intro j hj; rw [cell_of_row w g _ cur _ fz hg]; simp at hj; simp [hsize]; omega)
        (by
          intro j hj
          simp at hj
          unfold World.frozen?
          rw [hg]
          obtain ⟨lo, hi'⟩ := fz
          simp only [Bool.and_eq_false_iff, decide_eq_false_iff_not]
          simp only at hfz
          rw [hsize]
          rcases hfz with h | h
          · left; omega
          · right; omega)
      refine ⟨_, _, hr, ?_, ?_, fun k hk => .inl hk⟩
      · rw [hsize, Nat.zero_add, Nat.mul_one]
        have hset : (w.setCells g bs.length [.int .u8 z]).heap[g]? = some (.cells (cur.setIfInBounds bs.length (.int .u8 z)) 5 fz) := by
          show (w.setCell ⟨g, bs.length, none⟩ (.int .u8 z)).heap[g]? = _
          rw [setCell_eq_setRow w g _ cur _ fz _ hg]
          exact setRow_heap w g cur _ _ fz hg
        refine .inr ⟨g, cap, _, fz, by simp, hset, by simpa using hfz, by simp; omega, hcm, by simpa using hcs, ?_⟩
        rw [List.map_append, ← htk, List.length_append, Array.toList_setIfInBounds]
        apply List.ext_getElem?
        intro q
        simp only [List.length_cons, List.length_nil, List.getElem?_take, List.getElem?_set, List.map_cons, List.map_nil]
        have hlt : bs.length < cur.toList.length := by simp; omega
        by_cases h1 : q < bs.length
        · rw [if_pos (by omega), if_neg (by omega), List.getElem?_append_left (by rw [List.length_take]; omega), List.getElem?_take, if_pos h1]
        · by_cases h2 : q = bs.length
          · subst h2
            rw [if_pos (by omega), if_pos rfl, if_pos hlt, List.getElem?_append_right (by rw [List.length_take]; omega)]
            rw [List.length_take, Nat.min_eq_left (Nat.le_of_lt hlt), Nat.sub_self]
            rfl
          · rw [if_neg (by omega), List.getElem?_eq_none]
            rw [List.length_append, List.length_take]; simp; omega
      · rw [hsize]
        exact Kept.setCell (S := OwnB (.slice (some ⟨g, 0, none⟩) bs.length cap)) (p := ⟨g, 0 + bs.length * 1, none⟩) (Kept.refl _ w) (.inl rfl) _
    · have holds : ∀ (j : Nat) (u : Value), (bs.map (Value.int .u8))[j]? = some u → w.cell? ((⟨g, 0, none⟩ : Addr).add j) = some u := by
        intro j u hj
        have hjl : j < bs.length := by have := (List.getElem?_eq_some_iff.1 hj).1; simpa using this
        rw [addr_add, Nat.zero_add, cell_of_row w g j cur _ fz hg, ← Array.getElem?_toList]
        rw [← htk, List.getElem?_take, if_pos hjl] at hj
        exact hj
      have hr := run_append_grow (P := Tryz.prog) w t ty 5 i (.int .u8 0) ht hi hz ⟨g, 0, none⟩ bs.length cap (bs.map (.int .u8)) (by simp [hsize]) holds ⟨r, 0, none⟩ 1 1 [.int .u8 z] (by simp [hsize]) hnews (by omega) (by omega) (growslice_fits (by omega) (by rw [hby]; omega))
      refine ⟨_, _, hr, .inr ⟨w.heap.size, _, _, (0, 0), by simp; rfl, heap_alloc_new w.drew _, .inr rfl, ?_, ?_, ?_, ?_⟩, ((Kept.refl _ w).drew).alloc _, ?_⟩
      · have := grownCap_ge w (bs.length + 1) cap 5; simp; omega
      · exact grownCap_le_maxLen _ _ _ _ (by unfold maxLen; omega)
      · have := grownCap_ge w (bs.length + 1) cap 5
        simp [Builtin.zeroCells, Value.cells]
        omega
      · simp only [Array.toList_append, List.length_append, List.length_cons, List.length_nil, List.map_append, List.map_cons, List.map_nil]
        rw [List.take_append_of_le_length (by simp), List.take_of_length_le (by simp)]
      · intro k hk
        simp [Value.ownBlock] at hk
        right; omega

theorem wpList_appM {w : World} {ops : Array Oper} {rest : List Oper} {o : Oper} {a : Act} {Q : Exit → Act → World → Prop} (hgd : o.guard = none) (s x : Operand) (t : TypeId)
    (ho : o.op = .call { callee := .builtin .append, args := #[s, x], argTypes := #[t, t] }) (i : TypeInfo) (ht : Tryz.prog.underlying t = some (.slice 5)) (hi : Tryz.prog.info? 5 = some i) (hz : i.zero = some (.int .u8 0)) (hsize : i.size = 1) (hby : i.bytes = 1)
    (v : Value) (bs : List Int) (hs : a.eval s = v) (hown : OwnM w v bs) (r : Nat) (z : Int) (hx : a.eval x = .slice (some ⟨r, 0, none⟩) 1 1) (hn : bs.length ≤ 2000000) (hc : w.cell? ⟨r, 0, none⟩ = some (.int .u8 z))
    (h : ∀ v' w', OwnM w' v' (bs ++ [z]) → Kept (OwnB v) w w' → (∀ k, v'.ownBlock = some k → v.ownBlock = some k ∨ w.heap.size ≤ k) → wpList Tryz.prog ops Q rest (a.put o.dst v') w') : wpList Tryz.prog ops Q (o :: rest) a w :=
  wpList_plain hgd fun _ hK => by
    obtain ⟨v', w', hr, h2, h3, h4⟩ := run_appM w t o.type i ht hi hz hsize hby v bs hown r z hn hc
    unfold Oper.wp execOp
    simp only [ho, resolve, invoke, builtin, Sem.run_bind, Sem.run_pure, Result.andThen_ok, List.map_toArray, List.map_cons, List.map_nil, hs, hx, hr]
    exact hK _ _ (h v' w' h2 h3 h4)
end Go.Proofs.YtdpegahcgaicnaaGreatDoor
