/-
  match.single; match.Tokens at any level.
-/
import Derived.Test.YtifoldonmmobpaaDoorMatN
namespace Go.Proofs.YtifoldonmmobpaaDoor
open Go.RowKit
set_option linter.unusedVariables false
set_option linter.unusedSimpArgs false

theorem tkC_app (a b : List Tk) : tkC (a ++ b) = tkC a ++ tkC b := by simp [tkC]
theorem tkC_cons (t : Tk) (r : List Tk) : tkC (t :: r) = .int .i64 t.l :: .int .i64 t.d :: .int .u8 t.c :: tkC r := by simp [tkC]
def oneT (b : UInt8) : Tk := ⟨0, 0, (b.toNat : Int)⟩
def fillT (L : List UInt8) (j : Nat) : List Tk := (L.take j).map oneT ++ List.replicate (L.length - j) ⟨0, 0, 0⟩
theorem fillT_len (L : List UInt8) (j : Nat) (h : j ≤ L.length) : (fillT L j).length = L.length := by simp [fillT]; omega
theorem fillT_set (L : List UInt8) (j : Nat) (h : j < L.length) : (tkC (fillT L j)).set (j * 3 + 2) (.int .u8 ((L.getD j 0).toNat : Int)) = tkC (fillT L (j + 1)) := by
  have e : L.getD j 0 = L[j] := by simp [List.getD, h]
  have ht : (L.take (j + 1)).map oneT = (L.take j).map oneT ++ [oneT L[j]] := by rw [List.take_succ_eq_append_getElem h, List.map_append]; rfl
  have hr : List.replicate (L.length - j) (⟨0, 0, 0⟩ : Tk) = ⟨0, 0, 0⟩ :: List.replicate (L.length - (j + 1)) ⟨0, 0, 0⟩ := by
    rw [show L.length - j = (L.length - (j + 1)) + 1 by omega, List.replicate_succ]
  have hl : (tkC ((L.take j).map oneT)).length = j * 3 := by rw [tkC_len, List.length_map, List.length_take]; omega
  rw [fillT, fillT, ht, hr, e, tkC_app, tkC_app, tkC_app, tkC_cons, List.set_append_right _ _ (by omega), hl, show j * 3 + 2 - j * 3 = 2 by omega, List.append_assoc]
  rfl
theorem fillT_full (L : List UInt8) : fillT L L.length = L.map oneT := by simp [fillT]
theorem made_tk (n : Nat) : (madeCells #[.int .i64 0, .int .i64 0, .int .u8 0] (n * 3)).toList = tkC (List.replicate n ⟨0, 0, 0⟩) := by
  apply List.ext_getElem?
  intro j
  by_cases hj : j < n * 3
  · obtain ⟨i, r, rfl, hr⟩ : ∃ i r, j = i * 3 + r ∧ r < 3 := ⟨j / 3, j % 3, by omega, by omega⟩
    have hi : i < n := by omega
    obtain ⟨h0, h1, h2⟩ := tkC_at (List.replicate n ⟨0, 0, 0⟩) i (by simpa using hi)
    simp only [List.getElem_replicate] at h0 h1 h2
    have hm : (i * 3 + r) % 3 = r := by omega
    have hl : (madeCells #[.int .i64 0, .int .i64 0, .int .u8 0] (n * 3)).toList[i * 3 + r]? = some ((#[Value.int .i64 0, .int .i64 0, .int .u8 0] : Array Value)[r]!) := by
      simp [madeCells, hj, hm]
    rw [hl]
    rcases (show r = 0 ∨ r = 1 ∨ r = 2 by omega) with rfl | rfl | rfl
    · rw [Nat.add_zero, h0]; rfl
    · rw [h1]; rfl
    · rw [h2]; rfl
  · rw [List.getElem?_eq_none (by simp [madeCells]; omega), List.getElem?_eq_none (by rw [tkC_len, List.length_replicate]; omega)]
/-- Below level one, bytes go alone. -/
theorem rest_low (lv : Int) (L : List UInt8) (h : lv < 1) : ∀ k i, L.length - i ≤ k → restT lv L i = (L.drop i).map oneT := by
  intro k
  induction k with
  | zero => intro i hk; rw [rest_end lv L i (by omega), List.drop_eq_nil_of_le (by omega)]; rfl
  | succ k ih =>
    intro i hk
    by_cases hi : i < L.length
    · have e : (lazyN lv L i).1 = 0 := by rw [lazyN, if_pos h]
      rw [rest_step lv L i hi, step_lit e, List.drop_eq_getElem_cons hi, List.map_cons]
      show litT L i :: restT lv L (i + 1) = _
      rw [ih (i + 1) (by omega)]
      have e2 : L.getD i 0 = L[i] := by simp [List.getD, hi]
      rw [litT, e2]
      rfl
    · rw [rest_end lv L i (by omega), List.drop_eq_nil_of_le (by omega)]; rfl
set_option maxRecDepth 20000 in
set_option maxHeartbeats 4000000 in
theorem single_any (ao : Option Addr) (n c : Nat) (L : List UInt8) (w : World) (hr : RowB w w.heap.size ao L) (hn : n = L.length) (hn3 : n ≤ 32768) :
    Calls Tryd.prog 16 #[.slice ao n c] w fun e w' => ∃ a2 c2, e = .returned (.slice a2 n c2) ∧ TkSt w.heap.size w' a2 n c2 (L.map oneT) ∧ Kept NoB w w' := by
  obtain ⟨i0, hi, hz0, hz1, hz2⟩ := info_parts infoTk
  have HR := Lib.hid hr; have HN := Lib.hid hn
  clear hr hn
  go_enter Tryd.func16, Tryd.ntmps16
  go_wp2_with (at_make; refine wpList_make_full _ rfl _ _ _ rfl 0 26 i0 (.agg #[.int .i64 0, .int .i64 0, .int .u8 0]) 3 Tryd.underlying23 hi hz0 hz1 .i64 .i64 _ _ n rfl rfl rfl rfl (by rw [hz2]; omega) (by unfold maxLen; omega) (Nat.zero_le _) ?_)
  intro w2 hown hgrow
  obtain ⟨G, hG⟩ : ∃ G, G = w.heap.size := ⟨_, rfl⟩
  rw [← hG] at hown ⊢
  have hown0 : w2.ownsRow 0 26 3 (.slice (some ⟨G, 0, none⟩) n n) n (tkC (fillT L 0)) := by
    rw [fillT, List.take_zero, List.map_nil, List.nil_append, Nat.sub_zero, ← HN.out, ← made_tk]
    exact hown
  have HO0 := Lib.hid hown0; have HK0 := Lib.hid ((Kept.refl NoB w).grown hgrow (fun _ _ e => by cases e)); have HG := Lib.hid hG
  clear hown hgrow hown0 hG
  go_wp2
  go_loopw [11, 4, 5] (fun v11 v4 v5 wr => ∃ j : Nat, v11 = .int .i64 (j : Int) ∧ j ≤ n ∧ Hid (wr.ownsRow 0 26 3 (.slice (some ⟨G, 0, none⟩) n n) n (tkC (fillT L j))) ∧ Hid (Kept NoB w wr)) (fun v11 _ _ _ => n - (intOf v11).toNat)
  case atStart => exact ⟨0, rfl, by omega, HO0, HK0⟩
  case round =>
    obtain ⟨j, rfl, hj, HO, HK⟩ := hrel
    by_cases hlt : (j : Int) < n
    · obtain ⟨g, o, rfl, hg, hrd⟩ := HR.out (by have := HN.out; omega)
      have hc := HK.out.cell (hrd j (by have := HN.out; omega))
      rw [Nat.zero_add] at hc
      have hst : (wr.setCell ⟨G, j * 3 + 2, none⟩ (.int .u8 ((L.getD j 0).toNat : Int))).ownsRow 0 26 3 (.slice (some ⟨G, 0, none⟩) n n) n (tkC (fillT L (j + 1))) := by
        rw [← fillT_set L j (by have := HN.out; omega)]
        exact (HO.out.stored (j * 3 + 2) (.int .u8 ((L.getD j 0).toNat : Int))).1
      generalize ((L.getD j 0).toNat : Int) = y at hc hst
      have hkn : Kept NoB w (wr.setCell ⟨G, j * 3 + 2, none⟩ (.int .u8 y)) := Kept.setCell (p := ⟨G, j * 3 + 2, none⟩) HK.out (.inr (show w.heap.size ≤ G by rw [HG.out]; exact Nat.le_refl _)) _
      have hlr : j * 3 + 2 < (tkC (fillT L j)).length := by rw [tkC_len, fillT_len L j (by have := HN.out; omega)]; have := HN.out; omega
      have hcz : ∃ u, wr.cell? ⟨G, j * 3 + 2, none⟩ = some u := ⟨_, by rw [HO.out.cellAt (j * 3 + 2) (by omega), List.getElem?_eq_getElem hlr]⟩
      obtain ⟨u, hcz⟩ := hcz
      have hfz : wr.frozen? ⟨G, j * 3 + 2, none⟩ = false := HO.out.frozenAt _
      have HSt := Lib.hid hst; have HKn := Lib.hid hkn
      clear hst hkn hlr hrd hg
      go_wp2
      go_roundw
      case rel => exact ⟨j + 1, by go_num, by omega, HSt, HKn⟩
      case measure => simp [intOf]; omega
    · have hjn : j = n := by omega
      have HD : Hid (TkSt w.heap.size wr (some ⟨G, 0, none⟩) n n (L.map oneT)) := Lib.hid ⟨by rw [List.length_map]; exact HN.out, by have := HO.out; rw [hjn, HN.out, fillT_full] at this; rw [HN.out]; exact this, fun k hk => by
        have e : (Value.slice (some ⟨G, 0, none⟩) n n).ownBlock = some G := rfl
        rw [e] at hk
        cases hk
        rw [HG.out]
        exact Nat.le_refl _⟩
      clear HO hjn
      go_wp2
      go_ret
      exact ⟨_, _, rfl, HD.out, HK.out⟩
set_option maxRecDepth 20000 in
set_option maxHeartbeats 4000000 in
/-- Tokens at any level. -/
theorem tokens_all (ao : Option Addr) (n c : Nat) (lv : Int) (L : List UInt8) (w : World) (hr : RowB w w.heap.size ao L) (hn : n = L.length) (hn3 : n ≤ 32768) (hc : n ≤ c) (hcm : c ≤ 9223372036854775807) (hT : DeB w) (hlv : -9223372036854775808 ≤ lv ∧ lv ≤ 9223372036854775807) :
    Calls Tryd.prog 7 #[.slice ao n c, .int .i64 lv] w fun e w' => ∃ a2 c2, e = .returned (.slice a2 (restT lv L 0).length c2) ∧ TkSt w.heap.size w' a2 (restT lv L 0).length c2 (restT lv L 0) ∧ Kept NoB w w' := by
  by_cases h1 : 1 ≤ lv
  · exact tokens_any ao n c lv L w hr hn hn3 hc hcm hT ⟨h1, hlv.2⟩
  · have hlt : lv < 1 := by omega
    have e : restT lv L 0 = L.map oneT := by rw [rest_low lv L hlt L.length 0 (by omega), List.drop_zero]
    rw [e, List.length_map, ← hn]
    have HS := Lib.hid (single_any ao n c L w hr hn hn3)
    clear hr hn hn3 hc hcm hT e h1
    go_enter Tryd.func7, Tryd.ntmps7
    go_wp2_with fail
    with_reducible refine HS.out.mono ?_
    rintro e w2 ⟨a2, c2, rfl, ht, hk⟩
    have HT := Lib.hid ht; have HK := Lib.hid hk
    clear ht hk
    go_wp2
    go_ret
    exact ⟨_, _, rfl, HT.out, HK.out⟩
end Go.Proofs.YtifoldonmmobpaaDoor
