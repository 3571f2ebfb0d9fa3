/-
  huff.leavesOf and huff.Lengths at any weights.
-/
import Derived.Test.YtokdlmpnokmniaaSortH
import Derived.Test.YtokdlmpnokmniaaHuffU
namespace Go.Proofs.Ytokdlmpnokmniaa
open Go.RowKit
set_option linter.unusedVariables false
set_option linter.unusedSimpArgs false

theorem leaves_ge : ∀ (ws : List Int) (i : Nat), ∀ p ∈ leavesL i ws, (i : Int) ≤ p.1
  | [], i, p, hp => by cases hp
  | z :: r, i, p, hp => by
    unfold leavesL at hp
    split at hp
    · rcases List.mem_cons.1 hp with rfl | hp
      · exact Int.le_refl _
      · have := leaves_ge r (i + 1) p hp; omega
    · have := leaves_ge r (i + 1) p hp; omega
theorem inc_leaves : ∀ (ws : List Int) (i : Nat), Inc (leavesL i ws)
  | [], i => List.Pairwise.nil
  | z :: r, i => by
    unfold leavesL
    split
    · refine List.pairwise_cons.2 ⟨fun p hp => ?_, inc_leaves r (i + 1)⟩
      have := leaves_ge r (i + 1) p hp
      simp only; omega
    · exact inc_leaves r (i + 1)
theorem sort_calls (G n c : Nat) (X : List Lf) (w : World) (h : SrtSt G n c w w X) (hI : Inc X) (hn : n ≤ 1000) :
    Calls Try.prog 42 #[.slice (some ⟨G, 0, none⟩) n c, .func (.func 43) #[] #[]] w fun e w' => e = .returned (.tuple #[]) ∧ ∃ S, SrtP S X ∧ SrtSt G n c w w' S := by
  have HC := Lib.hid (stable_calls G n c X w h hI hn)
  go_enter Try.func42, Try.ntmps42
  go_wp2_with fail
  refine HC.out.mono ?_
  rintro e w1 ⟨rfl, S, h1, h2⟩
  have HS1 := Lib.hid h1; have HS2 := Lib.hid h2
  clear h1 h2
  go_wp2
  go_end0
  exact ⟨rfl, S, HS1.out, HS2.out⟩
theorem sort_lf {w0 w : World} {a : Option Addr} {c : Nat} {rs : List Lf} (h : LfSt w0 w a c rs) (hI : Inc rs) (hn : rs.length ≤ 1000) :
    Calls Try.prog 42 #[.slice a rs.length c, .func (.func 43) #[] #[]] w fun e w' => e = .returned (.tuple #[]) ∧ ∃ S, SrtP S rs ∧ LfSt w0 w' a c S := by
  by_cases h0 : 0 < rs.length
  · have ho := h.own
    unfold OwnL at ho
    obtain ⟨g, rfl⟩ := own_some ho h0
    have hg := h.fresh g rfl
    refine (sort_calls g rs.length c rs w ⟨rfl, ho, Kept.refl _ _⟩ hI hn).mono ?_
    rintro e w' ⟨rfl, S, h1, h2⟩
    refine ⟨rfl, S, h1, ?_, h.kept.trans' h2.kept (fun i hi e => by unfold OneB at e; omega), fun k hk => ?_⟩
    · have := h2.own
      unfold OwnL
      rw [h1.len]
      exact this
    · rw [h1.len] at hk
      exact h.fresh k hk
  · have hn0 := List.eq_nil_of_length_eq_zero (show rs.length = 0 by omega)
    subst hn0
    refine (sort_up a c w.heap.size [] w (fun i hi => by simp at hi) (fun i hi => by simp at hi) (by simp)).mono ?_
    rintro e w' ⟨rfl, hk⟩
    exact ⟨rfl, [], ⟨List.Perm.refl _, List.Pairwise.nil⟩, hk.row h.own (fun _ _ h => h), h.kept.trans hk, h.fresh⟩

set_option maxRecDepth 20000 in
set_option maxHeartbeats 1000000 in
theorem leaves_any (a : Option Addr) (c B : Nat) (ws : List Int) (w : World) (hr : RdI w B a ws) (hb : Small 1000000 ws) (hl : ws.length ≤ 320) :
    Calls Try.prog 37 #[.slice a ws.length c] w fun e w' => ∃ a' c', ∃ S, e = .returned (.tuple #[.slice a' S.length c', .bool true]) ∧ SrtP S (leavesL 0 ws) ∧ LfSt w w' a' c' S := by
  have HR := Lib.hid hr; have HB := Lib.hid hb; have HI := Lib.hid (inc_leaves ws 0)
  obtain ⟨i0, hi, hz0, hz1, hz2⟩ := info_parts infoLf
  obtain ⟨R, hR⟩ : ∃ R, R = leavesL 0 ws := ⟨_, rfl⟩
  rw [← hR] at HI ⊢
  have HRe := Lib.hid hR
  obtain ⟨n, hn⟩ : ∃ n, n = ws.length := ⟨_, rfl⟩
  have HN := Lib.hid hn
  rw [← hn] at hl ⊢
  clear hr hb hR hn
  go_enter Try.func37, Try.ntmps37
  go_wp2
  go_loopw [9, 4, 5, 6] (fun v9 v4 _v5 _v6 wr => ∃ (j : Nat) (rs : List (Int × Int)) (a4 : Option Addr) (l4 c4 : Nat), v9 = .int .i64 (j : Int) ∧ v4 = .slice a4 l4 c4 ∧ j ≤ n ∧ l4 ≤ j ∧ Hid (l4 = rs.length) ∧ Hid (LfSt w wr a4 c4 rs) ∧ Hid (rs ++ leavesL j (ws.drop j) = R)) (fun v9 _ _ _ _ => n - (intOf v9).toNat)
  case atStart => exact ⟨0, [], none, 0, 0, rfl, rfl, by omega, by omega, Lib.hid rfl, Lib.hid ⟨World.ownsRow_nil _ _ _ _, Kept.refl _ _, fun k hk => by simp [Value.ownBlock] at hk⟩, Lib.hid (by rw [List.drop_zero, List.nil_append]; exact HRe.out.symm)⟩
  case round =>
    obtain ⟨j, rs, a4, l4, c4, rfl, rfl, hj, hl4, HL4, HS, HX⟩ := hrel
    by_cases hlt : (j : Int) < n
    · obtain ⟨g, off, rfl, _, hc0⟩ := HR.out j (by have := HN.out; omega)
      have hc := HS.out.kept.cell hc0
      have hbz := HB.out.getD j (by have := HN.out; omega)
      have hx := HX.out
      rw [leavesL_step ws j (by have := HN.out; omega)] at hx
      obtain ⟨z, hz⟩ : ∃ z, z = ws.getD j 0 := ⟨_, rfl⟩
      rw [← hz] at hc hbz hx
      clear hz hc0
      have h1 : ¬ z < 0 := by omega
      have h2 : ¬ 1000000 < z := by omega
      by_cases hz0' : 0 < z
      · rw [if_pos hz0'] at hx
        have HX2 := Lib.hid hx
        have hrow := HS.out.own
        unfold OwnL at hrow
        rw [← HL4.out] at hrow
        have HRow := Lib.hid (hrow.alloc (.cells #[.int .i64 (j : Int), .int .i64 z] 82)); have HNw := Lib.hid (news_lf wr (j : Int) z)
        clear hrow hx
        go_wp2_with (at_builtin; refine wpList_app _ rfl _ _ 78 rfl 82 i0 (.agg #[.int .i64 0, .int .i64 0]) 2 16 Try.underlying78 hi hz0 hz1 hz2 rfl (by decide) _ l4 (lcells rs) rfl HRow.out ⟨wr.heap.size, 0, none⟩ 1 1 [.int .i64 (j : Int), .int .i64 z] rfl rfl HNw.out ?d2 ?d3 ?d4 ?_)
        case d2 => first | rfl | (intro u hu; simp at hu; rcases hu with rfl | rfl <;> rfl) | (simp [Value.oneCell'])
        case d3 => unfold maxLen; omega
        case d4 => omega
        intro v' w2 hown' hgrow hnew
        obtain ⟨a2, c2, rfl⟩ := own_shape2 hown'
        have HSt := Lib.hid (HS.out.app HL4.out hown' hgrow hnew)
        clear hown' hgrow hnew
        go_wp2
        go_roundw
        case rel => exact ⟨j + 1, rs ++ [((j : Int), z)], a2, l4 + 1, c2, by go_num, rfl, by omega, by omega, Lib.hid (by rw [HL4.out]; simp), HSt, Lib.hid (by rw [List.append_assoc]; exact HX2.out)⟩
        case measure => simp [intOf]; omega
      · rw [if_neg hz0'] at hx
        have HX2 := Lib.hid hx
        clear hx
        go_wp2
        go_roundw
        case rel => exact ⟨j + 1, rs, a4, l4, c4, by go_num, rfl, by omega, by omega, HL4, HS, HX2⟩
        case measure => simp [intOf]; omega
    · have hx := HX.out
      rw [leavesL_end ws j (by have := HN.out; omega), List.append_nil] at hx
      subst hx
      have hso := sort_lf HS.out HI.out (by have := HL4.out; omega)
      rw [← HL4.out] at hso
      have HSo := Lib.hid hso
      clear hso
      go_wp2_with fail
      refine HSo.out.mono ?_
      rintro e w2 ⟨rfl, S, hsp, hst⟩
      have HSp := Lib.hid hsp; have HSt := Lib.hid hst
      clear hsp hst
      go_wp2
      go_ret2
      exact ⟨a4, c4, S, by rw [HSp.out.len, ← HL4.out]; rfl, HSp.out, HSt.out⟩
end Go.Proofs.Ytokdlmpnokmniaa
