/-
  huff.leavesOf where the weights do not fall.
-/
import Derived.Test.YtokdlmpnokmniaaHuffS
namespace Go.Proofs.Ytokdlmpnokmniaa
open Go.RowKit
set_option linter.unusedVariables false
set_option linter.unusedSimpArgs false

set_option maxRecDepth 20000 in
theorem stable_up (a : Option Addr) (c B : Nat) (lv : List (Int × Int)) (w : World) (hr : RdLf w B a lv) (hu : Up lv) (hl : lv.length < 20) :
    Calls Try.prog 47 #[.slice a lv.length c, .int .i64 (lv.length : Int), .func (.func 43) #[] #[]] w fun e w' => e = .returned (.tuple #[]) ∧ Kept NoB w w' := by
  have HI := Lib.hid (insertion_up a c B lv w hr hu (by omega))
  obtain ⟨n, hn⟩ : ∃ n, n = lv.length := ⟨_, rfl⟩
  rw [← hn] at hl HI ⊢
  clear hn hr hu
  have h1 : ¬ (20 : Int) ≤ (n : Int) := by omega
  have h2 : ¬ (20 : Int) < (n : Int) := by omega
  have h3 : n < 20 := by omega
  go_enter Try.func47, Try.ntmps47
  go_wp2
  go_loopw [7, 8] (fun v7 v8 wr => v7 = .int .i64 0 ∧ v8 = .int .i64 20 ∧ w = wr) (fun _ _ _ => 0)
  case atStart => exact ⟨rfl, rfl, rfl⟩
  case round =>
    obtain ⟨rfl, rfl, rfl⟩ := hrel
    go_wp2_with fail
    refine HI.out.mono ?_
    rintro e w1 ⟨rfl, hk⟩
    have HK := Lib.hid hk
    clear hk
    go_wp2
    go_loopw [6, 7, 8, 9] (fun v6 v7 v8 _v9 wr => v6 = .int .i64 20 ∧ Hid (Kept NoB w wr)) (fun _ _ _ _ _ => 0)
    case atStart => exact ⟨rfl, HK⟩
    case round =>
      clear HK
      obtain ⟨rfl, HK⟩ := hrel
      go_wp2
      go_end0
      exact ⟨rfl, HK.out⟩
theorem sort_up (a : Option Addr) (c B : Nat) (lv : List (Int × Int)) (w : World) (hr : RdLf w B a lv) (hu : Up lv) (hl : lv.length < 20) :
    Calls Try.prog 42 #[.slice a lv.length c, .func (.func 43) #[] #[]] w fun e w' => e = .returned (.tuple #[]) ∧ Kept NoB w w' := by
  have HI := Lib.hid (stable_up a c B lv w hr hu (by omega))
  obtain ⟨n, hn⟩ : ∃ n, n = lv.length := ⟨_, rfl⟩
  rw [← hn] at hl HI ⊢
  clear hn hr hu
  go_enter Try.func42, Try.ntmps42
  go_wp2_with fail
  refine HI.out.mono ?_
  rintro e w1 ⟨rfl, hk⟩
  have HK := Lib.hid hk
  clear hk
  go_wp2
  go_end0
  exact ⟨rfl, HK.out⟩

theorem infoLf : (Try.prog.info? 82).map (fun i => (i.zero, i.size, i.bytes)) = some (some (.agg #[.int .i64 0, .int .i64 0]), 2, 16) := by kernel_rfl
/-- The cells of leaves. -/
def lcells (rs : List (Int × Int)) : List Value := rs.flatMap fun p => [.int .i64 p.1, .int .i64 p.2]
theorem lcells_app (rs : List (Int × Int)) (s x : Int) : lcells rs ++ [.int .i64 s, .int .i64 x] = lcells (rs ++ [(s, x)]) := by simp [lcells]
theorem lcells_at : ∀ (rs : List (Int × Int)) (i : Nat), i < rs.length → (lcells rs)[i * 2]? = some (.int .i64 (rs.getD i (0, 0)).1) ∧ (lcells rs)[i * 2 + 1]? = some (.int .i64 (rs.getD i (0, 0)).2) := by
  intro rs
  induction rs with
  | nil => intro i hi; simp at hi
  | cons p r ih =>
    intro i hi
    have e : lcells (p :: r) = .int .i64 p.1 :: .int .i64 p.2 :: lcells r := by simp [lcells]
    rw [e]
    cases i with
    | zero => exact ⟨rfl, rfl⟩
    | succ i =>
      have hi' : i < r.length := by simpa using hi
      obtain ⟨h1, h2⟩ := ih i hi'
      rw [show (i + 1) * 2 = i * 2 + 1 + 1 by omega]
      refine ⟨?_, ?_⟩
      · simpa using h1
      · rw [List.getElem?_cons_succ, List.getElem?_cons_succ]; simpa using h2
def OwnL (w : World) (ao : Option Addr) (cap : Nat) (rs : List (Int × Int)) : Prop := w.ownsRow 0 82 2 (.slice ao rs.length cap) rs.length (lcells rs)
theorem OwnL.reads {w : World} {a : Option Addr} {c : Nat} {rs : List (Int × Int)} (h : OwnL w a c rs) : RdLf w w.heap.size a rs := by
  intro i hi
  rcases h.2 with ⟨_, hz⟩ | ⟨g, cc, cur, hv, _⟩
  · omega
  · simp at hv
    obtain ⟨rfl, rfl⟩ := hv
    obtain ⟨h1, h2⟩ := lcells_at rs i hi
    have hc1 : w.cell? ⟨g, i * 2, none⟩ = some (.int .i64 (rs.getD i (0, 0)).1) := by
      rw [← h1]; exact h.cellAt (i * 2) (by omega)
    have hc2 : w.cell? ⟨g, i * 2 + 1, none⟩ = some (.int .i64 (rs.getD i (0, 0)).2) := by
      rw [← h2]; exact h.cellAt (i * 2 + 1) (by omega)
    exact ⟨g, 0, rfl, World.block_lt_of_cell? w _ hc1, by rw [Nat.zero_add]; exact hc1, by rw [Nat.zero_add]; exact hc2⟩
structure LfSt (w0 w : World) (a : Option Addr) (c : Nat) (rs : List (Int × Int)) : Prop where
  own : OwnL w a c rs
  kept : Kept NoB w0 w
  fresh : ∀ k, (Value.slice a rs.length c).ownBlock = some k → w0.heap.size ≤ k
theorem LfSt.app {w0 wr w2 : World} {a' a2 : Option Addr} {c' c2 len : Nat} {rs : List (Int × Int)} {s x : Int} {o : Obj} (h : LfSt w0 wr a' c' rs) (hlen : len = rs.length)
    (hown : w2.ownsRow 0 82 2 (.slice a2 (len + 1) c2) (len + 1) (lcells rs ++ [.int .i64 s, .int .i64 x])) (hgrow : (wr.alloc o).grownBy w2 (Value.slice a' len c').ownBlock)
    (hnew : ∀ k, (Value.slice a2 (len + 1) c2).ownBlock = some k → (Value.slice a' len c').ownBlock = some k ∨ wr.heap.size + 1 ≤ k) : LfSt w0 w2 a2 c2 (rs ++ [(s, x)]) := by
  subst hlen
  have hl : (rs ++ [(s, x)]).length = rs.length + 1 := by simp
  refine ⟨?_, ?_, ?_⟩
  · unfold OwnL
    rw [hl, ← lcells_app]
    exact hown
  · exact (h.kept.alloc o).grown hgrow (fun k hk e => by have := h.fresh k e; omega)
  · intro k hk
    rw [hl] at hk
    rcases hnew k hk with h1 | h1
    · exact h.fresh k h1
    · have := h.kept.size; omega
theorem news_lf (w : World) (s x : Int) : ∀ (k : Nat) (u : Value), [Value.int .i64 s, .int .i64 x][k]? = some u → (w.alloc (.cells #[.int .i64 s, .int .i64 x] 82)).cell? ((⟨w.heap.size, 0, none⟩ : Addr).add k) = some u := by
  intro k u hk
  rw [addr_add, Nat.zero_add, cell_new k rfl]
  simpa using hk

/-- The weights above 0, from place i on. -/
def leavesL : Nat → List Int → List (Int × Int)
  | _, [] => []
  | i, z :: r => if 0 < z then ((i : Int), z) :: leavesL (i + 1) r else leavesL (i + 1) r
theorem leavesL_step (ws : List Int) (j : Nat) (h : j < ws.length) : leavesL j (ws.drop j) = if 0 < ws.getD j 0 then ((j : Int), ws.getD j 0) :: leavesL (j + 1) (ws.drop (j + 1)) else leavesL (j + 1) (ws.drop (j + 1)) := by
  have e : ws.drop j = ws.getD j 0 :: ws.drop (j + 1) := by
    rw [List.drop_eq_getElem_cons h]; simp [List.getD, h]
  conv => lhs; rw [e]
  rfl
theorem leavesL_end (ws : List Int) (j : Nat) (h : ws.length ≤ j) : leavesL j (ws.drop j) = [] := by rw [List.drop_of_length_le h]; rfl

set_option maxRecDepth 20000 in
set_option maxHeartbeats 1000000 in
theorem leaves_up (a : Option Addr) (c B : Nat) (ws : List Int) (w : World) (hr : RdI w B a ws) (hb : Small 1000000 ws) (hl : ws.length < 20) (hu : Up (leavesL 0 ws)) :
    Calls Try.prog 37 #[.slice a ws.length c] w fun e w' => ∃ a' c', e = .returned (.tuple #[.slice a' (leavesL 0 ws).length c', .bool true]) ∧ LfSt w w' a' c' (leavesL 0 ws) := by
  have HR := Lib.hid hr; have HB := Lib.hid hb; have HU := Lib.hid hu
  obtain ⟨i0, hi, hz0, hz1, hz2⟩ := info_parts infoLf
  obtain ⟨R, hR⟩ : ∃ R, R = leavesL 0 ws := ⟨_, rfl⟩
  rw [← hR] at HU ⊢
  have HRe := Lib.hid hR
  obtain ⟨n, hn⟩ : ∃ n, n = ws.length := ⟨_, rfl⟩
  have HN := Lib.hid hn
  rw [← hn] at hl ⊢
  clear hr hb hu hR hn
  go_enter Try.func37, Try.ntmps37
  go_wp2
  go_loopw [9, 4, 5, 6] (fun v9 v4 _v5 _v6 wr => ∃ (j : Nat) (rs : List (Int × Int)) (a4 : Option Addr) (l4 c4 : Nat), v9 = .int .i64 (j : Int) ∧ v4 = .slice a4 l4 c4 ∧ j ≤ n ∧ l4 ≤ j ∧ Hid (l4 = rs.length) ∧ Hid (LfSt w wr a4 c4 rs) ∧ Hid (rs ++ leavesL j (ws.drop j) = R)) (fun v9 _ _ _ _ => n - (intOf v9).toNat)
  case atStart => exact ⟨0, [], none, 0, 0, rfl, rfl, by omega, by omega, Lib.hid rfl, Lib.hid ⟨World.ownsRow_nil _ _ _ _, Kept.refl _ _, fun k hk => by simp [Value.ownBlock] at hk⟩, Lib.hid (by rw [List.drop_zero, List.nil_append]; exact HRe.out.symm)⟩
  case round =>
    obtain ⟨j, rs, a4, l4, c4, rfl, rfl, hj, hl4, HL4, HS, HX⟩ := hrel
    by_cases hlt : (j : Int) < n
    · obtain ⟨g, off, rfl, _, hc0⟩ := HR.out j (by have := HN.out; omega)
      have hc := HS.out.kept.cell hc0
      have hbz := HB.out.getD j (by have := HN.out; omega)
      have hx := HX.out
      rw [leavesL_step ws j (by have := HN.out; omega)] at hx
      obtain ⟨z, hz⟩ : ∃ z, z = ws.getD j 0 := ⟨_, rfl⟩
      rw [← hz] at hc hbz hx
      clear hz hc0
      have h1 : ¬ z < 0 := by omega
      have h2 : ¬ 1000000 < z := by omega
      by_cases hz0' : 0 < z
      · rw [if_pos hz0'] at hx
        have HX2 := Lib.hid hx
        have hrow := HS.out.own
        unfold OwnL at hrow
        rw [← HL4.out] at hrow
        have HRow := Lib.hid (hrow.alloc (.cells #[.int .i64 (j : Int), .int .i64 z] 82)); have HNw := Lib.hid (news_lf wr (j : Int) z)
        clear hrow hx
        go_wp2_with (at_builtin; refine wpList_app _ rfl _ _ 78 rfl 82 i0 (.agg #[.int .i64 0, .int .i64 0]) 2 16 Try.underlying78 hi hz0 hz1 hz2 rfl (by decide) _ l4 (lcells rs) rfl HRow.out ⟨wr.heap.size, 0, none⟩ 1 1 [.int .i64 (j : Int), .int .i64 z] rfl rfl HNw.out ?d2 ?d3 ?d4 ?_)
        case d2 => first | rfl | (intro u hu; simp at hu; rcases hu with rfl | rfl <;> rfl) | (simp [Value.oneCell'])
        case d3 => unfold maxLen; omega
        case d4 => omega
        intro v' w2 hown' hgrow hnew
        obtain ⟨a2, c2, rfl⟩ := own_shape2 hown'
        have HSt := Lib.hid (HS.out.app HL4.out hown' hgrow hnew)
        clear hown' hgrow hnew
        go_wp2
        go_roundw
        case rel => exact ⟨j + 1, rs ++ [((j : Int), z)], a2, l4 + 1, c2, by go_num, rfl, by omega, by omega, Lib.hid (by rw [HL4.out]; simp), HSt, Lib.hid (by rw [List.append_assoc]; exact HX2.out)⟩
        case measure => simp [intOf]; omega
      · rw [if_neg hz0'] at hx
        have HX2 := Lib.hid hx
        clear hx
        go_wp2
        go_roundw
        case rel => exact ⟨j + 1, rs, a4, l4, c4, by go_num, rfl, by omega, by omega, HL4, HS, HX2⟩
        case measure => simp [intOf]; omega
    · have hx := HX.out
      rw [leavesL_end ws j (by have := HN.out; omega), List.append_nil] at hx
      subst hx
      have hso := sort_up a4 c4 wr.heap.size rs wr HS.out.own.reads HU.out (by have := HL4.out; omega)
      rw [← HL4.out] at hso
      have HSo := Lib.hid hso
      clear hso
      go_wp2_with fail
      refine HSo.out.mono ?_
      rintro e w2 ⟨rfl, hk⟩
      have HK := Lib.hid hk
      clear hk
      go_wp2
      go_ret2
      exact ⟨a4, c4, by rw [HL4.out]; rfl, HK.out.row HS.out.own (fun _ _ h => h), HS.out.kept.trans HK.out, HS.out.fresh⟩
end Go.Proofs.Ytokdlmpnokmniaa
