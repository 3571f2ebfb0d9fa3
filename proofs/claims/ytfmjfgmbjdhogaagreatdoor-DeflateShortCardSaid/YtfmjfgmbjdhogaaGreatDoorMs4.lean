/-
  huff.leavesOf: a row of leaves that is sorted already stays as it is.
  huff.leavesOf where the weights do not fall.
  The library's stable sort at leaves: a row of leaves of the call's own, two of them put one in the other's place, ranges of them.
  The library's stable sort at leaves: a range put behind the next one.
  Leaves in order, on paper: the lighter ahead, of two alike the one whose place is ahead.
-/
import Derived.Test.YtfmjfgmbjdhogaaGreatDoorMs3
import Derived.BigRegion
namespace Go.Proofs.YtfmjfgmbjdhogaaGreatDoor
open Go.RowKit
set_option linter.unusedVariables false
set_option linter.unusedSimpArgs false

theorem nan_any (x : Int) (w : World) : Calls Tryz.prog 187 #[.int .i64 x] w fun e w' => e = .returned (.bool false) ∧ w = w' := by
  go_enter Tryz.func187, Tryz.ntmps187
  go_wp2
  go_ret
  exact ⟨rfl, rfl⟩
def cmpI (x y : Int) : Int := if x < y then -1 else if y < x then 1 else 0
theorem compare_any (x y : Int) (w : World) : Calls Tryz.prog 183 #[.int .i64 x, .int .i64 y] w fun e w' => e = .returned (.int .i64 (cmpI x y)) ∧ w = w' := by
  have HN := Lib.hid nan_any
  have hc : (x < y ∧ cmpI x y = -1) ∨ (¬ x < y ∧ y < x ∧ cmpI x y = 1) ∨ (¬ x < y ∧ ¬ y < x ∧ cmpI x y = 0) := by
    unfold cmpI
    by_cases h1 : x < y
    · exact .inl ⟨h1, if_pos h1⟩
    · by_cases h2 : y < x
      · exact .inr (.inl ⟨h1, h2, by rw [if_neg h1, if_pos h2]⟩)
      · exact .inr (.inr ⟨h1, h2, by rw [if_neg h1, if_neg h2]⟩)
  obtain ⟨c, hcc⟩ : ∃ c, c = cmpI x y := ⟨_, rfl⟩
  rw [← hcc] at hc ⊢
  clear hcc
  go_enter Tryz.func183, Tryz.ntmps183
  go_wp2_with fail
  refine (HN.out x w).mono ?_
  rintro e w1 ⟨rfl, rfl⟩
  go_wp2_with fail
  refine (HN.out y w).mono ?_
  rintro e w1 ⟨rfl, rfl⟩
  rcases hc with ⟨h1, rfl⟩ | ⟨h1, h2, rfl⟩ | ⟨h1, h2, rfl⟩
  all_goals
    go_wp2
    go_ret
    exact ⟨rfl, rfl⟩
theorem less_any (p q x y : Int) (w : World) : Calls Tryz.prog 182 #[.agg #[.int .i64 p, .int .i64 x], .agg #[.int .i64 q, .int .i64 y]] w fun e w' => e = .returned (.int .i64 (cmpI x y)) ∧ Kept NoB w w' := by
  have HC := Lib.hid (compare_any x y)
  go_enter Tryz.func182, Tryz.ntmps182
  go_wp2_with fail
  refine (HC.out _).mono ?_
  rintro e w1 ⟨rfl, rfl⟩
  go_wp2
  go_ret
  exact ⟨rfl, ((Kept.refl _ _).alloc _).alloc _⟩

/-- The weights do not fall. -/
def Up (lv : List (Int × Int)) : Prop := ∀ i, i + 1 < lv.length → (lv.getD i (0, 0)).2 ≤ (lv.getD (i + 1) (0, 0)).2

set_option maxRecDepth 20000 in
set_option maxHeartbeats 1000000 in
theorem insertion_up (a : Option Addr) (c B : Nat) (lv : List (Int × Int)) (w : World) (hr : RdLf w B a lv) (hu : Up lv) (hl : lv.length ≤ 1000) :
    Calls Tryz.prog 189 #[.slice a lv.length c, .int .i64 0, .int .i64 (lv.length : Int), .func (.func 182) #[] #[]] w fun e w' => e = .returned (.tuple #[]) ∧ Kept NoB w w' := by
  have HR := Lib.hid hr; have HU := Lib.hid hu; have HL := Lib.hid less_any
  obtain ⟨n, hn⟩ : ∃ n, n = lv.length := ⟨_, rfl⟩
  have HN := Lib.hid hn
  rw [← hn] at hl ⊢
  clear hr hu hn
  go_enter Tryz.func189, Tryz.ntmps189
  go_wp2
  go_loopw [8, 9] (fun v8 _v9 wr => ∃ j : Nat, v8 = .int .i64 (j : Int) ∧ 1 ≤ j ∧ Hid (Kept NoB w wr)) (fun v8 _ _ => n - (intOf v8).toNat)
  case atStart => exact ⟨1, rfl, by omega, Kept.refl _ _⟩
  case round =>
    obtain ⟨j, rfl, hj, HK⟩ := hrel
    by_cases hlt : (j : Int) < n
    · obtain ⟨i, hji⟩ : ∃ i, i + 1 = j := ⟨j - 1, by omega⟩
      obtain ⟨g, off, rfl, _, hp0, hx0⟩ := HR.out j (by have := HN.out; omega)
      obtain ⟨g', off', he, _, hq0, hy0⟩ := HR.out i (by have := HN.out; omega)
      cases he
      have hup := HU.out i (by have := HN.out; omega)
      rw [hji] at hup
      obtain ⟨p, hp⟩ : ∃ p, p = (lv.getD j (0, 0)).1 := ⟨_, rfl⟩
      obtain ⟨x, hx⟩ : ∃ x, x = (lv.getD j (0, 0)).2 := ⟨_, rfl⟩
      obtain ⟨q, hq⟩ : ∃ q, q = (lv.getD i (0, 0)).1 := ⟨_, rfl⟩
      obtain ⟨y, hy⟩ : ∃ y, y = (lv.getD i (0, 0)).2 := ⟨_, rfl⟩
      rw [← hp] at hp0
      rw [← hx] at hx0 hup
      rw [← hq] at hq0
      rw [← hy] at hy0 hup
      have hcmp : decide (cmpI x y < 0) = false := by
        apply decide_eq_false
        unfold cmpI
        rw [if_neg (by omega)]
        split <;> decide
      obtain ⟨k, hk⟩ : ∃ k, k = cmpI x y := ⟨_, rfl⟩
      have hless : ∀ w, Calls Tryz.prog 182 #[.agg #[.int .i64 p, .int .i64 x], .agg #[.int .i64 q, .int .i64 y]] w fun e w' => e = .returned (.int .i64 k) ∧ Kept NoB w w' := by
        rw [hk]; exact HL.out p q x y
      rw [← hk] at hcmp
      have HLs := Lib.hid hless
      have HP0 := Lib.hid hp0; have HX0 := Lib.hid hx0; have HQ0 := Lib.hid hq0; have HY0 := Lib.hid hy0
      clear hp hx hq hy hk hless hp0 hx0 hq0 hy0 hup
      go_wp2
      go_loopw [9] (fun v9 wr => v9 = .int .i64 (j : Int) ∧ Hid (Kept NoB w wr)) (fun _ _ => 0)
      case atStart => exact ⟨rfl, HK⟩
      case round =>
        clear HK
        obtain ⟨rfl, HK⟩ := hrel
        have b1 : (j : Int) < (n : Int) := by omega
        have b2 : (i : Int) < (n : Int) := by omega
        have b3 : (0 : Int) ≤ (j : Int) := by omega
        have b4 : (0 : Int) ≤ (i : Int) := by omega
        have b5 : decide ((0 : Int) < (j : Int)) = true := decide_eq_true (by omega)
        have b5n : decide (0 < j) = true := decide_eq_true (by omega)
        have b6 : IntKind.i64.wrap ((j : Int) - 1) = (i : Int) := by rw [IntWalk.i64_in _ (by omega)]; omega
        have b7 : j < n := by omega
        have b8 : i < n := by omega
        have b9 : (0 : Int) < (j : Int) := by omega
        have HJi := Lib.hid hji
        clear hji
        have hk0 : Kept NoB wr wr := Kept.refl _ _
        have d0 : ∀ W : World, Kept NoB wr W → W.cell? ⟨g, off + j * 2, none⟩ = some (.int .i64 p) := fun W hk => (HK.out.trans hk).cell HP0.out
        have d1 : ∀ W : World, Kept NoB wr W → W.cell? ⟨g, off + j * 2 + 1, none⟩ = some (.int .i64 x) := fun W hk => (HK.out.trans hk).cell HX0.out
        have d2 : ∀ W : World, Kept NoB wr W → W.cell? ⟨g, off + i * 2, none⟩ = some (.int .i64 q) := fun W hk => (HK.out.trans hk).cell HQ0.out
        have d3 : ∀ W : World, Kept NoB wr W → W.cell? ⟨g, off + i * 2 + 1, none⟩ = some (.int .i64 y) := fun W hk => (HK.out.trans hk).cell HY0.out
        go_upto_region 4 with fail
        go_region_held3 (fun W => Kept NoB wr W) (first | assumption | exact Kept.drew (Kept.refl _ _) | exact Kept.drew (by assumption) | exact Kept.trans (by assumption) hkn)
          (first
            | (go_at_call 182; ((with_reducible refine (HLs.out _).mono ?_); rintro e wn ⟨rfl, hkn⟩)))
        have hkw : Kept NoB wr wn := by assumption
        have HKw := Lib.hid (HK.out.trans hkw)
        clear hkw hkn d0 d1 d2 d3 hk0
        go_wp2
        go_roundw
        case rel => exact ⟨j + 1, by go_num, by omega, HKw⟩
        case measure => simp [intOf]; omega
    · have hge : n ≤ j := by omega
      go_wp2
      go_end0
      exact ⟨rfl, HK.out⟩

end Go.Proofs.YtfmjfgmbjdhogaaGreatDoor

namespace Go.Proofs.YtfmjfgmbjdhogaaGreatDoor
open Go.RowKit
set_option linter.unusedVariables false
set_option linter.unusedSimpArgs false

set_option maxRecDepth 20000 in
theorem stable_up (a : Option Addr) (c B : Nat) (lv : List (Int × Int)) (w : World) (hr : RdLf w B a lv) (hu : Up lv) (hl : lv.length < 20) :
    Calls Tryz.prog 186 #[.slice a lv.length c, .int .i64 (lv.length : Int), .func (.func 182) #[] #[]] w fun e w' => e = .returned (.tuple #[]) ∧ Kept NoB w w' := by
  have HI := Lib.hid (insertion_up a c B lv w hr hu (by omega))
  obtain ⟨n, hn⟩ : ∃ n, n = lv.length := ⟨_, rfl⟩
  rw [← hn] at hl HI ⊢
  clear hn hr hu
  have h1 : ¬ (20 : Int) ≤ (n : Int) := by omega
  have h2 : ¬ (20 : Int) < (n : Int) := by omega
  have h3 : n < 20 := by omega
  go_enter Tryz.func186, Tryz.ntmps186
  go_wp2
  go_loopw [7, 8] (fun v7 v8 wr => v7 = .int .i64 0 ∧ v8 = .int .i64 20 ∧ w = wr) (fun _ _ _ => 0)
  case atStart => exact ⟨rfl, rfl, rfl⟩
  case round =>
    obtain ⟨rfl, rfl, rfl⟩ := hrel
    go_wp2_with fail
    refine HI.out.mono ?_
    rintro e w1 ⟨rfl, hk⟩
    have HK := Lib.hid hk
    clear hk
    go_wp2
    go_loopw [6, 7, 8, 9] (fun v6 v7 v8 _v9 wr => v6 = .int .i64 20 ∧ Hid (Kept NoB w wr)) (fun _ _ _ _ _ => 0)
    case atStart => exact ⟨rfl, HK⟩
    case round =>
      clear HK
      obtain ⟨rfl, HK⟩ := hrel
      go_wp2
      go_end0
      exact ⟨rfl, HK.out⟩
theorem sort_up (a : Option Addr) (c B : Nat) (lv : List (Int × Int)) (w : World) (hr : RdLf w B a lv) (hu : Up lv) (hl : lv.length < 20) :
    Calls Tryz.prog 181 #[.slice a lv.length c, .func (.func 182) #[] #[]] w fun e w' => e = .returned (.tuple #[]) ∧ Kept NoB w w' := by
  have HI := Lib.hid (stable_up a c B lv w hr hu (by omega))
  obtain ⟨n, hn⟩ : ∃ n, n = lv.length := ⟨_, rfl⟩
  rw [← hn] at hl HI ⊢
  clear hn hr hu
  go_enter Tryz.func181, Tryz.ntmps181
  go_wp2_with fail
  refine HI.out.mono ?_
  rintro e w1 ⟨rfl, hk⟩
  have HK := Lib.hid hk
  clear hk
  go_wp2
  go_end0
  exact ⟨rfl, HK.out⟩

theorem infoLf : (Tryz.prog.info? 226).map (fun i => (i.zero, i.size, i.bytes)) = some (some (.agg #[.int .i64 0, .int .i64 0]), 2, 16) := by kernel_rfl
/-- The cells of leaves. -/
def lcells (rs : List (Int × Int)) : List Value := rs.flatMap fun p => [.int .i64 p.1, .int .i64 p.2]
theorem lcells_app (rs : List (Int × Int)) (s x : Int) : lcells rs ++ [.int .i64 s, .int .i64 x] = lcells (rs ++ [(s, x)]) := by simp [lcells]
theorem lcells_at : ∀ (rs : List (Int × Int)) (i : Nat), i < rs.length → (lcells rs)[i * 2]? = some (.int .i64 (rs.getD i (0, 0)).1) ∧ (lcells rs)[i * 2 + 1]? = some (.int .i64 (rs.getD i (0, 0)).2) := by
  intro rs
  induction rs with
  | nil => intro i hi; simp at hi
  | cons p r ih =>
    intro i hi
    have e : lcells (p :: r) = .int .i64 p.1 :: .int .i64 p.2 :: lcells r := by simp [lcells]
    rw [e]
    cases i with
    | zero => exact ⟨rfl, rfl⟩
    | succ i =>
      have hi' : i < r.length := by simpa using hi
      obtain ⟨h1, h2⟩ := ih i hi'
      rw [show (i + 1) * 2 = i * 2 + 1 + 1 by omega]
      refine ⟨?_, ?_⟩
      · simpa using h1
      · rw [List.getElem?_cons_succ, List.getElem?_cons_succ]; simpa using h2
def OwnL (w : World) (ao : Option Addr) (cap : Nat) (rs : List (Int × Int)) : Prop := w.ownsRow 0 226 2 (.slice ao rs.length cap) rs.length (lcells rs)
theorem OwnL.reads {w : World} {a : Option Addr} {c : Nat} {rs : List (Int × Int)} (h : OwnL w a c rs) : RdLf w w.heap.size a rs := by
  intro i hi
  rcases h.2 with ⟨_, hz⟩ | ⟨g, cc, cur, hv, _⟩
  · omega
  · simp at hv
    obtain ⟨rfl, rfl⟩ := hv
    obtain ⟨h1, h2⟩ := lcells_at rs i hi
    have hc1 : w.cell? ⟨g, i * 2, none⟩ = some (.int .i64 (rs.getD i (0, 0)).1) := by
      rw [← h1]; exact h.cellAt (i * 2) (by omega)
    have hc2 : w.cell? ⟨g, i * 2 + 1, none⟩ = some (.int .i64 (rs.getD i (0, 0)).2) := by
      rw [← h2]; exact h.cellAt (i * 2 + 1) (by omega)
    exact ⟨g, 0, rfl, World.block_lt_of_cell? w _ hc1, by rw [Nat.zero_add]; exact hc1, by rw [Nat.zero_add]; exact hc2⟩
structure LfSt (w0 w : World) (a : Option Addr) (c : Nat) (rs : List (Int × Int)) : Prop where
  own : OwnL w a c rs
  kept : Kept NoB w0 w
  fresh : ∀ k, (Value.slice a rs.length c).ownBlock = some k → w0.heap.size ≤ k
theorem LfSt.app {w0 wr w2 : World} {a' a2 : Option Addr} {c' c2 len : Nat} {rs : List (Int × Int)} {s x : Int} {o : Obj} (h : LfSt w0 wr a' c' rs) (hlen : len = rs.length)
    (hown : w2.ownsRow 0 226 2 (.slice a2 (len + 1) c2) (len + 1) (lcells rs ++ [.int .i64 s, .int .i64 x])) (hgrow : (wr.alloc o).grownBy w2 (Value.slice a' len c').ownBlock)
    (hnew : ∀ k, (Value.slice a2 (len + 1) c2).ownBlock = some k → (Value.slice a' len c').ownBlock = some k ∨ wr.heap.size + 1 ≤ k) : LfSt w0 w2 a2 c2 (rs ++ [(s, x)]) := by
  subst hlen
  have hl : (rs ++ [(s, x)]).length = rs.length + 1 := by simp
  refine ⟨?_, ?_, ?_⟩
  · unfold OwnL
    rw [hl, ← lcells_app]
    exact hown
  · exact (h.kept.alloc o).grown hgrow (fun k hk e => by have := h.fresh k e; omega)
  · intro k hk
    rw [hl] at hk
    rcases hnew k hk with h1 | h1
    · exact h.fresh k h1
    · have := h.kept.size; omega
theorem news_lf (w : World) (s x : Int) : ∀ (k : Nat) (u : Value), [Value.int .i64 s, .int .i64 x][k]? = some u → (w.alloc (.cells #[.int .i64 s, .int .i64 x] 226)).cell? ((⟨w.heap.size, 0, none⟩ : Addr).add k) = some u := by
  intro k u hk
  rw [addr_add, Nat.zero_add, cell_new k rfl]
  simpa using hk

/-- The weights above 0, from place i on. -/
def leavesL : Nat → List Int → List (Int × Int)
  | _, [] => []
  | i, z :: r => if 0 < z then ((i : Int), z) :: leavesL (i + 1) r else leavesL (i + 1) r
theorem leavesL_step (ws : List Int) (j : Nat) (h : j < ws.length) : leavesL j (ws.drop j) = if 0 < ws.getD j 0 then ((j : Int), ws.getD j 0) :: leavesL (j + 1) (ws.drop (j + 1)) else leavesL (j + 1) (ws.drop (j + 1)) := by
  have e : ws.drop j = ws.getD j 0 :: ws.drop (j + 1) := by
    rw [List.drop_eq_getElem_cons h]; simp [List.getD, h]
  conv => lhs; rw [e]
  rfl
theorem leavesL_end (ws : List Int) (j : Nat) (h : ws.length ≤ j) : leavesL j (ws.drop j) = [] := by rw [List.drop_of_length_le h]; rfl

end Go.Proofs.YtfmjfgmbjdhogaaGreatDoor

namespace Go.Proofs.YtfmjfgmbjdhogaaGreatDoor
open Go.RowKit
set_option linter.unusedVariables false
set_option linter.unusedSimpArgs false

abbrev Lf := Int × Int
/-- A row of n leaves in block G. -/
structure SrtSt (G n c : Nat) (w0 w : World) (rs : List Lf) : Prop where
  len : rs.length = n
  own : w.ownsRow 0 226 2 (.slice (some ⟨G, 0, none⟩) n c) n (lcells rs)
  kept : Kept (OneB G) w0 w
def swp (rs : List Lf) (i j : Nat) : List Lf := (rs.set i (rs.getD j (0, 0))).set j (rs.getD i (0, 0))
theorem lcells_set : ∀ (rs : List Lf) (i : Nat) (p x : Int), lcells (rs.set i (p, x)) = ((lcells rs).set (i * 2) (.int .i64 p)).set (i * 2 + 1) (.int .i64 x)
  | [], i, p, x => by simp [lcells]
  | r :: rs, 0, p, x => by simp [lcells]
  | r :: rs, i + 1, p, x => by
    have e : ∀ q : List Lf, lcells (r :: q) = .int .i64 r.1 :: .int .i64 r.2 :: lcells q := fun q => by simp [lcells]
    rw [List.set_cons_succ, e, lcells_set rs i p x, e, show (i + 1) * 2 = i * 2 + 1 + 1 by omega, List.set_cons_succ, List.set_cons_succ, List.set_cons_succ, List.set_cons_succ]
theorem SrtSt.cell {G n c : Nat} {w0 w : World} {rs : List Lf} (h : SrtSt G n c w0 w rs) (i : Nat) (hi : i < n) :
    w.cell? ⟨G, i * 2, none⟩ = some (.int .i64 (rs.getD i (0, 0)).1) ∧ w.cell? ⟨G, i * 2 + 1, none⟩ = some (.int .i64 (rs.getD i (0, 0)).2) := by
  have hl := h.len
  obtain ⟨h1, h2⟩ := lcells_at rs i (by omega)
  exact ⟨by rw [← h1]; exact h.own.cellAt (i * 2) (by omega), by rw [← h2]; exact h.own.cellAt (i * 2 + 1) (by omega)⟩
theorem SrtSt.frozen {G n c : Nat} {w0 w : World} {rs : List Lf} (h : SrtSt G n c w0 w rs) (j : Nat) : w.frozen? ⟨G, j, none⟩ = false := h.own.frozenAt j
theorem SrtSt.put {G n c : Nat} {w0 w : World} {rs : List Lf} (h : SrtSt G n c w0 w rs) (i : Nat) (p x : Int) :
    SrtSt G n c w0 ((w.setCell ⟨G, i * 2, none⟩ (.int .i64 p)).setCell ⟨G, i * 2 + 1, none⟩ (.int .i64 x)) (rs.set i (p, x)) := by
  obtain ⟨s1, s2⟩ := h.own.stored (i * 2) (.int .i64 p)
  obtain ⟨s3, s4⟩ := s1.stored (i * 2 + 1) (.int .i64 x)
  refine ⟨by rw [List.length_set]; exact h.len, ?_, ?_⟩
  · rw [lcells_set]; exact s3
  · exact Kept.setCell (p := ⟨G, i * 2 + 1, none⟩) (Kept.setCell (p := ⟨G, i * 2, none⟩) h.kept (.inl rfl) _) (.inl rfl) _
theorem SrtSt.then {S : Nat → Prop} {G n c : Nat} {w0 w w' : World} {rs : List Lf} (h : SrtSt G n c w0 w rs) (hk : Kept S w w') (hS : ∀ k, S k → False) : SrtSt G n c w0 w' rs :=
  ⟨h.len, hk.row h.own (fun k _ hs => hS k hs), h.kept.trans (hk.mono (fun k _ hs => (hS k hs).elim))⟩
theorem SrtSt.from {G n c : Nat} {w0 w w' : World} {rs rs' : List Lf} (h : SrtSt G n c w0 w rs) (h' : SrtSt G n c w w' rs') : SrtSt G n c w0 w' rs' := ⟨h'.len, h'.own, h.kept.trans h'.kept⟩
theorem SrtSt.start {G n c : Nat} {w0 w : World} {rs : List Lf} (h : SrtSt G n c w0 w rs) : SrtSt G n c w w rs := ⟨h.len, h.own, Kept.refl _ _⟩
theorem swp_app (A B C : List Lf) (x y : Lf) : swp (A ++ x :: (B ++ y :: C)) A.length (A.length + 1 + B.length) = A ++ y :: (B ++ x :: C) := by
  have h1 : (A ++ x :: (B ++ y :: C)).getD A.length (0, 0) = x := by simp [List.getD]
  have h2 : (A ++ x :: (B ++ y :: C)).getD (A.length + 1 + B.length) (0, 0) = y := by
    rw [List.getD, List.getElem?_append_right (by omega), show A.length + 1 + B.length - A.length = B.length + 1 by omega, List.getElem?_cons_succ, List.getElem?_append_right (by omega)]; simp
  unfold swp
  rw [h1, h2, List.set_append_right _ _ (by omega), Nat.sub_self, List.set_cons_zero, List.set_append_right _ _ (by omega), show A.length + 1 + B.length - A.length = B.length + 1 by omega, List.set_cons_succ, List.set_append_right _ _ (by omega), Nat.sub_self, List.set_cons_zero]
theorem app_getD (A C : List Lf) (x : Lf) : (A ++ x :: C).getD A.length (0, 0) = x := by simp [List.getD]
theorem app_getD2 (A B C : List Lf) (x y : Lf) : (A ++ x :: (B ++ y :: C)).getD (A.length + 1 + B.length) (0, 0) = y := by
  rw [List.getD, List.getElem?_append_right (by omega), show A.length + 1 + B.length - A.length = B.length + 1 by omega, List.getElem?_cons_succ, List.getElem?_append_right (by omega)]; simp

/-- Two places of a row: what stands there, and the row when each stands in the other's place. -/
structure TwoAt (G n c : Nat) (w0 w : World) (s t : Nat) (x y : Lf) (rs' : List Lf) : Prop where
  ls : s < n
  lt : t < n
  ne : s < t
  x0 : w.cell? ⟨G, s * 2, none⟩ = some (.int .i64 x.1)
  x1 : w.cell? ⟨G, s * 2 + 1, none⟩ = some (.int .i64 x.2)
  y0 : w.cell? ⟨G, t * 2, none⟩ = some (.int .i64 y.1)
  y1 : w.cell? ⟨G, t * 2 + 1, none⟩ = some (.int .i64 y.2)
  fr : ∀ j, w.frozen? ⟨G, j, none⟩ = false
  up : SrtSt G n c w0 ((((w.setCell ⟨G, s * 2, none⟩ (.int .i64 y.1)).setCell ⟨G, s * 2 + 1, none⟩ (.int .i64 y.2)).setCell ⟨G, t * 2, none⟩ (.int .i64 x.1)).setCell ⟨G, t * 2 + 1, none⟩ (.int .i64 x.2)) rs'
  down : SrtSt G n c w0 ((((w.setCell ⟨G, t * 2, none⟩ (.int .i64 x.1)).setCell ⟨G, t * 2 + 1, none⟩ (.int .i64 x.2)).setCell ⟨G, s * 2, none⟩ (.int .i64 y.1)).setCell ⟨G, s * 2 + 1, none⟩ (.int .i64 y.2)) rs'
theorem SrtSt.two {G n c s t : Nat} {w0 w : World} {A B C : List Lf} {x y : Lf} (h : SrtSt G n c w0 w (A ++ x :: (B ++ y :: C))) (hA : A.length = s) (hB : s + 1 + B.length = t) :
    TwoAt G n c w0 w s t x y (A ++ y :: (B ++ x :: C)) := by
  subst hA
  subst hB
  have hlen := h.len
  simp only [List.length_append, List.length_cons] at hlen
  have hx := app_getD A (B ++ y :: C) x
  have hy := app_getD2 A B C x y
  obtain ⟨d0, d1⟩ := h.cell A.length (by omega)
  obtain ⟨d2, d3⟩ := h.cell (A.length + 1 + B.length) (by omega)
  rw [hx] at d0 d1
  rw [hy] at d2 d3
  have hsw := swp_app A B C x y
  unfold swp at hsw
  rw [hx, hy] at hsw
  have e1 : (y.1, y.2) = y := rfl
  have e2 : (x.1, x.2) = x := rfl
  refine ⟨by omega, by omega, by omega, d0, d1, d2, d3, h.frozen, ?_, ?_⟩
  · have := (h.put A.length y.1 y.2).put (A.length + 1 + B.length) x.1 x.2
    rw [e1, e2, hsw] at this
    exact this
  · have := (h.put (A.length + 1 + B.length) x.1 x.2).put A.length y.1 y.2
    rw [e1, e2, List.set_comm _ _ (by omega), hsw] at this
    exact this

set_option maxRecDepth 20000 in
set_option maxHeartbeats 1000000 in
theorem swapRange_calls (G n c a b k : Nat) (p X M Y q : List Lf) (fv : Value) (w : World) (h : SrtSt G n c w w (p ++ (X ++ (M ++ (Y ++ q))))) (ha : p.length = a) (hX : X.length = k) (hY : Y.length = k) (hb : a + k + M.length = b) (hn : n ≤ 1000) :
    Calls Tryz.prog 195 #[.slice (some ⟨G, 0, none⟩) n c, .int .i64 (a : Int), .int .i64 (b : Int), .int .i64 (k : Int), fv] w fun e w' => e = .returned (.tuple #[]) ∧ SrtSt G n c w w' (p ++ (Y ++ (M ++ (X ++ q)))) := by
  have hlen := h.len
  have hbn : b + k ≤ n := by simp at hlen; omega
  have HS0 := Lib.hid h; have HA := Lib.hid ha; have HX := Lib.hid hX; have HY := Lib.hid hY; have HB := Lib.hid hb
  clear h ha hX hY hb hlen
  go_enter Tryz.func195, Tryz.ntmps195
  go_wp2
  go_loopw [10] (fun v10 wr => ∃ (i : Nat) (X1 X2 Y1 Y2 : List Lf), v10 = .int .i64 (i : Int) ∧ i ≤ k ∧ Hid (X = X1 ++ X2) ∧ Hid (Y = Y1 ++ Y2) ∧ Hid (X1.length = i ∧ Y1.length = i) ∧ Hid (SrtSt G n c w wr (p ++ (Y1 ++ (X2 ++ (M ++ (X1 ++ (Y2 ++ q)))))))) (fun v10 _ => k - (intOf v10).toNat)
  case atStart => exact ⟨0, [], X, [], Y, rfl, by omega, Lib.hid rfl, Lib.hid rfl, Lib.hid ⟨rfl, rfl⟩, HS0⟩
  case round =>
    obtain ⟨i, X1, X2, Y1, Y2, rfl, hi, HX1, HY1, HL, HS⟩ := hrel
    by_cases hlt : (i : Int) < k
    · have h2 : X2.length = k - i ∧ Y2.length = k - i := by
        have e1 := HX.out; have e2 := HY.out
        rw [HX1.out, List.length_append] at e1
        rw [HY1.out, List.length_append] at e2
        have := HL.out
        omega
      obtain ⟨x, X3, rfl⟩ : ∃ x X3, X2 = x :: X3 := by
        cases X2 with
        | nil => simp at h2; omega
        | cons x X3 => exact ⟨x, X3, rfl⟩
      obtain ⟨y, Y3, rfl⟩ : ∃ y Y3, Y2 = y :: Y3 := by
        cases Y2 with
        | nil => simp at h2; omega
        | cons x X3 => exact ⟨x, X3, rfl⟩
      simp only [List.length_cons] at h2
      obtain ⟨s, hs⟩ : ∃ s, s = a + i := ⟨_, rfl⟩
      obtain ⟨t, ht⟩ : ∃ t, t = b + i := ⟨_, rfl⟩
      have hrow : SrtSt G n c w wr ((p ++ Y1) ++ x :: ((X3 ++ (M ++ X1)) ++ y :: (Y3 ++ q))) := by
        have := HS.out
        simpa [List.append_assoc] using this
      have hA : (p ++ Y1).length = s := by rw [List.length_append, HA.out, HL.out.2]; exact hs.symm
      have hB : s + 1 + (X3 ++ (M ++ X1)).length = t := by
        simp only [List.length_append]
        have := HB.out; have := HL.out; omega
      obtain ⟨b5, b6, hst, d0, d1, d2, d3, hfr, hup, _⟩ := hrow.two hA hB
      obtain ⟨x1, x2⟩ := x
      obtain ⟨y1, y2⟩ := y
      have HF := Lib.hid hup
      have b1 : IntKind.i64.wrap ((a : Int) + (i : Int)) = (s : Int) := by rw [IntWalk.i64_in _ (by omega)]; omega
      have b2 : IntKind.i64.wrap ((b : Int) + (i : Int)) = (t : Int) := by rw [IntWalk.i64_in _ (by omega)]; omega
      have b3 : (s : Int) < n := by omega
      have b4 : (t : Int) < n := by omega
      have hst2 : ¬ s = t := by omega
      have f0 := hfr (s * 2)
      have f1 := hfr (s * 2 + 1)
      have f2 := hfr (t * 2)
      have f3 := hfr (t * 2 + 1)
      clear hs ht hA hB h2 hrow hup hfr hst
      go_upto_region 3 with fail
      go_region
      have HF2 : Hid (SrtSt G n c w _ _) := Lib.hid (HF.out.then (Kept.drew (Kept.refl NoB _)) (fun _ h => h))
      clear HF d0 d1 d2 d3 f0 f1 f2 f3
      go_wp2
      go_roundw
      case rel =>
        refine ⟨i + 1, X1 ++ [(x1, x2)], X3, Y1 ++ [(y1, y2)], Y3, by go_num, by omega, Lib.hid (by rw [HX1.out]; simp), Lib.hid (by rw [HY1.out]; simp), Lib.hid (by have := HL.out; simp; exact this), Lib.hid ?_⟩
        have := HF2.out
        simpa [List.append_assoc] using this
      case measure => simp [intOf]; omega
    · have hik : i = k := by omega
      subst hik
      have h2 : X2 = [] ∧ Y2 = [] := by
        have e1 := HX.out; have e2 := HY.out
        rw [HX1.out, List.length_append] at e1
        rw [HY1.out, List.length_append] at e2
        have := HL.out
        exact ⟨List.eq_nil_of_length_eq_zero (by omega), List.eq_nil_of_length_eq_zero (by omega)⟩
      obtain ⟨rfl, rfl⟩ := h2
      go_wp2
      go_end0
      refine ⟨rfl, ?_⟩
      have := HS.out
      rw [HX1.out, HY1.out]
      simpa [List.append_assoc] using this
end Go.Proofs.YtfmjfgmbjdhogaaGreatDoor

namespace Go.Proofs.YtfmjfgmbjdhogaaGreatDoor
open Go.RowKit
set_option linter.unusedVariables false
set_option linter.unusedSimpArgs false

theorem split_at (X : List Lf) (j i : Nat) (h : X.length = i) (hj : j ≤ i) : ∃ X1 X2, X = X1 ++ X2 ∧ X1.length = j ∧ X2.length + j = i :=
  ⟨X.take j, X.drop j, (List.take_append_drop j X).symm, by rw [List.length_take]; omega, by rw [List.length_drop]; omega⟩
theorem i64_sub (a b d : Nat) (h : d + b = a) (ha : a ≤ 100000) : IntKind.i64.wrap ((a : Int) - (b : Int)) = (d : Int) := by rw [IntWalk.i64_in _ (by omega)]; omega
theorem i64_add (a b d : Nat) (h : a + b = d) (ha : d ≤ 100000) : IntKind.i64.wrap ((a : Int) + (b : Int)) = (d : Int) := by rw [IntWalk.i64_in _ (by omega)]; omega

set_option maxRecDepth 20000 in
set_option maxHeartbeats 1000000 in
theorem rotate_calls (G n c a m b : Nat) (p L R q : List Lf) (fv : Value) (w : World) (h : SrtSt G n c w w (p ++ (L ++ (R ++ q)))) (ha : p.length = a) (hL : a + L.length = m) (hR : m + R.length = b) (h1 : 1 ≤ L.length) (h2 : 1 ≤ R.length) (hn : n ≤ 1000) :
    Calls Tryz.prog 192 #[.slice (some ⟨G, 0, none⟩) n c, .int .i64 (a : Int), .int .i64 (m : Int), .int .i64 (b : Int), fv] w fun e w' => e = .returned (.tuple #[]) ∧ SrtSt G n c w w' (p ++ (R ++ (L ++ q))) := by
  have hlen := h.len
  obtain ⟨i0, hi0⟩ : ∃ i, i = L.length := ⟨_, rfl⟩
  obtain ⟨j0, hj0⟩ : ∃ j, j = R.length := ⟨_, rfl⟩
  have hbn : b ≤ n := by simp at hlen; omega
  rw [← hi0] at hL h1
  rw [← hj0] at hR h2
  have HS0 := Lib.hid h; have HA := Lib.hid ha; have HI0 := Lib.hid hi0; have HJ0 := Lib.hid hj0
  have e1 := i64_sub m a i0 (by omega) (by omega)
  have e2 := i64_sub b m j0 (by omega) (by omega)
  clear h ha hlen hi0 hj0
  go_enter Tryz.func192, Tryz.ntmps192
  go_wp2
  go_loopw [10, 11] (fun v10 v11 wr => ∃ (i j d : Nat) (P X Y Q : List Lf), v10 = .int .i64 (i : Int) ∧ v11 = .int .i64 (j : Int) ∧ 1 ≤ i ∧ 1 ≤ j ∧ d + i = m ∧ m + j ≤ n ∧ Hid (P.length = d ∧ X.length = i ∧ Y.length = j) ∧ Hid (p ++ (R ++ (L ++ q)) = P ++ (Y ++ (X ++ Q))) ∧ Hid (SrtSt G n c w wr (P ++ (X ++ (Y ++ Q))))) (fun v10 v11 _ => (intOf v10).toNat + (intOf v11).toNat)
  case atStart => exact ⟨i0, j0, a, p, L, R, q, rfl, rfl, by omega, by omega, by omega, by omega, Lib.hid ⟨HA.out, HI0.out.symm, HJ0.out.symm⟩, Lib.hid rfl, HS0⟩
  case round =>
    clear e1 e2
    obtain ⟨i, j, d, P, X, Y, Q, rfl, rfl, hi, hj, hd, hmj, HL, HE, HS⟩ := hrel
    have e3 := i64_sub m i d (by omega) (by omega)
    by_cases hne : i = j
    · subst hne
      have hsw := swapRange_calls G n c d m i P X [] Y Q fv wr (by simpa using HS.out.start) HL.out.1 HL.out.2.1 HL.out.2.2 (by simpa using hd) hn
      have HSw := Lib.hid hsw
      have g1 : (!((i : Int) == (i : Int))) = false := by simp
      clear hsw
      go_wp2_with fail
      refine HSw.out.mono ?_
      rintro e w1 ⟨rfl, hs⟩
      have HS1 := Lib.hid hs
      clear hs
      go_wp2
      go_end0
      refine ⟨rfl, ?_⟩
      have := HS.out.from HS1.out
      rw [HE.out]
      simpa using this
    · have g1 : ((i : Int) == (j : Int)) = false := by simp; omega
      have g2 : ¬ (i : Int) = (j : Int) := by omega
      by_cases hij : (j : Int) < i
      · obtain ⟨X1, X2, rfl, hX1, hX2⟩ := split_at X j i HL.out.2.1 (by omega)
        have hsw := swapRange_calls G n c d m j P X1 X2 Y Q fv wr (by simpa [List.append_assoc] using HS.out.start) HL.out.1 hX1 HL.out.2.2 (by omega) hn
        have HSw := Lib.hid hsw
        obtain ⟨t, ht⟩ : ∃ t, t = i - j := ⟨_, rfl⟩
        have e4 := i64_sub i j t (by omega) (by omega)
        have HX1 := Lib.hid hX1; have HX2 := Lib.hid hX2
        clear hsw hX1 hX2
        go_wp2_with fail
        refine HSw.out.mono ?_
        rintro e w1 ⟨rfl, hs⟩
        have HS1 := Lib.hid hs
        clear hs
        go_wp2
        go_roundw
        case rel =>
          refine ⟨t, j, d + j, P ++ Y, X2, X1, Q, by go_num, rfl, by omega, by omega, by omega, by omega, Lib.hid ⟨by rw [List.length_append]; have := HL.out; omega, by have := HX2.out; omega, HX1.out⟩, Lib.hid ?_, Lib.hid ?_⟩
          · rw [HE.out]
            simp [List.append_assoc]
          · have := HS.out.from HS1.out
            simpa [List.append_assoc] using this
        case measure => simp [intOf]; omega
      · obtain ⟨Y1, Y2, rfl, hY1, hY2⟩ := split_at Y (j - i) j HL.out.2.2 (by omega)
        obtain ⟨s, hs⟩ : ∃ s, s = m + j := ⟨_, rfl⟩
        obtain ⟨t, ht⟩ : ∃ t, t + i = s := ⟨s - i, by omega⟩
        obtain ⟨r, hr⟩ : ∃ r, r + i = j := ⟨j - i, by omega⟩
        have hsw := swapRange_calls G n c d t i P X Y1 Y2 Q fv wr (by simpa [List.append_assoc] using HS.out.start) HL.out.1 HL.out.2.1 (by omega) (by omega) hn
        have HSw := Lib.hid hsw
        have e4 := i64_add m j s (by omega) (by omega)
        have e5 := i64_sub s i t (by omega) (by omega)
        have e6 := i64_sub j i r (by omega) (by omega)
        have HY1 := Lib.hid hY1; have HY2 := Lib.hid hY2; have HR := Lib.hid hr
        clear hsw hY1 hY2 hs ht hr
        go_wp2_with fail
        refine HSw.out.mono ?_
        rintro e w1 ⟨rfl, hs⟩
        have HS1 := Lib.hid hs
        clear hs
        go_wp2
        go_roundw
        case rel =>
          have hr := HR.out
          refine ⟨i, r, d, P, Y2, Y1, X ++ Q, rfl, by go_num, by omega, by omega, by omega, by omega, Lib.hid ⟨HL.out.1, by have := HY2.out; omega, by rw [HY1.out]; omega⟩, Lib.hid ?_, Lib.hid ?_⟩
          · rw [HE.out]
            simp [List.append_assoc]
          · have := HS.out.from HS1.out
            simpa [List.append_assoc] using this
        case measure => have hr := HR.out; simp [intOf]; omega
end Go.Proofs.YtfmjfgmbjdhogaaGreatDoor

namespace Go.Proofs.YtfmjfgmbjdhogaaGreatDoor
open Go.RowKit
set_option linter.unusedVariables false
set_option linter.unusedSimpArgs false

def Bef (x y : Lf) : Prop := x.2 < y.2 ∨ (x.2 = y.2 ∧ x.1 < y.1)
theorem Bef.trans {x y z : Lf} (h : Bef x y) (k : Bef y z) : Bef x z := by unfold Bef at *; omega
theorem Bef.asymm {x y : Lf} (h : Bef x y) (k : Bef y x) : False := by unfold Bef at *; omega
/-- All of one row are ahead of all of another one. -/
def Cross (L R : List Lf) : Prop := ∀ x ∈ L, ∀ y ∈ R, x.1 < y.1
theorem app_at (A R q : List Lf) (t : Nat) (h : t < R.length) : (A ++ (R ++ q)).getD (A.length + t) (0, 0) = R.getD t (0, 0) := by
  rw [List.getD, List.getD, List.getElem?_append_right (by omega), show A.length + t - A.length = t by omega, List.getElem?_append_left h]
theorem getD_mem (R : List Lf) (t : Nat) (h : t < R.length) : R.getD t (0, 0) ∈ R := by
  have : R.getD t (0, 0) = R[t] := by simp [List.getD, h]
  rw [this]; exact List.getElem_mem h
theorem snoc_of (R : List Lf) (k : Nat) (h : R.length = k + 1) : ∃ S, R = S ++ [R.getD k (0, 0)] := by
  refine ⟨R.take k, ?_⟩
  have h2 : R.getD k (0, 0) = R[k]'(by omega) := by simp [List.getD, h]
  rw [h2, ← List.take_succ_eq_append_getElem (by omega), List.take_of_length_le (by omega)]
theorem last_bef {R : List Lf} (hs : R.Pairwise Bef) (k : Nat) (h : R.length = k + 1) : ∀ u ∈ R, u = R.getD k (0, 0) ∨ Bef u (R.getD k (0, 0)) := by
  obtain ⟨S, hS⟩ := snoc_of R k h
  generalize R.getD k (0, 0) = z at hS ⊢
  subst hS
  intro u hu
  rcases List.mem_append.1 hu with hu | hu
  · exact .inr ((List.pairwise_append.1 hs).2.2 u hu z (List.mem_singleton.2 rfl))
  · exact .inl (List.mem_singleton.1 hu)
theorem first_bef {R : List Lf} (hs : R.Pairwise Bef) (h : 0 < R.length) : ∀ u ∈ R, u = R.getD 0 (0, 0) ∨ Bef (R.getD 0 (0, 0)) u := by
  cases R with
  | nil => simp at h
  | cons y r =>
    intro u hu
    rcases List.mem_cons.1 hu with rfl | hu
    · exact .inl rfl
    · exact .inr ((List.pairwise_cons.1 hs).1 u hu)
theorem all_bef {R : List Lf} {x : Lf} (hs : R.Pairwise Bef) (h : ∀ k, R.length = k + 1 → Bef (R.getD k (0, 0)) x) : ∀ u ∈ R, Bef u x := by
  intro u hu
  obtain ⟨k, hk⟩ : ∃ k, R.length = k + 1 := ⟨R.length - 1, by have := List.length_pos_of_mem hu; omega⟩
  rcases last_bef hs k hk u hu with rfl | h1
  · exact h k hk
  · exact h1.trans (h k hk)
theorem all_aft {R : List Lf} {x : Lf} (hs : R.Pairwise Bef) (h : 0 < R.length → Bef x (R.getD 0 (0, 0))) : ∀ u ∈ R, Bef x u := by
  intro u hu
  have hk := List.length_pos_of_mem hu
  rcases first_bef hs hk u hu with rfl | h1
  · exact h hk
  · exact (h hk).trans h1
theorem ins_srt {x : Lf} {R1 R2 : List Lf} (hs : (R1 ++ R2).Pairwise Bef) (h1 : ∀ u ∈ R1, Bef u x) (h2 : ∀ u ∈ R2, Bef x u) : (R1 ++ x :: R2).Pairwise Bef := by
  rw [List.pairwise_append] at hs ⊢
  obtain ⟨a, b, c⟩ := hs
  refine ⟨a, List.pairwise_cons.2 ⟨h2, b⟩, ?_⟩
  intro u hu v hv
  rcases List.mem_cons.1 hv with rfl | hv
  · exact h1 u hu
  · exact c u hu v hv
theorem join_srt {A B : List Lf} (ha : A.Pairwise Bef) (hb : B.Pairwise Bef) (h : ∀ u ∈ A, ∀ v ∈ B, Bef u v) : (A ++ B).Pairwise Bef := List.pairwise_append.2 ⟨ha, hb, h⟩
/-- A row in order, of just these. -/
structure SrtP (S X : List Lf) : Prop where
  perm : S.Perm X
  srt : S.Pairwise Bef
theorem SrtP.len {S X : List Lf} (h : SrtP S X) : S.length = X.length := h.perm.length_eq
/-- Of two such rows there is one alone. -/
theorem srtP_eq : ∀ {S T X : List Lf}, SrtP S X → SrtP T X → S = T
  | [], T, X, h, k => by
    have := h.len; have h2 := k.len
    exact (List.eq_nil_of_length_eq_zero (by simp at this; omega)).symm
  | s :: S, [], X, h, k => by
    have := h.len; have h2 := k.len
    simp at this h2; omega
  | s :: S, t :: T, X, h, k => by
    have hp : (s :: S).Perm (t :: T) := h.perm.trans k.perm.symm
    have e : s = t := by
      have m1 : s ∈ t :: T := hp.mem_iff.1 List.mem_cons_self
      have m2 : t ∈ s :: S := hp.mem_iff.2 List.mem_cons_self
      rcases List.mem_cons.1 m1 with e | m1
      · exact e
      · rcases List.mem_cons.1 m2 with e | m2
        · exact e.symm
        · exact ((Bef.asymm ((List.pairwise_cons.1 h.srt).1 t m2) ((List.pairwise_cons.1 k.srt).1 s m1))).elim
    subst e
    rw [srtP_eq (S := S) (T := T) (X := T) ⟨hp.cons_inv, (List.pairwise_cons.1 h.srt).2⟩ ⟨List.Perm.refl _, (List.pairwise_cons.1 k.srt).2⟩]

/-- How the middle of two rows is found. -/
theorem sym_split {L R : List Lf} (hL : L.Pairwise Bef) (hR : R.Pairwise Bef) {p q D : List Lf} {a m b mid lo hi s : Nat} (hD : D = p ++ (L ++ (R ++ q))) (ha : p.length = a) (hm : a + L.length = m) (hb : m + R.length = b)
    (hmid : mid = (a + b) / 2) (hlo : (mid < m ∧ lo = mid + m - b ∧ hi = mid) ∨ (m ≤ mid ∧ lo = a ∧ hi = m)) (h1 : lo ≤ s) (h2 : s ≤ hi) (hl1 : 1 ≤ L.length) (hr1 : 1 ≤ R.length)
    (f1 : s = lo ∨ Bef (D.getD (s - 1) (0, 0)) (D.getD (mid + m - 1 - (s - 1)) (0, 0))) (f2 : s = hi ∨ Bef (D.getD (mid + m - 1 - s) (0, 0)) (D.getD s (0, 0))) :
    ∃ L1 L2 R1 R2, L = L1 ++ L2 ∧ R = R1 ++ R2 ∧ a + L1.length = s ∧ s + L2.length = m ∧ m + R1.length = mid + m - s ∧ mid + m - s + R2.length = b ∧ L1.length + R1.length + a = mid ∧ (∀ u ∈ L1 ++ R1, ∀ v ∈ L2 ++ R2, Bef u v) := by
  have hs1 : a ≤ s := by rcases hlo with h | h <;> omega
  have hs2 : s ≤ m := by rcases hlo with h | h <;> omega
  have hs3 : m ≤ mid + m - s := by rcases hlo with h | h <;> omega
  have hs4 : mid + m - s ≤ b := by rcases hlo with h | h <;> omega
  obtain ⟨L1, L2, rfl, e1, e2⟩ := split_at L (s - a) L.length rfl (by omega)
  obtain ⟨R1, R2, rfl, e3, e4⟩ := split_at R (mid - s) R.length rfl (by omega)
  simp only [List.length_append] at hm hb e2 e4 hl1 hr1
  have gL : ∀ t, t < L1.length → D.getD (a + t) (0, 0) = L1.getD t (0, 0) := by
    intro t ht
    have := app_at p L1 (L2 ++ ((R1 ++ R2) ++ q)) t ht
    rw [ha] at this
    rw [hD, ← this]; simp [List.append_assoc]
  have gL2 : ∀ t, t < L2.length → D.getD (s + t) (0, 0) = L2.getD t (0, 0) := by
    intro t ht
    have := app_at (p ++ L1) L2 ((R1 ++ R2) ++ q) t ht
    rw [List.length_append, ha, show a + L1.length = s by omega] at this
    rw [hD, ← this]; simp [List.append_assoc]
  have gR : ∀ t, t < R1.length → D.getD (m + t) (0, 0) = R1.getD t (0, 0) := by
    intro t ht
    have := app_at (p ++ (L1 ++ L2)) R1 (R2 ++ q) t ht
    rw [List.length_append, List.length_append, ha, show a + (L1.length + L2.length) = m by omega] at this
    rw [hD, ← this]; simp [List.append_assoc]
  have gR2 : ∀ t, t < R2.length → D.getD (m + R1.length + t) (0, 0) = R2.getD t (0, 0) := by
    intro t ht
    have := app_at (p ++ (L1 ++ L2) ++ R1) R2 q t ht
    rw [List.length_append, List.length_append, List.length_append, ha, show a + (L1.length + L2.length) + R1.length = m + R1.length by omega] at this
    rw [hD, ← this]; simp [List.append_assoc]
  obtain ⟨hL1, hL2, hL12⟩ := List.pairwise_append.1 hL
  obtain ⟨hR1, hR2, hR12⟩ := List.pairwise_append.1 hR
  refine ⟨L1, L2, R1, R2, rfl, rfl, by omega, by omega, by omega, by omega, by omega, ?_⟩
  intro u hu v hv
  rcases List.mem_append.1 hu with hu | hu
  · rcases List.mem_append.1 hv with hv | hv
    · exact hL12 u hu v hv
    · have k1 := List.length_pos_of_mem hu
      have k2 := List.length_pos_of_mem hv
      have f := f1.resolve_left (by rcases hlo with h | h <;> omega)
      have g1 := gL (L1.length - 1) (by omega)
      have g2 := gR2 0 k2
      rw [show a + (L1.length - 1) = s - 1 by omega] at g1
      rw [show m + R1.length + 0 = mid + m - 1 - (s - 1) by omega] at g2
      rw [g1, g2] at f
      have q1 : u = L1.getD (L1.length - 1) (0, 0) ∨ Bef u (L1.getD (L1.length - 1) (0, 0)) := last_bef hL1 _ (by omega) u hu
      have q2 := first_bef hR2 k2 v hv
      rcases q1 with rfl | q1 <;> rcases q2 with rfl | q2
      · exact f
      · exact f.trans q2
      · exact q1.trans f
      · exact (q1.trans f).trans q2
  · rcases List.mem_append.1 hv with hv | hv
    · have k1 := List.length_pos_of_mem hu
      have k2 := List.length_pos_of_mem hv
      have f := f2.resolve_left (by rcases hlo with h | h <;> omega)
      have g1 := gR (R1.length - 1) (by omega)
      have g2 := gL2 0 k2
      rw [show m + (R1.length - 1) = mid + m - 1 - s by omega] at g1
      rw [Nat.add_zero] at g2
      rw [g1, g2] at f
      have q1 : u = R1.getD (R1.length - 1) (0, 0) ∨ Bef u (R1.getD (R1.length - 1) (0, 0)) := last_bef hR1 _ (by omega) u hu
      have q2 := first_bef hL2 k2 v hv
      rcases q1 with rfl | q1 <;> rcases q2 with rfl | q2
      · exact f
      · exact f.trans q2
      · exact q1.trans f
      · exact (q1.trans f).trans q2
    · exact hR12 u hu v hv
end Go.Proofs.YtfmjfgmbjdhogaaGreatDoor
