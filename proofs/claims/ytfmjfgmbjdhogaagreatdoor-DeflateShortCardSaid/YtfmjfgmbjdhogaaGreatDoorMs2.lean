/-
  Tokens: which may be, and which are refused.
  What a token makes: put, Put.
  A row of numbers that came in.
  huff.Cost, huff.Kraft, the document's Kraft.
  huff.merged: the leaves and the pairs of the row ahead.
-/
import Derived.Test.YtfmjfgmbjdhogaaGreatDoorMs1
import Derived.Laws.CopyOwn
import Derived.Deep.RegionLaw
import Derived.Deep.CutBlock
import Derived.OwnWalk
namespace Go.Proofs.YtfmjfgmbjdhogaaGreatDoor
open Go.RowKit
set_option linter.unusedVariables false
set_option linter.unusedSimpArgs false

/-- A token: how many, how far back, a byte. -/
structure Tk where
  l : Int
  d : Int
  c : Int
def Tk.v (t : Tk) : Value := .agg #[.int .i64 t.l, .int .i64 t.d, .int .u8 t.c]
def Tk.wf (t : Tk) : Prop := (-9223372036854775808 ≤ t.l ∧ t.l ≤ 9223372036854775807) ∧ (-9223372036854775808 ≤ t.d ∧ t.d ≤ 9223372036854775807) ∧ 0 ≤ t.c ∧ t.c < 256
def Tk.ok (t : Tk) : Bool := if t.l = 0 then decide (t.d = 0) else decide (3 ≤ t.l ∧ t.l ≤ 258 ∧ 1 ≤ t.d ∧ t.d ≤ 32768 ∧ t.c = 0)
/-- Why a token may not be put behind n bytes: 0, it may. -/
def Tk.no (t : Tk) (n : Nat) (most : Int) : Int := if t.ok = false then 1 else if (n : Int) < t.d then 4 else if most < n + (if t.l < 1 then 1 else t.l) then 5 else 0

theorem tok_no (l d c : Int) (h1 : l ≠ 0) (h : ¬ (3 ≤ l ∧ l ≤ 258 ∧ 1 ≤ d ∧ d ≤ 32768 ∧ c = 0)) : (Tk.mk l d c).ok = false := by
  unfold Tk.ok
  rw [if_neg h1]
  exact decide_eq_false h
set_option maxHeartbeats 2000000 in
theorem ok_any (t : Tk) (w : World) : Calls Tryz.prog 88 #[t.v] w fun e w' => e = .returned (.bool t.ok) ∧ Kept NoB w w' := by
  obtain ⟨l, d, c⟩ := t
  have hc0 : (w.alloc (.cells #[.int .i64 l, .int .i64 d, .int .u8 c] 101)).cell? ⟨w.heap.size, 0, none⟩ = some (.int .i64 l) := by rw [cell_new 0 rfl]; rfl
  have hc1 : (w.alloc (.cells #[.int .i64 l, .int .i64 d, .int .u8 c] 101)).cell? ⟨w.heap.size, 1, none⟩ = some (.int .i64 d) := by rw [cell_new 1 rfl]; rfl
  have hc2 : (w.alloc (.cells #[.int .i64 l, .int .i64 d, .int .u8 c] 101)).cell? ⟨w.heap.size, 2, none⟩ = some (.int .u8 c) := by rw [cell_new 2 rfl]; rfl
  have hk : Kept NoB w (w.alloc (.cells #[.int .i64 l, .int .i64 d, .int .u8 c] 101)) := (Kept.refl _ _).alloc _
  have HK := Lib.hid hk
  clear hk
  unfold Tk.v
  simp only []
  have hcase : (l = 0 ∧ d = 0) ∨ (l = 0 ∧ d ≠ 0) ∨ (l ≠ 0 ∧ ¬ 3 ≤ l) ∨ (l ≠ 0 ∧ 3 ≤ l ∧ ¬ l ≤ 258) ∨ (l ≠ 0 ∧ 3 ≤ l ∧ l ≤ 258 ∧ ¬ 1 ≤ d) ∨ (l ≠ 0 ∧ 3 ≤ l ∧ l ≤ 258 ∧ 1 ≤ d ∧ ¬ d ≤ 32768) ∨ (l ≠ 0 ∧ 3 ≤ l ∧ l ≤ 258 ∧ 1 ≤ d ∧ d ≤ 32768 ∧ c ≠ 0) ∨ (l ≠ 0 ∧ 3 ≤ l ∧ l ≤ 258 ∧ 1 ≤ d ∧ d ≤ 32768 ∧ c = 0) := by omega
  go_enter Tryz.func88, Tryz.ntmps88
  rcases hcase with ⟨h1, h2⟩ | ⟨h1, h2⟩ | ⟨h1, h2⟩ | ⟨h1, h2, h3⟩ | ⟨h1, h2, h3, h4⟩ | ⟨h1, h2, h3, h4, h5⟩ | ⟨h1, h2, h3, h4, h5, h6⟩ | ⟨h1, h2, h3, h4, h5, h6⟩
  · subst h1 h2
    go_wp2
    go_ret
    exact ⟨rfl, HK.out⟩
  · subst h1
    have g : (d == 0) = false := by simp; exact h2
    go_wp2
    go_ret
    exact ⟨by simp [Tk.ok, h2], HK.out⟩
  all_goals have g1 : (l == 0) = false := by simp; exact h1
  · go_wp2
    go_ret
    exact ⟨by rw [tok_no l d c h1 (by omega)]; rfl, HK.out⟩
  · go_wp2
    go_ret
    exact ⟨by rw [tok_no l d c h1 (by omega)]; rfl, HK.out⟩
  · go_wp2
    go_ret
    exact ⟨by rw [tok_no l d c h1 (by omega)]; rfl, HK.out⟩
  · go_wp2
    go_ret
    exact ⟨by rw [tok_no l d c h1 (by omega)]; rfl, HK.out⟩
  · have g : (c == 0) = false := by simp; exact h6
    go_wp2
    go_ret
    exact ⟨by rw [tok_no l d c h1 (by omega)]; rfl, HK.out⟩
  · subst h6
    go_wp2
    go_ret
    exact ⟨by simp [Tk.ok, h1, h2, h3, h4, h5], HK.out⟩

end Go.Proofs.YtfmjfgmbjdhogaaGreatDoor

namespace Go.Proofs.YtfmjfgmbjdhogaaGreatDoor
open Go.RowKit
set_option linter.unusedVariables false
set_option linter.unusedSimpArgs false

/-- k bytes more, each the one D ahead of it. -/
def copyN (D : Nat) : Nat → List Int → List Int
  | 0, bs => bs
  | k + 1, bs => copyN D k bs ++ [(copyN D k bs).getD ((copyN D k bs).length - D) 0]
theorem copyN_len (D k : Nat) (bs : List Int) : (copyN D k bs).length = bs.length + k := by
  induction k with
  | zero => rfl
  | succ k ih => simp only [copyN, List.length_append, ih, List.length_cons, List.length_nil]; omega
theorem copyN_all (D k : Nat) (bs : List Int) (h : AllB bs) : AllB (copyN D k bs) := by
  induction k with
  | zero => exact h
  | succ k ih =>
    intro b hb
    simp only [copyN, List.mem_append, List.mem_singleton] at hb
    rcases hb with hb | rfl
    · exact ih b hb
    · exact ih.getD _
/-- The bytes behind a token that may be put. -/
def Tk.put (t : Tk) (bs : List Int) : List Int := if t.l = 0 then bs ++ [t.c] else copyN t.d.toNat t.l.toNat bs
theorem put_len (t : Tk) (bs : List Int) : (t.put bs).length = bs.length + (if t.l = 0 then 1 else t.l.toNat) := by
  unfold Tk.put
  split
  · simp
  · exact copyN_len _ _ _

end Go.Proofs.YtfmjfgmbjdhogaaGreatDoor

namespace Go.Proofs.YtfmjfgmbjdhogaaGreatDoor
open Go.RowKit
set_option linter.unusedVariables false

/-- A slice of numbers reads as zs; its block is below B. -/
def RdI (w : World) (B : Nat) (ao : Option Addr) (zs : List Int) : Prop :=
  ∀ i, i < zs.length → ∃ g off, ao = some ⟨g, off, none⟩ ∧ g < B ∧ w.cell? ⟨g, off + i, none⟩ = some (.int .i64 (zs.getD i 0))
theorem RdI.kept {S : Nat → Prop} {w w' : World} {B : Nat} {ao : Option Addr} {zs : List Int} (h : RdI w B ao zs) (hk : Kept S w w') (hs : ∀ k, k < B → ¬ S k) : RdI w' B ao zs := by
  intro i hi
  obtain ⟨g, off, h1, h2, h3⟩ := h i hi
  exact ⟨g, off, h1, h2, (World.cell?_of_block (hk.block _ (World.block_lt_of_cell? w _ h3) (hs g h2))).trans h3⟩
theorem RdI.mono {w : World} {B C : Nat} {ao : Option Addr} {zs : List Int} (h : RdI w B ao zs) (hb : B ≤ C) : RdI w C ao zs := by
  intro i hi
  obtain ⟨g, off, h1, h2, h3⟩ := h i hi
  exact ⟨g, off, h1, Nat.lt_of_lt_of_le h2 hb, h3⟩
theorem RdI.room {w : World} {B : Nat} {ao : Option Addr} {zs : List Int} (h : RdI w B ao zs) : RdI w w.heap.size ao zs := by
  intro i hi
  obtain ⟨g, off, h1, h2, h3⟩ := h i hi
  exact ⟨g, off, h1, World.block_lt_of_cell? w _ h3, h3⟩
def AllI (zs : List Int) : Prop := ∀ z ∈ zs, -9223372036854775808 ≤ z ∧ z ≤ 9223372036854775807
theorem AllI.getD {zs : List Int} (h : AllI zs) (i : Nat) : -9223372036854775808 ≤ zs.getD i 0 ∧ zs.getD i 0 ≤ 9223372036854775807 := by
  by_cases hi : i < zs.length
  · have : zs.getD i 0 = zs[i] := by simp [List.getD, hi]
    rw [this]; exact h _ (List.getElem_mem hi)
  · have : zs.getD i 0 = 0 := by simp [List.getD, List.getElem?_eq_none (Nat.le_of_not_lt hi)]
    omega

end Go.Proofs.YtfmjfgmbjdhogaaGreatDoor

namespace Go.Proofs.YtfmjfgmbjdhogaaGreatDoor
open Go.RowKit
set_option linter.unusedVariables false
set_option linter.unusedSimpArgs false

/-- How much of all codes one of this length takes up. -/
def kpart (z : Int) : Int := if 1 ≤ z ∧ z ≤ 15 then ((2 ^ (15 - z.toNat) : Nat) : Int) else 0
def kraftL : List Int → Int
  | [] => 0
  | z :: r => kpart z + kraftL r
def costL : List Int → List Int → Int
  | x :: r, y :: s => x * y + costL r s
  | _, _ => 0

theorem kpart_bd (z : Int) : 0 ≤ kpart z ∧ kpart z ≤ 32768 := by
  unfold kpart
  split
  · have h := Nat.pow_le_pow_right (n := 2) (by decide) (show 15 - z.toNat ≤ 15 by omega)
    obtain ⟨p, hp⟩ : ∃ p, p = 2 ^ (15 - z.toNat) := ⟨_, rfl⟩
    rw [← hp] at h ⊢
    clear hp
    constructor <;> omega
  · decide
theorem kraft_append : ∀ a b : List Int, kraftL (a ++ b) = kraftL a + kraftL b
  | [], b => by simp [kraftL]
  | z :: r, b => by simp only [List.cons_append, kraftL, kraft_append r b]; omega
theorem kpart_div : ∀ k : Nat, 1 ≤ k → k ≤ 15 → (32768 : Int) / 2 ^ k = kpart (k : Int) := by
  intro k h1 h2
  have : k = 1 ∨ k = 2 ∨ k = 3 ∨ k = 4 ∨ k = 5 ∨ k = 6 ∨ k = 7 ∨ k = 8 ∨ k = 9 ∨ k = 10 ∨ k = 11 ∨ k = 12 ∨ k = 13 ∨ k = 14 ∨ k = 15 := by omega
  rcases this with rfl | rfl | rfl | rfl | rfl | rfl | rfl | rfl | rfl | rfl | rfl | rfl | rfl | rfl | rfl <;> decide
theorem kpart_out (z : Int) (h : ¬ (1 ≤ z ∧ z ≤ 15)) : kpart z = 0 := if_neg h

/-- Small numbers. -/
def Small (m : Int) (zs : List Int) : Prop := ∀ z ∈ zs, 0 ≤ z ∧ z ≤ m
theorem Small.getD {m : Int} {zs : List Int} (h : Small m zs) (i : Nat) (hi : i < zs.length) : 0 ≤ zs.getD i 0 ∧ zs.getD i 0 ≤ m := by
  have : zs.getD i 0 = zs[i] := by simp [List.getD, hi]
  rw [this]; exact h _ (List.getElem_mem hi)
theorem cost_step (a b : List Int) (j : Nat) (ha : j < a.length) (hb : j < b.length) : costL (a.drop j) (b.drop j) = a.getD j 0 * b.getD j 0 + costL (a.drop (j + 1)) (b.drop (j + 1)) := by
  rw [List.drop_eq_getElem_cons ha, List.drop_eq_getElem_cons hb]; simp [costL, List.getD, ha, hb]
theorem cost_end (a b : List Int) (j : Nat) (h : a.length ≤ j ∨ b.length ≤ j) : costL (a.drop j) (b.drop j) = 0 := by
  rcases h with h | h
  · rw [List.drop_of_length_le h]; simp [costL]
  · rw [List.drop_of_length_le h]; cases a.drop j <;> simp [costL]
theorem prod_bd {x y : Int} (hx : 0 ≤ x ∧ x ≤ 1048576) (hy : 0 ≤ y ∧ y ≤ 1048576) : 0 ≤ x * y ∧ x * y ≤ 1099511627776 := by
  refine ⟨Int.mul_nonneg hx.1 hy.1, ?_⟩
  have h1 : x * y ≤ 1048576 * y := Int.mul_le_mul_of_nonneg_right hx.2 hy.1
  omega

set_option maxRecDepth 20000 in
set_option maxHeartbeats 1000000 in
theorem cost_calls (ao bo : Option Addr) (ca cb B C : Nat) (xs ys : List Int) (w : World) (hx : RdI w B ao xs) (hy : RdI w C bo ys) (hxs : Small 1048576 xs) (hys : Small 1048576 ys) (hlx : xs.length ≤ 100000) (hly : ys.length ≤ 1000000000) :
    Calls Tryz.prog 92 #[.slice ao xs.length ca, .slice bo ys.length cb] w fun e w' => e = .returned (.int .i64 (costL xs ys)) ∧ Kept NoB w w' := by
  have HX := Lib.hid hx
  have HY := Lib.hid hy
  have HXs := Lib.hid hxs
  have HYs := Lib.hid hys
  clear hx hy hxs hys
  have hc : ((ys.length : Int) < xs.length ∧ ∃ m : Nat, m = ys.length ∧ m ≤ xs.length ∧ m ≤ ys.length) ∨ (¬ (ys.length : Int) < xs.length ∧ ∃ m : Nat, m = xs.length ∧ m ≤ xs.length ∧ m ≤ ys.length) := by
    by_cases h : (ys.length : Int) < xs.length
    · exact .inl ⟨h, _, rfl, by omega, by omega⟩
    · exact .inr ⟨h, _, rfl, by omega, by omega⟩
  rcases hc with ⟨hc, m, hm, hmx, hmy⟩ | ⟨hc, m, hm, hmx, hmy⟩
  all_goals
    go_enter Tryz.func92, Tryz.ntmps92
    go_wp2
    go_loopw [5, 12, 6] (fun v5 v12 _v6 wr => ∃ (acc : Int) (j : Nat), v5 = .int .i64 acc ∧ v12 = .int .i64 (j : Int) ∧ j ≤ m ∧ 0 ≤ acc ∧ acc ≤ 1099511627776 * (j : Int) ∧ Hid (acc + costL (xs.drop j) (ys.drop j) = costL xs ys) ∧ Hid (Kept NoB w wr)) (fun _ v12 _ _ => m - (intOf v12).toNat)
    case atStart => exact ⟨0, 0, rfl, rfl, by omega, by omega, by omega, Lib.hid (by rw [List.drop_zero, List.drop_zero, Int.zero_add]), Kept.refl _ _⟩
    case round =>
      obtain ⟨acc, j, rfl, rfl, hj, h0, hab, HS, HK⟩ := hrel
      by_cases hlt : j < m
      · have hlx' : (j : Int) < xs.length := by omega
        have hly' : (j : Int) < ys.length := by omega
        obtain ⟨g, off, rfl, hg, hcx⟩ := HX.out j (by omega)
        obtain ⟨g2, off2, rfl, hg2, hcy⟩ := HY.out j (by omega)
        have hcx' := HK.out.cell hcx
        have hcy' := HK.out.cell hcy
        have hbx := HXs.out.getD j (by omega)
        have hby := HYs.out.getD j (by omega)
        have hs := HS.out
        rw [cost_step xs ys j (by omega) (by omega)] at hs
        obtain ⟨x, hx⟩ : ∃ x, x = xs.getD j 0 := ⟨_, rfl⟩
        obtain ⟨y, hy⟩ : ∃ y, y = ys.getD j 0 := ⟨_, rfl⟩
        rw [← hx] at hcx' hbx hs
        rw [← hy] at hcy' hby hs
        have hp := prod_bd hbx hby
        have hw1 : wrap64 (x * y) = x * y := IntWalk.wrap64_in _ (by omega)
        obtain ⟨p, hpe⟩ : ∃ p, p = x * y := ⟨_, rfl⟩
        rw [← hpe] at hs hp hw1
        have hw2 : wrap64 (acc + p) = acc + p := IntWalk.wrap64_in _ (by omega)
        have HPe := Lib.hid hpe; have HW1 := Lib.hid hw1; have HW2 := Lib.hid hw2; have HS2 := Lib.hid hs
        clear hw1 hw2 hs hpe hx hy hcx hcy
        go_upto_region 5 with fail
        go_quiet (fail)
        have HK2 := Lib.hid (HK.out.drewN nq)
        go_wp2
        go_roundw
        case rel => exact ⟨acc + p, j + 1, by rw [← HPe.out, HW1.out, HW2.out], by go_num, by omega, by omega, by omega, Lib.hid (by have := HS2.out; omega), HK2⟩
        case measure => simp [intOf]; omega
      · have hs := HS.out
        rw [cost_end xs ys j (by omega)] at hs
        obtain rfl : acc = costL xs ys := by omega
        clear hs
        have hlt' : m ≤ j := by omega
        go_wp2
        go_ret
        exact ⟨rfl, HK.out⟩

end Go.Proofs.YtfmjfgmbjdhogaaGreatDoor

namespace Go.Proofs.YtfmjfgmbjdhogaaGreatDoor
open Go.RowKit
set_option linter.unusedVariables false
set_option linter.unusedSimpArgs false

theorem infoIt : (Tryz.prog.info? 244).map (fun i => (i.zero, i.size, i.bytes)) = some (some (.agg #[.int .i64 0, .bool false]), 2, 16) := by kernel_rfl

/-- A row of items in memory: weight, packed. -/
def RdIt (w : World) (B : Nat) (ao : Option Addr) (rs : List (Int × Bool)) : Prop :=
  ∀ i, i < rs.length → ∃ g off, ao = some ⟨g, off, none⟩ ∧ g < B ∧ w.cell? ⟨g, off + i * 2, none⟩ = some (.int .i64 (rs.getD i (0, false)).1) ∧ w.cell? ⟨g, off + i * 2 + 1, none⟩ = some (.bool (rs.getD i (0, false)).2)
/-- A row of leaves in memory: place, weight. -/
def RdLf (w : World) (B : Nat) (ao : Option Addr) (rs : List (Int × Int)) : Prop :=
  ∀ i, i < rs.length → ∃ g off, ao = some ⟨g, off, none⟩ ∧ g < B ∧ w.cell? ⟨g, off + i * 2, none⟩ = some (.int .i64 (rs.getD i (0, 0)).1) ∧ w.cell? ⟨g, off + i * 2 + 1, none⟩ = some (.int .i64 (rs.getD i (0, 0)).2)
theorem RdIt.kept {w w' : World} {B : Nat} {ao : Option Addr} {rs : List (Int × Bool)} (h : RdIt w B ao rs) (hk : Kept NoB w w') : RdIt w' B ao rs := by
  intro i hi
  obtain ⟨g, off, h1, h2, h3, h4⟩ := h i hi
  exact ⟨g, off, h1, h2, hk.cell h3, hk.cell h4⟩
/-- All but the first two. -/
theorem RdIt.tail {w : World} {B g off c i : Nat} {rs : List (Int × Bool)} (h : RdIt w B (some ⟨g, off, none⟩) (rs.drop (2 * i))) (hc : (rs.drop (2 * i)).length ≤ c) :
    RdIt w B (if c = 2 then some ⟨g, off, none⟩ else some ⟨g, off + 4, none⟩) (rs.drop (2 * (i + 1))) := by
  intro j hj
  have hj' : j + 2 < (rs.drop (2 * i)).length := by simp at hj ⊢; omega
  obtain ⟨g', off', he, h2, h3, h4⟩ := h (j + 2) hj'
  cases he
  have e : (rs.drop (2 * (i + 1))).getD j (0, false) = (rs.drop (2 * i)).getD (j + 2) (0, false) := by
    simp only [List.getD_eq_getElem?_getD, List.getElem?_drop]
    rw [show 2 * (i + 1) + j = 2 * i + (j + 2) by omega]
  rw [e]
  refine ⟨g, off + 4, by rw [if_neg (by omega)], h2, ?_, ?_⟩
  · rw [show off + 4 + j * 2 = off + (j + 2) * 2 by omega]; exact h3
  · rw [show off + 4 + j * 2 + 1 = off + (j + 2) * 2 + 1 by omega]; exact h4
theorem RdLf.kept {w w' : World} {B : Nat} {ao : Option Addr} {rs : List (Int × Int)} (h : RdLf w B ao rs) (hk : Kept NoB w w') : RdLf w' B ao rs := by
  intro i hi
  obtain ⟨g, off, h1, h2, h3, h4⟩ := h i hi
  exact ⟨g, off, h1, h2, hk.cell h3, hk.cell h4⟩

/-- The cells of items. -/
def icells (rs : List (Int × Bool)) : List Value := rs.flatMap fun p => [.int .i64 p.1, .bool p.2]
theorem icells_app (rs : List (Int × Bool)) (s : Int) (x : Bool) : icells rs ++ [.int .i64 s, .bool x] = icells (rs ++ [(s, x)]) := by simp [icells]
theorem icells_at : ∀ (rs : List (Int × Bool)) (i : Nat), i < rs.length → (icells rs)[i * 2]? = some (.int .i64 (rs.getD i (0, false)).1) ∧ (icells rs)[i * 2 + 1]? = some (.bool (rs.getD i (0, false)).2) := by
  intro rs
  induction rs with
  | nil => intro i hi; simp at hi
  | cons p r ih =>
    intro i hi
    have e : icells (p :: r) = .int .i64 p.1 :: .bool p.2 :: icells r := by simp [icells]
    rw [e]
    cases i with
    | zero => exact ⟨rfl, rfl⟩
    | succ i =>
      have hi' : i < r.length := by simpa using hi
      obtain ⟨h1, h2⟩ := ih i hi'
      rw [show (i + 1) * 2 = i * 2 + 1 + 1 by omega]
      refine ⟨?_, ?_⟩
      · simpa using h1
      · rw [List.getElem?_cons_succ, List.getElem?_cons_succ]; simpa using h2
/-- A row of items of the call's own. -/
def OwnIt (w : World) (ao : Option Addr) (cap : Nat) (rs : List (Int × Bool)) : Prop := w.ownsRow 0 244 2 (.slice ao rs.length cap) rs.length (icells rs)
theorem OwnIt.reads {w : World} {a : Option Addr} {c : Nat} {rs : List (Int × Bool)} (h : OwnIt w a c rs) : RdIt w w.heap.size a rs := by
  intro i hi
  rcases h.2 with ⟨_, hz⟩ | ⟨g, cc, cur, hv, _⟩
  · omega
  · simp at hv
    obtain ⟨rfl, rfl⟩ := hv
    obtain ⟨h1, h2⟩ := icells_at rs i hi
    have hc1 : w.cell? ⟨g, i * 2, none⟩ = some (.int .i64 (rs.getD i (0, false)).1) := by
      rw [← h1]; exact h.cellAt (i * 2) (by omega)
    have hc2 : w.cell? ⟨g, i * 2 + 1, none⟩ = some (.bool (rs.getD i (0, false)).2) := by
      rw [← h2]; exact h.cellAt (i * 2 + 1) (by omega)
    exact ⟨g, 0, rfl, World.block_lt_of_cell? w _ hc1, by rw [Nat.zero_add]; exact hc1, by rw [Nat.zero_add]; exact hc2⟩

/-- The pair of weight w stands behind the leaves that weigh no more. -/
def mergeW (w : Int) (rest : List Int → List (Int × Bool)) : List Int → List (Int × Bool)
  | [] => (w, true) :: rest []
  | z :: r => if z ≤ w then (z, false) :: mergeW w rest r else (w, true) :: rest (z :: r)
/-- The leaves, and the pairs of the row ahead. -/
def mergeS : List (Int × Bool) → List Int → List (Int × Bool)
  | a :: b :: r, ls => mergeW (a.1 + b.1) (mergeS r) ls
  | _, ls => ls.map fun z => (z, false)
theorem mergeS_two (ah : List (Int × Bool)) (i : Nat) (ls : List Int) (h : i + 1 < ah.length) :
    mergeS (ah.drop i) ls = mergeW ((ah.getD i (0, false)).1 + (ah.getD (i + 1) (0, false)).1) (mergeS (ah.drop (i + 2))) ls := by
  rw [List.drop_eq_getElem_cons (by omega : i < ah.length), List.drop_eq_getElem_cons h]
  have h0 : i < ah.length := by omega
  simp [mergeS, List.getD, h, h0]
theorem mergeS_few (ah : List (Int × Bool)) (i : Nat) (ls : List Int) (h : ah.length ≤ i + 1) : mergeS (ah.drop i) ls = ls.map fun z => (z, false) := by
  by_cases h0 : i < ah.length
  · rw [List.drop_eq_getElem_cons h0, List.drop_of_length_le (by omega)]; rfl
  · rw [List.drop_of_length_le (by omega)]; rfl
theorem mergeW_len (w : Int) (rest : List Int → List (Int × Bool)) (n : Nat) (hr : ∀ l, (rest l).length = l.length + n) : ∀ l, (mergeW w rest l).length = l.length + (n + 1)
  | [] => by simp [mergeW, hr]
  | z :: r => by
    unfold mergeW
    split
    · simp [mergeW_len w rest n hr r]; omega
    · simp [hr]; omega
theorem mergeS_len : ∀ (ah : List (Int × Bool)) (l : List Int), (mergeS ah l).length = l.length + ah.length / 2
  | [], l => by simp [mergeS]
  | [a], l => by simp [mergeS]
  | a :: b :: r, l => by
    have := mergeW_len (a.1 + b.1) (mergeS r) (r.length / 2) (mergeS_len r) l
    simp only [mergeS, this, List.length_cons]; omega
theorem mergeW_step (w : Int) (f : List Int → List (Int × Bool)) (lv : List (Int × Int)) (i : Nat) (h : i < lv.length) :
    mergeW w f ((lv.map (·.2)).drop i) = if (lv.getD i (0, 0)).2 ≤ w then ((lv.getD i (0, 0)).2, false) :: mergeW w f ((lv.map (·.2)).drop (i + 1)) else (w, true) :: f ((lv.map (·.2)).drop i) := by
  have e : (lv.map (·.2)).drop i = (lv.getD i (0, 0)).2 :: (lv.map (·.2)).drop (i + 1) := by
    rw [List.drop_eq_getElem_cons (by simpa using h)]; simp [List.getD, h]
  rw [e]
  rfl
theorem mergeW_end (w : Int) (f : List Int → List (Int × Bool)) (lv : List (Int × Int)) (i : Nat) (h : lv.length ≤ i) :
    mergeW w f ((lv.map (·.2)).drop i) = (w, true) :: f ((lv.map (·.2)).drop i) := by
  rw [List.drop_of_length_le (by simpa using h)]; rfl
theorem lf_step (lv : List (Int × Int)) (i : Nat) (h : i < lv.length) : (lv.map (·.2)).drop i = (lv.getD i (0, 0)).2 :: (lv.map (·.2)).drop (i + 1) := by
  rw [List.drop_eq_getElem_cons (by simpa using h)]; simp [List.getD, h]
theorem lf_end (lv : List (Int × Int)) (i : Nat) (h : lv.length ≤ i) : (lv.map (·.2)).drop i = [] := List.drop_of_length_le (by simpa using h)

/-- The weights of leaves are small; those of items are no more than great. -/
def SmallL (lv : List (Int × Int)) : Prop := ∀ p ∈ lv, 0 ≤ p.2 ∧ p.2 ≤ 1048576
def SmallIt (m : Int) (rs : List (Int × Bool)) : Prop := ∀ p ∈ rs, 0 ≤ p.1 ∧ p.1 ≤ m
theorem SmallIt.getD {m : Int} {rs : List (Int × Bool)} (h : SmallIt m rs) (hm : 0 ≤ m) (i : Nat) : 0 ≤ (rs.getD i (0, false)).1 ∧ (rs.getD i (0, false)).1 ≤ m := by
  by_cases hi : i < rs.length
  · have : rs.getD i (0, false) = rs[i] := by simp [List.getD, hi]
    rw [this]; exact h _ (List.getElem_mem hi)
  · have : rs.getD i (0, false) = (0, false) := by simp [List.getD, List.getElem?_eq_none (Nat.le_of_not_lt hi)]
    rw [this]; exact ⟨Int.le_refl 0, hm⟩
theorem SmallL.getD {lv : List (Int × Int)} (h : SmallL lv) (i : Nat) : 0 ≤ (lv.getD i (0, 0)).2 ∧ (lv.getD i (0, 0)).2 ≤ 1048576 := by
  by_cases hi : i < lv.length
  · have : lv.getD i (0, 0) = lv[i] := by simp [List.getD, hi]
    rw [this]; exact h _ (List.getElem_mem hi)
  · have : lv.getD i (0, 0) = (0, 0) := by simp [List.getD, List.getElem?_eq_none (Nat.le_of_not_lt hi)]
    rw [this]; decide

theorem news_it (w : World) (s : Int) (x : Bool) : ∀ (k : Nat) (u : Value), [Value.int .i64 s, .bool x][k]? = some u → (w.alloc (.cells #[.int .i64 s, .bool x] 244)).cell? ((⟨w.heap.size, 0, none⟩ : Addr).add k) = some u := by
  intro k u hk
  rw [addr_add, Nat.zero_add, cell_new k rfl]
  simpa using hk

theorem own_shape2 {w : World} {base e s : Nat} {v : Value} {n : Nat} {xs : List Value} (h : w.ownsRow base e s v n xs) : ∃ ao cap, v = .slice ao n cap := by
  rcases h.2 with ⟨rfl, rfl⟩ | ⟨g, cap, cur, rfl, _⟩
  · exact ⟨none, 0, rfl⟩
  · exact ⟨_, cap, rfl⟩
def lenN : Value → Nat | .slice _ n _ => n | _ => 0
/-- The row goes on being the call's own. -/
structure RowSt (w0 w : World) (a : Option Addr) (c : Nat) (rs : List (Int × Bool)) : Prop where
  own : OwnIt w a c rs
  kept : Kept NoB w0 w
  fresh : ∀ k, (Value.slice a rs.length c).ownBlock = some k → w0.heap.size ≤ k
theorem RowSt.drewN {w0 w : World} {a : Option Addr} {c : Nat} {rs : List (Int × Bool)} (h : RowSt w0 w a c rs) (n : Nat) : RowSt w0 (w.drewN n) a c rs := ⟨(Kept.refl NoB w).drewN n |>.row h.own (fun _ _ h => h), h.kept.drewN n, h.fresh⟩
theorem RowSt.alloc {w0 w : World} {a : Option Addr} {c : Nat} {rs : List (Int × Bool)} (h : RowSt w0 w a c rs) (o : Obj) : RowSt w0 (w.alloc o) a c rs := ⟨h.own.alloc o, h.kept.alloc o, h.fresh⟩
theorem RowSt.app {w0 wr w2 : World} {a' a2 : Option Addr} {c' c2 len : Nat} {rs : List (Int × Bool)} {s : Int} {x : Bool} {o : Obj} (h : RowSt w0 wr a' c' rs) (hlen : len = rs.length)
    (hown : w2.ownsRow 0 244 2 (.slice a2 (len + 1) c2) (len + 1) (icells rs ++ [.int .i64 s, .bool x])) (hgrow : (wr.alloc o).grownBy w2 (Value.slice a' len c').ownBlock)
    (hnew : ∀ k, (Value.slice a2 (len + 1) c2).ownBlock = some k → (Value.slice a' len c').ownBlock = some k ∨ wr.heap.size + 1 ≤ k) : RowSt w0 w2 a2 c2 (rs ++ [(s, x)]) := by
  subst hlen
  have hl : (rs ++ [(s, x)]).length = rs.length + 1 := by simp
  refine ⟨?_, ?_, ?_⟩
  · unfold OwnIt
    rw [hl, ← icells_app]
    exact hown
  · exact (h.kept.alloc o).grown hgrow (fun k hk e => by have := h.fresh k e; omega)
  · intro k hk
    rw [hl] at hk
    rcases hnew k hk with h1 | h1
    · exact h.fresh k h1
    · have := h.kept.size; omega

set_option maxRecDepth 20000 in
set_option maxHeartbeats 2000000 in
theorem merged_calls (lo ao : Option Addr) (lc ac B C : Nat) (lv : List (Int × Int)) (ah : List (Int × Bool)) (w : World) (hl : RdLf w B lo lv) (ha : RdIt w C ao ah) (hls : SmallL lv) (has : SmallIt 1125899906842624 ah)
    (hll : lv.length ≤ 1000) (hal : ah.length ≤ 10000) (hac : ah.length ≤ ac ∧ ac ≤ maxLen) (hlc : lv.length ≤ lc ∧ lc ≤ maxLen) :
    Calls Tryz.prog 184 #[.slice lo lv.length lc, .slice ao ah.length ac] w fun e w' => ∃ a' c', e = .returned (.slice a' (mergeS ah (lv.map (·.2))).length c') ∧ RowSt w w' a' c' (mergeS ah (lv.map (·.2))) := by
  have HL := Lib.hid hl; have HA := Lib.hid ha; have HLs := Lib.hid hls; have HAs := Lib.hid has
  obtain ⟨i0, hi, hz0, hz1, hz2⟩ := info_parts infoIt
  obtain ⟨R, hR⟩ : ∃ R, R = mergeS ah (lv.map (·.2)) := ⟨_, rfl⟩
  have HRe := Lib.hid hR
  rw [← hR]
  clear hR
  obtain ⟨n, hn⟩ : ∃ n, n = lv.length := ⟨_, rfl⟩
  obtain ⟨m, hm⟩ : ∃ m, m = ah.length := ⟨_, rfl⟩
  have HN := Lib.hid hn; have HM := Lib.hid hm
  rw [← hn] at hll hlc ⊢
  rw [← hm] at hal hac ⊢
  clear hl ha hls has hn hm
  obtain ⟨h1, h2⟩ := hac
  obtain ⟨h3, h4⟩ := hlc
  go_enter Tryz.func184, Tryz.ntmps184
  go_wp2_with (at_make; refine wpList_make_own _ rfl _ _ 241 rfl 0 244 i0 (.agg #[.int .i64 0, .bool false]) 2 Tryz.underlying241 hi hz0 hz1 .i64 .i64 _ (n + m / 2) rfl rfl (by omega) ?b2 ?b3 (Nat.zero_le _) ?_)
  case b2 => rw [hz2]; omega
  case b3 => unfold maxLen; omega
  intro w0 hown0 hgrow0
  have hst0 : RowSt w w0 (some ⟨w.heap.size, 0, none⟩) (n + m / 2) [] := ⟨hown0, (Kept.refl _ _).grown hgrow0 (fun k _ e => by cases e), fun k hk => by simp [Value.ownBlock] at hk; omega⟩
  have HSt0 := Lib.hid hst0
  clear hown0 hgrow0 hst0
  go_wp2
  go_loopw [1, 5, 6, 7] (fun v1 v5 v6 _v7 wr => ∃ (i nx : Nat) (rs : List (Int × Bool)) (a1 a5 : Option Addr) (m1 c1 l5 c5 : Nat), v1 = .slice a1 m1 c1 ∧ v5 = .slice a5 l5 c5 ∧ v6 = .int .i64 (nx : Int) ∧ m1 + 2 * i = m ∧ m1 ≤ c1 ∧ c1 ≤ ac ∧ nx ≤ n ∧ Hid (l5 = rs.length) ∧ l5 ≤ nx + i ∧ Hid (RdIt w C a1 (ah.drop (2 * i))) ∧ Hid (RowSt w wr a5 c5 rs) ∧ Hid (rs ++ mergeS (ah.drop (2 * i)) ((lv.map (·.2)).drop nx) = R)) (fun v1 _ _ _ _ => lenN v1)
  case atStart => exact ⟨0, 0, [], ao, _, m, ac, 0, _, rfl, rfl, rfl, by omega, by omega, by omega, by omega, Lib.hid rfl, by omega, HA, HSt0, Lib.hid (by simpa using HRe.out.symm)⟩
  case round =>
    obtain ⟨i, nx, rs, a1, a5, m1, c1, l5, c5, rfl, rfl, rfl, hm1, hc1, hc2, hnx, HL5, hl5, HA1, HS, HX⟩ := hrel
    clear HSt0
    by_cases hge : 2 ≤ m1
    · obtain ⟨g, off, rfl, hgl, hx0, _⟩ := HA1.out 0 (by have := HM.out; simp; omega)
      obtain ⟨g', off', he, _, hy0, _⟩ := HA1.out 1 (by have := HM.out; simp; omega)
      cases he
      have hx1 := HS.out.kept.cell hx0
      have hy1 := HS.out.kept.cell hy0
      simp only [List.getD_eq_getElem?_getD, List.getElem?_drop, Nat.add_zero, Nat.zero_mul, Nat.one_mul] at hx1 hy1
      rw [← List.getD_eq_getElem?_getD] at hx1 hy1
      have hbx := HAs.out.getD (by decide) (2 * i)
      have hby := HAs.out.getD (by decide) (2 * i + 1)
      have hme := HX.out
      rw [mergeS_two ah (2 * i) _ (by have := HM.out; omega)] at hme
      obtain ⟨x, hx⟩ : ∃ x, x = (ah.getD (2 * i) (0, false)).1 := ⟨_, rfl⟩
      obtain ⟨y, hy⟩ : ∃ y, y = (ah.getD (2 * i + 1) (0, false)).1 := ⟨_, rfl⟩
      rw [← hx] at hx1 hbx hme
      rw [← hy] at hy1 hby hme
      have hw : wrap64 (x + y) = x + y := IntWalk.wrap64_in _ (by omega)
      have HW := Lib.hid hw; have HMe := Lib.hid hme
      clear hx hy hx0 hy0 hw hme HX hgl
      go_upto_region 5 with fail
      go_quiet (fail)
      obtain ⟨W, hW⟩ : ∃ W, W = x + y := ⟨_, rfl⟩
      have hd : decide ((2 : Int) ≤ (m1 : Int)) = true := decide_eq_true (by omega)
      rw [← hW, hd] 
      rw [← hW] at HMe
      clear hd
      obtain ⟨a1', ha1'⟩ : ∃ a, a = (if c1 = 2 then some (⟨g, off, none⟩ : Addr) else some ⟨g, off + 4, none⟩) := ⟨_, rfl⟩
      have hA2 : RdIt w C a1' (ah.drop (2 * (i + 1))) := by
        rw [ha1']
        exact HA1.out.tail (by have := HM.out; simp; omega)
      have HA2 := Lib.hid hA2; have HAe := Lib.hid ha1'.symm
      clear hA2 ha1'
      have HS0 : Hid (RowSt w (wr.drewN nq) a5 c5 rs) := Lib.hid (HS.out.drewN nq)
      clear hW HW hx1 hy1 hbx hby HA1 HS
      go_wp2
      go_loopw [5, 6] (fun v5 v6 wx => ∃ (nx : Nat) (rs : List (Int × Bool)) (a5 : Option Addr) (l5 c5 : Nat), v5 = .slice a5 l5 c5 ∧ v6 = .int .i64 (nx : Int) ∧ nx ≤ n ∧ Hid (l5 = rs.length) ∧ l5 ≤ nx + i ∧ Hid (RowSt w wx a5 c5 rs) ∧ Hid (rs ++ mergeW W (mergeS (ah.drop (2 * i + 2))) ((lv.map (·.2)).drop nx) = R)) (fun _ v6 _ => n - (intOf v6).toNat)
      case atStart => exact ⟨nx, rs, a5, l5, c5, rfl, rfl, hnx, HL5, hl5, HS0, HMe⟩
      case round =>
        clear HS0 HMe HL5 hl5 hnx
        obtain ⟨nx, rs, a5, l5, c5, rfl, rfl, hnx, HL5, hl5, HS, HX⟩ := hrel
        have hrow := HS.out.own
        unfold OwnIt at hrow
        rw [← HL5.out] at hrow
        by_cases hlt : (nx : Int) < n
        · obtain ⟨gl, ofl, rfl, _, _, hz0'⟩ := HL.out nx (by have := HN.out; omega)
          have hzc := HS.out.kept.cell hz0'
          have hst := HX.out
          rw [mergeW_step W _ lv nx (by have := HN.out; omega)] at hst
          have hbz := HLs.out.getD nx
          obtain ⟨z, hz⟩ : ∃ z, z = (lv.getD nx (0, 0)).2 := ⟨_, rfl⟩
          rw [← hz] at hzc hst hbz
          clear hz hz0' HX
          by_cases hle : z ≤ W
          · rw [if_pos hle] at hst
            have HX2 := Lib.hid hst
            have hrow2 := hrow.alloc (.cells #[.int .i64 z, .bool false] 244)
            have HRow := Lib.hid hrow2; have HNw := Lib.hid (news_it wr z false)
            clear hrow hrow2 hst
            go_wp2_with (at_builtin; refine wpList_app _ rfl _ _ 241 rfl 244 i0 (.agg #[.int .i64 0, .bool false]) 2 16 Tryz.underlying241 hi hz0 hz1 hz2 rfl (by decide) _ l5 (icells rs) rfl HRow.out ⟨wr.heap.size, 0, none⟩ 1 1 [.int .i64 z, .bool false] rfl rfl HNw.out ?d2 ?d3 ?d4 ?_)
            case d2 => first | rfl | (intro u hu; simp at hu; rcases hu with rfl | rfl <;> rfl) | (simp [Value.oneCell'])
            case d3 => unfold maxLen; omega
            case d4 => omega
            intro v' w2 hown' hgrow hnew
            obtain ⟨a2, c2, rfl⟩ := own_shape2 hown'
            have HSt := Lib.hid (HS.out.app HL5.out hown' hgrow hnew)
            clear hown' hgrow hnew
            go_wp2
            go_roundw
            case rel => exact ⟨nx + 1, rs ++ [(z, false)], a2, l5 + 1, c2, rfl, by go_num, by omega, Lib.hid (by rw [HL5.out]; simp), by omega, HSt, Lib.hid (by rw [List.append_assoc]; exact HX2.out)⟩
            case measure => simp [intOf]; omega
          · rw [if_neg hle] at hst
            have HX2 := Lib.hid hst
            have hrow2 := hrow.alloc (.cells #[.int .i64 W, .bool true] 244)
            have HRow := Lib.hid hrow2; have HNw := Lib.hid (news_it wr W true)
            clear hrow hrow2 hst
            go_wp2_with (at_builtin; refine wpList_app _ rfl _ _ 241 rfl 244 i0 (.agg #[.int .i64 0, .bool false]) 2 16 Tryz.underlying241 hi hz0 hz1 hz2 rfl (by decide) _ l5 (icells rs) rfl HRow.out ⟨wr.heap.size, 0, none⟩ 1 1 [.int .i64 W, .bool true] rfl rfl HNw.out ?d2 ?d3 ?d4 ?_)
            case d2 => first | rfl | (intro u hu; simp at hu; rcases hu with rfl | rfl <;> rfl) | (simp [Value.oneCell'])
            case d3 => unfold maxLen; omega
            case d4 => omega
            intro v' w2 hown' hgrow hnew
            obtain ⟨a2, c2, rfl⟩ := own_shape2 hown'
            have HSt := Lib.hid (HS.out.app HL5.out hown' hgrow hnew)
            clear hown' hgrow hnew
            go_wp2
            go_roundw
            case rel => exact ⟨i + 1, nx, rs ++ [(W, true)], a1', a2, m1 - 2, c1 - 2, l5 + 1, c2, by rw [HAe.out], rfl, rfl, by omega, by omega, by omega, hnx, Lib.hid (by rw [HL5.out]; simp), by omega, HA2, HSt, Lib.hid (by rw [List.append_assoc]; exact HX2.out)⟩
            case measure => simp [lenN]; omega
        · have hst := HX.out
          rw [mergeW_end W _ lv nx (by have := HN.out; omega)] at hst
          clear HX
          have HX2 := Lib.hid hst
          have hrow2 := hrow.alloc (.cells #[.int .i64 W, .bool true] 244)
          have HRow := Lib.hid hrow2; have HNw := Lib.hid (news_it wr W true)
          clear hrow hrow2 hst
          go_wp2_with (at_builtin; refine wpList_app _ rfl _ _ 241 rfl 244 i0 (.agg #[.int .i64 0, .bool false]) 2 16 Tryz.underlying241 hi hz0 hz1 hz2 rfl (by decide) _ l5 (icells rs) rfl HRow.out ⟨wr.heap.size, 0, none⟩ 1 1 [.int .i64 W, .bool true] rfl rfl HNw.out ?d2 ?d3 ?d4 ?_)
          case d2 => first | rfl | (intro u hu; simp at hu; rcases hu with rfl | rfl <;> rfl) | (simp [Value.oneCell'])
          case d3 => unfold maxLen; omega
          case d4 => omega
          intro v' w2 hown' hgrow hnew
          obtain ⟨a2, c2, rfl⟩ := own_shape2 hown'
          have HSt := Lib.hid (HS.out.app HL5.out hown' hgrow hnew)
          clear hown' hgrow hnew
          go_wp2
          go_roundw
          case rel => exact ⟨i + 1, nx, rs ++ [(W, true)], a1', a2, m1 - 2, c1 - 2, l5 + 1, c2, by rw [HAe.out], rfl, rfl, by omega, by omega, by omega, hnx, Lib.hid (by rw [HL5.out]; simp), by omega, HA2, HSt, Lib.hid (by rw [List.append_assoc]; exact HX2.out)⟩
          case measure => simp [lenN]; omega
    · have hme := HX.out
      rw [mergeS_few ah (2 * i) _ (by have := HM.out; omega)] at hme
      have HMe := Lib.hid hme
      have hlt2 : ¬ 2 ≤ (m1 : Int) := by omega
      clear HA1 hme HX
      obtain ⟨d, hd⟩ : ∃ d : Nat, nx + d = n := ⟨n - nx, by omega⟩
      have hsp : (nx < n ∧ ∃ gl ofl, lo = some ⟨gl, ofl, none⟩) ∨ nx = n := by
        by_cases h : nx < n
        · obtain ⟨gl, ofl, e, _⟩ := HL.out nx (by have := HN.out; omega)
          exact .inl ⟨h, gl, ofl, e⟩
        · exact .inr (by omega)
      rcases hsp with ⟨hnn, gl, ofl, rfl⟩ | hnn
      · have hne : ¬ lc = nx := by omega
        go_wp2
        go_loopw [64, 5, 9] (fun v64 v5 _v9 wr => ∃ (j : Nat) (rs : List (Int × Bool)) (a5 : Option Addr) (l5 c5 : Nat), v64 = .int .i64 (j : Int) ∧ v5 = .slice a5 l5 c5 ∧ j ≤ d ∧ Hid (l5 = rs.length) ∧ l5 ≤ nx + i + j ∧ Hid (RowSt w wr a5 c5 rs) ∧ Hid (rs ++ ((lv.map (·.2)).drop (nx + j)).map (fun z => (z, false)) = R)) (fun v64 _ _ _ => d - (intOf v64).toNat)
        case atStart => exact ⟨0, rs, a5, l5, c5, rfl, rfl, by omega, HL5, by omega, HS, HMe⟩
        case round =>
          clear HMe HS HL5 hl5
          obtain ⟨j, rs, a5, l5, c5, rfl, rfl, hj, HL5, hl5, HS, HX⟩ := hrel
          by_cases hlt : (j : Int) < d
          · obtain ⟨gl', ofl', he, _, hp0, hz0'⟩ := HL.out (nx + j) (by have := HN.out; omega)
            cases he
            have hpc := HS.out.kept.cell hp0
            have hzc := HS.out.kept.cell hz0'
            have hst := HX.out
            rw [lf_step lv (nx + j) (by have := HN.out; omega)] at hst
            obtain ⟨p, hp⟩ : ∃ p, p = (lv.getD (nx + j) (0, 0)).1 := ⟨_, rfl⟩
            obtain ⟨z, hz⟩ : ∃ z, z = (lv.getD (nx + j) (0, 0)).2 := ⟨_, rfl⟩
            rw [← hz] at hzc hst
            rw [← hp] at hpc
            rw [show ofl + (nx + j) * 2 = ofl + nx * 2 + j * 2 by omega] at hpc hzc
            clear hz hz0' HX hp hp0
            have hrow := HS.out.own
            unfold OwnIt at hrow
            rw [← HL5.out] at hrow
            have HSa := Lib.hid (HS.out.alloc (.cells #[.int .i64 p, .int .i64 z] 226))
            have hrow2 := (hrow.alloc (.cells #[.int .i64 p, .int .i64 z] 226)).alloc (.cells #[.int .i64 z, .bool false] 244)
            have hnw := news_it (wr.alloc (.cells #[.int .i64 p, .int .i64 z] 226)) z false
            have hsz : (wr.alloc (.cells #[.int .i64 p, .int .i64 z] 226)).heap.size = wr.heap.size + 1 := by simp
            have HSz := Lib.hid hsz
            rw [hsz] at hnw
            clear hsz
            have HRow := Lib.hid hrow2; have HNw := Lib.hid hnw; have HX2 := Lib.hid hst
            clear hrow hrow2 hnw hst
            go_wp2_with (at_builtin; refine wpList_app _ rfl _ _ 241 rfl 244 i0 (.agg #[.int .i64 0, .bool false]) 2 16 Tryz.underlying241 hi hz0 hz1 hz2 rfl (by decide) _ l5 (icells rs) rfl HRow.out ⟨wr.heap.size + 1, 0, none⟩ 1 1 [.int .i64 z, .bool false] rfl rfl HNw.out ?d2 ?d3 ?d4 ?_)
            case d2 => first | rfl | (intro u hu; simp at hu; rcases hu with rfl | rfl <;> rfl) | (simp [Value.oneCell'])
            case d3 => unfold maxLen; omega
            case d4 => omega
            intro v' w2 hown' hgrow hnew
            obtain ⟨a2, c2, rfl⟩ := own_shape2 hown'
            have HSt := Lib.hid (HSa.out.app HL5.out hown' hgrow (by rw [HSz.out]; exact hnew))
            clear hown' hgrow hnew
            go_wp2
            go_roundw
            case rel => exact ⟨j + 1, rs ++ [(z, false)], a2, l5 + 1, c2, by go_num, rfl, by omega, Lib.hid (by rw [HL5.out]; simp), by omega, HSt, Lib.hid (by rw [List.append_assoc]; exact HX2.out)⟩
            case measure => simp [intOf]; omega
          · have hst := HX.out
            rw [lf_end lv (nx + j) (by have := HN.out; omega), List.map_nil, List.append_nil] at hst
            subst hst
            go_wp2
            go_ret
            exact ⟨a5, c5, by rw [HL5.out]; rfl, HS.out⟩
      · subst hnn
        have hst := HMe.out
        rw [lf_end lv _ (by have := HN.out; omega), List.map_nil, List.append_nil] at hst
        subst hst
        have hge : ¬ 2 ≤ (m1 : Int) := by omega
        go_wp2
        all_goals
          go_loopw [64, 5, 9] (fun v64 v5 _v9 wr => v64 = .int .i64 0 ∧ v5 = .slice a5 l5 c5 ∧ Hid (RowSt w wr a5 c5 rs)) (fun _ _ _ _ => 0)
          case atStart => exact ⟨rfl, rfl, HS⟩
          case round =>
            clear HS
            obtain ⟨rfl, rfl, HS⟩ := hrel
            go_wp2
            go_ret
            exact ⟨a5, c5, by rw [HL5.out]; rfl, HS.out⟩

end Go.Proofs.YtfmjfgmbjdhogaaGreatDoor
