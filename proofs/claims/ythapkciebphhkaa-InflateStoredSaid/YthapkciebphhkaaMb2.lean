/-
  Tokens: which may be, and which are refused.
  What a token makes: put, Put.
  A row of numbers that came in.
  huff.Cost, huff.Kraft, the document's Kraft.
  huff.merged: the leaves and the pairs of the row ahead.
  The rows of huff.addLengths.
-/
import Derived.Test.YthapkciebphhkaaMb1
import Derived.Laws.CopyOwn
import Derived.Deep.RegionLaw
import Derived.Deep.CutBlock
import Derived.OwnWalk
namespace Go.Proofs.Ythapkciebphhkaa
open Go.RowKit
set_option linter.unusedVariables false
set_option linter.unusedSimpArgs false

/-- A token: how many, how far back, a byte. -/
structure Tk where
  l : Int
  d : Int
  c : Int
def Tk.v (t : Tk) : Value := .agg #[.int .i64 t.l, .int .i64 t.d, .int .u8 t.c]
def Tk.wf (t : Tk) : Prop := (-9223372036854775808 ≤ t.l ∧ t.l ≤ 9223372036854775807) ∧ (-9223372036854775808 ≤ t.d ∧ t.d ≤ 9223372036854775807) ∧ 0 ≤ t.c ∧ t.c < 256
def Tk.ok (t : Tk) : Bool := if t.l = 0 then decide (t.d = 0) else decide (3 ≤ t.l ∧ t.l ≤ 258 ∧ 1 ≤ t.d ∧ t.d ≤ 32768 ∧ t.c = 0)
/-- Why a token may not be put behind n bytes: 0, it may. -/
def Tk.no (t : Tk) (n : Nat) (most : Int) : Int := if t.ok = false then 1 else if (n : Int) < t.d then 4 else if most < n + (if t.l < 1 then 1 else t.l) then 5 else 0

theorem tok_no (l d c : Int) (h1 : l ≠ 0) (h : ¬ (3 ≤ l ∧ l ≤ 258 ∧ 1 ≤ d ∧ d ≤ 32768 ∧ c = 0)) : (Tk.mk l d c).ok = false := by
  unfold Tk.ok
  rw [if_neg h1]
  exact decide_eq_false h
end Go.Proofs.Ythapkciebphhkaa

namespace Go.Proofs.Ythapkciebphhkaa
open Go.RowKit
set_option linter.unusedVariables false
set_option linter.unusedSimpArgs false

/-- k bytes more, each the one D ahead of it. -/
def copyN (D : Nat) : Nat → List Int → List Int
  | 0, bs => bs
  | k + 1, bs => copyN D k bs ++ [(copyN D k bs).getD ((copyN D k bs).length - D) 0]
theorem copyN_len (D k : Nat) (bs : List Int) : (copyN D k bs).length = bs.length + k := by
  induction k with
  | zero => rfl
  | succ k ih => simp only [copyN, List.length_append, ih, List.length_cons, List.length_nil]; omega
theorem copyN_all (D k : Nat) (bs : List Int) (h : AllB bs) : AllB (copyN D k bs) := by
  induction k with
  | zero => exact h
  | succ k ih =>
    intro b hb
    simp only [copyN, List.mem_append, List.mem_singleton] at hb
    rcases hb with hb | rfl
    · exact ih b hb
    · exact ih.getD _
/-- The bytes behind a token that may be put. -/
def Tk.put (t : Tk) (bs : List Int) : List Int := if t.l = 0 then bs ++ [t.c] else copyN t.d.toNat t.l.toNat bs
theorem put_all (t : Tk) (bs : List Int) (h : AllB bs) (ht : t.wf) : AllB (t.put bs) := by
  unfold Tk.put
  split
  · intro b hb
    rcases List.mem_append.1 hb with hb | hb
    · exact h b hb
    · simp at hb; subst hb; exact ⟨ht.2.2.1, ht.2.2.2⟩
  · exact copyN_all _ _ _ h
theorem put_len (t : Tk) (bs : List Int) : (t.put bs).length = bs.length + (if t.l = 0 then 1 else t.l.toNat) := by
  unfold Tk.put
  split
  · simp
  · exact copyN_len _ _ _

/-- What is put: a row that grew, its block its own or new. -/
def Grew (w : World) (v0 : Value) (xs : List Int) (e : Ending) (w' : World) : Prop :=
  ∃ ao cap, e = .returned (.slice ao xs.length cap) ∧ w'.ownsRow 0 5 1 (.slice ao xs.length cap) xs.length (xs.map (.int .u8)) ∧ Kept (OwnB v0) w w' ∧ (∀ k, (Value.slice ao xs.length cap).ownBlock = some k → v0.ownBlock = some k ∨ w.heap.size ≤ k)

end Go.Proofs.Ythapkciebphhkaa

namespace Go.Proofs.Ythapkciebphhkaa
open Go.RowKit
set_option linter.unusedVariables false

theorem cells_int : Try.prog.cellsOf 3 = 1 := by kernel_rfl

/-- A slice of numbers reads as zs; its block is below B. -/
def RdI (w : World) (B : Nat) (ao : Option Addr) (zs : List Int) : Prop :=
  ∀ i, i < zs.length → ∃ g off, ao = some ⟨g, off, none⟩ ∧ g < B ∧ w.cell? ⟨g, off + i, none⟩ = some (.int .i64 (zs.getD i 0))
theorem RdI.kept {S : Nat → Prop} {w w' : World} {B : Nat} {ao : Option Addr} {zs : List Int} (h : RdI w B ao zs) (hk : Kept S w w') (hs : ∀ k, k < B → ¬ S k) : RdI w' B ao zs := by
  intro i hi
  obtain ⟨g, off, h1, h2, h3⟩ := h i hi
  exact ⟨g, off, h1, h2, (World.cell?_of_block (hk.block _ (World.block_lt_of_cell? w _ h3) (hs g h2))).trans h3⟩
theorem RdI.mono {w : World} {B C : Nat} {ao : Option Addr} {zs : List Int} (h : RdI w B ao zs) (hb : B ≤ C) : RdI w C ao zs := by
  intro i hi
  obtain ⟨g, off, h1, h2, h3⟩ := h i hi
  exact ⟨g, off, h1, Nat.lt_of_lt_of_le h2 hb, h3⟩
theorem RdI.room {w : World} {B : Nat} {ao : Option Addr} {zs : List Int} (h : RdI w B ao zs) : RdI w w.heap.size ao zs := by
  intro i hi
  obtain ⟨g, off, h1, h2, h3⟩ := h i hi
  exact ⟨g, off, h1, World.block_lt_of_cell? w _ h3, h3⟩
def AllI (zs : List Int) : Prop := ∀ z ∈ zs, -9223372036854775808 ≤ z ∧ z ≤ 9223372036854775807
theorem AllI.getD {zs : List Int} (h : AllI zs) (i : Nat) : -9223372036854775808 ≤ zs.getD i 0 ∧ zs.getD i 0 ≤ 9223372036854775807 := by
  by_cases hi : i < zs.length
  · have : zs.getD i 0 = zs[i] := by simp [List.getD, hi]
    rw [this]; exact h _ (List.getElem_mem hi)
  · have : zs.getD i 0 = 0 := by simp [List.getD, List.getElem?_eq_none (Nat.le_of_not_lt hi)]
    omega

theorem Arg.ints {w : World} {v : Value} (h : Arg w 29 v) :
    ∃ (ao : Option Addr) (cap : Nat) (zs : List Int), v = .slice ao zs.length cap ∧ zs.length ≤ cap ∧ cap ≤ maxLen ∧ RdI w w.heap.size ao zs ∧ AllI zs ∧ (ao = none → cap = 0) := by
  obtain ⟨ao, len, cap, rfl, hl, hm, hn, hc⟩ := h.slice Try.underlying29
  rw [cells_int] at hc
  have key : ∀ i, ∃ z : Int, (-9223372036854775808 ≤ z ∧ z ≤ 9223372036854775807) ∧ (∀ x, ao = some x → i < len → w.cell? (x.add i) = some (.int .i64 z)) := by
    intro i
    by_cases hi : i < len
    · cases ao with
      | none => exact ⟨0, by decide, (fun x hx => by cases hx)⟩
      | some x =>
        obtain ⟨cs, hr, hcl, hcc⟩ := hc x rfl i hi
        obtain ⟨z, rfl, hz⟩ := hr.int Try.underlying3
        refine ⟨z, i64_bd hz, ?_⟩
        intro y hy _
        cases hy
        simpa using hcc 0 (by simp)
    · exact ⟨0, by decide, (fun x _ h => absurd h hi)⟩
  obtain ⟨f, hf⟩ := choose1 key
  refine ⟨ao, cap, (List.range len).map f, by simp, by simpa using hl, hm, ?_, ?_, (fun h => (hn h).2)⟩
  · intro i hi
    have hil : i < len := by simpa using hi
    cases ao with
    | none => have := (hn rfl).1; omega
    | some x =>
      have hcell := (hf i).2 x rfl hil
      obtain ⟨b, off, spot⟩ := x
      have hs : spot = none := by
        have := World.cell?_spot ((hf 0).2 _ rfl (by omega))
        simpa [Addr.add] using this
      subst hs
      rw [addr_add] at hcell
      rw [range_getD f len i 0 hil]
      exact ⟨b, off, rfl, World.block_lt_of_cell? w _ hcell, hcell⟩
  · intro z hz
    obtain ⟨i, _, rfl⟩ := List.mem_map.1 hz
    exact (hf i).1

end Go.Proofs.Ythapkciebphhkaa

namespace Go.Proofs.Ythapkciebphhkaa
open Go.RowKit
set_option linter.unusedVariables false
set_option linter.unusedSimpArgs false

/-- How much of all codes one of this length takes up. -/
def kpart (z : Int) : Int := if 1 ≤ z ∧ z ≤ 15 then ((2 ^ (15 - z.toNat) : Nat) : Int) else 0
def kraftL : List Int → Int
  | [] => 0
  | z :: r => kpart z + kraftL r
def costL : List Int → List Int → Int
  | x :: r, y :: s => x * y + costL r s
  | _, _ => 0

theorem kpart_bd (z : Int) : 0 ≤ kpart z ∧ kpart z ≤ 32768 := by
  unfold kpart
  split
  · have h := Nat.pow_le_pow_right (n := 2) (by decide) (show 15 - z.toNat ≤ 15 by omega)
    obtain ⟨p, hp⟩ : ∃ p, p = 2 ^ (15 - z.toNat) := ⟨_, rfl⟩
    rw [← hp] at h ⊢
    clear hp
    constructor <;> omega
  · decide
theorem kraft_bd : ∀ l : List Int, 0 ≤ kraftL l ∧ kraftL l ≤ 32768 * (l.length : Int)
  | [] => by simp [kraftL]
  | z :: r => by
    have h1 := kpart_bd z
    have h2 := kraft_bd r
    simp only [kraftL, List.length_cons]
    constructor <;> omega
theorem kraft_append : ∀ a b : List Int, kraftL (a ++ b) = kraftL a + kraftL b
  | [], b => by simp [kraftL]
  | z :: r, b => by simp only [List.cons_append, kraftL, kraft_append r b]; omega
theorem kraft_step (zs : List Int) (j : Nat) (h : j < zs.length) : kraftL (zs.drop j) = kpart (zs.getD j 0) + kraftL (zs.drop (j + 1)) := by
  rw [List.drop_eq_getElem_cons h]; simp [kraftL, List.getD, h]
theorem kraft_end (zs : List Int) (j : Nat) (h : zs.length ≤ j) : kraftL (zs.drop j) = 0 := by
  rw [List.drop_of_length_le h]; rfl
theorem kraft_room (zs : List Int) (j : Nat) (acc : Int) (h : acc + kraftL (zs.drop j) = kraftL zs) (hl : zs.length ≤ 1000000000) : acc ≤ 40000000000000 := by
  have h1 := kraft_bd (zs.drop j)
  have h2 := kraft_bd zs
  omega

theorem kpart_div : ∀ k : Nat, 1 ≤ k → k ≤ 15 → (32768 : Int) / 2 ^ k = kpart (k : Int) := by
  intro k h1 h2
  have : k = 1 ∨ k = 2 ∨ k = 3 ∨ k = 4 ∨ k = 5 ∨ k = 6 ∨ k = 7 ∨ k = 8 ∨ k = 9 ∨ k = 10 ∨ k = 11 ∨ k = 12 ∨ k = 13 ∨ k = 14 ∨ k = 15 := by omega
  rcases this with rfl | rfl | rfl | rfl | rfl | rfl | rfl | rfl | rfl | rfl | rfl | rfl | rfl | rfl | rfl <;> decide
theorem kpart_pow : ∀ k : Nat, 1 ≤ k → k ≤ 15 → (2 : Int) ^ (15 - k) = kpart (k : Int) := by
  intro k h1 h2
  have : k = 1 ∨ k = 2 ∨ k = 3 ∨ k = 4 ∨ k = 5 ∨ k = 6 ∨ k = 7 ∨ k = 8 ∨ k = 9 ∨ k = 10 ∨ k = 11 ∨ k = 12 ∨ k = 13 ∨ k = 14 ∨ k = 15 := by omega
  rcases this with rfl | rfl | rfl | rfl | rfl | rfl | rfl | rfl | rfl | rfl | rfl | rfl | rfl | rfl | rfl <;> decide
theorem kpart_out (z : Int) (h : ¬ (1 ≤ z ∧ z ≤ 15)) : kpart z = 0 := if_neg h

set_option maxRecDepth 20000 in
set_option maxHeartbeats 1000000 in
theorem rkraft_calls (ao : Option Addr) (cap B : Nat) (zs : List Int) (w : World) (hr : RdI w B ao zs) (hz : AllI zs) (hl : zs.length ≤ 1000000000) :
    Calls Try.prog 16 #[.slice ao zs.length cap] w fun e w' => e = .returned (.int .i64 (kraftL zs)) ∧ Kept NoB w w' := by
  have HR := Lib.hid hr
  have HZ := Lib.hid hz
  clear hr hz
  go_enter Try.func16, Try.ntmps16
  go_wp2
  go_loopw [3, 4] (fun v2 v8 wr => ∃ (acc : Int) (j : Nat), v2 = .int .i64 acc ∧ v8 = .int .i64 (j : Int) ∧ j ≤ zs.length ∧ 0 ≤ acc ∧ Hid (acc + kraftL (zs.drop j) = kraftL zs) ∧ Hid (Kept NoB w wr)) (fun _ v8 _ => zs.length - (intOf v8).toNat)
  case atStart => exact ⟨0, 0, rfl, rfl, by omega, by omega, Lib.hid (by rw [List.drop_zero, Int.zero_add]), Kept.refl _ _⟩
  case round =>
    obtain ⟨acc, j, rfl, rfl, hj, h0, HS, HK⟩ := hrel
    have hroom := kraft_room zs j acc HS.out hl
    by_cases hlt : (j : Int) < zs.length
    · obtain ⟨g, off, rfl, hg, hc⟩ := HR.out j (by omega)
      have hc' := HK.out.cell hc
      have hbd := HZ.out.getD j
      have hs := HS.out
      rw [kraft_step zs j (by omega)] at hs
      obtain ⟨z, hz⟩ : ∃ z, z = zs.getD j 0 := ⟨_, rfl⟩
      rw [← hz] at hc' hbd hs
      clear hz hc
      have hkp := kpart_bd z
      by_cases hin : 1 ≤ z ∧ z ≤ 15
      · obtain ⟨k, rfl⟩ : ∃ k : Nat, z = (k : Int) := ⟨z.toNat, by omega⟩
        have hd := kpart_pow k (by omega) (by omega)
        have hw : wrap64 (acc + wrap64 (2 ^ (15 - k))) = acc + kpart k := by
          have h1 : wrap64 (kpart k) = kpart k := IntWalk.wrap64_in _ (by omega)
          rw [hd, h1]; exact IntWalk.wrap64_in _ (by omega)
        have HW := Lib.hid hw; have HS2 := Lib.hid hs
        obtain ⟨p, hp⟩ : ∃ p, p = kpart k := ⟨_, rfl⟩
        rw [← hp] at HW HS2 hkp
        clear hw hs hd hp
        go_wp2
        go_roundw
        case rel => exact ⟨acc + p, j + 1, by rw [HW.out], by go_num, by omega, by omega, Lib.hid (by have := HS2.out; omega), HK⟩
        case measure => simp [intOf]; omega
      · have h0k := kpart_out z hin
        rw [h0k] at hs
        have HS2 := Lib.hid hs
        clear hs hkp h0k
        have hc : z < 1 ∨ (¬ z < 1 ∧ 15 < z) := by omega
        rcases hc with h1 | ⟨h1, h2⟩
        all_goals
          clear hin
          go_wp2
          go_roundw
          case rel => exact ⟨acc, j + 1, rfl, by go_num, by omega, h0, Lib.hid (by have := HS2.out; omega), HK⟩
          case measure => simp [intOf]; omega
    · have hs := HS.out
      rw [kraft_end zs j (by omega)] at hs
      obtain rfl : acc = kraftL zs := by omega
      clear hs hroom
      go_wp2
      go_ret
      exact ⟨rfl, HK.out⟩

/-- Small numbers. -/
def Small (m : Int) (zs : List Int) : Prop := ∀ z ∈ zs, 0 ≤ z ∧ z ≤ m
theorem Small.getD {m : Int} {zs : List Int} (h : Small m zs) (i : Nat) (hi : i < zs.length) : 0 ≤ zs.getD i 0 ∧ zs.getD i 0 ≤ m := by
  have : zs.getD i 0 = zs[i] := by simp [List.getD, hi]
  rw [this]; exact h _ (List.getElem_mem hi)
theorem cost_step (a b : List Int) (j : Nat) (ha : j < a.length) (hb : j < b.length) : costL (a.drop j) (b.drop j) = a.getD j 0 * b.getD j 0 + costL (a.drop (j + 1)) (b.drop (j + 1)) := by
  rw [List.drop_eq_getElem_cons ha, List.drop_eq_getElem_cons hb]; simp [costL, List.getD, ha, hb]
theorem cost_end (a b : List Int) (j : Nat) (h : a.length ≤ j ∨ b.length ≤ j) : costL (a.drop j) (b.drop j) = 0 := by
  rcases h with h | h
  · rw [List.drop_of_length_le h]; simp [costL]
  · rw [List.drop_of_length_le h]; cases a.drop j <;> simp [costL]
theorem prod_bd {x y : Int} (hx : 0 ≤ x ∧ x ≤ 1048576) (hy : 0 ≤ y ∧ y ≤ 1048576) : 0 ≤ x * y ∧ x * y ≤ 1099511627776 := by
  refine ⟨Int.mul_nonneg hx.1 hy.1, ?_⟩
  have h1 : x * y ≤ 1048576 * y := Int.mul_le_mul_of_nonneg_right hx.2 hy.1
  omega

end Go.Proofs.Ythapkciebphhkaa

namespace Go.Proofs.Ythapkciebphhkaa
open Go.RowKit
set_option linter.unusedVariables false
set_option linter.unusedSimpArgs false

/-- A row of items in memory: weight, packed. -/
def RdIt (w : World) (B : Nat) (ao : Option Addr) (rs : List (Int × Bool)) : Prop :=
  ∀ i, i < rs.length → ∃ g off, ao = some ⟨g, off, none⟩ ∧ g < B ∧ w.cell? ⟨g, off + i * 2, none⟩ = some (.int .i64 (rs.getD i (0, false)).1) ∧ w.cell? ⟨g, off + i * 2 + 1, none⟩ = some (.bool (rs.getD i (0, false)).2)
/-- A row of leaves in memory: place, weight. -/
def RdLf (w : World) (B : Nat) (ao : Option Addr) (rs : List (Int × Int)) : Prop :=
  ∀ i, i < rs.length → ∃ g off, ao = some ⟨g, off, none⟩ ∧ g < B ∧ w.cell? ⟨g, off + i * 2, none⟩ = some (.int .i64 (rs.getD i (0, 0)).1) ∧ w.cell? ⟨g, off + i * 2 + 1, none⟩ = some (.int .i64 (rs.getD i (0, 0)).2)
theorem RdIt.kept {w w' : World} {B : Nat} {ao : Option Addr} {rs : List (Int × Bool)} (h : RdIt w B ao rs) (hk : Kept NoB w w') : RdIt w' B ao rs := by
  intro i hi
  obtain ⟨g, off, h1, h2, h3, h4⟩ := h i hi
  exact ⟨g, off, h1, h2, hk.cell h3, hk.cell h4⟩
/-- All but the first two. -/
theorem RdIt.tail {w : World} {B g off c i : Nat} {rs : List (Int × Bool)} (h : RdIt w B (some ⟨g, off, none⟩) (rs.drop (2 * i))) (hc : (rs.drop (2 * i)).length ≤ c) :
    RdIt w B (if c = 2 then some ⟨g, off, none⟩ else some ⟨g, off + 4, none⟩) (rs.drop (2 * (i + 1))) := by
  intro j hj
  have hj' : j + 2 < (rs.drop (2 * i)).length := by simp at hj ⊢; omega
  obtain ⟨g', off', he, h2, h3, h4⟩ := h (j + 2) hj'
  cases he
  have e : (rs.drop (2 * (i + 1))).getD j (0, false) = (rs.drop (2 * i)).getD (j + 2) (0, false) := by
    simp only [List.getD_eq_getElem?_getD, List.getElem?_drop]
    rw [show 2 * (i + 1) + j = 2 * i + (j + 2) by omega]
  rw [e]
  refine ⟨g, off + 4, by rw [if_neg (by omega)], h2, ?_, ?_⟩
  · rw [show off + 4 + j * 2 = off + (j + 2) * 2 by omega]; exact h3
  · rw [show off + 4 + j * 2 + 1 = off + (j + 2) * 2 + 1 by omega]; exact h4
theorem RdLf.kept {w w' : World} {B : Nat} {ao : Option Addr} {rs : List (Int × Int)} (h : RdLf w B ao rs) (hk : Kept NoB w w') : RdLf w' B ao rs := by
  intro i hi
  obtain ⟨g, off, h1, h2, h3, h4⟩ := h i hi
  exact ⟨g, off, h1, h2, hk.cell h3, hk.cell h4⟩

/-- The cells of items. -/
def icells (rs : List (Int × Bool)) : List Value := rs.flatMap fun p => [.int .i64 p.1, .bool p.2]
theorem icells_len (rs : List (Int × Bool)) : (icells rs).length = rs.length * 2 := by
  induction rs with
  | nil => rfl
  | cons p r ih => simp [icells] at ih ⊢; omega
theorem icells_app (rs : List (Int × Bool)) (s : Int) (x : Bool) : icells rs ++ [.int .i64 s, .bool x] = icells (rs ++ [(s, x)]) := by simp [icells]
theorem icells_at : ∀ (rs : List (Int × Bool)) (i : Nat), i < rs.length → (icells rs)[i * 2]? = some (.int .i64 (rs.getD i (0, false)).1) ∧ (icells rs)[i * 2 + 1]? = some (.bool (rs.getD i (0, false)).2) := by
  intro rs
  induction rs with
  | nil => intro i hi; simp at hi
  | cons p r ih =>
    intro i hi
    have e : icells (p :: r) = .int .i64 p.1 :: .bool p.2 :: icells r := by simp [icells]
    rw [e]
    cases i with
    | zero => exact ⟨rfl, rfl⟩
    | succ i =>
      have hi' : i < r.length := by simpa using hi
      obtain ⟨h1, h2⟩ := ih i hi'
      rw [show (i + 1) * 2 = i * 2 + 1 + 1 by omega]
      refine ⟨?_, ?_⟩
      · simpa using h1
      · rw [List.getElem?_cons_succ, List.getElem?_cons_succ]; simpa using h2
/-- The pair of weight w stands behind the leaves that weigh no more. -/
def mergeW (w : Int) (rest : List Int → List (Int × Bool)) : List Int → List (Int × Bool)
  | [] => (w, true) :: rest []
  | z :: r => if z ≤ w then (z, false) :: mergeW w rest r else (w, true) :: rest (z :: r)
/-- The leaves, and the pairs of the row ahead. -/
def mergeS : List (Int × Bool) → List Int → List (Int × Bool)
  | a :: b :: r, ls => mergeW (a.1 + b.1) (mergeS r) ls
  | _, ls => ls.map fun z => (z, false)
theorem mergeS_two (ah : List (Int × Bool)) (i : Nat) (ls : List Int) (h : i + 1 < ah.length) :
    mergeS (ah.drop i) ls = mergeW ((ah.getD i (0, false)).1 + (ah.getD (i + 1) (0, false)).1) (mergeS (ah.drop (i + 2))) ls := by
  rw [List.drop_eq_getElem_cons (by omega : i < ah.length), List.drop_eq_getElem_cons h]
  have h0 : i < ah.length := by omega
  simp [mergeS, List.getD, h, h0]
theorem mergeS_few (ah : List (Int × Bool)) (i : Nat) (ls : List Int) (h : ah.length ≤ i + 1) : mergeS (ah.drop i) ls = ls.map fun z => (z, false) := by
  by_cases h0 : i < ah.length
  · rw [List.drop_eq_getElem_cons h0, List.drop_of_length_le (by omega)]; rfl
  · rw [List.drop_of_length_le (by omega)]; rfl
theorem mergeW_len (w : Int) (rest : List Int → List (Int × Bool)) (n : Nat) (hr : ∀ l, (rest l).length = l.length + n) : ∀ l, (mergeW w rest l).length = l.length + (n + 1)
  | [] => by simp [mergeW, hr]
  | z :: r => by
    unfold mergeW
    split
    · simp [mergeW_len w rest n hr r]; omega
    · simp [hr]; omega
theorem mergeS_len : ∀ (ah : List (Int × Bool)) (l : List Int), (mergeS ah l).length = l.length + ah.length / 2
  | [], l => by simp [mergeS]
  | [a], l => by simp [mergeS]
  | a :: b :: r, l => by
    have := mergeW_len (a.1 + b.1) (mergeS r) (r.length / 2) (mergeS_len r) l
    simp only [mergeS, this, List.length_cons]; omega
theorem mergeW_step (w : Int) (f : List Int → List (Int × Bool)) (lv : List (Int × Int)) (i : Nat) (h : i < lv.length) :
    mergeW w f ((lv.map (·.2)).drop i) = if (lv.getD i (0, 0)).2 ≤ w then ((lv.getD i (0, 0)).2, false) :: mergeW w f ((lv.map (·.2)).drop (i + 1)) else (w, true) :: f ((lv.map (·.2)).drop i) := by
  have e : (lv.map (·.2)).drop i = (lv.getD i (0, 0)).2 :: (lv.map (·.2)).drop (i + 1) := by
    rw [List.drop_eq_getElem_cons (by simpa using h)]; simp [List.getD, h]
  rw [e]
  rfl
theorem mergeW_end (w : Int) (f : List Int → List (Int × Bool)) (lv : List (Int × Int)) (i : Nat) (h : lv.length ≤ i) :
    mergeW w f ((lv.map (·.2)).drop i) = (w, true) :: f ((lv.map (·.2)).drop i) := by
  rw [List.drop_of_length_le (by simpa using h)]; rfl
theorem lf_step (lv : List (Int × Int)) (i : Nat) (h : i < lv.length) : (lv.map (·.2)).drop i = (lv.getD i (0, 0)).2 :: (lv.map (·.2)).drop (i + 1) := by
  rw [List.drop_eq_getElem_cons (by simpa using h)]; simp [List.getD, h]
theorem lf_end (lv : List (Int × Int)) (i : Nat) (h : lv.length ≤ i) : (lv.map (·.2)).drop i = [] := List.drop_of_length_le (by simpa using h)

/-- The weights of leaves are small; those of items are no more than great. -/
def SmallL (lv : List (Int × Int)) : Prop := ∀ p ∈ lv, 0 ≤ p.2 ∧ p.2 ≤ 1048576
def SmallIt (m : Int) (rs : List (Int × Bool)) : Prop := ∀ p ∈ rs, 0 ≤ p.1 ∧ p.1 ≤ m
theorem SmallIt.getD {m : Int} {rs : List (Int × Bool)} (h : SmallIt m rs) (hm : 0 ≤ m) (i : Nat) : 0 ≤ (rs.getD i (0, false)).1 ∧ (rs.getD i (0, false)).1 ≤ m := by
  by_cases hi : i < rs.length
  · have : rs.getD i (0, false) = rs[i] := by simp [List.getD, hi]
    rw [this]; exact h _ (List.getElem_mem hi)
  · have : rs.getD i (0, false) = (0, false) := by simp [List.getD, List.getElem?_eq_none (Nat.le_of_not_lt hi)]
    rw [this]; exact ⟨Int.le_refl 0, hm⟩
theorem SmallL.getD {lv : List (Int × Int)} (h : SmallL lv) (i : Nat) : 0 ≤ (lv.getD i (0, 0)).2 ∧ (lv.getD i (0, 0)).2 ≤ 1048576 := by
  by_cases hi : i < lv.length
  · have : lv.getD i (0, 0) = lv[i] := by simp [List.getD, hi]
    rw [this]; exact h _ (List.getElem_mem hi)
  · have : lv.getD i (0, 0) = (0, 0) := by simp [List.getD, List.getElem?_eq_none (Nat.le_of_not_lt hi)]
    rw [this]; decide

theorem own_shape2 {w : World} {base e s : Nat} {v : Value} {n : Nat} {xs : List Value} (h : w.ownsRow base e s v n xs) : ∃ ao cap, v = .slice ao n cap := by
  rcases h.2 with ⟨rfl, rfl⟩ | ⟨g, cap, cur, rfl, _⟩
  · exact ⟨none, 0, rfl⟩
  · exact ⟨_, cap, rfl⟩
def lenN : Value → Nat | .slice _ n _ => n | _ => 0
end Go.Proofs.Ythapkciebphhkaa

namespace Go.Proofs.Ythapkciebphhkaa
open Go.RowKit
set_option linter.unusedVariables false
set_option linter.unusedSimpArgs false

/-- The i-th row. -/
def rowS (ls : List Int) : Nat → List (Int × Bool)
  | 0 => mergeS [] ls
  | i + 1 => mergeS (rowS ls i) ls
theorem rowS_len0 (ls : List Int) : (rowS ls 0).length = ls.length := by simp [rowS, mergeS_len]
theorem rowS_lenS (ls : List Int) (i : Nat) : (rowS ls (i + 1)).length = ls.length + (rowS ls i).length / 2 := by simp [rowS, mergeS_len]
theorem rowS_le (ls : List Int) : ∀ i, (rowS ls i).length ≤ 2 * ls.length
  | 0 => by rw [rowS_len0]; omega
  | i + 1 => by rw [rowS_lenS]; have := rowS_le ls i; omega
/-- Halves, rounded up. -/
def halves (n : Nat) : Nat → Nat
  | 0 => n
  | i + 1 => (halves n i + 1) / 2
theorem halves_le (n : Nat) : ∀ i k, n ≤ k * 2 ^ i → halves n i ≤ k
  | 0, k, h => by simpa [halves] using h
  | i + 1, k, h => by
    have := halves_le n i (2 * k) (by rw [Nat.pow_succ] at h; rw [Nat.mul_comm 2 k, Nat.mul_assoc, Nat.mul_comm 2]; exact h)
    simp only [halves]
    omega
theorem rowS_ge (ls : List Int) : ∀ i, 2 * ls.length ≤ (rowS ls i).length + halves ls.length i
  | 0 => by rw [rowS_len0]; simp [halves]; omega
  | i + 1 => by rw [rowS_lenS]; have := rowS_ge ls i; simp only [halves]; omega
theorem rowS_room (ls : List Int) (l : Nat) (hl : 1 ≤ l) (h : ls.length ≤ 2 ^ l) : 2 * ls.length - 2 ≤ (rowS ls (l - 1)).length := by
  have h1 := rowS_ge ls (l - 1)
  have h2 := halves_le ls.length (l - 1) 2 (by
    have : 2 * 2 ^ (l - 1) = 2 ^ l := by
      rw [Nat.mul_comm, ← Nat.pow_succ]; congr 1; omega
    omega)
  omega

/-- How many are packed, how many are leaves. -/
def packedN (rs : List (Int × Bool)) : Nat := rs.countP (fun p => p.2)
def leafN (rs : List (Int × Bool)) : Nat := rs.countP (fun p => !p.2)
theorem packed_leaf (rs : List (Int × Bool)) : packedN rs + leafN rs = rs.length := by
  induction rs with
  | nil => rfl
  | cons p r ih =>
    unfold packedN leafN at ih ⊢
    simp only [List.countP_cons, List.length_cons]
    cases p.2 <;> simp <;> omega
theorem leaf_map (ls : List Int) : leafN (ls.map fun z => (z, false)) = ls.length := by
  induction ls with
  | nil => rfl
  | cons z r ih => unfold leafN at ih ⊢; simp only [List.map_cons, List.countP_cons, List.length_cons, ih]; simp
theorem leaf_mergeW (w : Int) (f : List Int → List (Int × Bool)) (hf : ∀ l, leafN (f l) = l.length) : ∀ l, leafN (mergeW w f l) = l.length
  | [] => by have := hf []; unfold leafN at this ⊢; simp only [mergeW, List.countP_cons, this]; simp
  | z :: r => by
    unfold mergeW
    split
    · have := leaf_mergeW w f hf r; unfold leafN at this ⊢; simp only [List.countP_cons, List.length_cons, this]; simp
    · have := hf (z :: r); unfold leafN at this ⊢; simp only [List.countP_cons, this]; simp
theorem leaf_mergeS : ∀ (ah : List (Int × Bool)) (l : List Int), leafN (mergeS ah l) = l.length
  | [], l => by simpa [mergeS] using leaf_map l
  | [a], l => by simpa [mergeS] using leaf_map l
  | a :: b :: r, l => by simp only [mergeS]; exact leaf_mergeW _ _ (leaf_mergeS r) l
theorem leaf_take (rs : List (Int × Bool)) (k : Nat) : leafN (rs.take k) ≤ leafN rs := by
  have : rs = rs.take k ++ rs.drop k := (List.take_append_drop k rs).symm
  unfold leafN
  conv => rhs; rw [this, List.countP_append]
  omega
theorem packed_take (rs : List (Int × Bool)) (k : Nat) : packedN (rs.take k) ≤ packedN rs := by
  have : rs = rs.take k ++ rs.drop k := (List.take_append_drop k rs).symm
  unfold packedN
  conv => rhs; rw [this, List.countP_append]
  omega
theorem packed_mergeS (ah : List (Int × Bool)) (l : List Int) : packedN (mergeS ah l) = ah.length / 2 := by
  have h1 := packed_leaf (mergeS ah l)
  rw [leaf_mergeS, mergeS_len] at h1
  omega
theorem leafs_row (ls : List Int) (i : Nat) : leafN (rowS ls i) = ls.length := by cases i <;> exact leaf_mergeS _ _
/-- What is chosen of row i leaves room ahead. -/
theorem chosen_ok (ls : List Int) (i k : Nat) (hk : k ≤ (rowS ls i).length) :
    k - packedN ((rowS ls i).take k) ≤ ls.length ∧ packedN ((rowS ls i).take k) ≤ k ∧ (i = 0 → packedN ((rowS ls i).take k) = 0) ∧ (∀ j, i = j + 1 → 2 * packedN ((rowS ls i).take k) ≤ (rowS ls j).length) := by
  have h1 := packed_leaf ((rowS ls i).take k)
  rw [List.length_take, Nat.min_eq_left hk] at h1
  have h2 := leaf_take (rowS ls i) k
  rw [leafs_row] at h2
  have h3 := packed_take (rowS ls i) k
  refine ⟨by omega, by omega, ?_, ?_⟩
  · rintro rfl
    have : packedN (rowS ls 0) = 0 := by unfold rowS; rw [packed_mergeS]; rfl
    omega
  · rintro j rfl
    have : packedN (rowS ls (j + 1)) = (rowS ls j).length / 2 := by unfold rowS; rw [packed_mergeS]; cases j <;> rfl
    omega

theorem small_mergeW {m : Int} (w : Int) (hw : 0 ≤ w ∧ w ≤ m) (hm : 1048576 ≤ m) (f : List Int → List (Int × Bool)) (hf : ∀ l, (∀ z ∈ l, 0 ≤ z ∧ z ≤ 1048576) → SmallIt m (f l)) : ∀ l, (∀ z ∈ l, 0 ≤ z ∧ z ≤ 1048576) → SmallIt m (mergeW w f l)
  | [], h => by
    intro p hp
    rcases List.mem_cons.1 hp with rfl | hp
    · exact hw
    · exact hf [] h p hp
  | z :: r, h => by
    unfold mergeW
    have hz := h z List.mem_cons_self
    have hr : ∀ z ∈ r, 0 ≤ z ∧ z ≤ 1048576 := fun y hy => h y (List.mem_cons_of_mem _ hy)
    split
    · intro p hp
      rcases List.mem_cons.1 hp with rfl | hp
      · exact ⟨hz.1, by omega⟩
      · exact small_mergeW w hw hm f hf r hr p hp
    · intro p hp
      rcases List.mem_cons.1 hp with rfl | hp
      · exact hw
      · exact hf _ h p hp
theorem small_mergeS {m : Int} (hm : 1048576 ≤ 2 * m) : ∀ (ah : List (Int × Bool)) (l : List Int), SmallIt m ah → (∀ z ∈ l, 0 ≤ z ∧ z ≤ 1048576) → SmallIt (2 * m) (mergeS ah l)
  | [], l, _, hl => by
    intro p hp
    obtain ⟨z, hz, rfl⟩ := List.mem_map.1 (show p ∈ l.map fun z => (z, false) by simpa [mergeS] using hp)
    have := hl z hz
    exact ⟨this.1, by omega⟩
  | [a], l, _, hl => by
    intro p hp
    obtain ⟨z, hz, rfl⟩ := List.mem_map.1 (show p ∈ l.map fun z => (z, false) by simpa [mergeS] using hp)
    have := hl z hz
    exact ⟨this.1, by omega⟩
  | a :: b :: r, l, ha, hl => by
    have h1 := ha a List.mem_cons_self
    have h2 := ha b (List.mem_cons_of_mem _ List.mem_cons_self)
    simp only [mergeS]
    exact small_mergeW _ ⟨by omega, by omega⟩ hm _ (fun l' hl' => small_mergeS hm r l' (fun p hp => ha p (List.mem_cons_of_mem _ (List.mem_cons_of_mem _ hp))) hl') l hl
theorem small_row (ls : List Int) (hl : ∀ z ∈ ls, 0 ≤ z ∧ z ≤ 1048576) : ∀ i, SmallIt (1048576 * 2 ^ i) (rowS ls i)
  | 0 => by
    intro p hp
    obtain ⟨z, hz, rfl⟩ := List.mem_map.1 (show p ∈ ls.map fun z => (z, false) from hp)
    have := hl z hz
    exact ⟨this.1, by show z ≤ 1048576 * 2 ^ 0; rw [Int.pow_zero]; omega⟩
  | i + 1 => by
    have h := small_row ls hl i
    have h1 : (1 : Int) ≤ 2 ^ i := by
      have : 1 ≤ 2 ^ i := Nat.one_le_two_pow
      have h2 : ((1 : Nat) : Int) ≤ ((2 ^ i : Nat) : Int) := Int.ofNat_le.2 this
      rwa [Int.natCast_pow] at h2
    have := small_mergeS (m := 1048576 * 2 ^ i) (by omega) (rowS ls i) ls h hl
    unfold rowS
    rw [Int.pow_succ, show (1048576 : Int) * (2 ^ i * 2) = 2 * (1048576 * 2 ^ i) by omega]
    exact this
theorem small_row50 (ls : List Int) (hl : ∀ z ∈ ls, 0 ≤ z ∧ z ≤ 1048576) (i : Nat) (hi : i ≤ 30) : SmallIt 1125899906842624 (rowS ls i) := by
  intro p hp
  have h := small_row ls hl i p hp
  have h2 : 2 ^ i ≤ 2 ^ 30 := Nat.pow_le_pow_right (by decide) hi
  have h3 : (2 : Int) ^ i ≤ 1073741824 := by
    have h4 : ((2 ^ i : Nat) : Int) ≤ ((1073741824 : Nat) : Int) := Int.ofNat_le.2 h2
    rwa [Int.natCast_pow] at h4
  exact ⟨h.1, by omega⟩

/-- One more at each place. -/
def bump (zs : List Int) (ps : List Nat) : List Int := ps.foldl (fun z p => z.set p (z.getD p 0 + 1)) zs
theorem bump_len (ps : List Nat) : ∀ zs, (bump zs ps).length = zs.length := by
  induction ps with
  | nil => intro zs; rfl
  | cons p r ih => intro zs; simp only [bump, List.foldl_cons] at ih ⊢; rw [ih]; simp
theorem bump_snoc (zs : List Int) (ps : List Nat) (p : Nat) : bump zs (ps ++ [p]) = (bump zs ps).set p ((bump zs ps).getD p 0 + 1) := by simp [bump, List.foldl_append]
/-- From row i - 1 on to the first. -/
def addL (ls : List Int) (ps : List Nat) : Nat → Nat → List Int → List Int
  | 0, _, zs => zs
  | i + 1, k, zs => addL ls ps i (2 * packedN ((rowS ls i).take k)) (bump zs (ps.take (k - packedN ((rowS ls i).take k))))
end Go.Proofs.Ythapkciebphhkaa
