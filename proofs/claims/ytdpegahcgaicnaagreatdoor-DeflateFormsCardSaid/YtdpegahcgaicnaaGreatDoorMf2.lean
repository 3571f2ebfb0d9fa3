/-
  Tokens: which may be, and which are refused.
  What a token makes: put, Put.
  A row of numbers that came in.
  huff.Cost, huff.Kraft, the document's Kraft.
-/
import Derived.Test.YtdpegahcgaicnaaGreatDoorMf1
namespace Go.Proofs.YtdpegahcgaicnaaGreatDoor
open Go.RowKit
set_option linter.unusedVariables false
set_option linter.unusedSimpArgs false

/-- A token: how many, how far back, a byte. -/
structure Tk where
  l : Int
  d : Int
  c : Int
def Tk.v (t : Tk) : Value := .agg #[.int .i64 t.l, .int .i64 t.d, .int .u8 t.c]
def Tk.wf (t : Tk) : Prop := (-9223372036854775808 ≤ t.l ∧ t.l ≤ 9223372036854775807) ∧ (-9223372036854775808 ≤ t.d ∧ t.d ≤ 9223372036854775807) ∧ 0 ≤ t.c ∧ t.c < 256
def Tk.ok (t : Tk) : Bool := if t.l = 0 then decide (t.d = 0) else decide (3 ≤ t.l ∧ t.l ≤ 258 ∧ 1 ≤ t.d ∧ t.d ≤ 32768 ∧ t.c = 0)
/-- Why a token may not be put behind n bytes: 0, it may. -/
def Tk.no (t : Tk) (n : Nat) (most : Int) : Int := if t.ok = false then 1 else if (n : Int) < t.d then 4 else if most < n + (if t.l < 1 then 1 else t.l) then 5 else 0

theorem tok_no (l d c : Int) (h1 : l ≠ 0) (h : ¬ (3 ≤ l ∧ l ≤ 258 ∧ 1 ≤ d ∧ d ≤ 32768 ∧ c = 0)) : (Tk.mk l d c).ok = false := by
  unfold Tk.ok
  rw [if_neg h1]
  exact decide_eq_false h
set_option maxHeartbeats 2000000 in
theorem ok_any (t : Tk) (w : World) : Calls Tryz.prog 56 #[t.v] w fun e w' => e = .returned (.bool t.ok) ∧ Kept NoB w w' := by
  obtain ⟨l, d, c⟩ := t
  have hc0 : (w.alloc (.cells #[.int .i64 l, .int .i64 d, .int .u8 c] 32)).cell? ⟨w.heap.size, 0, none⟩ = some (.int .i64 l) := by rw [cell_new 0 rfl]; rfl
  have hc1 : (w.alloc (.cells #[.int .i64 l, .int .i64 d, .int .u8 c] 32)).cell? ⟨w.heap.size, 1, none⟩ = some (.int .i64 d) := by rw [cell_new 1 rfl]; rfl
  have hc2 : (w.alloc (.cells #[.int .i64 l, .int .i64 d, .int .u8 c] 32)).cell? ⟨w.heap.size, 2, none⟩ = some (.int .u8 c) := by rw [cell_new 2 rfl]; rfl
  have hk : Kept NoB w (w.alloc (.cells #[.int .i64 l, .int .i64 d, .int .u8 c] 32)) := (Kept.refl _ _).alloc _
  have HK := Lib.hid hk
  clear hk
  unfold Tk.v
  simp only []
  have hcase : (l = 0 ∧ d = 0) ∨ (l = 0 ∧ d ≠ 0) ∨ (l ≠ 0 ∧ ¬ 3 ≤ l) ∨ (l ≠ 0 ∧ 3 ≤ l ∧ ¬ l ≤ 258) ∨ (l ≠ 0 ∧ 3 ≤ l ∧ l ≤ 258 ∧ ¬ 1 ≤ d) ∨ (l ≠ 0 ∧ 3 ≤ l ∧ l ≤ 258 ∧ 1 ≤ d ∧ ¬ d ≤ 32768) ∨ (l ≠ 0 ∧ 3 ≤ l ∧ l ≤ 258 ∧ 1 ≤ d ∧ d ≤ 32768 ∧ c ≠ 0) ∨ (l ≠ 0 ∧ 3 ≤ l ∧ l ≤ 258 ∧ 1 ≤ d ∧ d ≤ 32768 ∧ c = 0) := by omega
  go_enter Tryz.func56, Tryz.ntmps56
  rcases hcase with ⟨h1, h2⟩ | ⟨h1, h2⟩ | ⟨h1, h2⟩ | ⟨h1, h2, h3⟩ | ⟨h1, h2, h3, h4⟩ | ⟨h1, h2, h3, h4, h5⟩ | ⟨h1, h2, h3, h4, h5, h6⟩ | ⟨h1, h2, h3, h4, h5, h6⟩
  · subst h1 h2
    go_wp2
    go_ret
    exact ⟨rfl, HK.out⟩
  · subst h1
    have g : (d == 0) = false := by simp; exact h2
    go_wp2
    go_ret
    exact ⟨by simp [Tk.ok, h2], HK.out⟩
  all_goals have g1 : (l == 0) = false := by simp; exact h1
  · go_wp2
    go_ret
    exact ⟨by rw [tok_no l d c h1 (by omega)]; rfl, HK.out⟩
  · go_wp2
    go_ret
    exact ⟨by rw [tok_no l d c h1 (by omega)]; rfl, HK.out⟩
  · go_wp2
    go_ret
    exact ⟨by rw [tok_no l d c h1 (by omega)]; rfl, HK.out⟩
  · go_wp2
    go_ret
    exact ⟨by rw [tok_no l d c h1 (by omega)]; rfl, HK.out⟩
  · have g : (c == 0) = false := by simp; exact h6
    go_wp2
    go_ret
    exact ⟨by rw [tok_no l d c h1 (by omega)]; rfl, HK.out⟩
  · subst h6
    go_wp2
    go_ret
    exact ⟨by simp [Tk.ok, h1, h2, h3, h4, h5], HK.out⟩

end Go.Proofs.YtdpegahcgaicnaaGreatDoor

namespace Go.Proofs.YtdpegahcgaicnaaGreatDoor
open Go.RowKit
set_option linter.unusedVariables false
set_option linter.unusedSimpArgs false

/-- k bytes more, each the one D ahead of it. -/
def copyN (D : Nat) : Nat → List Int → List Int
  | 0, bs => bs
  | k + 1, bs => copyN D k bs ++ [(copyN D k bs).getD ((copyN D k bs).length - D) 0]
theorem copyN_len (D k : Nat) (bs : List Int) : (copyN D k bs).length = bs.length + k := by
  induction k with
  | zero => rfl
  | succ k ih => simp only [copyN, List.length_append, ih, List.length_cons, List.length_nil]; omega
theorem copyN_all (D k : Nat) (bs : List Int) (h : AllB bs) : AllB (copyN D k bs) := by
  induction k with
  | zero => exact h
  | succ k ih =>
    intro b hb
    simp only [copyN, List.mem_append, List.mem_singleton] at hb
    rcases hb with hb | rfl
    · exact ih b hb
    · exact ih.getD _
/-- The bytes behind a token that may be put. -/
def Tk.put (t : Tk) (bs : List Int) : List Int := if t.l = 0 then bs ++ [t.c] else copyN t.d.toNat t.l.toNat bs
theorem put_all (t : Tk) (bs : List Int) (h : AllB bs) (ht : t.wf) : AllB (t.put bs) := by
  unfold Tk.put
  split
  · intro b hb
    rcases List.mem_append.1 hb with hb | hb
    · exact h b hb
    · simp at hb; subst hb; exact ⟨ht.2.2.1, ht.2.2.2⟩
  · exact copyN_all _ _ _ h
theorem put_len (t : Tk) (bs : List Int) : (t.put bs).length = bs.length + (if t.l = 0 then 1 else t.l.toNat) := by
  unfold Tk.put
  split
  · simp
  · exact copyN_len _ _ _

/-- What is put: a row that grew, its block its own or new. -/
def Grew (w : World) (v0 : Value) (xs : List Int) (e : Ending) (w' : World) : Prop :=
  ∃ ao cap, e = .returned (.slice ao xs.length cap) ∧ w'.ownsRow 0 5 1 (.slice ao xs.length cap) xs.length (xs.map (.int .u8)) ∧ Kept (OwnB v0) w w' ∧ (∀ k, (Value.slice ao xs.length cap).ownBlock = some k → v0.ownBlock = some k ∨ w.heap.size ≤ k)

end Go.Proofs.YtdpegahcgaicnaaGreatDoor

namespace Go.Proofs.YtdpegahcgaicnaaGreatDoor
open Go.RowKit
set_option linter.unusedVariables false

theorem cells_int : Tryz.prog.cellsOf 3 = 1 := by kernel_rfl

/-- A slice of numbers reads as zs; its block is below B. -/
def RdI (w : World) (B : Nat) (ao : Option Addr) (zs : List Int) : Prop :=
  ∀ i, i < zs.length → ∃ g off, ao = some ⟨g, off, none⟩ ∧ g < B ∧ w.cell? ⟨g, off + i, none⟩ = some (.int .i64 (zs.getD i 0))
theorem RdI.kept {S : Nat → Prop} {w w' : World} {B : Nat} {ao : Option Addr} {zs : List Int} (h : RdI w B ao zs) (hk : Kept S w w') (hs : ∀ k, k < B → ¬ S k) : RdI w' B ao zs := by
  intro i hi
  obtain ⟨g, off, h1, h2, h3⟩ := h i hi
  exact ⟨g, off, h1, h2, (World.cell?_of_block (hk.block _ (World.block_lt_of_cell? w _ h3) (hs g h2))).trans h3⟩
theorem RdI.mono {w : World} {B C : Nat} {ao : Option Addr} {zs : List Int} (h : RdI w B ao zs) (hb : B ≤ C) : RdI w C ao zs := by
  intro i hi
  obtain ⟨g, off, h1, h2, h3⟩ := h i hi
  exact ⟨g, off, h1, Nat.lt_of_lt_of_le h2 hb, h3⟩
theorem RdI.room {w : World} {B : Nat} {ao : Option Addr} {zs : List Int} (h : RdI w B ao zs) : RdI w w.heap.size ao zs := by
  intro i hi
  obtain ⟨g, off, h1, h2, h3⟩ := h i hi
  exact ⟨g, off, h1, World.block_lt_of_cell? w _ h3, h3⟩
def AllI (zs : List Int) : Prop := ∀ z ∈ zs, -9223372036854775808 ≤ z ∧ z ≤ 9223372036854775807
theorem AllI.getD {zs : List Int} (h : AllI zs) (i : Nat) : -9223372036854775808 ≤ zs.getD i 0 ∧ zs.getD i 0 ≤ 9223372036854775807 := by
  by_cases hi : i < zs.length
  · have : zs.getD i 0 = zs[i] := by simp [List.getD, hi]
    rw [this]; exact h _ (List.getElem_mem hi)
  · have : zs.getD i 0 = 0 := by simp [List.getD, List.getElem?_eq_none (Nat.le_of_not_lt hi)]
    omega

theorem Arg.ints {w : World} {v : Value} (h : Arg w 23 v) :
    ∃ (ao : Option Addr) (cap : Nat) (zs : List Int), v = .slice ao zs.length cap ∧ zs.length ≤ cap ∧ cap ≤ maxLen ∧ RdI w w.heap.size ao zs ∧ AllI zs ∧ (ao = none → cap = 0) := by
  obtain ⟨ao, len, cap, rfl, hl, hm, hn, hc⟩ := h.slice Tryz.underlying23
  rw [cells_int] at hc
  have key : ∀ i, ∃ z : Int, (-9223372036854775808 ≤ z ∧ z ≤ 9223372036854775807) ∧ (∀ x, ao = some x → i < len → w.cell? (x.add i) = some (.int .i64 z)) := by
    intro i
    by_cases hi : i < len
    · cases ao with
      | none => exact ⟨0, by decide, (fun x hx => by cases hx)⟩
      | some x =>
        obtain ⟨cs, hr, hcl, hcc⟩ := hc x rfl i hi
        obtain ⟨z, rfl, hz⟩ := hr.int Tryz.underlying3
        refine ⟨z, i64_bd hz, ?_⟩
        intro y hy _
        cases hy
        simpa using hcc 0 (by simp)
    · exact ⟨0, by decide, (fun x _ h => absurd h hi)⟩
  obtain ⟨f, hf⟩ := choose1 key
  refine ⟨ao, cap, (List.range len).map f, by simp, by simpa using hl, hm, ?_, ?_, (fun h => (hn h).2)⟩
  · intro i hi
    have hil : i < len := by simpa using hi
    cases ao with
    | none => have := (hn rfl).1; omega
    | some x =>
      have hcell := (hf i).2 x rfl hil
      obtain ⟨b, off, spot⟩ := x
      have hs : spot = none := by
        have := World.cell?_spot ((hf 0).2 _ rfl (by omega))
        simpa [Addr.add] using this
      subst hs
      rw [addr_add] at hcell
      rw [range_getD f len i 0 hil]
      exact ⟨b, off, rfl, World.block_lt_of_cell? w _ hcell, hcell⟩
  · intro z hz
    obtain ⟨i, _, rfl⟩ := List.mem_map.1 hz
    exact (hf i).1

end Go.Proofs.YtdpegahcgaicnaaGreatDoor

namespace Go.Proofs.YtdpegahcgaicnaaGreatDoor
open Go.RowKit
set_option linter.unusedVariables false
set_option linter.unusedSimpArgs false

/-- How much of all codes one of this length takes up. -/
def kpart (z : Int) : Int := if 1 ≤ z ∧ z ≤ 15 then ((2 ^ (15 - z.toNat) : Nat) : Int) else 0
def kraftL : List Int → Int
  | [] => 0
  | z :: r => kpart z + kraftL r
def costL : List Int → List Int → Int
  | x :: r, y :: s => x * y + costL r s
  | _, _ => 0

theorem kpart_bd (z : Int) : 0 ≤ kpart z ∧ kpart z ≤ 32768 := by
  unfold kpart
  split
  · have h := Nat.pow_le_pow_right (n := 2) (by decide) (show 15 - z.toNat ≤ 15 by omega)
    obtain ⟨p, hp⟩ : ∃ p, p = 2 ^ (15 - z.toNat) := ⟨_, rfl⟩
    rw [← hp] at h ⊢
    clear hp
    constructor <;> omega
  · decide
theorem kraft_bd : ∀ l : List Int, 0 ≤ kraftL l ∧ kraftL l ≤ 32768 * (l.length : Int)
  | [] => by simp [kraftL]
  | z :: r => by
    have h1 := kpart_bd z
    have h2 := kraft_bd r
    simp only [kraftL, List.length_cons]
    constructor <;> omega
theorem kraft_append : ∀ a b : List Int, kraftL (a ++ b) = kraftL a + kraftL b
  | [], b => by simp [kraftL]
  | z :: r, b => by simp only [List.cons_append, kraftL, kraft_append r b]; omega
theorem kraft_step (zs : List Int) (j : Nat) (h : j < zs.length) : kraftL (zs.drop j) = kpart (zs.getD j 0) + kraftL (zs.drop (j + 1)) := by
  rw [List.drop_eq_getElem_cons h]; simp [kraftL, List.getD, h]
theorem kraft_end (zs : List Int) (j : Nat) (h : zs.length ≤ j) : kraftL (zs.drop j) = 0 := by
  rw [List.drop_of_length_le h]; rfl
theorem kraft_room (zs : List Int) (j : Nat) (acc : Int) (h : acc + kraftL (zs.drop j) = kraftL zs) (hl : zs.length ≤ 1000000000) : acc ≤ 40000000000000 := by
  have h1 := kraft_bd (zs.drop j)
  have h2 := kraft_bd zs
  omega

theorem kpart_div : ∀ k : Nat, 1 ≤ k → k ≤ 15 → (32768 : Int) / 2 ^ k = kpart (k : Int) := by
  intro k h1 h2
  have : k = 1 ∨ k = 2 ∨ k = 3 ∨ k = 4 ∨ k = 5 ∨ k = 6 ∨ k = 7 ∨ k = 8 ∨ k = 9 ∨ k = 10 ∨ k = 11 ∨ k = 12 ∨ k = 13 ∨ k = 14 ∨ k = 15 := by omega
  rcases this with rfl | rfl | rfl | rfl | rfl | rfl | rfl | rfl | rfl | rfl | rfl | rfl | rfl | rfl | rfl <;> decide
theorem kpart_pow : ∀ k : Nat, 1 ≤ k → k ≤ 15 → (2 : Int) ^ (15 - k) = kpart (k : Int) := by
  intro k h1 h2
  have : k = 1 ∨ k = 2 ∨ k = 3 ∨ k = 4 ∨ k = 5 ∨ k = 6 ∨ k = 7 ∨ k = 8 ∨ k = 9 ∨ k = 10 ∨ k = 11 ∨ k = 12 ∨ k = 13 ∨ k = 14 ∨ k = 15 := by omega
  rcases this with rfl | rfl | rfl | rfl | rfl | rfl | rfl | rfl | rfl | rfl | rfl | rfl | rfl | rfl | rfl <;> decide
theorem kpart_out (z : Int) (h : ¬ (1 ≤ z ∧ z ≤ 15)) : kpart z = 0 := if_neg h

set_option maxRecDepth 20000 in
set_option maxHeartbeats 1000000 in
theorem rkraft_calls (ao : Option Addr) (cap B : Nat) (zs : List Int) (w : World) (hr : RdI w B ao zs) (hz : AllI zs) (hl : zs.length ≤ 1000000000) :
    Calls Tryz.prog 89 #[.slice ao zs.length cap] w fun e w' => e = .returned (.int .i64 (kraftL zs)) ∧ Kept NoB w w' := by
  have HR := Lib.hid hr
  have HZ := Lib.hid hz
  clear hr hz
  go_enter Tryz.func89, Tryz.ntmps89
  go_wp2
  go_loopw [3, 4] (fun v2 v8 wr => ∃ (acc : Int) (j : Nat), v2 = .int .i64 acc ∧ v8 = .int .i64 (j : Int) ∧ j ≤ zs.length ∧ 0 ≤ acc ∧ Hid (acc + kraftL (zs.drop j) = kraftL zs) ∧ Hid (Kept NoB w wr)) (fun _ v8 _ => zs.length - (intOf v8).toNat)
  case atStart => exact ⟨0, 0, rfl, rfl, by omega, by omega, Lib.hid (by rw [List.drop_zero, Int.zero_add]), Kept.refl _ _⟩
  case round =>
    obtain ⟨acc, j, rfl, rfl, hj, h0, HS, HK⟩ := hrel
    have hroom := kraft_room zs j acc HS.out hl
    by_cases hlt : (j : Int) < zs.length
    · obtain ⟨g, off, rfl, hg, hc⟩ := HR.out j (by omega)
      have hc' := HK.out.cell hc
      have hbd := HZ.out.getD j
      have hs := HS.out
      rw [kraft_step zs j (by omega)] at hs
      obtain ⟨z, hz⟩ : ∃ z, z = zs.getD j 0 := ⟨_, rfl⟩
      rw [← hz] at hc' hbd hs
      clear hz hc
      have hkp := kpart_bd z
      by_cases hin : 1 ≤ z ∧ z ≤ 15
      · obtain ⟨k, rfl⟩ : ∃ k : Nat, z = (k : Int) := ⟨z.toNat, by omega⟩
        have hd := kpart_pow k (by omega) (by omega)
        have hw : wrap64 (acc + wrap64 (2 ^ (15 - k))) = acc + kpart k := by
          have h1 : wrap64 (kpart k) = kpart k := IntWalk.wrap64_in _ (by omega)
          rw [hd, h1]; exact IntWalk.wrap64_in _ (by omega)
        have HW := Lib.hid hw; have HS2 := Lib.hid hs
        obtain ⟨p, hp⟩ : ∃ p, p = kpart k := ⟨_, rfl⟩
        rw [← hp] at HW HS2 hkp
        clear hw hs hd hp
        go_wp2
        go_roundw
        case rel => exact ⟨acc + p, j + 1, by rw [HW.out], by go_num, by omega, by omega, Lib.hid (by have := HS2.out; omega), HK⟩
        case measure => simp [intOf]; omega
      · have h0k := kpart_out z hin
        rw [h0k] at hs
        have HS2 := Lib.hid hs
        clear hs hkp h0k
        have hc : z < 1 ∨ (¬ z < 1 ∧ 15 < z) := by omega
        rcases hc with h1 | ⟨h1, h2⟩
        all_goals
          clear hin
          go_wp2
          go_roundw
          case rel => exact ⟨acc, j + 1, rfl, by go_num, by omega, h0, Lib.hid (by have := HS2.out; omega), HK⟩
          case measure => simp [intOf]; omega
    · have hs := HS.out
      rw [kraft_end zs j (by omega)] at hs
      obtain rfl : acc = kraftL zs := by omega
      clear hs hroom
      go_wp2
      go_ret
      exact ⟨rfl, HK.out⟩

/-- Small numbers. -/
def Small (m : Int) (zs : List Int) : Prop := ∀ z ∈ zs, 0 ≤ z ∧ z ≤ m
theorem Small.getD {m : Int} {zs : List Int} (h : Small m zs) (i : Nat) (hi : i < zs.length) : 0 ≤ zs.getD i 0 ∧ zs.getD i 0 ≤ m := by
  have : zs.getD i 0 = zs[i] := by simp [List.getD, hi]
  rw [this]; exact h _ (List.getElem_mem hi)
theorem cost_step (a b : List Int) (j : Nat) (ha : j < a.length) (hb : j < b.length) : costL (a.drop j) (b.drop j) = a.getD j 0 * b.getD j 0 + costL (a.drop (j + 1)) (b.drop (j + 1)) := by
  rw [List.drop_eq_getElem_cons ha, List.drop_eq_getElem_cons hb]; simp [costL, List.getD, ha, hb]
theorem cost_end (a b : List Int) (j : Nat) (h : a.length ≤ j ∨ b.length ≤ j) : costL (a.drop j) (b.drop j) = 0 := by
  rcases h with h | h
  · rw [List.drop_of_length_le h]; simp [costL]
  · rw [List.drop_of_length_le h]; cases a.drop j <;> simp [costL]
theorem prod_bd {x y : Int} (hx : 0 ≤ x ∧ x ≤ 1048576) (hy : 0 ≤ y ∧ y ≤ 1048576) : 0 ≤ x * y ∧ x * y ≤ 1099511627776 := by
  refine ⟨Int.mul_nonneg hx.1 hy.1, ?_⟩
  have h1 : x * y ≤ 1048576 * y := Int.mul_le_mul_of_nonneg_right hx.2 hy.1
  omega

set_option maxRecDepth 20000 in
set_option maxHeartbeats 1000000 in
theorem cost_calls (ao bo : Option Addr) (ca cb B C : Nat) (xs ys : List Int) (w : World) (hx : RdI w B ao xs) (hy : RdI w C bo ys) (hxs : Small 1048576 xs) (hys : Small 1048576 ys) (hlx : xs.length ≤ 100000) (hly : ys.length ≤ 1000000000) :
    Calls Tryz.prog 113 #[.slice ao xs.length ca, .slice bo ys.length cb] w fun e w' => e = .returned (.int .i64 (costL xs ys)) ∧ Kept NoB w w' := by
  have HX := Lib.hid hx
  have HY := Lib.hid hy
  have HXs := Lib.hid hxs
  have HYs := Lib.hid hys
  clear hx hy hxs hys
  have hc : ((ys.length : Int) < xs.length ∧ ∃ m : Nat, m = ys.length ∧ m ≤ xs.length ∧ m ≤ ys.length) ∨ (¬ (ys.length : Int) < xs.length ∧ ∃ m : Nat, m = xs.length ∧ m ≤ xs.length ∧ m ≤ ys.length) := by
    by_cases h : (ys.length : Int) < xs.length
    · exact .inl ⟨h, _, rfl, by omega, by omega⟩
    · exact .inr ⟨h, _, rfl, by omega, by omega⟩
  rcases hc with ⟨hc, m, hm, hmx, hmy⟩ | ⟨hc, m, hm, hmx, hmy⟩
  all_goals
    go_enter Tryz.func113, Tryz.ntmps113
    go_wp2
    go_loopw [5, 12, 6] (fun v5 v12 _v6 wr => ∃ (acc : Int) (j : Nat), v5 = .int .i64 acc ∧ v12 = .int .i64 (j : Int) ∧ j ≤ m ∧ 0 ≤ acc ∧ acc ≤ 1099511627776 * (j : Int) ∧ Hid (acc + costL (xs.drop j) (ys.drop j) = costL xs ys) ∧ Hid (Kept NoB w wr)) (fun _ v12 _ _ => m - (intOf v12).toNat)
    case atStart => exact ⟨0, 0, rfl, rfl, by omega, by omega, by omega, Lib.hid (by rw [List.drop_zero, List.drop_zero, Int.zero_add]), Kept.refl _ _⟩
    case round =>
      obtain ⟨acc, j, rfl, rfl, hj, h0, hab, HS, HK⟩ := hrel
      by_cases hlt : j < m
      · have hlx' : (j : Int) < xs.length := by omega
        have hly' : (j : Int) < ys.length := by omega
        obtain ⟨g, off, rfl, hg, hcx⟩ := HX.out j (by omega)
        obtain ⟨g2, off2, rfl, hg2, hcy⟩ := HY.out j (by omega)
        have hcx' := HK.out.cell hcx
        have hcy' := HK.out.cell hcy
        have hbx := HXs.out.getD j (by omega)
        have hby := HYs.out.getD j (by omega)
        have hs := HS.out
        rw [cost_step xs ys j (by omega) (by omega)] at hs
        obtain ⟨x, hx⟩ : ∃ x, x = xs.getD j 0 := ⟨_, rfl⟩
        obtain ⟨y, hy⟩ : ∃ y, y = ys.getD j 0 := ⟨_, rfl⟩
        rw [← hx] at hcx' hbx hs
        rw [← hy] at hcy' hby hs
        have hp := prod_bd hbx hby
        have hw1 : wrap64 (x * y) = x * y := IntWalk.wrap64_in _ (by omega)
        obtain ⟨p, hpe⟩ : ∃ p, p = x * y := ⟨_, rfl⟩
        rw [← hpe] at hs hp hw1
        have hw2 : wrap64 (acc + p) = acc + p := IntWalk.wrap64_in _ (by omega)
        have HPe := Lib.hid hpe; have HW1 := Lib.hid hw1; have HW2 := Lib.hid hw2; have HS2 := Lib.hid hs
        clear hw1 hw2 hs hpe hx hy hcx hcy
        go_upto_region 5 with fail
        go_quiet (fail)
        have HK2 := Lib.hid (HK.out.drewN nq)
        go_wp2
        go_roundw
        case rel => exact ⟨acc + p, j + 1, by rw [← HPe.out, HW1.out, HW2.out], by go_num, by omega, by omega, by omega, Lib.hid (by have := HS2.out; omega), HK2⟩
        case measure => simp [intOf]; omega
      · have hs := HS.out
        rw [cost_end xs ys j (by omega)] at hs
        obtain rfl : acc = costL xs ys := by omega
        clear hs
        have hlt' : m ≤ j := by omega
        go_wp2
        go_ret
        exact ⟨rfl, HK.out⟩

end Go.Proofs.YtdpegahcgaicnaaGreatDoor
