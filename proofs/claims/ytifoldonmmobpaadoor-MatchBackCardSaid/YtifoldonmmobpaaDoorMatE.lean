/-
  match: chains.
-/
import Derived.Test.YtifoldonmmobpaaDoorMatD
namespace Go.Proofs.YtifoldonmmobpaaDoor
open Go.RowKit
set_option linter.unusedVariables false
set_option linter.unusedSimpArgs false

def slotN (W key : Nat) : Nat := key * 11400714819323198485 % 18446744073709551616 / 2 ^ (64 - W)
theorem slot_lt (W key : Nat) (h : W ≤ 64) : slotN W key < 2 ^ W := by
  unfold slotN
  rw [Nat.div_lt_iff_lt_mul (Nat.pow_pos (by omega)), ← Nat.pow_add, show W + (64 - W) = 64 by omega]
  exact Nat.mod_lt _ (by omega)
structure ChainP (slot : Nat → Nat) (H na : Nat) (hs bs : List Int) : Prop where
  len : hs.length = H
  head : ∀ s, s < H → hs.getD s 0 = prevN slot s na
  back : ∀ p, p < na → bs.getD p 0 = prevN slot (slot p) p
theorem ChainP.start (slot : Nat → Nat) (H : Nat) (bs : List Int) : ChainP slot H 0 (List.replicate H (-1)) bs :=
  ⟨by simp, fun s hs => by simp [List.getD, hs, prevN], fun p hp => by omega⟩
theorem ChainP.add {slot : Nat → Nat} {H na : Nat} {hs bs : List Int} (h : ChainP slot H na hs bs) (hn : na < bs.length) (hs' : slot na < H) :
    ChainP slot H (na + 1) (hs.set (slot na) (na : Int)) (bs.set na (hs.getD (slot na) 0)) := by
  refine ⟨by simp [h.len], fun s hsH => ?_, fun p hp => ?_⟩
  · rw [prevN]
    by_cases e : slot na = s
    · subst e
      rw [if_pos rfl]
      simp [List.getD, h.len, hs']
    · rw [if_neg e, ← h.head s hsH]
      simp [List.getD, e]
  · by_cases e : p = na
    · subst e
      rw [← h.head (slot p) hs']
      simp [List.getD, hn]
    · rw [← h.back p (by omega)]
      simp [List.getD, show na ≠ p by omega]
set_option maxRecDepth 100000 in
set_option maxHeartbeats 1000000 in
theorem slot_any (B f W key : Nat) (w : World) (hW : 4 ≤ W ∧ W ≤ 16) (hk : key < 18446744073709551616) (c2 : w.cell? ⟨B, f + 2, none⟩ = some (.int .i64 ((64 - W : Nat) : Int))) :
    Calls Tryd.prog 34 #[.pointer (some ⟨B, f, none⟩), .int .u64 (key : Int)] w fun e w' => e = .returned (.int .u64 (slotN W key : Int)) ∧ w' = w := by
  obtain ⟨sh, hsh⟩ : ∃ sh, sh = 64 - W := ⟨_, rfl⟩
  rw [← hsh] at c2
  have hm : IntKind.u64.wrap ((key : Int) * 11400714819323198485) = ((key * 11400714819323198485 % 18446744073709551616 : Nat) : Int) := by rw [IntKind.wrap_u64]; omega
  obtain ⟨M, hM⟩ : ∃ M, M = key * 11400714819323198485 % 18446744073709551616 := ⟨_, rfl⟩
  rw [← hM] at hm
  have hs1 : 48 ≤ sh ∧ sh ≤ 60 := by omega
  have hsl : slotN W key = M / 2 ^ sh := by rw [slotN, hM, hsh]
  rw [hsl]
  clear hsh hM hsl
  go_enter Tryd.func34, Tryd.ntmps34
  go_wp2
  go_ret
  exact ⟨by simp, rfl⟩
/-- A row of places. -/
def PlcAt (w : World) (g : Nat) (zs : List Int) : Prop := w.heap[g]? = some (.cells (zs.map (Value.int .i32)).toArray 21 (0, 0))
theorem PlcAt.cell {w : World} {g : Nat} {zs : List Int} (h : PlcAt w g zs) (i : Nat) (hi : i < zs.length) : w.cell? ⟨g, i, none⟩ = some (.int .i32 (zs.getD i 0)) := by
  rw [obj_cell h i]
  simp [List.getD, hi]
theorem PlcAt.set {w : World} {g : Nat} {zs : List Int} (h : PlcAt w g zs) (i : Nat) (z : Int) : PlcAt (w.setCell ⟨g, i, none⟩ (.int .i32 z)) g (zs.set i z) := by
  have := obj_set h i (.int .i32 z)
  unfold PlcAt
  rw [this]
  congr 2
  simp [List.map_set]
theorem PlcAt.other {w : World} {g k : Nat} {zs : List Int} (h : PlcAt w g zs) (hne : k ≠ g) (i : Nat) (v : Value) : PlcAt (w.setCell ⟨k, i, none⟩ v) g zs :=
  (Below.heap_setCell _ _ _ _ (fun e => hne e.symm)).trans h
theorem PlcAt.keptS {S : Nat → Prop} {w w' : World} {g : Nat} {zs : List Int} (h : PlcAt w g zs) (hk : Kept S w w') (hs : ¬ S g) : PlcAt w' g zs := hk.obj h hs
/-- A chain's head: where its two rows lie, and how far its hash is moved. -/
structure ChAt (w : World) (B f W gh gb : Nat) (H K : Nat) : Prop where
  c0 : w.cell? ⟨B, f, none⟩ = some (.slice (some ⟨gh, 0, none⟩) H H)
  c1 : w.cell? ⟨B, f + 1, none⟩ = some (.slice (some ⟨gb, 0, none⟩) K K)
  c2 : w.cell? ⟨B, f + 2, none⟩ = some (.int .i64 ((64 - W : Nat) : Int))
theorem ChAt.keptS {S : Nat → Prop} {w w' : World} {B f W gh gb H K : Nat} (h : ChAt w B f W gh gb H K) (hk : Kept S w w') (hs : ¬ S B) : ChAt w' B f W gh gb H K := by
  have key : ∀ i v, w.cell? ⟨B, i, none⟩ = some v → w'.cell? ⟨B, i, none⟩ = some v := fun i v hc => (World.cell?_of_block (hk.block _ (World.block_lt_of_cell? w _ hc) hs)).trans hc
  exact ⟨key _ _ h.c0, key _ _ h.c1, key _ _ h.c2⟩
set_option maxRecDepth 100000 in
set_option maxHeartbeats 4000000 in
theorem add_any (B f W gh gb K a key : Nat) (hs bs : List Int) (w : World) (hW : 4 ≤ W ∧ W ≤ 16) (hk : key < 18446744073709551616) (hc : ChAt w B f W gh gb (2 ^ W) K) (hh : PlcAt w gh hs) (hb : PlcAt w gb bs) (hhl : hs.length = 2 ^ W) (hbl : bs.length = K) (hK : K ≤ 32768) (ha : a < K) (hne : gh ≠ gb) (hB1 : gh ≠ B) (hB2 : gb ≠ B)
    (hz : -1 ≤ hs.getD (slotN W key) 0 ∧ hs.getD (slotN W key) 0 ≤ 40000) :
    Calls Tryd.prog 33 #[.pointer (some ⟨B, f, none⟩), .int .i64 (a : Int), .int .u64 (key : Int)] w fun e w' => e = .returned (.tuple #[]) ∧ Kept (TwoB gh gb) w w' ∧ PlcAt w' gh (hs.set (slotN W key) (a : Int)) ∧ PlcAt w' gb (bs.set a (hs.getD (slotN W key) 0)) := by
  have HSl := Lib.hid (slot_any B f W key w hW hk hc.c2)
  have hsl := slot_lt W key (by omega)
  obtain ⟨s, hse⟩ : ∃ s, s = slotN W key := ⟨_, rfl⟩
  obtain ⟨H, hH⟩ : ∃ H, H = 2 ^ W := ⟨_, rfl⟩
  rw [← hse] at HSl hsl hz ⊢
  rw [← hH] at hsl hc hhl
  have hHb : H ≤ 65536 := by rw [hH]; exact (Nat.pow_le_pow_right (by omega) hW.2)
  obtain ⟨c0, c1, c2⟩ := hc
  have hz0 := hh.cell s (by omega)
  obtain ⟨z, hze⟩ : ∃ z, z = hs.getD s 0 := ⟨_, rfl⟩
  rw [← hze] at hz hz0 ⊢
  have HB := Lib.hid hb; have HH := Lib.hid hh; have HBl := Lib.hid hbl; have HHl := Lib.hid hhl
  have kS : ∀ i v W, w.cell? ⟨B, i, none⟩ = some v → Kept (OneB gb) w W → W.cell? ⟨B, i, none⟩ = some v := fun i v W hc hk => (World.cell?_of_block (hk.block _ (World.block_lt_of_cell? w _ hc) (fun e => hB2 (by have : B = gb := e; omega)))).trans hc
  have f0 : ∀ W, Kept (OneB gb) w W → W.cell? ⟨B, f, none⟩ = some (.slice (some ⟨gh, 0, none⟩) H H) := fun W hk => kS f _ W c0 hk
  have f1 : ∀ W, Kept (OneB gb) w W → W.cell? ⟨B, f + 1, none⟩ = some (.slice (some ⟨gb, 0, none⟩) K K) := fun W hk => kS (f + 1) _ W c1 hk
  have f2 : ∀ W, Kept (OneB gb) w W → W.cell? ⟨gh, s, none⟩ = some (.int .i32 z) := fun W hk => (World.cell?_of_block (hk.block _ (World.block_lt_of_cell? w _ hz0) (fun e => hne e))).trans hz0
  have haK : (a : Int) < (K : Int) := by omega
  have hsH : (s : Int) < (H : Int) := by omega
  have hmod : (a : Int) % (K : Int) = (a : Int) := Int.emod_eq_of_lt (by omega) haK
  have hmod2 : (a : Int).tmod (K : Int) = (a : Int) := by rw [Int.tmod_eq_emod_of_nonneg (by omega)]; exact hmod
  have hK0 : ((K : Int) == 0) = false := by simp; omega
  have hK0b : ¬ K = 0 := by omega
  have hwa : IntKind.i32.wrap (a : Int) = (a : Int) := IntWalk.i32_in _ (by omega)
  clear hh hb hse hH hze hhl hbl kS
  go_enter Tryd.func33, Tryd.ntmps33
  go_wp2_with fail
  with_reducible refine HSl.out.mono ?_
  rintro e w1 ⟨rfl, rfl⟩
  go_wp2_with fail
  refine wp_region_noPanic ?_
  refine wp_region_held_drew (S := fun W => Kept (OneB gb) w1 W) (by kernel_rfl) (Kept.drew (Kept.refl _ _)) (fun hHeld => ?_)
  obtain ⟨wd, hwd⟩ : ∃ x, x = w1.drew := ⟨_, rfl⟩
  have hkd : Kept NoB w1 wd := by rw [hwd]; exact Kept.drew (Kept.refl _ _)
  rw [← hwd] at hHeld ⊢
  have hbd : PlcAt wd gb bs := HB.out.keptS hkd (fun h => h)
  have hhd : PlcAt wd gh hs := HH.out.keptS hkd (fun h => h)
  clear hwd
  refine wpAnyH_take (i := 0) (v := ?_) (by rw [List.getElem?_toArray]; rfl) (by kernel_rfl) (by kernel_rfl) (by kernel_rfl) (fun _ _ _ h => h) (Or.inl ⟨by rfl, ?hyq1_⟩) (by assumption) ?restq1_
  case hyq1_ => (intro w hSw; (try dsimp only at hSw); (try have e0 := f0 w hSw); (try have e1 := f1 w hSw); (try have e2 := f2 w hSw); go_simp; (try with_reducible rfl))
  try simp only [Act.put, List.setIfInBounds_toArray, List.set_cons_zero, List.set_cons_succ]
  refine wpAnyH_take (i := 1) (v := ?_) (by rw [List.getElem?_toArray]; rfl) (by kernel_rfl) (by kernel_rfl) (by kernel_rfl) (fun _ _ _ h => h) (Or.inl ⟨by rfl, ?hyq2_⟩) (by assumption) ?restq2_
  case hyq2_ => (intro w hSw; (try dsimp only at hSw); (try have e0 := f0 w hSw); (try have e1 := f1 w hSw); (try have e2 := f2 w hSw); go_simp; (try with_reducible rfl))
  try simp only [Act.put, List.setIfInBounds_toArray, List.set_cons_zero, List.set_cons_succ]
  refine wpAnyH_take (i := 2) (v := ?_) (by rw [List.getElem?_toArray]; rfl) (by kernel_rfl) (by kernel_rfl) (by kernel_rfl) (fun _ _ _ h => h) (Or.inl ⟨by rfl, ?hyq3_⟩) (by assumption) ?restq3_
  case hyq3_ => (intro w hSw; (try dsimp only at hSw); (try have e0 := f0 w hSw); (try have e1 := f1 w hSw); (try have e2 := f2 w hSw); go_simp; (try with_reducible rfl))
  try simp only [Act.put, List.setIfInBounds_toArray, List.set_cons_zero, List.set_cons_succ]
  refine wpAnyH_take (i := 3) (v := ?_) (by rw [List.getElem?_toArray]; rfl) (by kernel_rfl) (by kernel_rfl) (by kernel_rfl) (fun _ _ _ h => h) (Or.inl ⟨by rfl, ?hyq4_⟩) (by assumption) ?restq4_
  case hyq4_ => (intro w hSw; (try dsimp only at hSw); (try have e0 := f0 w hSw); (try have e1 := f1 w hSw); (try have e2 := f2 w hSw); go_simp; (try with_reducible rfl))
  try simp only [Act.put, List.setIfInBounds_toArray, List.set_cons_zero, List.set_cons_succ]
  refine wpAnyH_take (i := 4) (v := ?_) (by rw [List.getElem?_toArray]; rfl) (by kernel_rfl) (by kernel_rfl) (by kernel_rfl) (fun _ _ _ h => h) (Or.inl ⟨by rfl, ?hyq5_⟩) (by assumption) ?restq5_
  case hyq5_ => (intro w hSw; (try dsimp only at hSw); (try have e0 := f0 w hSw); (try have e1 := f1 w hSw); (try have e2 := f2 w hSw); go_simp; (try with_reducible rfl))
  try simp only [Act.put, List.setIfInBounds_toArray, List.set_cons_zero, List.set_cons_succ]
  refine wpAnyH_take (i := 5) (v := ?_) (by rw [List.getElem?_toArray]; rfl) (by kernel_rfl) (by kernel_rfl) (by kernel_rfl) (fun _ _ _ h => h) (Or.inl ⟨by rfl, ?hyq6_⟩) (by assumption) ?restq6_
  case hyq6_ => (intro w hSw; (try dsimp only at hSw); (try have e0 := f0 w hSw); (try have e1 := f1 w hSw); (try have e2 := f2 w hSw); go_simp; (try with_reducible rfl))
  try simp only [Act.put, List.setIfInBounds_toArray, List.set_cons_zero, List.set_cons_succ]
  refine wpAnyH_take (i := 6) (v := ?_) (by rw [List.getElem?_toArray]; rfl) (by kernel_rfl) (by kernel_rfl) (by kernel_rfl) (fun _ _ _ h => h) (Or.inl ⟨by rfl, ?hyq7_⟩) (by assumption) ?restq7_
  case hyq7_ => (intro w hSw; (try dsimp only at hSw); (try have e0 := f0 w hSw); (try have e1 := f1 w hSw); (try have e2 := f2 w hSw); go_simp; (try with_reducible rfl))
  try simp only [Act.put, List.setIfInBounds_toArray, List.set_cons_zero, List.set_cons_succ]
  refine wpAnyH_take (i := 7) (v := ?_) (by rw [List.getElem?_toArray]; rfl) (by kernel_rfl) (by kernel_rfl) (by kernel_rfl) (fun _ _ _ h => h) (Or.inl ⟨by rfl, ?hyq8_⟩) (by assumption) ?restq8_
  case hyq8_ => (intro w hSw; (try dsimp only at hSw); (try have e0 := f0 w hSw); (try have e1 := f1 w hSw); (try have e2 := f2 w hSw); go_simp; (try with_reducible rfl))
  try simp only [Act.put, List.setIfInBounds_toArray, List.set_cons_zero, List.set_cons_succ]
  refine wpAnyH_take (i := 8) (v := ?_) (by rw [List.getElem?_toArray]; rfl) (by kernel_rfl) (by kernel_rfl) (by kernel_rfl) (fun _ _ _ h => h) (Or.inl ⟨by rfl, ?hyq9_⟩) (by assumption) ?restq9_
  case hyq9_ => (intro w hSw; (try dsimp only at hSw); (try have e0 := f0 w hSw); (try have e1 := f1 w hSw); (try have e2 := f2 w hSw); go_simp; (try with_reducible rfl))
  try simp only [Act.put, List.setIfInBounds_toArray, List.set_cons_zero, List.set_cons_succ]
  refine wpAnyH_take (i := 9) (v := ?_) (by rw [List.getElem?_toArray]; rfl) (by kernel_rfl) (by kernel_rfl) (by kernel_rfl) (fun _ _ _ h => h) (Or.inl ⟨by rfl, ?hyq10_⟩) (by assumption) ?restq10_
  case hyq10_ => (intro w hSw; (try dsimp only at hSw); (try have e0 := f0 w hSw); (try have e1 := f1 w hSw); (try have e2 := f2 w hSw); go_simp; (try with_reducible rfl))
  try simp only [Act.put, List.setIfInBounds_toArray, List.set_cons_zero, List.set_cons_succ]
  refine wpAnyH_take (i := 10) (v := ?_) (by rw [List.getElem?_toArray]; rfl) (by kernel_rfl) (by kernel_rfl) (by kernel_rfl) (fun _ _ _ h => h) (Or.inl ⟨by rfl, ?hyq11_⟩) (by assumption) ?restq11_
  case hyq11_ => (intro w hSw; (try dsimp only at hSw); (try have e0 := f0 w hSw); (try have e1 := f1 w hSw); (try have e2 := f2 w hSw); go_simp; (try with_reducible rfl))
  try simp only [Act.put, List.setIfInBounds_toArray, List.set_cons_zero, List.set_cons_succ]
  refine wpAnyH_take (i := 11) (v := ?_) (by rw [List.getElem?_toArray]; rfl) (by kernel_rfl) (by kernel_rfl) (by kernel_rfl) (fun _ _ _ h => h) (Or.inl ⟨by rfl, ?hyq12_⟩) (by assumption) ?restq12_
  case hyq12_ => (intro w hSw; (try dsimp only at hSw); (try have e0 := f0 w hSw); (try have e1 := f1 w hSw); (try have e2 := f2 w hSw); go_simp; (try with_reducible rfl))
  try simp only [Act.put, List.setIfInBounds_toArray, List.set_cons_zero, List.set_cons_succ]
  refine wpAnyH_take (i := 12) (v := ?_) (by rw [List.getElem?_toArray]; rfl) (by kernel_rfl) (by kernel_rfl) (by kernel_rfl) (fun _ _ _ h => h) (Or.inl ⟨by rfl, ?hyq13_⟩) (by assumption) ?restq13_
  case hyq13_ => (intro w hSw; (try dsimp only at hSw); (try have e0 := f0 w hSw); (try have e1 := f1 w hSw); (try have e2 := f2 w hSw); go_simp; (try with_reducible rfl))
  try simp only [Act.put, List.setIfInBounds_toArray, List.set_cons_zero, List.set_cons_succ]
  refine wpAnyH_take (i := 13) (v := ?_) (by rw [List.getElem?_toArray]; rfl) (by kernel_rfl) (by kernel_rfl) (by kernel_rfl) (fun _ _ _ h => h) (Or.inl ⟨by rfl, ?hyq14_⟩) (by assumption) ?restq14_
  case hyq14_ => (intro w hSw; (try dsimp only at hSw); (try have e0 := f0 w hSw); (try have e1 := f1 w hSw); (try have e2 := f2 w hSw); go_simp; (try with_reducible rfl))
  try simp only [Act.put, List.setIfInBounds_toArray, List.set_cons_zero, List.set_cons_succ]
  refine wpAnyH_take (i := 14) (v := ?_) (by rw [List.getElem?_toArray]; rfl) (by kernel_rfl) (by kernel_rfl) (by kernel_rfl) (fun _ _ _ h => h) (Or.inl ⟨by rfl, ?hyq15_⟩) (by assumption) ?restq15_
  case hyq15_ => (intro w hSw; (try dsimp only at hSw); (try have e0 := f0 w hSw); (try have e1 := f1 w hSw); (try have e2 := f2 w hSw); go_simp; (try with_reducible rfl))
  try simp only [Act.put, List.setIfInBounds_toArray, List.set_cons_zero, List.set_cons_succ]
  refine wpAnyH_take (i := 15) (v := ?_) (by rw [List.getElem?_toArray]; rfl) (by kernel_rfl) (by kernel_rfl) (by kernel_rfl) (fun _ _ _ h => h) (Or.inl ⟨by rfl, ?hyq16_⟩) (by assumption) ?restq16_
  case hyq16_ => (intro w hSw; (try dsimp only at hSw); (try have e0 := f0 w hSw); (try have e1 := f1 w hSw); (try have e2 := f2 w hSw); go_simp; (try with_reducible rfl))
  try simp only [Act.put, List.setIfInBounds_toArray, List.set_cons_zero, List.set_cons_succ]
  refine wpAnyH_take (i := 16) (v := ?_) (by rw [List.getElem?_toArray]; rfl) (by kernel_rfl) (by kernel_rfl) (by kernel_rfl) (fun _ _ _ h => h) (Or.inl ⟨by rfl, ?hyq17_⟩) (by assumption) ?restq17_
  case hyq17_ => (intro w hSw; (try dsimp only at hSw); (try have e0 := f0 w hSw); (try have e1 := f1 w hSw); (try have e2 := f2 w hSw); go_simp; (try with_reducible rfl))
  try simp only [Act.put, List.setIfInBounds_toArray, List.set_cons_zero, List.set_cons_succ]
  refine wpAnyH_take (i := 17) (v := ?_) (by rw [List.getElem?_toArray]; rfl) (by kernel_rfl) (by kernel_rfl) (by kernel_rfl) (fun _ _ _ h => h) (Or.inl ⟨by rfl, ?hyq18_⟩) (by assumption) ?restq18_
  case hyq18_ => (intro w hSw; (try dsimp only at hSw); (try have e0 := f0 w hSw); (try have e1 := f1 w hSw); (try have e2 := f2 w hSw); go_simp; (try with_reducible rfl))
  try simp only [Act.put, List.setIfInBounds_toArray, List.set_cons_zero, List.set_cons_succ]
  refine wpAnyH_take (i := 18) (v := ?_) (by rw [List.getElem?_toArray]; rfl) (by kernel_rfl) (by kernel_rfl) (by kernel_rfl) (fun _ _ _ h => h) (Or.inl ⟨by rfl, ?hyq19_⟩) (by assumption) ?restq19_
  case hyq19_ => (intro w hSw; (try dsimp only at hSw); (try have e0 := f0 w hSw); (try have e1 := f1 w hSw); (try have e2 := f2 w hSw); go_simp; (try with_reducible rfl))
  try simp only [Act.put, List.setIfInBounds_toArray, List.set_cons_zero, List.set_cons_succ]
  have hfz1 : wd.frozen? ⟨gb, a, none⟩ = false := obj_free hbd a
  have hba := hbd.cell a (by have := HBl.out; omega)
  have hb1 := hbd.set a z
  have hh1 := hhd.other (Ne.symm hne) a (.int .i32 z)
  have hk2 : Kept (OneB gb) wd (wd.setCell ⟨gb, a, none⟩ (.int .i32 z)) := Kept.setCell (S := OneB gb) (p := ⟨gb, a, none⟩) (Kept.refl _ wd) (.inl rfl) _
  refine wpAnyH_ready (rs := [19]) (by kernel_rfl) (by simp) ?_
  refine AllReadyH.cons (by rw [List.getElem?_toArray]; rfl) (fun K hK => ?_) AllReadyH.nil
  go_simp
  refine hK.out _ _ (hHeld.trans hk2) (fun hHeld => ?_)
  clear hK K
  try simp only [Act.put, List.setIfInBounds_toArray, List.set_cons_zero, List.set_cons_succ]
  refine wpAnyH_done (by kernel_rfl) ?_ _
  refine NoPanic.normal ?_
  obtain ⟨w2, hw2⟩ : ∃ w2, w2 = wd.setCell ⟨gb, a, none⟩ (.int .i32 z) := ⟨_, rfl⟩
  rw [← hw2] at hHeld hb1 hh1 ⊢
  have hfz2 : w2.frozen? ⟨gh, s, none⟩ = false := obj_free hh1 s
  have hhs := hh1.cell s (by have := HHl.out; omega)
  have c0b := f0 w2 hHeld
  have HH2 := Lib.hid (hh1.set s (a : Int))
  have HB2 := Lib.hid (hb1.other hne s (.int .i32 (a : Int)))
  have HK2 := Lib.hid (Kept.setCell (S := TwoB gh gb) (p := ⟨gh, s, none⟩) (hHeld.mono (fun q _ e => .inr e)) (.inl (.inl rfl)) (.int .i32 (a : Int)))
  clear hbd hhd hfz1 hba hb1 hh1 hk2 hkd hHeld f0 f1 f2 hw2
  go_wp2
  refine bodyPost_end (results_none rfl _ _ _) rfl ?_
  exact ⟨rfl, HK2.out, HH2.out, HB2.out⟩
end Go.Proofs.YtifoldonmmobpaaDoor
