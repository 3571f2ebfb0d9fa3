/-
  huff.Cost, huff.Kraft, the document's Kraft.
  huff.merged: the leaves and the pairs of the row ahead.
  The rows of huff.addLengths.
  Package-merge on paper: the rows, what is chosen of them, and that nothing costs less.
  huff.addLengths: the rows.
  huff.leavesOf: a row of leaves that is sorted already stays as it is.
  huff.leavesOf where the weights do not fall.
  The library's stable sort at leaves: a row of leaves of the call's own, two of them put one in the other's place, ranges of them.
  The library's stable sort at leaves: a range put behind the next one.
  Leaves in order, on paper: the lighter ahead, of two alike the one whose place is ahead.
  The library's stable sort at leaves: two rows in order made one, where one of them is a leaf alone.
  The library's stable sort at leaves: two rows in order made one, where the hinder one is a leaf alone.
  The library's stable sort at leaves: two rows in order made one.
  The library's stable sort at leaves: a short range put in order, a leaf after the other.
  The library's stable sort at leaves: a whole row.
  huff.Lengths where the weights do not fall.
  huff.leavesOf and huff.Lengths at any weights.
  huff.Lengths at any weights.
  Package-merge on paper: how many leaves of each row are chosen; the lengths that come of it are a whole code's.
  Package-merge on paper: the lengths.
  Package-merge on paper: what the lengths are that Lengths tells.
  canon.counts: how many lengths there are of each kind; arrays of sixteen numbers.
  canon.firsts, canon.Kind, canon.refused.
-/
import Derived.Test.YtfmjfgmbjdhogaaGreatDoorMg4
import Derived.Laws.CopyOwn
import Derived.Deep.RegionLaw
import Derived.Deep.CutBlock
import Derived.OwnWalk
import Derived.BigRegion
import Derived.Deep.DeepCutAuto
import Derived.Laws.Tables
namespace Go.Proofs.YtfmjfgmbjdhogaaGreatDoor
open Go.RowKit
set_option linter.unusedVariables false
set_option linter.unusedSimpArgs false

def kpart (z : Int) : Int := if 1 ≤ z ∧ z ≤ 15 then ((2 ^ (15 - z.toNat) : Nat) : Int) else 0
def kraftL : List Int → Int
  | [] => 0
  | z :: r => kpart z + kraftL r
theorem kpart_bd (z : Int) : 0 ≤ kpart z ∧ kpart z ≤ 32768 := by
  unfold kpart
  split
  · have h := Nat.pow_le_pow_right (n := 2) (by decide) (show 15 - z.toNat ≤ 15 by omega)
    obtain ⟨p, hp⟩ : ∃ p, p = 2 ^ (15 - z.toNat) := ⟨_, rfl⟩
    rw [← hp] at h ⊢
    clear hp
    constructor <;> omega
  · decide
theorem kpart_div : ∀ k : Nat, 1 ≤ k → k ≤ 15 → (32768 : Int) / 2 ^ k = kpart (k : Int) := by
  intro k h1 h2
  have : k = 1 ∨ k = 2 ∨ k = 3 ∨ k = 4 ∨ k = 5 ∨ k = 6 ∨ k = 7 ∨ k = 8 ∨ k = 9 ∨ k = 10 ∨ k = 11 ∨ k = 12 ∨ k = 13 ∨ k = 14 ∨ k = 15 := by omega
  rcases this with rfl | rfl | rfl | rfl | rfl | rfl | rfl | rfl | rfl | rfl | rfl | rfl | rfl | rfl | rfl <;> decide
theorem kpart_out (z : Int) (h : ¬ (1 ≤ z ∧ z ≤ 15)) : kpart z = 0 := if_neg h

def Small (m : Int) (zs : List Int) : Prop := ∀ z ∈ zs, 0 ≤ z ∧ z ≤ m
theorem Small.getD {m : Int} {zs : List Int} (h : Small m zs) (i : Nat) (hi : i < zs.length) : 0 ≤ zs.getD i 0 ∧ zs.getD i 0 ≤ m := by
  have : zs.getD i 0 = zs[i] := by simp [List.getD, hi]
  rw [this]; exact h _ (List.getElem_mem hi)
theorem prod_bd {x y : Int} (hx : 0 ≤ x ∧ x ≤ 1048576) (hy : 0 ≤ y ∧ y ≤ 1048576) : 0 ≤ x * y ∧ x * y ≤ 1099511627776 := by
  refine ⟨Int.mul_nonneg hx.1 hy.1, ?_⟩
  have h1 : x * y ≤ 1048576 * y := Int.mul_le_mul_of_nonneg_right hx.2 hy.1
  omega

end Go.Proofs.YtfmjfgmbjdhogaaGreatDoor

namespace Go.Proofs.YtfmjfgmbjdhogaaGreatDoor
open Go.RowKit
set_option linter.unusedVariables false
set_option linter.unusedSimpArgs false

def mergeW (w : Int) (rest : List Int → List (Int × Bool)) : List Int → List (Int × Bool)
  | [] => (w, true) :: rest []
  | z :: r => if z ≤ w then (z, false) :: mergeW w rest r else (w, true) :: rest (z :: r)
def mergeS : List (Int × Bool) → List Int → List (Int × Bool)
  | a :: b :: r, ls => mergeW (a.1 + b.1) (mergeS r) ls
  | _, ls => ls.map fun z => (z, false)
theorem own_shape2 {w : World} {base e s : Nat} {v : Value} {n : Nat} {xs : List Value} (h : w.ownsRow base e s v n xs) : ∃ ao cap, v = .slice ao n cap := by
  rcases h.2 with ⟨rfl, rfl⟩ | ⟨g, cap, cur, rfl, _⟩
  · exact ⟨none, 0, rfl⟩
  · exact ⟨_, cap, rfl⟩
end Go.Proofs.YtfmjfgmbjdhogaaGreatDoor

namespace Go.Proofs.YtfmjfgmbjdhogaaGreatDoor
open Go.RowKit
set_option linter.unusedVariables false
set_option linter.unusedSimpArgs false

def rowS (ls : List Int) : Nat → List (Int × Bool)
  | 0 => mergeS [] ls
  | i + 1 => mergeS (rowS ls i) ls
def packedN (rs : List (Int × Bool)) : Nat := rs.countP (fun p => p.2)
end Go.Proofs.YtfmjfgmbjdhogaaGreatDoor

namespace Go.Proofs.YtfmjfgmbjdhogaaGreatDoor
open Go.RowKit
set_option linter.unusedVariables false
set_option linter.unusedSimpArgs false

end Go.Proofs.YtfmjfgmbjdhogaaGreatDoor

namespace Go.Proofs.YtfmjfgmbjdhogaaGreatDoor
open Go.RowKit
set_option linter.unusedVariables false
set_option linter.unusedSimpArgs false

theorem own_cap2 {w : World} {base e s n cap : Nat} {ao : Option Addr} {xs : List Value} (h : w.ownsRow base e s (.slice ao n cap) n xs) : n ≤ cap ∧ cap ≤ maxLen := by
  rcases h.2 with ⟨hv, hn⟩ | ⟨g, c, cur, hv, _, _, h1, h2, _⟩
  · simp at hv; obtain ⟨_, rfl, rfl⟩ := hv; exact ⟨Nat.le_refl _, Nat.zero_le _⟩
  · simp at hv; obtain ⟨_, rfl⟩ := hv; exact ⟨h1, h2⟩
theorem own_some {w : World} {base e s n cap : Nat} {ao : Option Addr} {xs : List Value} (h : w.ownsRow base e s (.slice ao n cap) n xs) (hn : 0 < n) : ∃ g, ao = some ⟨g, 0, none⟩ := by
  rcases h.2 with ⟨hv, hn'⟩ | ⟨g, c, cur, hv, _, _, h1, h2, _⟩
  · omega
  · simp at hv; exact ⟨g, hv.1⟩

end Go.Proofs.YtfmjfgmbjdhogaaGreatDoor

namespace Go.Proofs.YtfmjfgmbjdhogaaGreatDoor
open Go.RowKit
set_option linter.unusedVariables false
set_option linter.unusedSimpArgs false

end Go.Proofs.YtfmjfgmbjdhogaaGreatDoor

namespace Go.Proofs.YtfmjfgmbjdhogaaGreatDoor
open Go.RowKit
set_option linter.unusedVariables false
set_option linter.unusedSimpArgs false

end Go.Proofs.YtfmjfgmbjdhogaaGreatDoor

namespace Go.Proofs.YtfmjfgmbjdhogaaGreatDoor
open Go.RowKit
set_option linter.unusedVariables false
set_option linter.unusedSimpArgs false

end Go.Proofs.YtfmjfgmbjdhogaaGreatDoor

namespace Go.Proofs.YtfmjfgmbjdhogaaGreatDoor
open Go.RowKit
set_option linter.unusedVariables false
set_option linter.unusedSimpArgs false

theorem i64_sub (a b d : Nat) (h : d + b = a) (ha : a ≤ 100000) : IntKind.i64.wrap ((a : Int) - (b : Int)) = (d : Int) := by rw [IntWalk.i64_in _ (by omega)]; omega
end Go.Proofs.YtfmjfgmbjdhogaaGreatDoor

namespace Go.Proofs.YtfmjfgmbjdhogaaGreatDoor
open Go.RowKit
set_option linter.unusedVariables false
set_option linter.unusedSimpArgs false

end Go.Proofs.YtfmjfgmbjdhogaaGreatDoor

namespace Go.Proofs.YtfmjfgmbjdhogaaGreatDoor
open Go.RowKit
set_option linter.unusedVariables false
set_option linter.unusedSimpArgs false

theorem i64_pred (a d : Nat) (h : d + 1 = a) (ha : a ≤ 100000) : IntKind.i64.wrap ((a : Int) - 1) = (d : Int) := by rw [IntWalk.i64_in _ (by omega)]; omega
end Go.Proofs.YtfmjfgmbjdhogaaGreatDoor

namespace Go.Proofs.YtfmjfgmbjdhogaaGreatDoor
open Go.RowKit
set_option linter.unusedVariables false
set_option linter.unusedSimpArgs false

end Go.Proofs.YtfmjfgmbjdhogaaGreatDoor

namespace Go.Proofs.YtfmjfgmbjdhogaaGreatDoor
open Go.RowKit
set_option linter.unusedVariables false
set_option linter.unusedSimpArgs false

end Go.Proofs.YtfmjfgmbjdhogaaGreatDoor

namespace Go.Proofs.YtfmjfgmbjdhogaaGreatDoor
open Go.RowKit
set_option linter.unusedVariables false
set_option linter.unusedSimpArgs false

end Go.Proofs.YtfmjfgmbjdhogaaGreatDoor

namespace Go.Proofs.YtfmjfgmbjdhogaaGreatDoor
open Go.RowKit
set_option linter.unusedVariables false
set_option linter.unusedSimpArgs false

end Go.Proofs.YtfmjfgmbjdhogaaGreatDoor

namespace Go.Proofs.YtfmjfgmbjdhogaaGreatDoor
open Go.RowKit
set_option linter.unusedVariables false
set_option linter.unusedSimpArgs false

theorem infoI : (Tryz.prog.info? 3).map (fun i => (i.zero, i.size, i.bytes)) = some (some (.int .i64 0), 1, 8) := by kernel_rfl
end Go.Proofs.YtfmjfgmbjdhogaaGreatDoor

namespace Go.Proofs.YtfmjfgmbjdhogaaGreatDoor
open Go.RowKit
set_option linter.unusedVariables false
set_option linter.unusedSimpArgs false

end Go.Proofs.YtfmjfgmbjdhogaaGreatDoor

namespace Go.Proofs.YtfmjfgmbjdhogaaGreatDoor
open Go.RowKit
set_option linter.unusedVariables false
set_option linter.unusedSimpArgs false

end Go.Proofs.YtfmjfgmbjdhogaaGreatDoor

namespace Go.Proofs.YtfmjfgmbjdhogaaGreatDoor
open Go.RowKit
set_option linter.unusedVariables false
set_option linter.unusedSimpArgs false

def cnt (ls : List Int) : Nat → Nat → Nat → Nat
  | 0, k, r => if r = 0 then k - packedN ((rowS ls 0).take k) else 0
  | i + 1, k, r => if r = i + 1 then k - packedN ((rowS ls (i + 1)).take k) else cnt ls i (2 * packedN ((rowS ls (i + 1)).take k)) r
end Go.Proofs.YtfmjfgmbjdhogaaGreatDoor

namespace Go.Proofs.YtfmjfgmbjdhogaaGreatDoor
open Go.RowKit
set_option linter.unusedVariables false
set_option linter.unusedSimpArgs false

theorem getD_set_eq (zs : List Int) (p : Nat) (v : Int) (h : p < zs.length) : (zs.set p v).getD p 0 = v := by simp [List.getD, h]
theorem getD_set_ne (zs : List Int) (p q : Nat) (v : Int) (h : p ≠ q) : (zs.set p v).getD q 0 = zs.getD q 0 := by simp [List.getD, List.getElem?_set_ne h]
end Go.Proofs.YtfmjfgmbjdhogaaGreatDoor

namespace Go.Proofs.YtfmjfgmbjdhogaaGreatDoor
open Go.RowKit
set_option linter.unusedVariables false
set_option linter.unusedSimpArgs false

end Go.Proofs.YtfmjfgmbjdhogaaGreatDoor

namespace Go.Proofs.YtfmjfgmbjdhogaaGreatDoor
open Go.RowKit
set_option linter.unusedVariables false
set_option linter.unusedSimpArgs false

def arrC (zs : List Int) : Array Value := (zs.map (Value.int .i64)).toArray
theorem arrC_size (zs : List Int) : (arrC zs).size = zs.length := by simp [arrC]
theorem arrC_get (zs : List Int) (i : Nat) (h : i < zs.length) : (arrC zs)[i]? = some (.int .i64 (zs.getD i 0)) := by simp [arrC, List.getD, h]
theorem arrC_set (zs : List Int) (i : Nat) (x : Int) : (arrC zs).setIfInBounds i (.int .i64 x) = arrC (zs.set i x) := by
  simp [arrC, List.map_set]
structure Arr16 (B : Nat) (w : World) (zs : List Int) : Prop where
  len : zs.length = 16
  obj : w.heap[B]? = some (.cells (arrC zs) 194 (0, 0))
theorem Arr16.cell {B : Nat} {w : World} {zs : List Int} (h : Arr16 B w zs) (i : Nat) (hi : i < 16) : w.cell? ⟨B, i, none⟩ = some (.int .i64 (zs.getD i 0)) := by
  rw [obj_cell h.obj i, arrC_get _ _ (by rw [h.len]; exact hi)]
theorem Arr16.put {B : Nat} {w : World} {zs : List Int} (h : Arr16 B w zs) (i : Nat) (x : Int) : Arr16 B (w.setCell ⟨B, i, none⟩ (.int .i64 x)) (zs.set i x) :=
  ⟨by rw [List.length_set]; exact h.len, by rw [obj_set h.obj i _, arrC_set]⟩
theorem Arr16.kept {S : Nat → Prop} {B : Nat} {w w' : World} {zs : List Int} (h : Arr16 B w zs) (hk : Kept S w w') (hs : ¬ S B) : Arr16 B w' zs := ⟨h.len, hk.obj h.obj hs⟩
theorem Arr16.row {B : Nat} {w : World} {old : List Int} (h : Arr16 B w old) (zs : List Int) (hz : zs.length = 16) : Arr16 B (w.setRow B (arrC zs)) zs := ⟨hz, setRow_heap w B _ _ _ _ h.obj⟩
theorem Kept.setRow {S : Nat → Prop} {a b : World} (h : Kept S a b) {B : Nat} (hp : S B ∨ a.heap.size ≤ B) (cs : Array Value) : Kept S a (b.setRow B cs) :=
  ⟨h.os, h.tape, h.output, by show _ ≤ (b.heap.modify B _).size; rw [Array.size_modify]; exact h.size, fun i hi hs => (setRow_other b B i cs (fun e => by rcases hp with hp | hp; exact hs (e ▸ hp); omega)).trans (h.block i hi hs)⟩
theorem store16 {B : Nat} {w : World} {old : List Int} (h : Arr16 B w old) (zs : List Int) (hz : zs.length = 16) : (storeCells ⟨B, 0, none⟩ (arrC zs).toList).run Tryz.prog w = .ok () (w.setRow B (arrC zs)) := by
  have := run_storeCells_from (P := Tryz.prog) B 194 (arrC zs).toList 0 (arrC old) w h.obj (by simp [arrC, hz, h.len]) (fun v hv => by
    simp [arrC] at hv
    obtain ⟨x, _, rfl⟩ := hv
    rfl)
  simpa using this
theorem results_cell_tmp {P : Program} {fn : Func} {p t : Tmp} {ty : TypeId} (h : fn.results = #[.cell p ty, .tmp t]) (tmps : Array Value) (w : World) (g : Nat) (t' : TypeId) (cs : Array Value) (fr : Nat × Nat) (d : TypeDesc)
    (hp : tmps.getD p undef = .pointer (some ⟨g, 0, none⟩)) (hg : w.heap[g]? = some (.cells cs t' fr))
    (hu : P.underlying ty = some d) (hd : (match d with | .struct _ | .array _ _ => true | _ => false) = true) (hi : (P.info? ty).map (·.size) = some cs.size) :
    (results fn tmps).run P w = .ok (.tuple #[.agg cs, tmps.getD t undef]) w := by
  have hp' := hp
  simp only [Array.getD_eq_getD_getElem?] at hp' ⊢
  simp [results, h, hp', asAddr, run_loadVar_row w g t' ty cs fr d hg hu hd hi]
theorem info16 : (Tryz.prog.info? 194).map (·.size) = some 16 := by kernel_rfl
def zer16 : List Int := List.replicate 16 0
def cntsL (ls : List Int) : List Int := (List.range 16).map (fun n : Nat => ((ls.count (n : Int) : Nat) : Int))
theorem cnts_nil : cntsL [] = zer16 := by decide
theorem cnts_len (ls : List Int) : (cntsL ls).length = 16 := by simp [cntsL]
theorem cnts_get (ls : List Int) (n : Nat) (h : n < 16) : (cntsL ls).getD n 0 = ((ls.count (n : Int) : Nat) : Int) := by simp [cntsL, List.getD, h]
theorem cnts_snoc (ls : List Int) (n : Nat) (h : n < 16) : cntsL (ls ++ [(n : Int)]) = (cntsL ls).set n ((cntsL ls).getD n 0 + 1) := by
  obtain ⟨v, hv⟩ : ∃ v, v = (cntsL ls).getD n 0 + 1 := ⟨_, rfl⟩
  rw [← hv]
  rw [cnts_get _ _ h] at hv
  apply List.ext_getElem (by simp [cntsL])
  intro i h1 h2
  have hi : i < 16 := by simpa [cntsL] using h1
  rw [List.getElem_set]
  by_cases e : n = i
  · subst e; rw [if_pos rfl, hv]; simp [cntsL]
  · rw [if_neg e]
    have h3 : ¬ (n : Int) = (i : Int) := by omega
    simp [cntsL, List.count_append, List.count_cons, h3]

set_option maxRecDepth 20000 in
set_option maxHeartbeats 1000000 in
theorem counts_calls (a : Option Addr) (c B : Nat) (ls : List Int) (w : World) (hr : RdI w B a ls) (hs : Small 15 ls) (hl : ls.length ≤ 320) :
    Calls Tryz.prog 133 #[.slice a ls.length c] w fun e w' => e = .returned (.tuple #[.agg (arrC (cntsL ls)), .bool true]) ∧ Kept NoB w w' := by
  have HR := Lib.hid hr; have HS := Lib.hid hs
  obtain ⟨n, hn⟩ : ∃ n, n = ls.length := ⟨_, rfl⟩
  have HN := Lib.hid hn
  rw [← hn] at hl ⊢
  clear hr hs hn
  go_enter Tryz.func133, Tryz.ntmps133
  go_wp2
  have hA2 : Arr16 w.heap.size ((w.alloc (.cells (arrC zer16) 194)).alloc (.cells (arrC zer16) 194)) zer16 := ⟨rfl, by
    rw [heap_alloc_old _ _ (by simp)]; exact heap_alloc_new w _⟩
  have hA4 : Arr16 (w.heap.size + 1) ((w.alloc (.cells (arrC zer16) 194)).alloc (.cells (arrC zer16) 194)) (cntsL (ls.take 0)) := ⟨cnts_len _, by
    rw [List.take_zero, cnts_nil]; exact heap_alloc2_new w _ _⟩
  have HA2 := Lib.hid hA2; have HA4 := Lib.hid hA4
  have HK0 : Hid (Kept NoB w ((w.alloc (.cells (arrC zer16) 194)).alloc (.cells (arrC zer16) 194))) := Lib.hid (((Kept.refl _ _).alloc _).alloc _)
  clear hA2 hA4
  obtain ⟨G, hG⟩ : ∃ G, G = w.heap.size := ⟨_, rfl⟩
  rw [← hG] at HA2 HA4 ⊢
  have HG := Lib.hid hG
  clear hG
  go_loopw [13, 6] (fun v13 _v6 wr => ∃ (j : Nat), v13 = .int .i64 (j : Int) ∧ j ≤ n ∧ Hid (Arr16 G wr zer16) ∧ Hid (Arr16 (G + 1) wr (cntsL (ls.take j))) ∧ Hid (Kept NoB w wr)) (fun v13 _ _ => n - (intOf v13).toNat)
  case atStart => exact ⟨0, rfl, by omega, HA2, HA4, HK0⟩
  case round =>
    clear HA2 HA4 HK0
    obtain ⟨j, rfl, hj, HA2, HA4, HK⟩ := hrel
    by_cases hlt : (j : Int) < n
    · obtain ⟨g, off, rfl, _, hc0⟩ := HR.out j (by have := HN.out; omega)
      have hc := HK.out.cell hc0
      have hb := HS.out.getD j (by have := HN.out; omega)
      obtain ⟨z, hz⟩ : ∃ z : Nat, (z : Int) = ls.getD j 0 := ⟨(ls.getD j 0).toNat, by omega⟩
      rw [← hz] at hc hb
      have hst : ls.take (j + 1) = ls.take j ++ [(z : Int)] := by
        rw [hz, List.take_succ_eq_append_getElem (by have := HN.out; omega)]; simp [List.getD, show j < ls.length by have := HN.out; omega]
      have hz16 : z < 16 := by omega
      have hcell := HA4.out.cell z hz16
      have hcb : 0 ≤ (cntsL (ls.take j)).getD z 0 ∧ (cntsL (ls.take j)).getD z 0 ≤ 320 := by
        rw [cnts_get _ _ hz16]
        have := List.count_le_length (l := ls.take j) (a := (z : Int))
        rw [List.length_take] at this
        have := HN.out
        omega
      have hsn := cnts_snoc (ls.take j) z hz16
      rw [← hst] at hsn
      obtain ⟨x, hx⟩ : ∃ x, x = (cntsL (ls.take j)).getD z 0 := ⟨_, rfl⟩
      rw [← hx] at hcell hcb hsn
      have hfz : wr.frozen? ⟨G + 1, z, none⟩ = false := obj_free HA4.out.obj z
      have hput := HA4.out.put z (x + 1)
      rw [← hsn] at hput
      have hkp : Kept NoB w (wr.setCell ⟨G + 1, z, none⟩ (.int .i64 (x + 1))) := Kept.setCell (p := ⟨G + 1, z, none⟩) HK.out (.inr (by rw [← HG.out]; simp)) _
      have hA2' : Arr16 G (wr.setCell ⟨G + 1, z, none⟩ (.int .i64 (x + 1))) zer16 := HA2.out.kept (S := fun k => k = G + 1) (Kept.setCell (S := fun k => k = G + 1) (p := ⟨G + 1, z, none⟩) (Kept.refl _ wr) (.inl rfl) _) (by omega)
      have HP := Lib.hid hput; have HKp := Lib.hid hkp; have HA2n := Lib.hid hA2'
      clear hz hst hsn hput hkp hx hc0 hA2'
      go_wp2
      go_roundw
      case rel => exact ⟨j + 1, by go_num, by omega, HA2n, HP, HKp⟩
      case measure => simp [intOf]; omega
    · have hjn : j = n := by omega
      subst hjn
      have hfin := HA4.out
      rw [List.take_of_length_le (by have := HN.out; omega)] at hfin
      have HF := Lib.hid hfin
      clear hfin HA4
      have hsz : (arrC (cntsL ls)).size = 16 := by rw [arrC_size, HF.out.len]
      have hst := store16 HA2.out (cntsL ls) HF.out.len
      have HF2 := Lib.hid (HA2.out.row (cntsL ls) HF.out.len)
      have HK2 := Lib.hid (HK.out.setRow (B := G) (.inr (by rw [← HG.out]; exact Nat.le_refl _)) (arrC (cntsL ls)))
      go_wp2_with (refine wpList_load_row rfl 194 (.tmp 4) rfl (G + 1) rfl 194 (arrC (cntsL ls)) (0, 0) (.array 16 3) HF.out.obj Tryz.underlying194 rfl (by rw [arrC_size, HF.out.len]; exact info16) ?_)
      refine bodyPost_ret (results_cell_tmp rfl _ _ G 194 (arrC (cntsL ls)) (0, 0) (.array 16 3) rfl HF2.out.obj Tryz.underlying194 rfl (by rw [hsz]; exact info16)) rfl ?_
      exact ⟨rfl, HK2.out⟩
end Go.Proofs.YtfmjfgmbjdhogaaGreatDoor

namespace Go.Proofs.YtfmjfgmbjdhogaaGreatDoor
open Go.RowKit
set_option linter.unusedVariables false
set_option linter.unusedSimpArgs false

def fC (cs : List Int) : Nat → Int
  | 0 => 0
  | 1 => 0
  | n + 2 => (fC cs (n + 1) + cs.getD (n + 1) 0) * 2
theorem fC_succ (cs : List Int) (n : Nat) (h : 1 ≤ n) : fC cs (n + 1) = (fC cs n + cs.getD n 0) * 2 := by
  obtain ⟨m, rfl⟩ : ∃ m, n = m + 1 := ⟨n - 1, by omega⟩
  rfl
def firstsP (cs : List Int) (n : Nat) : List Int := (List.range 16).map (fun m : Nat => if m < n then fC cs m else 0)
theorem firstsP_len (cs : List Int) (n : Nat) : (firstsP cs n).length = 16 := by simp [firstsP]
theorem firstsP_one (cs : List Int) : firstsP cs 1 = zer16 := by
  apply List.ext_getElem (by simp [firstsP, zer16])
  intro i h1 h2
  simp only [firstsP, List.getElem_map, List.getElem_range, zer16, List.getElem_replicate]
  split
  · have : i = 0 := by omega
    subst this; rfl
  · rfl
theorem firstsP_step (cs : List Int) (n : Nat) (h : n < 16) : firstsP cs (n + 1) = (firstsP cs n).set n (fC cs n) := by
  apply List.ext_getElem (by simp [firstsP])
  intro i h1 h2
  rw [List.getElem_set]
  simp only [firstsP, List.getElem_map, List.getElem_range]
  by_cases e : n = i
  · subst e; rw [if_pos (by omega), if_pos rfl]
  · rw [if_neg e]
    by_cases h3 : i < n
    · rw [if_pos (by omega), if_pos h3]
    · rw [if_neg (by omega), if_neg h3]
theorem firstsP_get (cs : List Int) (m : Nat) (h : m < 16) : (firstsP cs 16).getD m 0 = fC cs m := by simp [firstsP, List.getD, h]
theorem fC_bd (cs : List Int) (hc : ∀ n, 0 ≤ cs.getD n 0 ∧ cs.getD n 0 ≤ 320) : ∀ n, n ≤ 16 → 0 ≤ fC cs n ∧ fC cs n ≤ 50000000 := by
  have hb : ∀ n, 0 ≤ fC cs n ∧ fC cs n + 640 ≤ 640 * ((2 ^ n : Nat) : Int) := by
    intro n
    induction n with
    | zero => simp [fC]
    | succ n ih =>
      by_cases h : 1 ≤ n
      · rw [fC_succ cs n h, Nat.pow_succ, Int.natCast_mul]
        have := hc n
        omega
      · have : n = 0 := by omega
        subst this
        simp [fC]
  intro n hn
  have h1 := hb n
  have h2 := Nat.pow_le_pow_right (n := 2) (by decide) hn
  have h3 : ((2 ^ n : Nat) : Int) ≤ 65536 := by
    have := Int.ofNat_le.2 h2
    simpa using this
  omega

set_option maxRecDepth 20000 in
set_option maxHeartbeats 1000000 in
theorem firsts_calls (cs : List Int) (w : World) (hl : cs.length = 16) (hc : ∀ n, 0 ≤ cs.getD n 0 ∧ cs.getD n 0 ≤ 320) :
    Calls Tryz.prog 134 #[.agg (arrC cs)] w fun e w' => e = .returned (.agg (arrC (firstsP cs 16))) ∧ Kept NoB w w' := by
  have HC := Lib.hid hc; have HL := Lib.hid hl
  clear hc hl
  go_enter Tryz.func134, Tryz.ntmps134
  go_wp2
  obtain ⟨w1, hw1⟩ : ∃ w1, w1 = ((w.alloc (.cells (arrC cs) 194)).alloc (.cells (arrC zer16) 194)).alloc (.cells (arrC zer16) 194) := ⟨_, rfl⟩
  have hA1 : Arr16 w.heap.size w1 cs := ⟨HL.out, by
    rw [hw1, heap_alloc_old _ _ (by simp; omega), heap_alloc_old _ _ (by simp)]; exact heap_alloc_new w _⟩
  have hA2 : Arr16 (w.heap.size + 1) w1 zer16 := ⟨rfl, by
    rw [hw1, heap_alloc_old _ _ (by simp)]; exact heap_alloc2_new w _ _⟩
  have hA3 : Arr16 (w.heap.size + 1 + 1) w1 (firstsP cs 1) := ⟨firstsP_len _ _, by
    rw [firstsP_one, hw1]
    have := heap_alloc_new ((w.alloc (.cells (arrC cs) 194)).alloc (.cells (arrC zer16) 194)) (.cells (arrC zer16) 194)
    simpa using this⟩
  have hK : Kept NoB w w1 := by rw [hw1]; exact (((Kept.refl _ _).alloc _).alloc _).alloc _
  have HA1 := Lib.hid hA1; have HA2 := Lib.hid hA2; have HA3 := Lib.hid hA3; have HK := Lib.hid hK
  have hw1' : ((w.alloc (.cells (arrC cs) 194)).alloc (.cells #[.int .i64 0, .int .i64 0, .int .i64 0, .int .i64 0, .int .i64 0, .int .i64 0, .int .i64 0, .int .i64 0, .int .i64 0, .int .i64 0, .int .i64 0, .int .i64 0, .int .i64 0, .int .i64 0, .int .i64 0, .int .i64 0] 194)).alloc (.cells #[.int .i64 0, .int .i64 0, .int .i64 0, .int .i64 0, .int .i64 0, .int .i64 0, .int .i64 0, .int .i64 0, .int .i64 0, .int .i64 0, .int .i64 0, .int .i64 0, .int .i64 0, .int .i64 0, .int .i64 0, .int .i64 0] 194) = w1 := by rw [hw1]; rfl
  rw [hw1']
  obtain ⟨G, hG⟩ : ∃ G, G = w.heap.size := ⟨_, rfl⟩
  rw [← hG] at HA1 HA2 HA3 ⊢
  have HG := Lib.hid hG
  clear hw1 hw1' hA1 hA2 hA3 hK hG
  go_loopw [5, 4] (fun v5 v4 wr => ∃ (n : Nat), v5 = .int .i64 (n : Int) ∧ v4 = .int .i64 (fC cs n) ∧ 1 ≤ n ∧ n ≤ 16 ∧ Hid (Arr16 G wr cs) ∧ Hid (Arr16 (G + 1) wr zer16) ∧ Hid (Arr16 (G + 1 + 1) wr (firstsP cs n)) ∧ Hid (Kept NoB w wr)) (fun v5 _ _ => 17 - (intOf v5).toNat)
  case atStart => exact ⟨1, rfl, rfl, by omega, by omega, HA1, HA2, HA3, HK⟩
  case round =>
    clear HA1 HA2 HA3 HK
    obtain ⟨n, rfl, rfl, hn1, hn16, HA1, HA2, HA3, HK⟩ := hrel
    by_cases hlt : (n : Int) ≤ 15
    · have hn15 : n < 16 := by omega
      have hst := fC_succ cs n hn1
      have hstep := firstsP_step cs n hn15
      have hbd := fC_bd cs HC.out n (by omega)
      have hcb := HC.out n
      have hc1 := HA1.out.cell n hn15
      have hc3 := HA3.out.cell n hn15
      have hf3 : wr.frozen? ⟨G + 1 + 1, n, none⟩ = false := obj_free HA3.out.obj n
      obtain ⟨x, hx⟩ : ∃ x, x = fC cs n := ⟨_, rfl⟩
      obtain ⟨y, hy⟩ : ∃ y, y = cs.getD n 0 := ⟨_, rfl⟩
      rw [← hx] at hst hstep hbd ⊢
      rw [← hy] at hst hcb hc1
      have hput := HA3.out.put n x
      rw [← hstep] at hput
      have hks : Kept (fun k => k = G + 1 + 1) wr (wr.setCell ⟨G + 1 + 1, n, none⟩ (.int .i64 x)) := Kept.setCell (S := fun k => k = G + 1 + 1) (p := ⟨G + 1 + 1, n, none⟩) (Kept.refl _ wr) (.inl rfl) _
      have N1 := Lib.hid (HA1.out.kept hks (by omega)); have N2 := Lib.hid (HA2.out.kept hks (by omega)); have N3 := Lib.hid hput
      have NK : Hid (Kept NoB w (wr.setCell ⟨G + 1 + 1, n, none⟩ (.int .i64 x))) := Lib.hid (Kept.setCell (p := ⟨G + 1 + 1, n, none⟩) HK.out (.inr (by have := HG.out; show w.heap.size ≤ G + 1 + 1; omega)) _)
      have hc1' := hks.obj HA1.out.obj (show ¬ G = G + 1 + 1 by omega)
      have hc1n : (wr.setCell ⟨G + 1 + 1, n, none⟩ (.int .i64 x)).cell? ⟨G, n, none⟩ = some (.int .i64 y) := by rw [N1.out.cell n hn15, hy]
      have HSt := Lib.hid hst
      have hGG : ¬ G = G + 1 + 1 := by omega
      clear hstep hput hks hx hy hst hc1'
      go_wp2
      go_roundw
      case rel => exact ⟨n + 1, by go_num, by rw [HSt.out], by omega, by omega, N1, N2, N3, NK⟩
      case measure => simp [intOf]; omega
    · have hn : n = 16 := by omega
      subst hn
      have hsz : (arrC (firstsP cs 16)).size = 16 := by rw [arrC_size, firstsP_len]
      have hst := store16 HA2.out (firstsP cs 16) (firstsP_len _ _)
      have HF2 := Lib.hid (HA2.out.row (firstsP cs 16) (firstsP_len _ _))
      have HK2 := Lib.hid (HK.out.setRow (B := G + 1) (.inr (by have := HG.out; omega)) (arrC (firstsP cs 16)))
      go_wp2_with (refine wpList_load_row rfl 194 (.tmp 3) rfl (G + 1 + 1) rfl 194 (arrC (firstsP cs 16)) (0, 0) (.array 16 3) HA3.out.obj Tryz.underlying194 rfl (by rw [hsz]; exact info16) ?_)
      refine bodyPost_ret (results_cell_row rfl _ _ (G + 1) 194 (arrC (firstsP cs 16)) (0, 0) (.array 16 3) rfl HF2.out.obj Tryz.underlying194 rfl (by rw [hsz]; exact info16)) rfl ?_
      exact ⟨rfl, HK2.out⟩

def sumK (ls : List Int) : Nat → Int
  | 0 => 0
  | n + 1 => sumK ls n + ((ls.count ((n + 1 : Nat) : Int) : Nat) : Int) * kpart ((n + 1 : Nat) : Int)
theorem sumK_nil : ∀ n, sumK [] n = 0
  | 0 => rfl
  | n + 1 => by simp only [sumK, sumK_nil n]; simp
theorem sumK_cons (z : Int) (r : List Int) : ∀ n : Nat, n ≤ 15 → sumK (z :: r) n = sumK r n + (if 1 ≤ z ∧ z ≤ n then kpart z else 0)
  | 0, _ => by
    rw [if_neg (by omega)]; rfl
  | n + 1, h => by
    simp only [sumK, sumK_cons z r n (by omega), List.count_cons]
    by_cases e : z = ((n + 1 : Nat) : Int)
    · subst e
      simp only [beq_self_eq_true, if_true]
      rw [if_neg (by omega), if_pos (by omega), Int.natCast_add (List.count _ r) 1, Int.add_mul]
      omega
    · have e2 : (z == ((n + 1 : Nat) : Int)) = false := by simpa using e
      rw [e2]
      simp only [Bool.false_eq_true, if_false, Nat.add_zero]
      by_cases h1 : 1 ≤ z ∧ z ≤ (n : Int)
      · rw [if_pos h1, if_pos (by omega)]; omega
      · rw [if_neg h1, if_neg (by omega)]; omega
theorem sumK_all : ∀ ls : List Int, Small 15 ls → sumK ls 15 = kraftL ls
  | [], _ => sumK_nil 15
  | z :: r, h => by
    have hz := h z List.mem_cons_self
    rw [sumK_cons z r 15 (by omega), sumK_all r (fun y hy => h y (List.mem_cons_of_mem _ hy))]
    simp only [kraftL]
    by_cases h1 : 1 ≤ z
    · rw [if_pos (by omega)]; omega
    · rw [if_neg (by omega), kpart_out z (by omega)]; omega
theorem sumK_bd (ls : List Int) (hl : ls.length ≤ 320) : ∀ n, 0 ≤ sumK ls n ∧ sumK ls n ≤ 10485760 * (n : Int)
  | 0 => by simp [sumK]
  | n + 1 => by
    have ih := sumK_bd ls hl n
    have hc := List.count_le_length (l := ls) (a := ((n + 1 : Nat) : Int))
    have hk := kpart_bd ((n + 1 : Nat) : Int)
    obtain ⟨c, hce⟩ : ∃ c : Int, c = ((ls.count ((n + 1 : Nat) : Int) : Nat) : Int) := ⟨_, rfl⟩
    have hc2 : 0 ≤ c ∧ c ≤ 320 := by omega
    have h1 := Int.mul_nonneg hc2.1 hk.1
    have h2 : c * kpart ((n + 1 : Nat) : Int) ≤ 320 * 32768 := Int.mul_le_mul hc2.2 hk.2 hk.1 (by omega)
    simp only [sumK, ← hce]
    omega
def kindS (ls : List Int) : Int :=
  if ls.length = ls.count 0 then 1 else if ls.length = ls.count 0 + 1 ∧ ls.count 1 = 1 then 2 else if 32768 < kraftL ls then 4 else if kraftL ls < 32768 then 5 else 3

set_option maxRecDepth 20000 in
set_option maxHeartbeats 2000000 in
theorem kind_calls (a : Option Addr) (c B : Nat) (ls : List Int) (w : World) (hr : RdI w B a ls) (hs : Small 15 ls) (hl : ls.length ≤ 320) :
    Calls Tryz.prog 162 #[.slice a ls.length c] w fun e w' => e = .returned (.int .i64 (kindS ls)) ∧ Kept NoB w w' := by
  have HCt := Lib.hid (counts_calls a c B ls w hr hs hl)
  have HS := Lib.hid hs
  obtain ⟨n, hn⟩ : ∃ n, n = ls.length := ⟨_, rfl⟩
  have HN := Lib.hid hn
  rw [← hn] at hl HCt ⊢
  clear hr hs hn
  have hK0 : Hid (kindS ls = if n = ls.count 0 then 1 else if n = ls.count 0 + 1 ∧ ls.count 1 = 1 then 2 else if 32768 < kraftL ls then 4 else if kraftL ls < 32768 then 5 else 3) := Lib.hid (by rw [HN.out]; rfl)
  obtain ⟨KS, hKS⟩ : ∃ x, x = kindS ls := ⟨_, rfl⟩
  rw [← hKS] at hK0 ⊢
  clear hKS
  have hsz : (arrC (cntsL ls)).size = 16 := by rw [arrC_size, cnts_len]
  go_enter Tryz.func162, Tryz.ntmps162
  go_wp2_with fail
  refine HCt.out.mono ?_
  rintro e w1 ⟨rfl, hk⟩
  have HK := Lib.hid hk
  clear hk
  have hA0 : Arr16 w1.heap.size (w1.alloc (.cells (arrC zer16) 194)) zer16 := ⟨rfl, heap_alloc_new w1 _⟩
  have hst := store16 hA0 (cntsL ls) (cnts_len _)
  have hA1 := hA0.row (cntsL ls) (cnts_len _)
  have hK1 : Kept NoB w ((w1.alloc (.cells (arrC zer16) 194)).setRow w1.heap.size (arrC (cntsL ls))) := (HK.out.alloc _).setRow (.inr HK.out.size) _
  have hze : arrC zer16 = #[.int .i64 0, .int .i64 0, .int .i64 0, .int .i64 0, .int .i64 0, .int .i64 0, .int .i64 0, .int .i64 0, .int .i64 0, .int .i64 0, .int .i64 0, .int .i64 0, .int .i64 0, .int .i64 0, .int .i64 0, .int .i64 0] := rfl
  rw [hze] at hst hA1 hK1
  have HA1 := Lib.hid hA1; have HK1 := Lib.hid hK1
  clear hA0 hA1 hK1 hze
  go_upto_region 2 with fail
  obtain ⟨W, hW⟩ : ∃ W, W = (w1.alloc (.cells #[.int .i64 0, .int .i64 0, .int .i64 0, .int .i64 0, .int .i64 0, .int .i64 0, .int .i64 0, .int .i64 0, .int .i64 0, .int .i64 0, .int .i64 0, .int .i64 0, .int .i64 0, .int .i64 0, .int .i64 0, .int .i64 0] 194)).setRow w1.heap.size (arrC (cntsL ls)) := ⟨_, rfl⟩
  rw [← hW] at HA1 HK1 ⊢
  obtain ⟨G, hG⟩ : ∃ G, G = w1.heap.size := ⟨_, rfl⟩
  rw [← hG] at HA1 ⊢
  clear hW hG hst
  have d0 := HA1.out.cell 0 (by omega)
  have d1 := HA1.out.cell 1 (by omega)
  rw [cnts_get _ _ (by omega)] at d0 d1
  have hc0 := List.count_le_length (l := ls) (a := 0)
  have hc1 := List.count_le_length (l := ls) (a := 1)
  obtain ⟨c0, hce0⟩ : ∃ x, x = ls.count 0 := ⟨_, rfl⟩
  obtain ⟨c1, hce1⟩ : ∃ x, x = ls.count 1 := ⟨_, rfl⟩
  have d0' : W.cell? ⟨G, 0, none⟩ = some (.int .i64 (c0 : Int)) := by rw [hce0]; exact d0
  have d1' : W.cell? ⟨G, 1, none⟩ = some (.int .i64 (c1 : Int)) := by rw [hce1]; exact d1
  rw [← hce0, ← HN.out] at hc0
  rw [← hce1, ← HN.out] at hc1
  rw [← hce0, ← hce1] at hK0
  clear d0 d1 hce0 hce1
  obtain ⟨us, hus⟩ : ∃ us, us + c0 = n := ⟨n - c0, by omega⟩
  have e1 := i64_sub n c0 us hus (by omega)
  have HUs := Lib.hid hus
  clear hus hc0
  by_cases hu0 : us = 0
  · have g1 : ((us : Int) == 0) = true := by simp; omega
    have hk := hK0.out
    rw [if_pos (by have := HUs.out; omega)] at hk
    have HKk := Lib.hid hk
    clear hk
    go_wp2
    go_ret
    exact ⟨by rw [HKk.out]; rfl, HK1.out⟩
  · have g1 : ((us : Int) == 0) = false := by simp; omega
    have hk := hK0.out
    rw [if_neg (by have := HUs.out; omega)] at hk
    by_cases hlone : us = 1 ∧ c1 = 1
    · have g2 : ((us : Int) == 1) = true := by simp; omega
      have g3 : ((c1 : Int) == 1) = true := by simp; omega
      rw [if_pos (by have := HUs.out; omega)] at hk
      have HKk := Lib.hid hk
      clear hk
      go_wp2
      go_ret
      exact ⟨by rw [HKk.out]; rfl, HK1.out⟩
    · rw [if_neg (by have := HUs.out; omega)] at hk
      have HKk := Lib.hid hk
      clear hk
      have hgo : ((us : Int) == 1) = false ∨ (((us : Int) == 1) = true ∧ ((c1 : Int) == 1) = false) := by
        by_cases h : us = 1
        · exact .inr ⟨by simp; omega, by simp; omega⟩
        · exact .inl (by simp; omega)
      go_upto_region 7 with fail
      go_cut [28] from 22 to 27 (fun v28 wx => v28 = .bool false ∧ W = wx)
      case first =>
        rcases hgo with g2 | ⟨g2, g3⟩
        · go_wp2
          go_meet
          exact ⟨rfl, rfl⟩
        · go_wp2
          go_meet
          exact ⟨rfl, rfl⟩
      case rest =>
        obtain ⟨rfl, rfl⟩ := hcut
        clear hgo d0' d1' e1
        go_wp2
        go_loopw [7, 6] (fun v7 v6 wr => ∃ m : Nat, v7 = .int .i64 ((m : Int) + 1) ∧ v6 = .int .i64 (sumK ls m) ∧ m ≤ 15 ∧ Hid (Arr16 G wr (cntsL ls)) ∧ Hid (Kept NoB w wr)) (fun v7 _ _ => 17 - (intOf v7).toNat)
        case atStart => exact ⟨0, rfl, rfl, by omega, HA1, HK1⟩
        case round =>
          clear HA1 HK1
          obtain ⟨m, rfl, rfl, hm, HA1, HK1⟩ := hrel
          have hsb := sumK_bd ls (by rw [← HN.out]; exact hl) m
          by_cases hlt : (m : Int) + 1 ≤ 15
          · have d := HA1.out.cell (m + 1) (by omega)
            rw [cnts_get _ _ (by omega)] at d
            have hc := List.count_le_length (l := ls) (a := ((m + 1 : Nat) : Int))
            rw [← HN.out] at hc
            have hstep : sumK ls (m + 1) = sumK ls m + ((ls.count ((m + 1 : Nat) : Int) : Nat) : Int) * kpart ((m + 1 : Nat) : Int) := rfl
            have hkd := kpart_div (m + 1) (by omega) (by omega)
            have hkb := kpart_bd ((m + 1 : Nat) : Int)
            obtain ⟨q, hq⟩ : ∃ q : Nat, q = m + 1 := ⟨_, rfl⟩
            rw [← hq] at d hc hstep hkd hkb
            obtain ⟨y, hy⟩ : ∃ y, y = ls.count (q : Int) := ⟨_, rfl⟩
            rw [← hy] at d hc hstep
            obtain ⟨kp, hkp⟩ : ∃ kp, kp = kpart (q : Int) := ⟨_, rfl⟩
            rw [← hkp] at hstep hkd hkb
            obtain ⟨x, hx⟩ : ∃ x, x = sumK ls m := ⟨_, rfl⟩
            rw [← hx] at hstep hsb ⊢
            have hq2 : (m : Int) + 1 = (q : Int) := by omega
            rw [hq2] at hlt ⊢
            have hpr := prod_bd (x := (y : Int)) (y := kp) (by omega) (by omega)
            obtain ⟨p, hp⟩ : ∃ p : Int, p = (y : Int) * kp := ⟨_, rfl⟩
            rw [← hp] at hstep hpr
            have e1 : wrap64 ((y : Int) * kp) = p := by rw [← hp]; exact IntWalk.wrap64_in _ (by omega)
            have e2 : wrap64 (x + p) = x + p := IntWalk.wrap64_in _ (by omega)
            have b1 : (q : Int) < 16 := by omega
            have b2 : q < 16 := by omega
            have HSt := Lib.hid hstep; have HQ := Lib.hid hq
            clear hstep hq hy hkp hx hp hq2
            go_upto_region 13 with fail
            go_quiet (fail)
            have HA2 := Lib.hid (HA1.out.kept ((Kept.refl NoB wr).drewN nq) (fun h => h)); have HK2 := Lib.hid (HK1.out.drewN nq)
            go_wp2
            go_roundw
            case rel => exact ⟨q, by go_num, by rw [HSt.out], by omega, HA2, HK2⟩
            case measure => simp [intOf]; omega
          · have hm15 : m = 15 := by omega
            subst hm15
            rw [sumK_all ls HS.out] at hsb ⊢
            obtain ⟨x, hx⟩ : ∃ x, x = kraftL ls := ⟨_, rfl⟩
            have hk := HKk.out
            rw [← hx] at hk hsb ⊢
            clear hx
            by_cases h1 : 32768 < x
            · rw [if_pos h1] at hk
              have HKz := Lib.hid hk
              clear hk
              go_wp2
              go_ret
              exact ⟨by rw [HKz.out]; rfl, HK1.out⟩
            · rw [if_neg h1] at hk
              by_cases h2 : x < 32768
              · rw [if_pos h2] at hk
                have HKz := Lib.hid hk
                clear hk
                go_wp2
                go_ret
                exact ⟨by rw [HKz.out]; rfl, HK1.out⟩
              · rw [if_neg h2] at hk
                have HKz := Lib.hid hk
                clear hk
                go_wp2
                go_ret
                exact ⟨by rw [HKz.out]; rfl, HK1.out⟩

def refS (ls : List Int) : Int := if kindS ls = 4 ∨ kindS ls = 5 then 3 else 0
theorem kindS_of (ls : List Int) : kindS ls = 1 ∨ kindS ls = 2 ∨ kindS ls = 3 ∨ kindS ls = 4 ∨ kindS ls = 5 := by
  unfold kindS
  split
  · exact .inl rfl
  · split
    · exact .inr (.inl rfl)
    · split
      · exact .inr (.inr (.inr (.inl rfl)))
      · split
        · exact .inr (.inr (.inr (.inr rfl)))
        · exact .inr (.inr (.inl rfl))
theorem refused_calls (a : Option Addr) (c B : Nat) (ls : List Int) (w : World) (hr : RdI w B a ls) (hs : Small 15 ls) (hl : ls.length ≤ 320) :
    Calls Tryz.prog 132 #[.slice a ls.length c] w fun e w' => e = .returned (.int .i64 (refS ls)) ∧ Kept NoB w w' := by
  have HCt := Lib.hid (kind_calls a c B ls w hr hs hl)
  have hR : ∀ k, kindS ls = k → refS ls = if k = 4 ∨ k = 5 then 3 else 0 := fun k h => by unfold refS; rw [h]
  have HR := Lib.hid hR
  obtain ⟨R, hRe⟩ : ∃ R, R = refS ls := ⟨_, rfl⟩
  rw [← hRe] at HR ⊢
  obtain ⟨n, hn⟩ : ∃ n, n = ls.length := ⟨_, rfl⟩
  rw [← hn] at HCt ⊢
  clear hr hs hR hRe hn
  rcases kindS_of ls with h | h | h | h | h
  all_goals
    rw [h] at HCt
    have hk := HR.out _ h
    simp only [Int.reduceEq, or_false, or_true, if_true, if_false, or_self, false_or, true_or] at hk
    have HK := Lib.hid hk
    clear h hk HR
    go_enter Tryz.func132, Tryz.ntmps132
    go_wp2_with fail
    refine HCt.out.mono ?_
    rintro e w1 ⟨rfl, hk⟩
    have HK1 := Lib.hid hk
    clear hk
    go_wp2
    go_ret
    exact ⟨by rw [HK.out]; rfl, HK1.out⟩
end Go.Proofs.YtfmjfgmbjdhogaaGreatDoor
