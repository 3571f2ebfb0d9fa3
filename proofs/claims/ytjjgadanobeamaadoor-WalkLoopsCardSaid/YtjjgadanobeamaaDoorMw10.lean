/-
  strings.Split at one slash; the pieces turned round.
  The keys of a map of names, sorted, as this program has them, in plain words (its numbers are the dump's: write it anew by iterp.sh for another).
  A tree of files in memory: a directory's names, in order.
  Rows of paths and nodes of a call's own.
  The document's Parts.
  name.Join; awake.
-/
import Derived.Test.YtjjgadanobeamaaDoorMw9
import Derived.Lib.OwnBridge
import Derived.Lib.SplitLaws
import Derived.Shelf.SlIter.Nil
import Derived.Shelf.SortM.Plain
import Derived.Shelf.SortM.SortNone
import Derived.Ground.GgzProg
import Derived.Ground.SlgmProg
import Derived.Test.YtjjgadanobeamaaDoorProg
import Derived.Sort.KeysCollected
namespace Go.Proofs.YtjjgadanobeamaaDoor
open Go.RowKit Go.Shelf
set_option linter.unusedVariables false
set_option linter.unusedSimpArgs false
set_option maxRecDepth 20000

theorem index_one (c : UInt8) : ∀ l : List UInt8, Lib.index l [c] = Lib.indexByte l c
  | [] => rfl
  | b :: l => by
    have ih := index_one c l
    unfold Lib.index Lib.indexByte
    rw [ih]
    by_cases h : b = c
    · subst h; simp
    · have h1 : (c == b) = false := by simpa using fun e : c = b => h e.symm
      have h2 : (b == c) = false := by simpa using h
      simp only [List.isPrefixOf, h1, h2, Bool.false_and, Bool.false_eq_true, if_false]
theorem split_pieces : ∀ l : List UInt8, Lib.splitK [47] 0 (l.count 47) l = pieces l
  | [] => rfl
  | b :: r => by
    have ih := split_pieces r
    by_cases hb : b = 47
    · subst hb
      have hc : (47 :: r : List UInt8).count 47 = r.count 47 + 1 := by simp
      have hi : Lib.index (47 :: r) [47] = 0 := by rw [index_one]; simp [Lib.indexByte]
      rw [hc]
      unfold Lib.splitK
      rw [hi, if_neg (by decide)]
      show [] :: Lib.splitK [47] 0 (r.count 47) r = pieces (47 :: r)
      rw [ih]
      rfl
    · have hc : (b :: r : List UInt8).count 47 = r.count 47 := List.count_cons_of_ne (by simpa using hb)
      have hp : pieces (b :: r) = match pieces r with | [] => [[b]] | p :: ps => (b :: p) :: ps := by
        conv => lhs; unfold pieces
        rw [if_neg hb]
        cases pieces r <;> rfl
      rw [hc, hp, ← ih]
      have h2 : (b == 47) = false := by simpa using hb
      have hi : Lib.index (b :: r) [47] = if Lib.index r [47] == -1 then -1 else Lib.index r [47] + 1 := by
        rw [index_one, index_one]
        conv => lhs; unfold Lib.indexByte
        rw [h2]; rfl
      cases r.count 47 with
      | zero => rfl
      | succ k =>
        unfold Lib.splitK
        rw [hi]
        by_cases hm : Lib.index r [47] = -1
        · have : (Lib.index r [47] == -1) = true := by simpa using hm
          rw [this]; rfl
        · have hm2 : (Lib.index r [47] == -1) = false := by simpa using hm
          have hge : 0 ≤ Lib.index r [47] := by have := Lib.indexByte_ge r 47; rw [← index_one] at this; omega
          obtain ⟨i, hi2⟩ : ∃ i : Nat, Lib.index r [47] = (i : Int) := ⟨(Lib.index r [47]).toNat, by omega⟩
          have hm3 : ((i : Int) == -1) = false := by rw [← hi2]; exact hm2
          have hm4 : ((i : Int) + 1 == -1) = false := by simp; omega
          have e1 : ((i : Int) + 1).toNat = i + 1 := by omega
          have e2 : (i : Int).toNat = i := by omega
          rw [hi2, hm3]
          simp only [Bool.false_eq_true, if_false, hm3, hm4, e1, e2, List.length_cons, List.length_nil, Nat.add_zero]
          rfl
theorem countB_slash (l : List UInt8) : Lib.countB (strB l) ⟨#[47]⟩ = l.count 47 := Lib.count_one 47 l
theorem map_strB_back : ∀ (a : List ByteArray) (b : List (List UInt8)), a.map (·.data.toList) = b → a = b.map strB := by
  rintro a b rfl
  rw [List.map_map]
  have : (strB ∘ fun s : ByteArray => s.data.toList) = id := by funext s; exact strB_of s
  rw [this, List.map_id]
theorem splitB_slash (l : List UInt8) : Lib.splitB ⟨#[47]⟩ 0 (l.count 47) (strB l) = (pieces l).map strB := by
  refine map_strB_back _ _ ?_
  rw [Lib.splitB_data]
  exact split_pieces l
theorem pieces_cnt : ∀ l : List UInt8, (pieces l).length = l.count 47 + 1
  | [] => rfl
  | b :: r => by
    have ih := pieces_cnt r
    by_cases hb : b = 47
    · subst hb
      show (pieces r).length + 1 = _
      rw [ih]; simp
    · rw [List.count_cons_of_ne (by simpa using hb), ← ih]
      conv => lhs; unfold pieces
      rw [if_neg hb]
      cases hp : pieces r with
      | nil => exact absurd hp (pieces_ne r)
      | cons p ps => rfl
theorem pieces_low : ∀ (l : List UInt8) (p : List UInt8), p ∈ pieces l → p.length ≤ l.length
  | [], p, h => by
    simp only [pieces, List.mem_singleton] at h
    subst h; simp
  | b :: r, p, h => by
    unfold pieces at h
    by_cases hb : b = 47
    · rw [if_pos hb] at h
      rcases List.mem_cons.1 h with e | e
      · subst e; simp
      · have := pieces_low r p e; simp; omega
    · rw [if_neg hb] at h
      cases hp : pieces r with
      | nil => exact absurd hp (pieces_ne r)
      | cons q qs =>
        rw [hp] at h
        rcases List.mem_cons.1 h with e | e
        · have := pieces_low r q (by rw [hp]; simp)
          subst e; simp; omega
        · have := pieces_low r p (by rw [hp]; simp [e]); simp; omega
theorem hi9 : (Tryd.prog.info? (Tryd.lays221_ren.t 9)).map (fun i => (i.zero, i.size, i.bytes)) = some (some (.string ByteArray.empty), 1, 16) := by kernel_rfl
theorem genSplit_any (l : List UInt8) (w : World) (hs : l.length ≤ 1000000) :
    Calls Tryd.prog 31 #[.string (strB l), .string ⟨#[47]⟩, .int .i64 0, .int .i64 (-1)] w fun e w' =>
      e = .returned (.slice (some ⟨w.heap.size, 0, none⟩) (pieces l).length (pieces l).length) ∧ w' = w.alloc (.cells ((pieces l).map strV).toArray 9) := by
  have hc := countB_slash l
  have hsz := strB_size l
  have hcl : l.count 47 ≤ l.length := List.count_le_length
  have hpl := pieces_cnt l
  have h := Any.strings_genSplit_core Tryd.lays221 hi9 (strB l) ⟨#[47]⟩ 0 (-1) (l.count 47 + 1) w (by omega) (by decide) (by decide)
    (fun x c hx => (Tryd.strings_Index_one x 47 _).mono (by
      rintro e w' ⟨rfl, rfl⟩
      refine ⟨?_, rfl⟩
      show _ = Ending.returned (.int .i64 (Lib.index x.data.toList [47]))
      rw [index_one]))
    ((Tryd.strings_Count_one (strB l) 47 w).mono (by
      rintro e w' ⟨rfl, rfl⟩
      refine ⟨?_, rfl⟩
      rw [hc]; rfl)) (by decide) (by decide) (by rw [hc, hsz, if_pos (by decide)]; omega)
  rw [Nat.add_sub_cancel, splitB_slash l] at h
  have e1 : ((pieces l).map strB).length = (pieces l).length := List.length_map _
  have e2 : Lib.cellsOf ((pieces l).map strB) (l.count 47 + 1) = ((pieces l).map strV).toArray := by
    rw [← hpl, ← e1, Lib.cellsOf_full, List.map_map]; rfl
  rw [e1, e2, ← hpl] at h
  exact h
set_option maxHeartbeats 1000000 in
theorem split_any (l : List UInt8) (w : World) (hs : l.length ≤ 1000000) :
    Calls Tryd.prog 23 #[.string (strB l), .string ⟨#[47]⟩] w fun e w' =>
      e = .returned (.slice (some ⟨w.heap.size, 0, none⟩) (pieces l).length (pieces l).length) ∧ w' = w.alloc (.cells ((pieces l).map strV).toArray 9) := by
  have H := Lib.hid (genSplit_any l w hs)
  go_enter Tryd.func23, Tryd.ntmps23
  go_wp2_with (go_at_call 31; refine H.out.mono ?_; rintro e w1 ⟨rfl, rfl⟩)
  go_ret
  exact ⟨rfl, rfl⟩
theorem turned_any (l : List UInt8) (w w1 : World) (hw : w1 = w.alloc (.cells ((pieces l).map strV).toArray 9)) (hs : l.length ≤ 1000000) :
    Calls Tryd.prog 24 #[.slice (some ⟨w.heap.size, 0, none⟩) (pieces l).length (pieces l).length] w1 fun e w' => e = .returned (.tuple #[]) ∧
      w'.ownsRow 0 9 1 (.slice (some ⟨w.heap.size, 0, none⟩) (pieces l).length (pieces l).length) (pieces l).length ((pieces l).reverse.map strV) ∧ Kept NoB w w' := by
  have hpl := pieces_cnt l
  have hcl : l.count 47 ≤ l.length := List.count_le_length
  have ho : w1.ownsRow 0 9 1 (.slice (some ⟨w.heap.size, 0, none⟩) (pieces l).length (pieces l).length) (pieces l).length ((pieces l).map strV) := by
    rw [hw]
    have := World.ownsRow_lit (e := 9) (base := 0) (size := 1) w ((pieces l).map strV).toArray (pieces l).length (Nat.zero_le _) (by unfold maxLen; omega) (by simp)
    simpa using this
  obtain ⟨g, cap, h1, h2, h3, h4, h5, h6, h7⟩ := Lib.holds_of_ownsRow (enc := encStr) (zs := pieces l) ho (by simp)
  simp at h1
  obtain ⟨rfl, rfl⟩ := h1
  refine (Tryd.slices_Reverse_string w.heap.size 0 (pieces l).length (pieces l) w1 h7 (by omega)).mono ?_
  rintro e w' ⟨rfl, n, rfl⟩
  refine ⟨rfl, ?_, ?_⟩
  · have := Lib.ownsRow_putRow (enc := encStr) (q := n) (k := (pieces l).length) (zs := pieces l) (ys := (pieces l).reverse) ho (by simp) (Nat.le_refl _)
    rw [List.take_of_length_le (by simp)] at this
    exact this
  · have hb : Below w.heap.size w w1 := by rw [hw]; exact ((Kept.refl NoB w).alloc _).belowNo (Below.refl _ _)
    exact (Kept.refl NoB w).ofBelow (Lib.below_putRow hb (Nat.le_refl _))
end Go.Proofs.YtjjgadanobeamaaDoor

namespace Go.Proofs
open Go.Shelf
def Tryd.keys42_ren : Go.Shelf.Ren := ⟨fun | 7 => 42 | 10 => 55 | n => n, fun | 23 => 34 | 26 => 9 | 3 => 3 | 28 => 82 | 0 => 0 | 27 => 81 | 33 => 63 | 4 => 4 | n => n, fun | n => n⟩
theorem Tryd.keys42 : Go.Proofs.SlLaysZ.n7 Tryd.prog Tryd.keys42_ren := {
  mixed := by kernel_rfl
  f7 := ⟨Tryd.f42.name, by decide, Tryd.func42.trans (congrArg some (by kernel_rfl))⟩
  f10 := ⟨Tryd.f55.name, by decide, Tryd.func55.trans (congrArg some (by kernel_rfl))⟩
  t0 := Tryd.underlying0
  a0 := Tryd.isAgg0
  z0 := Tryd.sizeOf0
  v0 := Tryd.zeroValue0
  t4 := Tryd.underlying4
  a4 := Tryd.isAgg4
  z4 := Tryd.sizeOf4
  v4 := Tryd.zeroValue4
  t23 := Tryd.underlying34
  a23 := Tryd.isAgg34
  z23 := Tryd.sizeOf34
  v23 := Tryd.zeroValue34
  t26 := Tryd.underlying9
  a26 := Tryd.isAgg9
  z26 := Tryd.sizeOf9
  v26 := Tryd.zeroValue9
  t27 := Tryd.underlying81
  a27 := Tryd.isAgg81
  z27 := Tryd.sizeOf81
  v27 := Tryd.zeroValue81
  t28 := Tryd.underlying82
  a28 := Tryd.isAgg82
  z28 := Tryd.sizeOf82
  v28 := Tryd.zeroValue82
  t33 := Tryd.underlying63
  a33 := Tryd.isAgg63
  z33 := Tryd.sizeOf63
  v33 := Tryd.zeroValue63 }
def Tryd.sorted41_ren : Go.Shelf.Ren := ⟨fun | 6 => 41 | 8 => 53 | 9 => 54 | 11 => 62 | 13 => 64 | 12 => 63 | 23 => 76 | 24 => 77 | 14 => 67 | 15 => 68 | 16 => 69 | 17 => 70 | 18 => 71 | 19 => 72 | 20 => 73 | 21 => 74 | 22 => 75 | 25 => 80 | 26 => 81 | 27 => 82 | 28 => 83 | 29 => 84 | 30 => 85 | 31 => 86 | n => n, fun | 26 => 9 | 28 => 82 | 24 => 51 | 0 => 0 | 3 => 3 | 37 => 78 | 48 => 91 | 50 => 47 | 4 => 4 | 40 => 119 | 39 => 118 | 45 => 45 | 5 => 5 | 9 => 9 | 51 => 129 | 55 => 133 | 57 => 135 | 58 => 136 | 33 => 63 | n => n, fun | n => n⟩
theorem Tryd.sorted41 : Go.Proofs.SlLaysZ.n6 Tryd.prog Tryd.sorted41_ren := {
  mixed := by kernel_rfl
  f6 := ⟨Tryd.f41.name, by decide, Tryd.func41.trans (congrArg some (by kernel_rfl))⟩
  f8 := ⟨Tryd.f53.name, by decide, Tryd.func53.trans (congrArg some (by kernel_rfl))⟩
  f11 := ⟨Tryd.f62.name, by decide, Tryd.func62.trans (congrArg some (by kernel_rfl))⟩
  t0 := Tryd.underlying0
  a0 := Tryd.isAgg0
  z0 := Tryd.sizeOf0
  v0 := Tryd.zeroValue0
  t24 := Tryd.underlying51
  a24 := Tryd.isAgg51
  z24 := Tryd.sizeOf51
  v24 := Tryd.zeroValue51
  t26 := Tryd.underlying9
  a26 := Tryd.isAgg9
  z26 := Tryd.sizeOf9
  v26 := Tryd.zeroValue9
  t28 := Tryd.underlying82
  a28 := Tryd.isAgg82
  z28 := Tryd.sizeOf82
  v28 := Tryd.zeroValue82
  i26 := by kernel_rfl }
def Tryd.sort54_ren : Go.Shelf.Ren := ⟨fun | 6 => 54 | 8 => 64 | 9 => 63 | 19 => 76 | 20 => 77 | 21 => 67 | 22 => 68 | 23 => 69 | 24 => 70 | 25 => 71 | 26 => 72 | 27 => 73 | 28 => 74 | 29 => 75 | 36 => 80 | 31 => 81 | 32 => 82 | 37 => 83 | 38 => 84 | 39 => 85 | 41 => 86 | n => n, fun | 27 => 51 | 29 => 9 | 3 => 3 | 32 => 78 | 26 => 51 | 0 => 0 | 44 => 91 | 46 => 47 | 4 => 4 | 36 => 119 | 35 => 118 | 41 => 45 | 5 => 5 | 9 => 9 | 53 => 129 | 57 => 133 | 63 => 135 | 64 => 136 | n => n, fun | n => n⟩
theorem Tryd.sort54 : Go.Proofs.SlLaysM.n6 Tryd.prog Tryd.sort54_ren := {
  mixed := by kernel_rfl
  f6 := ⟨Tryd.f54.name, by decide, Tryd.func54.trans (congrArg some (by kernel_rfl))⟩
  f8 := Tryd.func64.trans (congrArg some (by kernel_rfl))
  f9 := ⟨Tryd.f63.name, by decide, Tryd.func63.trans (congrArg some (by kernel_rfl))⟩
  f19 := Tryd.func76.trans (congrArg some (by kernel_rfl))
  f20 := Tryd.func77.trans (congrArg some (by kernel_rfl))
  f21 := ⟨Tryd.f67.name, by decide, Tryd.func67.trans (congrArg some (by kernel_rfl))⟩
  f22 := ⟨Tryd.f68.name, by decide, Tryd.func68.trans (congrArg some (by kernel_rfl))⟩
  f23 := ⟨Tryd.f69.name, by decide, Tryd.func69.trans (congrArg some (by kernel_rfl))⟩
  f24 := ⟨Tryd.f70.name, by decide, Tryd.func70.trans (congrArg some (by kernel_rfl))⟩
  f25 := ⟨Tryd.f71.name, by decide, Tryd.func71.trans (congrArg some (by kernel_rfl))⟩
  f26 := ⟨Tryd.f72.name, by decide, Tryd.func72.trans (congrArg some (by kernel_rfl))⟩
  f27 := ⟨Tryd.f73.name, by decide, Tryd.func73.trans (congrArg some (by kernel_rfl))⟩
  f28 := ⟨Tryd.f74.name, by decide, Tryd.func74.trans (congrArg some (by kernel_rfl))⟩
  f29 := ⟨Tryd.f75.name, by decide, Tryd.func75.trans (congrArg some (by kernel_rfl))⟩
  f31 := Tryd.func81.trans (congrArg some (by kernel_rfl))
  f32 := Tryd.func82.trans (congrArg some (by kernel_rfl))
  f36 := ⟨Tryd.f80.name, by decide, Tryd.func80.trans (congrArg some (by kernel_rfl))⟩
  f37 := ⟨Tryd.f83.name, by decide, Tryd.func83.trans (congrArg some (by kernel_rfl))⟩
  f38 := ⟨Tryd.f84.name, by decide, Tryd.func84.trans (congrArg some (by kernel_rfl))⟩
  f39 := ⟨Tryd.f85.name, by decide, Tryd.func85.trans (congrArg some (by kernel_rfl))⟩
  f41 := ⟨Tryd.f86.name, by decide, Tryd.func86.trans (congrArg some (by kernel_rfl))⟩
  t0 := Tryd.underlying0
  a0 := Tryd.isAgg0
  z0 := Tryd.sizeOf0
  v0 := Tryd.zeroValue0
  t3 := Tryd.underlying3
  a3 := Tryd.isAgg3
  z3 := Tryd.sizeOf3
  v3 := Tryd.zeroValue3
  t4 := Tryd.underlying4
  a4 := Tryd.isAgg4
  z4 := Tryd.sizeOf4
  v4 := Tryd.zeroValue4
  t5 := Tryd.underlying5
  a5 := Tryd.isAgg5
  z5 := Tryd.sizeOf5
  v5 := Tryd.zeroValue5
  t9 := Tryd.underlying9
  a9 := Tryd.isAgg9
  z9 := Tryd.sizeOf9
  v9 := Tryd.zeroValue9
  t26 := Tryd.underlying51
  a26 := Tryd.isAgg51
  z26 := Tryd.sizeOf51
  v26 := Tryd.zeroValue51
  t27 := Tryd.underlying51
  a27 := Tryd.isAgg51
  z27 := Tryd.sizeOf51
  v27 := Tryd.zeroValue51
  t29 := Tryd.underlying9
  a29 := Tryd.isAgg9
  z29 := Tryd.sizeOf9
  v29 := Tryd.zeroValue9
  t32 := Tryd.underlying78
  a32 := Tryd.isAgg78
  z32 := Tryd.sizeOf78
  v32 := Tryd.zeroValue78
  t35 := Tryd.underlying118
  a35 := Tryd.isAgg118
  z35 := Tryd.sizeOf118
  v35 := Tryd.zeroValue118
  t36 := Tryd.underlying119
  a36 := Tryd.isAgg119
  z36 := Tryd.sizeOf119
  v36 := Tryd.zeroValue119
  t41 := Tryd.underlying45
  a41 := Tryd.isAgg45
  z41 := Tryd.sizeOf45
  v41 := Tryd.zeroValue45
  t44 := Tryd.underlying91
  a44 := Tryd.isAgg91
  z44 := Tryd.sizeOf91
  v44 := Tryd.zeroValue91
  t46 := Tryd.underlying47
  a46 := Tryd.isAgg47
  z46 := Tryd.sizeOf47
  v46 := Tryd.zeroValue47
  t53 := Tryd.underlying129
  a53 := Tryd.isAgg129
  z53 := Tryd.sizeOf129
  v53 := Tryd.zeroValue129
  t57 := Tryd.underlying133
  a57 := Tryd.isAgg133
  z57 := Tryd.sizeOf133
  v57 := Tryd.zeroValue133
  t63 := Tryd.underlying135
  a63 := Tryd.isAgg135
  z63 := Tryd.sizeOf135
  v63 := Tryd.zeroValue135
  t64 := Tryd.underlying136
  a64 := Tryd.isAgg136
  z64 := Tryd.sizeOf136
  v64 := Tryd.zeroValue136 }
open Go.RowKit Go.Maps Go.Sort
theorem Tryd.sorts41 (m : Nat) : AnyZ.SortsIn Tryd.prog Tryd.sorted41_ren Fence.wide m :=
  ⟨fun blk off cap ss W hH hblk hsz => callsIn_wide.2 (AnyM.slices_Sort_string Tryd.sort54 blk off cap ss W hH hblk hsz),
   fun p cap W => callsIn_wide.2 (AnyM.slices_Sort_string_none Tryd.sort54 p cap W)⟩

theorem Tryd.keysIn (mb : Option Nat) (W : World) : CallsIn Fence.wide 5 Tryd.prog 42 #[.map mb] W fun e w' => e = .returned (.func (.func 55) #[] #[.pointer (some ⟨W.heap.size, 0, none⟩)]) ∧ w' = W.alloc (.cells #[.map mb] 34) :=
  AnyZ.keys_in Tryd.keys42 Fence.wide 5 trivial rfl mb W

set_option maxHeartbeats 1000000 in
theorem Tryd.sortedKeys {H : Type} (b nn : Nat) (D0 : DataW H) (R : Value → Option (DataW H × List MemPlace)) (w : World) (hown : w.ownsMap Tryd.prog 9 R b nn D0) (hmax : Maps.size D0 ≤ maxLen) (hbytes : Maps.size D0 * 16 ≤ 140737488355328) :
    CallsIn Fence.wide 5 Tryd.prog 41 #[.func (.func 55) #[] #[.pointer (some ⟨w.heap.size, 0, none⟩)]] (w.alloc (.cells #[.map (some b)] 34)) fun e w' => ∃ (v : Value) (ss : List (List UInt8)), e = .returned v ∧ ss.Perm (strKeys D0) ∧
      w'.ownsRow (w.alloc (.cells #[.map (some b)] 34)).heap.size 9 1 v ss.length ((ss.mergeSort (fun x y => decide (x ≤ y))).map encStr) ∧ (v = .slice none 0 0 ↔ ss = []) ∧ Below (w.alloc (.cells #[.map (some b)] 34)).heap.size (w.alloc (.cells #[.map (some b)] 34)) w' := by
  have hbl := hown.lt
  have hseq : SeqGives Fence.wide 2 Tryd.prog 55 #[.pointer (some ⟨w.heap.size, 0, none⟩)] encStr (fun ss => ss.Perm (strKeys D0)) (Maps.size D0) (w.alloc (.cells #[.map (some b)] 34)) :=
    AnyZ.keys_gives (ρ := Tryd.keys42_ren) { Tryd.keys42 with } Fence.wide _ trivial rfl (by omega) w.heap.size b nn D0 _ (by simp) (by simp) (by
      obtain ⟨es, clock, hb, Ft, hs, hD⟩ := hown
      exact ⟨es, clock, (Below.heap_alloc _ _ b hbl).trans hb, Ft, hs, hD⟩)
  exact AnyZ.sorted_in Tryd.sorted41 Fence.wide 5 trivial trivial trivial trivial rfl (by omega) (Tryd.sorts41 _) (enters_of Tryd.func54 (by kernel_rfl) rfl) 55 #[.pointer (some ⟨w.heap.size, 0, none⟩)] trivial (enters_of Tryd.func55 (by kernel_rfl) rfl) _ _ hmax hbytes _ hseq

set_option maxHeartbeats 1000000 in
theorem Tryd.sortedKeysNil (w : World) :
    CallsIn Fence.wide 5 Tryd.prog 41 #[.func (.func 55) #[] #[.pointer (some ⟨w.heap.size, 0, none⟩)]] (w.alloc (.cells #[.map none] 34)) fun e w' => ∃ (v : Value) (ss : List (List UInt8)), e = .returned v ∧ ss = [] ∧
      w'.ownsRow (w.alloc (.cells #[.map none] 34)).heap.size 9 1 v ss.length ((ss.mergeSort (fun x y => decide (x ≤ y))).map encStr) ∧ (v = .slice none 0 0 ↔ ss = []) ∧ Below (w.alloc (.cells #[.map none] 34)).heap.size (w.alloc (.cells #[.map none] 34)) w' := by
  have hseq : SeqGives Fence.wide 2 Tryd.prog 55 #[.pointer (some ⟨w.heap.size, 0, none⟩)] encStr (fun ss : List (List UInt8) => ss = []) 0 (w.alloc (.cells #[.map none] 34)) :=
    AnyZ.keys_gives_nil (ρ := Tryd.keys42_ren) { Tryd.keys42 with } Fence.wide _ trivial rfl w.heap.size _ (by simp) (by simp)
  exact AnyZ.sorted_in Tryd.sorted41 Fence.wide 5 trivial trivial trivial trivial rfl (by omega) (Tryd.sorts41 _) (enters_of Tryd.func54 (by kernel_rfl) rfl) 55 #[.pointer (some ⟨w.heap.size, 0, none⟩)] trivial (enters_of Tryd.func55 (by kernel_rfl) rfl) _ 0 (Nat.zero_le _) (by omega) _ hseq



end Go.Proofs

namespace Go.Proofs.YtjjgadanobeamaaDoor
open Go.RowKit
open Go.Proofs (encStr)
set_option linter.unusedVariables false
set_option linter.unusedSimpArgs false
set_option maxRecDepth 20000

theorem keys_perm {w : World} {mb : Nat} {l : Nms} (hl : OkK l) {D : Dt} (ho : w.ownsMap Tryd.prog 9 (plainElem Tryd.prog 3) mb l.length D) (hh : ∀ x, Maps.has D x = (nmF l x).isSome) : (l.map Prod.fst).Perm (strKeys D) := by
  refine Collected.perm (left := fun _ => false) ⟨?_, fun x => ?_⟩ ho law_str Tryd.underlying9 (fun _ => rfl)
  · exact List.pairwise_map.2 (hl.imp (fun {p q} h => fun (e : p.1 = q.1) => lt_irr q.1 (by rw [e] at h; exact h)))
  · rw [hh]
    simp only [nmF, Option.isSome_map, and_true]
    constructor
    · intro h
      obtain ⟨p, hp, rfl⟩ := List.mem_map.1 h
      rw [(getK_iff hl).2 (show (p.1, p.2) ∈ l from hp)]; rfl
    · intro h
      obtain ⟨i, hi⟩ := Option.isSome_iff_exists.1 h
      exact List.mem_map.2 ⟨_, getK_mem hi, rfl⟩
theorem keys_sorted {l : Nms} (hl : OkK l) {ss : List (List UInt8)} (hp : ss.Perm (l.map Prod.fst)) : ss.mergeSort leB = l.map Prod.fst := by
  have tr : ∀ a b c : List UInt8, leB a b = true → leB b c = true → leB a c = true := fun a b c h1 h2 => by simp only [leB, decide_eq_true_eq] at *; exact List.le_trans h1 h2
  have tot : ∀ a b : List UInt8, (leB a b || leB b a) = true := fun a b => by simp only [leB, Bool.or_eq_true, decide_eq_true_eq]; exact List.le_total a b
  refine List.Perm.eq_of_pairwise (le := fun a b => leB a b = true) (fun a b _ _ h1 h2 => ?_) (List.pairwise_mergeSort tr tot ss) ?_ ((List.mergeSort_perm ss leB).trans hp)
  · simp only [leB, decide_eq_true_eq] at h1 h2
    exact List.le_antisymm h1 h2
  · refine List.pairwise_map.2 (hl.imp (fun {p q} h => ?_))
    simp only [leB, decide_eq_true_eq]
    exact List.le_of_lt h
def nmC (l : Nms) : List Value := l.map (fun p => .string (strB p.1))
def NmsP (w : World) (l : Nms) (v : Value) (w' : World) : Prop := w'.ownsRow 0 9 1 v l.length (nmC l) ∧ (∀ k, v.ownBlock = some k → w.heap.size ≤ k) ∧ Kept NoB w w'
theorem below_keptNo {w w' : World} (h : Below w.heap.size w w') : Kept NoB w w' := (Kept.refl NoB w).ofBelow h
set_option maxHeartbeats 2000000 in
theorem names_any {S : Nat → Prop} {w : World} {f : Nat} {T : FsP} (h : FsSt S w f T) (dir : Int) (hdir : -9223372036854775808 ≤ dir ∧ dir ≤ 9223372036854775807) (hclk : T.clock ≤ 1000000000) :
    Calls Tryd.prog 32 #[.pointer (some ⟨f, 0, none⟩), .int .i64 dir] w fun e w' => ∃ ao c, e = .returned (.slice ao (namesP T dir).length c) ∧ Hid (NmsP w (namesP T dir) (.slice ao (namesP T dir).length c) w') := by
  obtain ⟨L, B, mb, h⟩ := h
  obtain ⟨c0, c1, c2, c3, c4⟩ := h.cells
  have HT := Lib.hid h.tab
  have HK := Lib.hid (fun (o : Option Nat) (W : World) => (callsIn_wide (n := 5)).1 (Tryd.keysIn o W))
  cases hn : T.nd dir with
  | none =>
    have hB := h.gone hn
    have hp : namesP T dir = [] := by unfold namesP; rw [hn]
    rw [hp]
    clear h hp hn
    go_enter Tryd.func32, Tryd.ntmps32
    go_wp2_with (at_lookup; refine wpList_nodes_ok rfl _ _ rfl HT.out rfl rfl hdir ?_; rw [hB, ptrV_none])
    go_ret
    exact ⟨none, 0, rfl, Lib.hid ⟨World.ownsRow_nil _ _ _ _, fun k e => by simp [Value.ownBlock] at e, Kept.refl _ _⟩⟩
  | some n =>
    obtain ⟨b, m, a, c, qs, hB, hN⟩ := h.at hn
    have hp : namesP T dir = n.names := by unfold namesP; rw [hn]
    rw [hp]
    have k11 := hN.cell 11
    simp [ndC, nvC] at k11
    have okn := (h.ok.node dir n hn)
    by_cases h6 : n.v.kind = 6
    · obtain ⟨mb2, rfl, _, hM⟩ := hN.dir h6
      obtain ⟨D, ho, hsz, hh, ha⟩ := hM
      have hle : n.names.length ≤ 1000000000 := by have := okn.few; omega
      have HS : Hid (Calls Tryd.prog 41 #[.func (.func 55) #[] #[.pointer (some ⟨w.heap.size, 0, none⟩)]] (w.alloc (.cells #[.map (some mb2)] 34)) fun e w' => ∃ ao c, e = .returned (.slice ao n.names.length c) ∧ Hid (NmsP w n.names (.slice ao n.names.length c) w')) := Lib.hid (by
        have := (callsIn_wide (n := 5)).1 (Tryd.sortedKeys mb2 n.names.length D (plainElem Tryd.prog 3) w ho (by rw [hsz]; unfold maxLen; omega) (by rw [hsz]; omega))
        refine this.mono ?_
        rintro e w' ⟨v, ss, rfl, hperm, hrow, hnil, hb⟩
        have hp2 := hperm.trans (keys_perm okn.sorted ho hh).symm
        have hs : ss.mergeSort (fun x y => decide (x ≤ y)) = n.names.map Prod.fst := keys_sorted okn.sorted hp2
        have hl : ss.length = n.names.length := by rw [hp2.length_eq, List.length_map]
        rw [hs, hl] at hrow
        have hc : (n.names.map Prod.fst).map encStr = nmC n.names := by
          unfold nmC; rw [List.map_map]; rfl
        rw [hc] at hrow
        obtain ⟨ao, c, rfl⟩ := row_shape hrow
        refine ⟨ao, c, rfl, Lib.hid ⟨ownsRow_base_a hrow (Nat.zero_le _), fun k hk => ?_, ((Kept.refl NoB w).alloc _).trans (below_keptNo hb)⟩⟩
        have := (hrow.lt k hk).1
        simp at this
        omega)
      clear h hp hn hN h6 ho hsz hh ha okn
      go_enter Tryd.func32, Tryd.ntmps32
      go_wp2_with (first | (at_lookup; refine wpList_nodes_ok rfl _ _ rfl HT.out rfl rfl hdir ?_; rw [hB, ptrV_some]) | (go_at_call 42; refine (HK.out _ _).mono ?_; rintro e w' ⟨rfl, rfl⟩) | (go_at_call 41; refine HS.out.mono ?_; rintro e w' ⟨ao, c, rfl, hq⟩))
      go_ret
      exact ⟨ao, c, rfl, hq⟩
    · have hm := hN.plain h6
      subst hm
      have hnn := okn.file h6
      rw [hnn]
      have HS : Hid (Calls Tryd.prog 41 #[.func (.func 55) #[] #[.pointer (some ⟨w.heap.size, 0, none⟩)]] (w.alloc (.cells #[.map none] 34)) fun e w' => e = .returned (.slice none 0 0) ∧ Hid (NmsP w [] (.slice none 0 0) w')) := Lib.hid (by
        have := (callsIn_wide (n := 5)).1 (Tryd.sortedKeysNil w)
        refine this.mono ?_
        rintro e w' ⟨v, ss, rfl, hss, hrow, hnil, hb⟩
        rw [hnil.2 hss]
        exact ⟨rfl, Lib.hid ⟨World.ownsRow_nil _ _ _ _, fun k e => by simp [Value.ownBlock] at e, ((Kept.refl NoB w).alloc _).trans (below_keptNo hb)⟩⟩)
      clear h hp hn hN h6 okn hnn
      go_enter Tryd.func32, Tryd.ntmps32
      go_wp2_with (first | (at_lookup; refine wpList_nodes_ok rfl _ _ rfl HT.out rfl rfl hdir ?_; rw [hB, ptrV_some]) | (go_at_call 42; refine (HK.out _ _).mono ?_; rintro e w' ⟨rfl, rfl⟩) | (go_at_call 41; refine HS.out.mono ?_; rintro e w' ⟨rfl, hq⟩))
      go_ret
      exact ⟨none, 0, rfl, hq⟩
end Go.Proofs.YtjjgadanobeamaaDoor

namespace Go.Proofs.YtjjgadanobeamaaDoor
open Go.RowKit
set_option linter.unusedVariables false
set_option linter.unusedSimpArgs false
set_option maxRecDepth 20000

theorem infoSeen : (Tryd.prog.info? 61).map (fun i => (i.zero, i.size, i.bytes)) = some (some (.agg #[.string ⟨#[]⟩, .int .i64 0]), 2, 24) := by kernel_rfl
def snC (l : List SeenP) : List Value := l.flatMap fun q => [.string (strB q.1), .int .i64 q.2]
theorem snC_at : ∀ (l : List SeenP) (i : Nat) (h : i < l.length), (snC l)[i * 2]? = some (.string (strB l[i].1)) ∧ (snC l)[i * 2 + 1]? = some (.int .i64 l[i].2) := by
  intro qs
  induction qs with
  | nil => intro i hi; simp at hi
  | cons p r ih =>
    intro i hi
    have e : snC (p :: r) = .string (strB p.1) :: .int .i64 p.2 :: snC r := by simp [snC]
    rw [e]
    cases i with
    | zero => exact ⟨rfl, rfl⟩
    | succ i =>
      have hi' : i < r.length := by simpa using hi
      obtain ⟨h1, h2⟩ := ih i hi'
      rw [show (i + 1) * 2 = i * 2 + 1 + 1 by omega]
      refine ⟨?_, ?_⟩
      · simpa using h1
      · rw [List.getElem?_cons_succ, List.getElem?_cons_succ]; simpa using h2
structure SnSt (w0 w : World) (a : Option Addr) (l c : Nat) (qs : List SeenP) : Prop where
  len : l = qs.length
  own : w.ownsRow 0 61 2 (.slice a l c) l (snC qs)
  kept : Kept NoB w0 w
  fresh : ∀ k, (Value.slice a l c).ownBlock = some k → w0.heap.size ≤ k
theorem SnSt.start {w0 w : World} (hk : Kept NoB w0 w) : SnSt w0 w none 0 0 [] := ⟨rfl, World.ownsRow_nil _ _ _ _, hk, (fun k hk => by simp [Value.ownBlock] at hk)⟩
theorem SnSt.on {w0 w w' : World} {a : Option Addr} {l c : Nat} {qs : List SeenP} (h : SnSt w0 w a l c qs) (hk : Kept NoB w w') : SnSt w0 w' a l c qs :=
  ⟨h.len, hk.row h.own (fun _ _ h => h), h.kept.trans hk, h.fresh⟩
theorem SnSt.low {w0 w : World} {a : Option Addr} {l c : Nat} {qs : List SeenP} (h : SnSt w0 w a l c qs) : ∀ k, (Value.slice a l c).ownBlock = some k → k < w.heap.size := by
  intro k hk
  rcases h.own.2 with ⟨hv, hz⟩ | ⟨g, cc, cur, hv, _, hg, _⟩
  · simp at hv
    obtain ⟨rfl, _⟩ := hv
    simp [Value.ownBlock] at hk
  · simp at hv
    obtain ⟨rfl, _⟩ := hv
    simp [Value.ownBlock] at hk
    subst hk
    first | exact (Array.getElem?_eq_some_iff.1 hg).1 | assumption
theorem SnSt.at {w0 w : World} {a : Option Addr} {l c : Nat} {qs : List SeenP} (h : SnSt w0 w a l c qs) (i : Nat) (hi : i < qs.length) :
    ∃ g, a = some ⟨g, 0, none⟩ ∧ w.cell? ⟨g, i * 2, none⟩ = some (.string (strB qs[i].1)) ∧ w.cell? ⟨g, i * 2 + 1, none⟩ = some (.int .i64 qs[i].2) := by
  have hl := h.len
  rcases h.own.2 with ⟨_, hz⟩ | ⟨g, cc, cur, hv, _⟩
  · omega
  · simp at hv
    obtain ⟨rfl, rfl⟩ := hv
    obtain ⟨h1, h2⟩ := snC_at qs i hi
    exact ⟨g, rfl, by rw [← h1]; exact h.own.cellAt (i * 2) (by omega), by rw [← h2]; exact h.own.cellAt (i * 2 + 1) (by omega)⟩
theorem wpList_seen {ops : Array Oper} {rest : List Oper} {o : Oper} {a : Act} {w : World} {Q : Exit → Act → World → Prop} (hgd : o.guard = none) (s x : Operand)
    (ho : o.op = .call { callee := .builtin .append, args := #[s, x], argTypes := #[57, 57] })
    {w0 : World} {a1 : Option Addr} {l1 c1 : Nat} {qs : List SeenP} (hS : SnSt w0 w a1 l1 c1 qs) (hs : a.eval s = .slice a1 l1 c1)
    (g cx : Nat) (q : SeenP) (hx : a.eval x = .slice (some ⟨g, 0, none⟩) 1 cx) (h0 : w.cell? ⟨g, 0, none⟩ = some (.string (strB q.1))) (h1 : w.cell? ⟨g, 1, none⟩ = some (.int .i64 q.2)) (hn : l1 ≤ 1000000000)
    (h : ∀ a2 c2 w', SnSt w0 w' a2 (l1 + 1) c2 (qs ++ [q]) → Kept (OwnB (Value.slice a1 l1 c1)) w w' → (∀ k, (Value.slice a2 (l1 + 1) c2).ownBlock = some k → (Value.slice a1 l1 c1).ownBlock = some k ∨ w.heap.size ≤ k) → wpList Tryd.prog ops Q rest (a.put o.dst (.slice a2 (l1 + 1) c2)) w') : wpList Tryd.prog ops Q (o :: rest) a w := by
  obtain ⟨i0, hi, hz0, hz1, hz2⟩ := info_parts infoSeen
  refine wpList_app w hgd s x 57 ho 61 i0 (.agg #[.string ⟨#[]⟩, .int .i64 0]) 2 24 (by kernel_rfl) hi hz0 hz1 hz2 rfl (by decide) _ l1 (snC qs) hs hS.own ⟨g, 0, none⟩ 1 cx [.string (strB q.1), .int .i64 q.2] hx rfl ?_ (fun u hu => by simp at hu; rcases hu with rfl | rfl <;> rfl) (by unfold maxLen; omega) (by omega) ?_
  · intro j u hu
    rw [addr_add, Nat.zero_add]
    match j with
    | 0 => simp at hu; subst hu; exact h0
    | 1 => simp at hu; subst hu; exact h1
    | j + 2 => simp at hu
  intro v' w' h2 h3 h4
  obtain ⟨a2, c2, rfl⟩ := row_shape h2
  refine h _ _ _ ⟨by rw [List.length_append, hS.len]; rfl, by simpa [snC] using h2, hS.kept.grown h3 (fun k hk e => by have := hS.fresh k e; omega), ?_⟩ ((Kept.refl _ w).grown h3 (fun k hk e => e)) h4
  intro k hk
  rcases h4 k hk with h | h
  · exact hS.fresh k h
  · have := hS.kept.size; omega
end Go.Proofs.YtjjgadanobeamaaDoor

namespace Go.Proofs.YtjjgadanobeamaaDoor
open Go.RowKit Go.Shelf
set_option linter.unusedVariables false
set_option linter.unusedSimpArgs false

def RPartsP (w : World) (l : List UInt8) (e : Ending) (w' : World) : Prop :=
  (partsOf l = none ∧ e = .returned (.tuple #[.slice none 0 0, .int .i64 9]) ∧ Kept NoB w w') ∨
  (∃ ps a c, partsOf l = some ps ∧ e = .returned (.tuple #[.slice a ps.length c, .int .i64 0]) ∧ StrSt w w' a ps.length c ps)
theorem RPartsP.no {w w' : World} {l : List UInt8} {e : Ending} (h : partsOf l = none) (he : e = .returned (.tuple #[.slice none 0 0, .int .i64 9])) (hk : Kept NoB w w') : RPartsP w l e w' := .inl ⟨h, he, hk⟩
end Go.Proofs.YtjjgadanobeamaaDoor

namespace Go.Proofs.YtjjgadanobeamaaDoor
open Go.RowKit Go.Shelf
set_option linter.unusedVariables false
set_option linter.unusedSimpArgs false

def joinB (ps : List (List UInt8)) : List UInt8 := Lib.join ps [47]
theorem map_back (ps : List (List UInt8)) : (ps.map strB).map (·.data.toList) = ps := by
  rw [List.map_map]
  have : ((fun s : ByteArray => s.data.toList) ∘ strB) = id := by funext p; rfl
  rw [this, List.map_id]
theorem sjoin_any (ao : Option Addr) (cap B : Nat) (ps : List (List UInt8)) (w : World) (hr : RdS w B ao ps) (hc : ps.length ≤ cap) (hl : ps.length ≤ 1000000) (hj : (joinB ps).length ≤ 1000000000) :
    Calls Tryd.prog 43 #[.slice ao ps.length cap, .string ⟨#[47]⟩] w fun e w' => e = .returned (.string (strB (joinB ps))) ∧ Below w.heap.size w w' := by
  cases ps with
  | nil =>
    refine (Tryd.strings_Join_none ao cap ⟨#[47]⟩ w).mono ?_
    rintro e w' ⟨rfl, rfl⟩
    exact ⟨rfl, Below.refl _ _⟩
  | cons p q =>
    obtain ⟨g, off, rfl, hg, h0⟩ := hr 0 (by simp)
    have hx : ∀ (j : Nat) x, ((p :: q).map strB)[j]? = some x → w.cell? ⟨g, off + j, none⟩ = some (.string x) := by
      intro j x hjx
      have hjl : j < (p :: q).length := by
        have := (List.getElem?_eq_some_iff.1 hjx).1
        simpa using this
      obtain ⟨g2, off2, h1, _, h2⟩ := hr j hjl
      cases h1
      rw [h2]
      rw [List.getElem?_map, List.getElem?_eq_getElem hjl] at hjx
      simp at hjx
      rw [← hjx, List.getD_eq_getElem?_getD, List.getElem?_eq_getElem hjl]
      rfl
    have hjj : Lib.join (((p :: q).map strB).map (·.data.toList)) (⟨#[47]⟩ : ByteArray).data.toList = joinB (p :: q) := by rw [map_back]; rfl
    have hlen : ((p :: q).map strB).length = (p :: q).length := List.length_map _
    have := Tryd.strings_Join g off cap ((p :: q).map strB) ⟨#[47]⟩ w hx (World.block_lt_of_cell? w _ h0) (by rw [hlen]; omega) (by rw [hlen]; exact hc) (by rw [hjj]; omega)
    rw [hjj, hlen] at this
    exact this
set_option maxHeartbeats 1000000 in
theorem njoin_any (ao : Option Addr) (cap B : Nat) (ps : List (List UInt8)) (w : World) (hr : RdS w B ao ps) (hc : ps.length ≤ cap) (hl : ps.length ≤ 1000000) (hj : (joinB ps).length ≤ 1000000000) :
    Calls Tryd.prog 33 #[.slice ao ps.length cap] w fun e w' => e = .returned (.string (strB (joinB ps))) ∧ Below w.heap.size w w' := by
  have H := Lib.hid (sjoin_any ao cap B ps w hr hc hl hj)
  clear hr hj
  go_enter Tryd.func33, Tryd.ntmps33
  go_wp2_with fail
  refine H.out.mono ?_
  rintro e w1 ⟨rfl, hb⟩
  have HB := Lib.hid hb
  clear hb
  go_wp2
  go_ret
  exact ⟨rfl, HB.out⟩

theorem Below.k {w w' : World} (h : Below w.heap.size w w') : Kept NoB w w' := Kept.ofBelow (Kept.refl NoB w) h
theorem Kept.b {w w' : World} (h : Kept NoB w w') : Below w.heap.size w w' := ⟨h.os, h.tape, h.output, h.size, fun i hi => h.block i hi (fun h => h)⟩
end Go.Proofs.YtjjgadanobeamaaDoor
