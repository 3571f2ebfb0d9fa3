/-
  All that is below a directory, on paper.
  The keys of a map of names, sorted, as this program has them, in plain words (its numbers are the dump's: write it anew by iterp.sh for another).
  A tree of files in memory: a directory's names, in order.
  Rows of paths and nodes of a call's own.
  strings.SplitSeq at "/": what its function does with the loop that ranges over it.
  A loop that ranges over strings.SplitSeq(s, "/"): what its body owes, and what follows.
  name.Parts: what stands between the slashes of a path.
  The document's nought and NameOk.
  Rows of texts that are read; the document's SameTexts.
-/
import Derived.Test.YtjjgadanobeamaaGreatDoorMt15
import Derived.Shelf.SlIter.Nil
import Derived.Shelf.SortM.Plain
import Derived.Shelf.SortM.SortNone
import Derived.Ground.GgzProg
import Derived.Ground.SlgmProg
import Derived.Test.YtjjgadanobeamaaGreatDoorProg
import Derived.Sort.KeysCollected
import Derived.RangeFuncKeeps
import Derived.RangeFuncLeaves
import Derived.RangeFuncCalls
import Derived.Shelf.Abstract
import Derived.WalkKit
import Derived.OwnWalkIn
import Derived.TacticsInMore
import Derived.LoopNIn
import Derived.LoopIn
import Derived.RangeFuncFrom
import Derived.RangeFuncBox
import Derived.Maps.AppendAt
namespace Go.Proofs.YtjjgadanobeamaaGreatDoor
set_option linter.unusedVariables false
set_option linter.unusedSimpArgs false
set_option maxRecDepth 20000

def joinW (path part : List UInt8) : List UInt8 := if path = [] then part else path ++ 47 :: part
def Deep (T : FsP) : Nat → Int → Prop
  | 0, dir => namesP T dir = []
  | k + 1, dir => ∀ p ∈ namesP T dir, Deep T k p.2
abbrev SeenP := List UInt8 × Int
def allL (go : Int → List UInt8 → List SeenP) (path : List UInt8) : Nms → List SeenP
  | [] => []
  | p :: r => ((joinW path p.1, p.2) :: go p.2 (joinW path p.1)) ++ allL go path r
def allP (T : FsP) : Nat → Int → List UInt8 → List SeenP
  | 0, _, _ => []
  | k + 1, dir, path => allL (allP T k) path (namesP T dir)
theorem allL_append (go : Int → List UInt8 → List SeenP) (path : List UInt8) : ∀ a b : Nms, allL go path (a ++ b) = allL go path a ++ allL go path b
  | [], b => rfl
  | p :: r, b => by
    show _ ++ allL go path (r ++ b) = _
    rw [allL_append go path r b]
    simp [allL]
theorem allL_snoc (go : Int → List UInt8 → List SeenP) (path : List UInt8) (l : Nms) (i : Nat) (h : i < l.length) : allL go path (l.take (i + 1)) = allL go path (l.take i) ++ ((joinW path l[i].1, l[i].2) :: go l[i].2 (joinW path l[i].1)) := by
  rw [List.take_succ_eq_append_getElem h, allL_append]
  simp [allL]
theorem Deep.more {T : FsP} : ∀ {k : Nat} {dir : Int}, Deep T k dir → Deep T (k + 1) dir
  | 0, dir, h => by
    intro p hp
    rw [show namesP T dir = [] from h] at hp
    cases hp
  | k + 1, dir, h => fun p hp => Deep.more (h p hp)
theorem joinW_len (path part : List UInt8) : (joinW path part).length ≤ path.length + 1 + part.length := by
  unfold joinW
  split
  · omega
  · simp; omega
theorem find_mem {T : FsP} (hT : OkT T) {dir : Int} {p : List UInt8 × Int} (h : p ∈ namesP T dir) : findP T dir p.1 = (p.2, 0) ∧ p.1.length ≤ 255 ∧ p.1 ≠ [] ∧ (1 ≤ p.2 ∧ p.2 ≤ T.next) := by
  unfold namesP at h
  cases hn : T.nd dir with
  | none => rw [hn] at h; cases h
  | some d =>
    rw [hn] at h
    replace h : p ∈ d.names := h
    have hd := hT.node dir d hn
    obtain ⟨h1, h2, m, h3, h4⟩ := hd.names p h
    have h6 : d.v.kind = 6 := Classical.byContradiction fun h6 => by
      rw [hd.file h6] at h; cases h
    have hg : getK d.names p.1 = some p.2 := (getK_iff hd.sorted).2 h
    have hm := hT.node _ m h3
    have hk := h1
    simp only [okN, Bool.and_eq_true, decide_eq_true_eq] at hk
    refine ⟨?_, ?_, ?_, hm.low, hm.high⟩
    · unfold findP placeE namesP
      rw [hn]
      simp only [h6, h1, if_pos, hg, askK]
    · have := hk.1.1.1.2; rw [strB_size] at this; exact this
    · rintro e
      rw [e] at h1
      have h0 : okN (strB []) = false := by kernel_rfl
      rw [h0] at h1; cases h1
theorem names_in {T : FsP} (hT : OkT T) (dir : Int) : ((namesP T dir).length : Int) ≤ T.clock := by
  unfold namesP
  cases hn : T.nd dir with
  | none => exact hT.clock
  | some d => exact (hT.node dir d hn).few
theorem allL_take_le (go : Int → List UInt8 → List SeenP) (path : List UInt8) (l : Nms) (i : Nat) : (allL go path (l.take i)).length ≤ (allL go path l).length := by
  have := congrArg List.length (allL_append go path (l.take i) (l.drop i))
  rw [List.take_append_drop, List.length_append] at this
  omega
end Go.Proofs.YtjjgadanobeamaaGreatDoor

namespace Go.Proofs
open Go.Shelf
def Tryz.keys82_ren : Go.Shelf.Ren := ⟨fun | 7 => 82 | 10 => 92 | n => n, fun | 23 => 44 | 26 => 9 | 3 => 3 | 28 => 132 | 0 => 0 | 27 => 131 | 33 => 63 | 4 => 4 | n => n, fun | n => n⟩
theorem Tryz.keys82 : Go.Proofs.SlLaysZ.n7 Tryz.prog Tryz.keys82_ren := {
  mixed := by kernel_rfl
  f7 := ⟨Tryz.f82.name, by decide, Tryz.func82.trans (congrArg some (by kernel_rfl))⟩
  f10 := ⟨Tryz.f92.name, by decide, Tryz.func92.trans (congrArg some (by kernel_rfl))⟩
  t0 := Tryz.underlying0
  a0 := Tryz.isAgg0
  z0 := Tryz.sizeOf0
  v0 := Tryz.zeroValue0
  t4 := Tryz.underlying4
  a4 := Tryz.isAgg4
  z4 := Tryz.sizeOf4
  v4 := Tryz.zeroValue4
  t23 := Tryz.underlying44
  a23 := Tryz.isAgg44
  z23 := Tryz.sizeOf44
  v23 := Tryz.zeroValue44
  t26 := Tryz.underlying9
  a26 := Tryz.isAgg9
  z26 := Tryz.sizeOf9
  v26 := Tryz.zeroValue9
  t27 := Tryz.underlying131
  a27 := Tryz.isAgg131
  z27 := Tryz.sizeOf131
  v27 := Tryz.zeroValue131
  t28 := Tryz.underlying132
  a28 := Tryz.isAgg132
  z28 := Tryz.sizeOf132
  v28 := Tryz.zeroValue132
  t33 := Tryz.underlying63
  a33 := Tryz.isAgg63
  z33 := Tryz.sizeOf63
  v33 := Tryz.zeroValue63 }
def Tryz.sorted81_ren : Go.Shelf.Ren := ⟨fun | 6 => 81 | 8 => 90 | 9 => 91 | 11 => 97 | 13 => 99 | 12 => 98 | 23 => 114 | 24 => 101 | 14 => 105 | 15 => 106 | 16 => 107 | 17 => 108 | 18 => 109 | 19 => 110 | 20 => 111 | 21 => 112 | 22 => 113 | 25 => 117 | 26 => 118 | 27 => 119 | 28 => 120 | 29 => 121 | 30 => 122 | 31 => 123 | n => n, fun | 26 => 9 | 28 => 132 | 24 => 36 | 0 => 0 | 3 => 3 | 37 => 40 | 48 => 87 | 50 => 144 | 4 => 4 | 40 => 157 | 39 => 156 | 45 => 55 | 5 => 5 | 9 => 9 | 51 => 163 | 55 => 167 | 57 => 171 | 58 => 58 | 33 => 63 | n => n, fun | n => n⟩
theorem Tryz.sorted81 : Go.Proofs.SlLaysZ.n6 Tryz.prog Tryz.sorted81_ren := {
  mixed := by kernel_rfl
  f6 := ⟨Tryz.f81.name, by decide, Tryz.func81.trans (congrArg some (by kernel_rfl))⟩
  f8 := ⟨Tryz.f90.name, by decide, Tryz.func90.trans (congrArg some (by kernel_rfl))⟩
  f11 := ⟨Tryz.f97.name, by decide, Tryz.func97.trans (congrArg some (by kernel_rfl))⟩
  t0 := Tryz.underlying0
  a0 := Tryz.isAgg0
  z0 := Tryz.sizeOf0
  v0 := Tryz.zeroValue0
  t24 := Tryz.underlying36
  a24 := Tryz.isAgg36
  z24 := Tryz.sizeOf36
  v24 := Tryz.zeroValue36
  t26 := Tryz.underlying9
  a26 := Tryz.isAgg9
  z26 := Tryz.sizeOf9
  v26 := Tryz.zeroValue9
  t28 := Tryz.underlying132
  a28 := Tryz.isAgg132
  z28 := Tryz.sizeOf132
  v28 := Tryz.zeroValue132
  i26 := by kernel_rfl }
def Tryz.sort91_ren : Go.Shelf.Ren := ⟨fun | 6 => 91 | 8 => 99 | 9 => 98 | 19 => 114 | 20 => 101 | 21 => 105 | 22 => 106 | 23 => 107 | 24 => 108 | 25 => 109 | 26 => 110 | 27 => 111 | 28 => 112 | 29 => 113 | 36 => 117 | 31 => 118 | 32 => 119 | 37 => 120 | 38 => 121 | 39 => 122 | 41 => 123 | n => n, fun | 27 => 36 | 29 => 9 | 3 => 3 | 32 => 40 | 26 => 36 | 0 => 0 | 44 => 87 | 46 => 144 | 4 => 4 | 36 => 157 | 35 => 156 | 41 => 55 | 5 => 5 | 9 => 9 | 53 => 163 | 57 => 167 | 63 => 171 | 64 => 58 | n => n, fun | n => n⟩
theorem Tryz.sort91 : Go.Proofs.SlLaysM.n6 Tryz.prog Tryz.sort91_ren := {
  mixed := by kernel_rfl
  f6 := ⟨Tryz.f91.name, by decide, Tryz.func91.trans (congrArg some (by kernel_rfl))⟩
  f8 := Tryz.func99.trans (congrArg some (by kernel_rfl))
  f9 := ⟨Tryz.f98.name, by decide, Tryz.func98.trans (congrArg some (by kernel_rfl))⟩
  f19 := Tryz.func114.trans (congrArg some (by kernel_rfl))
  f20 := Tryz.func101.trans (congrArg some (by kernel_rfl))
  f21 := ⟨Tryz.f105.name, by decide, Tryz.func105.trans (congrArg some (by kernel_rfl))⟩
  f22 := ⟨Tryz.f106.name, by decide, Tryz.func106.trans (congrArg some (by kernel_rfl))⟩
  f23 := ⟨Tryz.f107.name, by decide, Tryz.func107.trans (congrArg some (by kernel_rfl))⟩
  f24 := ⟨Tryz.f108.name, by decide, Tryz.func108.trans (congrArg some (by kernel_rfl))⟩
  f25 := ⟨Tryz.f109.name, by decide, Tryz.func109.trans (congrArg some (by kernel_rfl))⟩
  f26 := ⟨Tryz.f110.name, by decide, Tryz.func110.trans (congrArg some (by kernel_rfl))⟩
  f27 := ⟨Tryz.f111.name, by decide, Tryz.func111.trans (congrArg some (by kernel_rfl))⟩
  f28 := ⟨Tryz.f112.name, by decide, Tryz.func112.trans (congrArg some (by kernel_rfl))⟩
  f29 := ⟨Tryz.f113.name, by decide, Tryz.func113.trans (congrArg some (by kernel_rfl))⟩
  f31 := Tryz.func118.trans (congrArg some (by kernel_rfl))
  f32 := Tryz.func119.trans (congrArg some (by kernel_rfl))
  f36 := ⟨Tryz.f117.name, by decide, Tryz.func117.trans (congrArg some (by kernel_rfl))⟩
  f37 := ⟨Tryz.f120.name, by decide, Tryz.func120.trans (congrArg some (by kernel_rfl))⟩
  f38 := ⟨Tryz.f121.name, by decide, Tryz.func121.trans (congrArg some (by kernel_rfl))⟩
  f39 := ⟨Tryz.f122.name, by decide, Tryz.func122.trans (congrArg some (by kernel_rfl))⟩
  f41 := ⟨Tryz.f123.name, by decide, Tryz.func123.trans (congrArg some (by kernel_rfl))⟩
  t0 := Tryz.underlying0
  a0 := Tryz.isAgg0
  z0 := Tryz.sizeOf0
  v0 := Tryz.zeroValue0
  t3 := Tryz.underlying3
  a3 := Tryz.isAgg3
  z3 := Tryz.sizeOf3
  v3 := Tryz.zeroValue3
  t4 := Tryz.underlying4
  a4 := Tryz.isAgg4
  z4 := Tryz.sizeOf4
  v4 := Tryz.zeroValue4
  t5 := Tryz.underlying5
  a5 := Tryz.isAgg5
  z5 := Tryz.sizeOf5
  v5 := Tryz.zeroValue5
  t9 := Tryz.underlying9
  a9 := Tryz.isAgg9
  z9 := Tryz.sizeOf9
  v9 := Tryz.zeroValue9
  t26 := Tryz.underlying36
  a26 := Tryz.isAgg36
  z26 := Tryz.sizeOf36
  v26 := Tryz.zeroValue36
  t27 := Tryz.underlying36
  a27 := Tryz.isAgg36
  z27 := Tryz.sizeOf36
  v27 := Tryz.zeroValue36
  t29 := Tryz.underlying9
  a29 := Tryz.isAgg9
  z29 := Tryz.sizeOf9
  v29 := Tryz.zeroValue9
  t32 := Tryz.underlying40
  a32 := Tryz.isAgg40
  z32 := Tryz.sizeOf40
  v32 := Tryz.zeroValue40
  t35 := Tryz.underlying156
  a35 := Tryz.isAgg156
  z35 := Tryz.sizeOf156
  v35 := Tryz.zeroValue156
  t36 := Tryz.underlying157
  a36 := Tryz.isAgg157
  z36 := Tryz.sizeOf157
  v36 := Tryz.zeroValue157
  t41 := Tryz.underlying55
  a41 := Tryz.isAgg55
  z41 := Tryz.sizeOf55
  v41 := Tryz.zeroValue55
  t44 := Tryz.underlying87
  a44 := Tryz.isAgg87
  z44 := Tryz.sizeOf87
  v44 := Tryz.zeroValue87
  t46 := Tryz.underlying144
  a46 := Tryz.isAgg144
  z46 := Tryz.sizeOf144
  v46 := Tryz.zeroValue144
  t53 := Tryz.underlying163
  a53 := Tryz.isAgg163
  z53 := Tryz.sizeOf163
  v53 := Tryz.zeroValue163
  t57 := Tryz.underlying167
  a57 := Tryz.isAgg167
  z57 := Tryz.sizeOf167
  v57 := Tryz.zeroValue167
  t63 := Tryz.underlying171
  a63 := Tryz.isAgg171
  z63 := Tryz.sizeOf171
  v63 := Tryz.zeroValue171
  t64 := Tryz.underlying58
  a64 := Tryz.isAgg58
  z64 := Tryz.sizeOf58
  v64 := Tryz.zeroValue58 }
open Go.RowKit Go.Maps Go.Sort
theorem Tryz.sorts81 (m : Nat) : AnyZ.SortsIn Tryz.prog Tryz.sorted81_ren Fence.wide m :=
  ⟨fun blk off cap ss W hH hblk hsz => callsIn_wide.2 (AnyM.slices_Sort_string Tryz.sort91 blk off cap ss W hH hblk hsz),
   fun p cap W => callsIn_wide.2 (AnyM.slices_Sort_string_none Tryz.sort91 p cap W)⟩

theorem Tryz.keysIn (mb : Option Nat) (W : World) : CallsIn Fence.wide 5 Tryz.prog 82 #[.map mb] W fun e w' => e = .returned (.func (.func 92) #[] #[.pointer (some ⟨W.heap.size, 0, none⟩)]) ∧ w' = W.alloc (.cells #[.map mb] 44) :=
  AnyZ.keys_in Tryz.keys82 Fence.wide 5 trivial rfl mb W

set_option maxHeartbeats 1000000 in
theorem Tryz.sortedKeys {H : Type} (b nn : Nat) (D0 : DataW H) (R : Value → Option (DataW H × List MemPlace)) (w : World) (hown : w.ownsMap Tryz.prog 9 R b nn D0) (hmax : Maps.size D0 ≤ maxLen) (hbytes : Maps.size D0 * 16 ≤ 140737488355328) :
    CallsIn Fence.wide 5 Tryz.prog 81 #[.func (.func 92) #[] #[.pointer (some ⟨w.heap.size, 0, none⟩)]] (w.alloc (.cells #[.map (some b)] 44)) fun e w' => ∃ (v : Value) (ss : List (List UInt8)), e = .returned v ∧ ss.Perm (strKeys D0) ∧
      w'.ownsRow (w.alloc (.cells #[.map (some b)] 44)).heap.size 9 1 v ss.length ((ss.mergeSort (fun x y => decide (x ≤ y))).map encStr) ∧ (v = .slice none 0 0 ↔ ss = []) ∧ Below (w.alloc (.cells #[.map (some b)] 44)).heap.size (w.alloc (.cells #[.map (some b)] 44)) w' := by
  have hbl := hown.lt
  have hseq : SeqGives Fence.wide 2 Tryz.prog 92 #[.pointer (some ⟨w.heap.size, 0, none⟩)] encStr (fun ss => ss.Perm (strKeys D0)) (Maps.size D0) (w.alloc (.cells #[.map (some b)] 44)) :=
    AnyZ.keys_gives (ρ := Tryz.keys82_ren) { Tryz.keys82 with } Fence.wide _ trivial rfl (by omega) w.heap.size b nn D0 _ (by simp) (by simp) (by
      obtain ⟨es, clock, hb, Ft, hs, hD⟩ := hown
      exact ⟨es, clock, (Below.heap_alloc _ _ b hbl).trans hb, Ft, hs, hD⟩)
  exact AnyZ.sorted_in Tryz.sorted81 Fence.wide 5 trivial trivial trivial trivial rfl (by omega) (Tryz.sorts81 _) (enters_of Tryz.func91 (by kernel_rfl) rfl) 92 #[.pointer (some ⟨w.heap.size, 0, none⟩)] trivial (enters_of Tryz.func92 (by kernel_rfl) rfl) _ _ hmax hbytes _ hseq

set_option maxHeartbeats 1000000 in
theorem Tryz.sortedKeysNil (w : World) :
    CallsIn Fence.wide 5 Tryz.prog 81 #[.func (.func 92) #[] #[.pointer (some ⟨w.heap.size, 0, none⟩)]] (w.alloc (.cells #[.map none] 44)) fun e w' => ∃ (v : Value) (ss : List (List UInt8)), e = .returned v ∧ ss = [] ∧
      w'.ownsRow (w.alloc (.cells #[.map none] 44)).heap.size 9 1 v ss.length ((ss.mergeSort (fun x y => decide (x ≤ y))).map encStr) ∧ (v = .slice none 0 0 ↔ ss = []) ∧ Below (w.alloc (.cells #[.map none] 44)).heap.size (w.alloc (.cells #[.map none] 44)) w' := by
  have hseq : SeqGives Fence.wide 2 Tryz.prog 92 #[.pointer (some ⟨w.heap.size, 0, none⟩)] encStr (fun ss : List (List UInt8) => ss = []) 0 (w.alloc (.cells #[.map none] 44)) :=
    AnyZ.keys_gives_nil (ρ := Tryz.keys82_ren) { Tryz.keys82 with } Fence.wide _ trivial rfl w.heap.size _ (by simp) (by simp)
  exact AnyZ.sorted_in Tryz.sorted81 Fence.wide 5 trivial trivial trivial trivial rfl (by omega) (Tryz.sorts81 _) (enters_of Tryz.func91 (by kernel_rfl) rfl) 92 #[.pointer (some ⟨w.heap.size, 0, none⟩)] trivial (enters_of Tryz.func92 (by kernel_rfl) rfl) _ 0 (Nat.zero_le _) (by omega) _ hseq



end Go.Proofs

namespace Go.Proofs.YtjjgadanobeamaaGreatDoor
open Go.RowKit
open Go.Proofs (encStr)
set_option linter.unusedVariables false
set_option linter.unusedSimpArgs false
set_option maxRecDepth 20000

theorem keys_perm {w : World} {mb : Nat} {l : Nms} (hl : OkK l) {D : Dt} (ho : w.ownsMap Tryz.prog 9 (plainElem Tryz.prog 3) mb l.length D) (hh : ∀ x, Maps.has D x = (nmF l x).isSome) : (l.map Prod.fst).Perm (strKeys D) := by
  refine Collected.perm (left := fun _ => false) ⟨?_, fun x => ?_⟩ ho law_str Tryz.underlying9 (fun _ => rfl)
  · exact List.pairwise_map.2 (hl.imp (fun {p q} h => fun (e : p.1 = q.1) => lt_irr q.1 (by rw [e] at h; exact h)))
  · rw [hh]
    simp only [nmF, Option.isSome_map, and_true]
    constructor
    · intro h
      obtain ⟨p, hp, rfl⟩ := List.mem_map.1 h
      rw [(getK_iff hl).2 (show (p.1, p.2) ∈ l from hp)]; rfl
    · intro h
      obtain ⟨i, hi⟩ := Option.isSome_iff_exists.1 h
      exact List.mem_map.2 ⟨_, getK_mem hi, rfl⟩
theorem keys_sorted {l : Nms} (hl : OkK l) {ss : List (List UInt8)} (hp : ss.Perm (l.map Prod.fst)) : ss.mergeSort leB = l.map Prod.fst := by
  have tr : ∀ a b c : List UInt8, leB a b = true → leB b c = true → leB a c = true := fun a b c h1 h2 => by simp only [leB, decide_eq_true_eq] at *; exact List.le_trans h1 h2
  have tot : ∀ a b : List UInt8, (leB a b || leB b a) = true := fun a b => by simp only [leB, Bool.or_eq_true, decide_eq_true_eq]; exact List.le_total a b
  refine List.Perm.eq_of_pairwise (le := fun a b => leB a b = true) (fun a b _ _ h1 h2 => ?_) (List.pairwise_mergeSort tr tot ss) ?_ ((List.mergeSort_perm ss leB).trans hp)
  · simp only [leB, decide_eq_true_eq] at h1 h2
    exact List.le_antisymm h1 h2
  · refine List.pairwise_map.2 (hl.imp (fun {p q} h => ?_))
    simp only [leB, decide_eq_true_eq]
    exact List.le_of_lt h
def nmC (l : Nms) : List Value := l.map (fun p => .string (strB p.1))
def NmsP (w : World) (l : Nms) (v : Value) (w' : World) : Prop := w'.ownsRow 0 9 1 v l.length (nmC l) ∧ (∀ k, v.ownBlock = some k → w.heap.size ≤ k) ∧ Kept NoB w w'
theorem below_keptNo {w w' : World} (h : Below w.heap.size w w') : Kept NoB w w' := (Kept.refl NoB w).ofBelow h
set_option maxHeartbeats 2000000 in
theorem names_any {S : Nat → Prop} {w : World} {f : Nat} {T : FsP} (h : FsSt S w f T) (dir : Int) (hdir : -9223372036854775808 ≤ dir ∧ dir ≤ 9223372036854775807) (hclk : T.clock ≤ 1000000000) :
    Calls Tryz.prog 65 #[.pointer (some ⟨f, 0, none⟩), .int .i64 dir] w fun e w' => ∃ ao c, e = .returned (.slice ao (namesP T dir).length c) ∧ Hid (NmsP w (namesP T dir) (.slice ao (namesP T dir).length c) w') := by
  obtain ⟨L, B, mb, h⟩ := h
  obtain ⟨c0, c1, c2, c3, c4⟩ := h.cells
  have HT := Lib.hid h.tab
  have HK := Lib.hid (fun (o : Option Nat) (W : World) => (callsIn_wide (n := 5)).1 (Tryz.keysIn o W))
  cases hn : T.nd dir with
  | none =>
    have hB := h.gone hn
    have hp : namesP T dir = [] := by unfold namesP; rw [hn]
    rw [hp]
    clear h hp hn
    go_enter Tryz.func65, Tryz.ntmps65
    go_wp2_with (at_lookup; refine wpList_nodes_ok rfl _ _ rfl HT.out rfl rfl hdir ?_; rw [hB, ptrV_none])
    go_ret
    exact ⟨none, 0, rfl, Lib.hid ⟨World.ownsRow_nil _ _ _ _, fun k e => by simp [Value.ownBlock] at e, Kept.refl _ _⟩⟩
  | some n =>
    obtain ⟨b, m, a, c, qs, hB, hN⟩ := h.at hn
    have hp : namesP T dir = n.names := by unfold namesP; rw [hn]
    rw [hp]
    have k11 := hN.cell 11
    simp [ndC, nvC] at k11
    have okn := (h.ok.node dir n hn)
    by_cases h6 : n.v.kind = 6
    · obtain ⟨mb2, rfl, _, hM⟩ := hN.dir h6
      obtain ⟨D, ho, hsz, hh, ha⟩ := hM
      have hle : n.names.length ≤ 1000000000 := by have := okn.few; omega
      have HS : Hid (Calls Tryz.prog 81 #[.func (.func 92) #[] #[.pointer (some ⟨w.heap.size, 0, none⟩)]] (w.alloc (.cells #[.map (some mb2)] 44)) fun e w' => ∃ ao c, e = .returned (.slice ao n.names.length c) ∧ Hid (NmsP w n.names (.slice ao n.names.length c) w')) := Lib.hid (by
        have := (callsIn_wide (n := 5)).1 (Tryz.sortedKeys mb2 n.names.length D (plainElem Tryz.prog 3) w ho (by rw [hsz]; unfold maxLen; omega) (by rw [hsz]; omega))
        refine this.mono ?_
        rintro e w' ⟨v, ss, rfl, hperm, hrow, hnil, hb⟩
        have hp2 := hperm.trans (keys_perm okn.sorted ho hh).symm
        have hs : ss.mergeSort (fun x y => decide (x ≤ y)) = n.names.map Prod.fst := keys_sorted okn.sorted hp2
        have hl : ss.length = n.names.length := by rw [hp2.length_eq, List.length_map]
        rw [hs, hl] at hrow
        have hc : (n.names.map Prod.fst).map encStr = nmC n.names := by
          unfold nmC; rw [List.map_map]; rfl
        rw [hc] at hrow
        obtain ⟨ao, c, rfl⟩ := row_shape hrow
        refine ⟨ao, c, rfl, Lib.hid ⟨ownsRow_base_a hrow (Nat.zero_le _), fun k hk => ?_, ((Kept.refl NoB w).alloc _).trans (below_keptNo hb)⟩⟩
        have := (hrow.lt k hk).1
        simp at this
        omega)
      clear h hp hn hN h6 ho hsz hh ha okn
      go_enter Tryz.func65, Tryz.ntmps65
      go_wp2_with (first | (at_lookup; refine wpList_nodes_ok rfl _ _ rfl HT.out rfl rfl hdir ?_; rw [hB, ptrV_some]) | (go_at_call 82; refine (HK.out _ _).mono ?_; rintro e w' ⟨rfl, rfl⟩) | (go_at_call 81; refine HS.out.mono ?_; rintro e w' ⟨ao, c, rfl, hq⟩))
      go_ret
      exact ⟨ao, c, rfl, hq⟩
    · have hm := hN.plain h6
      subst hm
      have hnn := okn.file h6
      rw [hnn]
      have HS : Hid (Calls Tryz.prog 81 #[.func (.func 92) #[] #[.pointer (some ⟨w.heap.size, 0, none⟩)]] (w.alloc (.cells #[.map none] 44)) fun e w' => e = .returned (.slice none 0 0) ∧ Hid (NmsP w [] (.slice none 0 0) w')) := Lib.hid (by
        have := (callsIn_wide (n := 5)).1 (Tryz.sortedKeysNil w)
        refine this.mono ?_
        rintro e w' ⟨v, ss, rfl, hss, hrow, hnil, hb⟩
        rw [hnil.2 hss]
        exact ⟨rfl, Lib.hid ⟨World.ownsRow_nil _ _ _ _, fun k e => by simp [Value.ownBlock] at e, ((Kept.refl NoB w).alloc _).trans (below_keptNo hb)⟩⟩)
      clear h hp hn hN h6 okn hnn
      go_enter Tryz.func65, Tryz.ntmps65
      go_wp2_with (first | (at_lookup; refine wpList_nodes_ok rfl _ _ rfl HT.out rfl rfl hdir ?_; rw [hB, ptrV_some]) | (go_at_call 82; refine (HK.out _ _).mono ?_; rintro e w' ⟨rfl, rfl⟩) | (go_at_call 81; refine HS.out.mono ?_; rintro e w' ⟨rfl, hq⟩))
      go_ret
      exact ⟨none, 0, rfl, hq⟩
end Go.Proofs.YtjjgadanobeamaaGreatDoor

namespace Go.Proofs.YtjjgadanobeamaaGreatDoor
open Go.RowKit
set_option linter.unusedVariables false
set_option linter.unusedSimpArgs false
set_option maxRecDepth 20000

theorem infoSeen : (Tryz.prog.info? 82).map (fun i => (i.zero, i.size, i.bytes)) = some (some (.agg #[.string ⟨#[]⟩, .int .i64 0]), 2, 24) := by kernel_rfl
def snC (l : List SeenP) : List Value := l.flatMap fun q => [.string (strB q.1), .int .i64 q.2]
theorem snC_at : ∀ (l : List SeenP) (i : Nat) (h : i < l.length), (snC l)[i * 2]? = some (.string (strB l[i].1)) ∧ (snC l)[i * 2 + 1]? = some (.int .i64 l[i].2) := by
  intro qs
  induction qs with
  | nil => intro i hi; simp at hi
  | cons p r ih =>
    intro i hi
    have e : snC (p :: r) = .string (strB p.1) :: .int .i64 p.2 :: snC r := by simp [snC]
    rw [e]
    cases i with
    | zero => exact ⟨rfl, rfl⟩
    | succ i =>
      have hi' : i < r.length := by simpa using hi
      obtain ⟨h1, h2⟩ := ih i hi'
      rw [show (i + 1) * 2 = i * 2 + 1 + 1 by omega]
      refine ⟨?_, ?_⟩
      · simpa using h1
      · rw [List.getElem?_cons_succ, List.getElem?_cons_succ]; simpa using h2
structure SnSt (w0 w : World) (a : Option Addr) (l c : Nat) (qs : List SeenP) : Prop where
  len : l = qs.length
  own : w.ownsRow 0 82 2 (.slice a l c) l (snC qs)
  kept : Kept NoB w0 w
  fresh : ∀ k, (Value.slice a l c).ownBlock = some k → w0.heap.size ≤ k
theorem SnSt.start {w0 w : World} (hk : Kept NoB w0 w) : SnSt w0 w none 0 0 [] := ⟨rfl, World.ownsRow_nil _ _ _ _, hk, (fun k hk => by simp [Value.ownBlock] at hk)⟩
theorem SnSt.on {w0 w w' : World} {a : Option Addr} {l c : Nat} {qs : List SeenP} (h : SnSt w0 w a l c qs) (hk : Kept NoB w w') : SnSt w0 w' a l c qs :=
  ⟨h.len, hk.row h.own (fun _ _ h => h), h.kept.trans hk, h.fresh⟩
theorem SnSt.low {w0 w : World} {a : Option Addr} {l c : Nat} {qs : List SeenP} (h : SnSt w0 w a l c qs) : ∀ k, (Value.slice a l c).ownBlock = some k → k < w.heap.size := by
  intro k hk
  rcases h.own.2 with ⟨hv, hz⟩ | ⟨g, cc, cur, hv, _, hg, _⟩
  · simp at hv
    obtain ⟨rfl, _⟩ := hv
    simp [Value.ownBlock] at hk
  · simp at hv
    obtain ⟨rfl, _⟩ := hv
    simp [Value.ownBlock] at hk
    subst hk
    first | exact (Array.getElem?_eq_some_iff.1 hg).1 | assumption
theorem SnSt.at {w0 w : World} {a : Option Addr} {l c : Nat} {qs : List SeenP} (h : SnSt w0 w a l c qs) (i : Nat) (hi : i < qs.length) :
    ∃ g, a = some ⟨g, 0, none⟩ ∧ w.cell? ⟨g, i * 2, none⟩ = some (.string (strB qs[i].1)) ∧ w.cell? ⟨g, i * 2 + 1, none⟩ = some (.int .i64 qs[i].2) := by
  have hl := h.len
  rcases h.own.2 with ⟨_, hz⟩ | ⟨g, cc, cur, hv, _⟩
  · omega
  · simp at hv
    obtain ⟨rfl, rfl⟩ := hv
    obtain ⟨h1, h2⟩ := snC_at qs i hi
    exact ⟨g, rfl, by rw [← h1]; exact h.own.cellAt (i * 2) (by omega), by rw [← h2]; exact h.own.cellAt (i * 2 + 1) (by omega)⟩
theorem wpList_seen {ops : Array Oper} {rest : List Oper} {o : Oper} {a : Act} {w : World} {Q : Exit → Act → World → Prop} (hgd : o.guard = none) (s x : Operand)
    (ho : o.op = .call { callee := .builtin .append, args := #[s, x], argTypes := #[79, 79] })
    {w0 : World} {a1 : Option Addr} {l1 c1 : Nat} {qs : List SeenP} (hS : SnSt w0 w a1 l1 c1 qs) (hs : a.eval s = .slice a1 l1 c1)
    (g cx : Nat) (q : SeenP) (hx : a.eval x = .slice (some ⟨g, 0, none⟩) 1 cx) (h0 : w.cell? ⟨g, 0, none⟩ = some (.string (strB q.1))) (h1 : w.cell? ⟨g, 1, none⟩ = some (.int .i64 q.2)) (hn : l1 ≤ 1000000000)
    (h : ∀ a2 c2 w', SnSt w0 w' a2 (l1 + 1) c2 (qs ++ [q]) → Kept (OwnB (Value.slice a1 l1 c1)) w w' → (∀ k, (Value.slice a2 (l1 + 1) c2).ownBlock = some k → (Value.slice a1 l1 c1).ownBlock = some k ∨ w.heap.size ≤ k) → wpList Tryz.prog ops Q rest (a.put o.dst (.slice a2 (l1 + 1) c2)) w') : wpList Tryz.prog ops Q (o :: rest) a w := by
  obtain ⟨i0, hi, hz0, hz1, hz2⟩ := info_parts infoSeen
  refine wpList_app w hgd s x 79 ho 82 i0 (.agg #[.string ⟨#[]⟩, .int .i64 0]) 2 24 (by kernel_rfl) hi hz0 hz1 hz2 rfl (by decide) _ l1 (snC qs) hs hS.own ⟨g, 0, none⟩ 1 cx [.string (strB q.1), .int .i64 q.2] hx rfl ?_ (fun u hu => by simp at hu; rcases hu with rfl | rfl <;> rfl) (by unfold maxLen; omega) (by omega) ?_
  · intro j u hu
    rw [addr_add, Nat.zero_add]
    match j with
    | 0 => simp at hu; subst hu; exact h0
    | 1 => simp at hu; subst hu; exact h1
    | j + 2 => simp at hu
  intro v' w' h2 h3 h4
  obtain ⟨a2, c2, rfl⟩ := row_shape h2
  refine h _ _ _ ⟨by rw [List.length_append, hS.len]; rfl, by simpa [snC] using h2, hS.kept.grown h3 (fun k hk e => by have := hS.fresh k e; omega), ?_⟩ ((Kept.refl _ w).grown h3 (fun k hk e => e)) h4
  intro k hk
  rcases h4 k hk with h | h
  · exact hS.fresh k h
  · have := hS.kept.size; omega
end Go.Proofs.YtjjgadanobeamaaGreatDoor

namespace Go.Proofs.YtjjgadanobeamaaGreatDoor
open Go.RowKit Go.Shelf
set_option linter.unusedVariables false
set_option linter.unusedSimpArgs false

attribute [local go_sem] Oper.semAt_some

def pieces : List UInt8 → List (List UInt8)
  | [] => [[]]
  | b :: r => if b = 47 then [] :: pieces r else match pieces r with | [] => [[b]] | p :: ps => (b :: p) :: ps
structure SeqB (W : World) (b1 b2 b3 : Nat) (s : ByteArray) : Prop where
  sep : W.heap[b1]? = some (.cells #[.string ⟨#[47]⟩] 9 (0, 0))
  str : W.heap[b2]? = some (.cells #[.string s] 9 (0, 0))
  save : W.heap[b3]? = some (.cells #[.int .i64 0] 3 (0, 0))
end Go.Proofs.YtjjgadanobeamaaGreatDoor

namespace Go.Proofs.YtjjgadanobeamaaGreatDoor
open Go.RowKit Go.Shelf
set_option linter.unusedVariables false
set_option linter.unusedSimpArgs false

theorem SeqB.put {W : World} {b1 b2 b3 : Nat} {s : ByteArray} (h : SeqB W b1 b2 b3 s) (k : Nat) (o : Obj) (hk : k ≠ b1 ∧ k ≠ b2 ∧ k ≠ b3) : SeqB (W.putObj k o) b1 b2 b3 s :=
  ⟨(World.putObj_heap_other hk.1.symm).trans h.sep, (World.putObj_heap_other hk.2.1.symm).trans h.str, (World.putObj_heap_other hk.2.2.symm).trans h.save⟩
end Go.Proofs.YtjjgadanobeamaaGreatDoor

namespace Go.Proofs.YtjjgadanobeamaaGreatDoor
open Go.RowKit Go.Shelf
set_option linter.unusedVariables false
set_option linter.unusedSimpArgs false

attribute [local go_sem] Oper.semAt_some

def skipP (p : List UInt8) : Bool := p.isEmpty || p == [46]
def keepP (ps : List (List UInt8)) : List (List UInt8) := ps.filter (fun p => !skipP p)
def okP (p : List UInt8) : Bool := okN (strB p)
def partsOf (l : List UInt8) : Option (List (List UInt8)) :=
  if l = [] ∨ 4096 < l.length ∨ l.head? = some 47 then none else if (keepP (pieces l)).all okP then some (keepP (pieces l)) else none
def strV (p : List UInt8) : Value := .string (strB p)
theorem infoS : (Tryz.prog.info? 9).map (fun i => (i.zero, i.size, i.bytes)) = some (some (.string ⟨#[]⟩), 1, 16) := by kernel_rfl

structure PartI (w : World) (n N : Nat) (pre : List (List UInt8)) (W : World) : Prop where
  ok : (keepP pre).all okP = true
  row : ∃ (ao : Option Addr) (cap : Nat), W.heap[n + 2]? = some (.cells #[.slice ao (keepP pre).length cap] 36 (0, 0)) ∧ W.ownsRow N 9 1 (.slice ao (keepP pre).length cap) (keepP pre).length ((keepP pre).map strV)
  r1 : W.heap[n]? = some (.cells #[.slice none 0 0] 36 (0, 0))
  r2 : W.heap[n + 1]? = some (.cells #[.int .i64 0] 27 (0, 0))
  bel : Below n w W
  big : N ≤ W.heap.size
theorem PartI.kept {w W W' : World} {n N : Nat} {pre : List (List UInt8)} (h : PartI w n N pre W) (hk : Kept NoB W W') (hn : n ≤ w.heap.size) : PartI w n N pre W' := by
  obtain ⟨ao, cap, h1, h2⟩ := h.row
  exact ⟨h.ok, ⟨ao, cap, hk.obj h1 (fun h => h), hk.row h2 (fun _ _ h => h)⟩, hk.obj h.r1 (fun h => h), hk.obj h.r2 (fun h => h),
    ⟨hk.os.trans h.bel.os, hk.tape.trans h.bel.tape, hk.output.trans h.bel.output, Nat.le_trans h.bel.size hk.size, fun i hi => (hk.block i (Nat.lt_of_lt_of_le hi (Nat.le_trans hn h.bel.size)) (fun h => h)).trans (h.bel.block i hi)⟩, Nat.le_trans h.big hk.size⟩

end Go.Proofs.YtjjgadanobeamaaGreatDoor

namespace Go.Proofs.YtjjgadanobeamaaGreatDoor
open Go.RowKit Go.Shelf
set_option linter.unusedVariables false
set_option linter.unusedSimpArgs false

end Go.Proofs.YtjjgadanobeamaaGreatDoor

namespace Go.Proofs.YtjjgadanobeamaaGreatDoor
open Go.RowKit Go.Shelf
set_option linter.unusedVariables false
set_option linter.unusedSimpArgs false

def RdS (w : World) (B : Nat) (ao : Option Addr) (ps : List (List UInt8)) : Prop :=
  ∀ i, i < ps.length → ∃ g off, ao = some ⟨g, off, none⟩ ∧ g < B ∧ w.cell? ⟨g, off + i, none⟩ = some (.string (strB (ps.getD i [])))
theorem RdS.kept {S : Nat → Prop} {w w' : World} {B : Nat} {ao : Option Addr} {ps : List (List UInt8)} (h : RdS w B ao ps) (hk : Kept S w w') (hs : ∀ k, k < B → ¬ S k) : RdS w' B ao ps := by
  intro i hi
  obtain ⟨g, off, h1, h2, h3⟩ := h i hi
  exact ⟨g, off, h1, h2, (World.cell?_of_block (hk.block _ (World.block_lt_of_cell? w _ h3) (hs g h2))).trans h3⟩
theorem RdS.keptNo {w w' : World} {B : Nat} {ao : Option Addr} {ps : List (List UInt8)} (h : RdS w B ao ps) (hk : Kept NoB w w') : RdS w' B ao ps := h.kept hk (fun _ _ h => h)
theorem RdS.below {w w' : World} {B : Nat} {ao : Option Addr} {ps : List (List UInt8)} (h : RdS w w.heap.size ao ps) (hb : Below w.heap.size w w') : RdS w' w'.heap.size ao ps := by
  intro i hi
  obtain ⟨g, off, h1, h2, h3⟩ := h i hi
  exact ⟨g, off, h1, Nat.lt_of_lt_of_le h2 hb.size, (World.cell?_of_block (hb.block _ h2)).trans h3⟩
theorem RdS.room {w : World} {B : Nat} {ao : Option Addr} {ps : List (List UInt8)} (h : RdS w B ao ps) : RdS w w.heap.size ao ps := by
  intro i hi
  obtain ⟨g, off, h1, h2, h3⟩ := h i hi
  exact ⟨g, off, h1, World.block_lt_of_cell? w _ h3, h3⟩
theorem own_readsS {w : World} {base n cap : Nat} {ao : Option Addr} {ps : List (List UInt8)} (h : w.ownsRow base 9 1 (.slice ao n cap) n (ps.map strV)) (hn : ps.length = n) : RdS w w.heap.size ao ps := by
  intro i hi
  rcases h.2 with ⟨_, hz⟩ | ⟨g, c, cur, hv, _⟩
  · omega
  · simp at hv
    obtain ⟨rfl, rfl⟩ := hv
    have hc : w.cell? ⟨g, i, none⟩ = some (.string (strB (ps.getD i []))) := by
      rw [h.cellAt i (by omega)]; simp [List.getD, hi, strV]
    exact ⟨g, 0, rfl, World.block_lt_of_cell? w _ hc, by rw [Nat.zero_add]; exact hc⟩

theorem drop_getDs (ps : List (List UInt8)) (j : Nat) (hj : j < ps.length) : ps.drop j = ps.getD j [] :: ps.drop (j + 1) := by
  rw [List.drop_eq_getElem_cons hj]; simp [List.getD, hj]
set_option maxHeartbeats 1000000 in
theorem sameT_any (a : Option Addr) (c : Nat) (xs : List (List UInt8)) (b : Option Addr) (d : Nat) (ys : List (List UInt8)) (A B : Nat) (w : World) (hx : RdS w A a xs) (hy : RdS w B b ys) (hm : xs.length ≤ 1000000) :
    Calls Tryz.prog 12 #[.slice a xs.length c, .slice b ys.length d] w fun e w' => e = .returned (.bool (decide (xs = ys))) ∧ Kept NoB w w' := by
  have HX := Lib.hid hx; have HY := Lib.hid hy
  clear hx hy
  by_cases hlen : xs.length = ys.length
  · obtain ⟨n, hn⟩ : ∃ n, n = xs.length := ⟨_, rfl⟩
    have hn2 : ys.length = n := by omega
    have HN := Lib.hid hn; have HN2 := Lib.hid hn2
    have hm2 : n ≤ 1000000 := by omega
    rw [← hn, hn2]
    clear hn hn2 hlen
    go_enter Tryz.func12, Tryz.ntmps12
    go_wp2
    go_loopw [5] (fun v5 wr => ∃ j : Nat, v5 = .int .i64 (j : Int) ∧ j ≤ n ∧ Hid (Kept NoB w wr) ∧ Hid ((xs = ys) ↔ (xs.drop j = ys.drop j))) (fun v5 _ => n - (intOf v5).toNat)
    case atStart => exact ⟨0, rfl, by omega, Kept.refl _ _, (by rw [List.drop_zero, List.drop_zero]; exact Iff.rfl)⟩
    case round =>
      obtain ⟨j, rfl, hj, HK, HI⟩ := hrel
      by_cases hlt : (j : Int) < n
      · obtain ⟨g, off, rfl, hgl, hc0⟩ := HX.out j (by have := HN.out; omega)
        obtain ⟨g2, off2, rfl, hgl2, hc1⟩ := HY.out j (by have := HN2.out; omega)
        have hc0' := HK.out.cell hc0
        have hc1' := HK.out.cell hc1
        have hi := HI.out
        rw [drop_getDs xs j (by have := HN.out; omega), drop_getDs ys j (by have := HN2.out; omega)] at hi
        obtain ⟨x, hx⟩ : ∃ x, xs.getD j [] = x := ⟨_, rfl⟩
        obtain ⟨y, hy⟩ : ∃ y, ys.getD j [] = y := ⟨_, rfl⟩
        rw [hx] at hc0' hi
        rw [hy] at hc1' hi
        clear hx hy hc0 hc1 hgl hgl2
        by_cases hxy : x = y
        · subst hxy
          have HI2 : Hid ((xs = ys) ↔ (xs.drop (j + 1) = ys.drop (j + 1))) := hi.trans ⟨fun h => by injection h, fun h => by rw [h]⟩
          obtain ⟨X, hX⟩ : ∃ X, X = strB x := ⟨_, rfl⟩
          rw [← hX] at hc0' hc1'
          have hd : (X.toList != X.toList) = false := by simp
          clear hi hX
          go_upto_region 6 with fail
          go_quiet (fail)
          go_wp2
          go_roundw
          case rel => exact ⟨j + 1, by go_num, by omega, HK.out.drewN _, HI2⟩
          case measure => simp [intOf]; omega
        · have hne : ¬ xs = ys := fun h => hxy (by have := hi.1 h; injection this)
          have hne2 : ¬ (strB x).toList = (strB y).toList := by rw [strB_list, strB_list]; exact hxy
          obtain ⟨X, hX⟩ : ∃ X, X = strB x := ⟨_, rfl⟩
          obtain ⟨Y, hY⟩ : ∃ Y, Y = strB y := ⟨_, rfl⟩
          rw [← hX] at hc0' hne2
          rw [← hY] at hc1' hne2
          have hd : (X.toList == Y.toList) = false := by simpa using hne2
          have hd3 : (!X.toList == Y.toList) = true := by rw [hd]; rfl
          clear hi hxy hX hY
          have HNe := Lib.hid hne
          clear hne
          go_upto_region 6 with fail
          go_quiet (fail)
          go_wp2
          go_ret
          exact ⟨by rw [decide_eq_false HNe.out]; rfl, HK.out.drewN _⟩
      · have he : xs = ys := by
          have hi := HI.out
          rw [List.drop_of_length_le (by have := HN.out; omega), List.drop_of_length_le (by have := HN2.out; omega)] at hi
          exact hi.2 rfl
        have HE := Lib.hid he
        clear he
        go_wp2
        go_ret
        exact ⟨by rw [decide_eq_true HE.out]; rfl, HK.out⟩
  · have hne : ¬ xs = ys := fun h => hlen (by rw [h])
    have HNe := Lib.hid hne
    have g1 : ((xs.length : Int) != (ys.length : Int)) = true := bne_iff_ne.2 (by omega)
    clear hne hlen
    go_enter Tryz.func12, Tryz.ntmps12
    go_wp2
    go_ret
    exact ⟨by rw [decide_eq_false HNe.out]; rfl, Kept.refl _ _⟩
end Go.Proofs.YtjjgadanobeamaaGreatDoor
