/-
  Small things that many walks want: rows of bytes that are read, told as strings, told anew; rows that a call owns.
  What is told of a node: on paper, and as cells; what may be made.
  A tree of files on paper: what each call makes of it, and what it answers.
  What a part may be, on paper; texts as rows of bytes.
  A tree of files on paper: what always holds of it; its calls.
  A tree of files on paper: making a node keeps what always holds.
  A tree of files on paper: a second name, and one taken away, keep what always holds.
-/
import Derived.Test.YtgbakogihkdddaaGreatDoorMx1
import Derived.Test.YtgbakogihkdddaaGreatDoorRows
import Derived.Deep.DeepCutAuto
import Derived.Deep.RegionHeld3
import Derived.BigRegion
import Derived.Laws.BytesArg
import Derived.Laws.AppendOwnNone
import Derived.Lib.IndexAny
import Derived.Lib.BytesEntry
import Derived.OwnWalk
namespace Go.Proofs.YtgbakogihkdddaaGreatDoor
open Go.RowKit
set_option linter.unusedVariables false
set_option linter.unusedSimpArgs false

theorem Reads.at {w : World} {ao : Option Addr} {bs : List Int} (h : Reads w ao bs) (h0 : 0 < bs.length) :
    ∃ b off, ao = some ⟨b, off, none⟩ ∧ b < w.heap.size ∧ ∀ j, j < bs.length → w.cell? ⟨b, off + j, none⟩ = some (.int .u8 (bs.getD j 0)) := by
  cases ao with
  | none => have := h.1 rfl; subst this; simp at h0
  | some a =>
    obtain ⟨b, off, spot⟩ := a
    have hs : spot = none := by
      have := World.cell?_spot (h.2 _ rfl 0 h0)
      simpa [Addr.add] using this
    subst hs
    have h2 : ∀ j, j < bs.length → w.cell? ⟨b, off + j, none⟩ = some (.int .u8 (bs.getD j 0)) := fun j hj => by
      have := h.2 _ rfl j hj
      rwa [addr_add] at this
    exact ⟨b, off, rfl, World.block_lt_of_cell? w _ (h2 0 h0), h2⟩
theorem Reads.keptNo {w w' : World} {ao : Option Addr} {xs : List Int} (h : Reads w ao xs) (hk : Kept NoB w w') : Reads w' ao xs := h.kept hk (fun _ _ h => h)
theorem Kept.cell {w w' : World} (hk : Kept NoB w w') {a : Addr} {v : Value} (h : w.cell? a = some v) : w'.cell? a = some v :=
  (World.cell?_of_block (hk.block _ (World.block_lt_of_cell? w a h) (fun h => h))).trans h
theorem lit_reads {w : World} {g : Nat} {cs : Array Value} {t : TypeId} {fr : Nat × Nat} (bs : List Int) (h : w.heap[g]? = some (.cells cs t fr)) (hc : cs.toList = bs.map (.int .u8)) : Reads w (some ⟨g, 0, none⟩) bs := by
  refine ⟨(fun h => by cases h), ?_⟩
  intro a ha i hi
  cases ha
  rw [addr_add, Nat.zero_add, cell_of_row w g i cs t fr h]
  rw [← Array.getElem?_toList, hc]
  simp [List.getD, hi]
theorem cell_new {w : World} {cs : Array Value} {t : TypeId} {k : Nat} (i : Nat) (hk : k = w.heap.size) : (w.alloc (.cells cs t)).cell? ⟨k, i, none⟩ = cs[i]? := by
  subst hk; exact cell_of_row _ _ _ cs t (0, 0) (heap_alloc_new _ _)
theorem own_cap {w : World} {base e n cap : Nat} {ao : Option Addr} {xs : List Value} (h : w.ownsRow base e 1 (.slice ao n cap) n xs) : n ≤ cap ∧ cap ≤ maxLen := by
  rcases h.2 with ⟨hv, hn⟩ | ⟨g, c, cur, hv, _, _, h1, h2, _⟩
  · simp at hv; obtain ⟨_, rfl, rfl⟩ := hv; exact ⟨Nat.le_refl _, Nat.zero_le _⟩
  · simp at hv; obtain ⟨_, rfl⟩ := hv; exact ⟨h1, h2⟩
theorem own_nil {w : World} {base e n cap : Nat} {ao : Option Addr} {xs : List Value} (h : w.ownsRow base e 1 (.slice ao n cap) n xs) : ao = none → cap = 0 := by
  intro ha
  subst ha
  rcases h.2 with ⟨hv, hn⟩ | ⟨g, c, cur, hv, _⟩
  · simp at hv; exact hv.2
  · simp at hv
theorem choose1 {α : Type} {P : Nat → α → Prop} (h : ∀ i, ∃ a, P i a) : ∃ f : Nat → α, ∀ i, P i (f i) := ⟨fun i => (h i).choose, fun i => (h i).choose_spec⟩
theorem range_getD {α : Type} (f : Nat → α) (n i : Nat) (d : α) (hi : i < n) : ((List.range n).map f).getD i d = f i := by simp [List.getD, hi]
theorem conv_reads {w : World} {ao : Option Addr} {n cap : Nat} {xs : List Int} (h : Reads w ao xs) (hn : n = xs.length) (h0 : ao = none → cap = 0) :
    (convert 22 9 (.slice ao n cap)).run Tryz.prog w = .ok (.string (strOfNums xs)) w := by
  subst hn
  by_cases hx : xs = []
  · subst hx
    cases ao with
    | none => exact run_convert_bytes_nil (P := Tryz.prog) w _ 5 Tryz.underlying22 Tryz.underlying5 _ _ _ Tryz.underlying9
    | some a =>
      show (convert 22 9 (.slice (some a) 0 cap)).run Tryz.prog w = .ok (.string (strOfNums [])) w
      rw [run_convert_bytes_string w 22 9 5 (some a) 0 cap Tryz.underlying22 Tryz.underlying5 Tryz.underlying9]
      simp [Conv.bytesToString, loadCells, loadCellsFrom]
      rfl
  · obtain ⟨b, off, rfl, _, hc⟩ := h.at (by cases xs with | nil => exact absurd rfl hx | cons => simp)
    exact run_convert_bytes_arg (P := Tryz.prog) w _ 5 Tryz.underlying22 Tryz.underlying5 b off xs.length cap xs rfl hc _ Tryz.underlying9
theorem reads_take {w : World} {x : Addr} {bs : List Int} (k : Nat) (h : Reads w (some x) bs) : Reads w (some x) (bs.take k) := by
  refine ⟨(fun h => by cases h), ?_⟩
  intro a ha i hi
  cases ha
  rw [List.length_take] at hi
  rw [h.2 x rfl i (by omega)]
  simp [List.getD, show i < k from by omega]
theorem reads_drop {w : World} {x : Addr} {bs : List Int} (k : Nat) (h : Reads w (some x) bs) : Reads w (some (x.add k)) (bs.drop k) := by
  refine ⟨(fun h => by cases h), ?_⟩
  intro a ha i hi
  cases ha
  rw [List.length_drop] at hi
  rw [Go.Deep.add_add, h.2 x rfl (k + i) (by omega)]
  simp [List.getD]
theorem reads_empty {w : World} {x : Addr} : Reads w (some x) [] := ⟨(fun h => by cases h), (fun a _ i hi => by simp at hi)⟩
theorem own_block {w : World} {base n cap : Nat} {ao : Option Addr} {xs : List Value} {e : TypeId} (h : w.ownsRow base e 1 (.slice ao n cap) n xs) {a : Addr} (ha : ao = some a) : (Value.slice ao n cap).ownBlock = some a.block := by
  subst ha
  rcases h.2 with ⟨hv, _⟩ | ⟨g, c, cur, hv, _⟩
  · simp at hv
  · simp at hv; rw [hv.1]; rfl
theorem reads_news {w : World} {x : Addr} {xs : List Int} (h : Reads w (some x) xs) : ∀ (j : Nat) (u : Value), (xs.map (Value.int .u8))[j]? = some u → w.cell? (x.add j) = some u := by
  intro j u hj
  have hjl : j < xs.length := by have := (List.getElem?_eq_some_iff.1 hj).1; simpa using this
  rw [h.2 x rfl j hjl]
  have e : (xs.map (Value.int .u8))[j]? = some (Value.int .u8 (xs.getD j 0)) := by simp [List.getD, List.getElem?_eq_getElem hjl]
  rw [e] at hj
  exact hj
theorem news_one (xs : List Int) : ∀ u ∈ xs.map (Value.int .u8), u.oneCell' = true := by intro u hu; obtain ⟨y, _, rfl⟩ := List.mem_map.1 hu; rfl
theorem Reads.below {w w' : World} {ao : Option Addr} {bs : List Int} (h : Reads w ao bs) (hb : Below w.heap.size w w') : Reads w' ao bs := h.keptNo ((Kept.refl NoB w).ofBelow hb)
theorem str_append (a b : List Int) : strOfNums a ++ strOfNums b = strOfNums (a ++ b) := by
  apply ByteArray.ext
  apply Array.ext'
  rw [strOfNums_data]
  simp [strOfNums_data]
theorem take_add_drop (bs : List Int) (p n : Nat) : bs.take p ++ (bs.drop p).take n = bs.take (p + n) := by rw [List.take_add]
theorem str_extract3 (bs : List Int) (a n : Nat) : (strOfNums bs).extract a (a + n) = strOfNums ((bs.drop a).take n) := by
  apply ByteArray.ext
  apply Array.ext'
  rw [strOfNums_data]
  simp [strOfNums_data, List.map_take, List.map_drop]
theorem wpAnyH_mono2 {P : Program} {md : Region.Mode} {ops : Array Oper} {Q : Exit → Act → World → Prop} {S S' : World → Prop} (h : ∀ w, S' w → S w) :
    ∀ {fuel : Nat} {listed : Array Bool} {a : Act} {w : World}, wpAnyH P md ops Q S' fuel listed a w → wpAnyH P md ops Q S fuel listed a w := by
  intro fuel
  induction fuel with
  | zero => intro _ _ _ hh; exact hh
  | succ n ih => intro listed a w hh; exact ⟨hh.1, fun i hi => wpOp_mono (fun a w hw => ⟨h _ hw.1, ih hw.2⟩) (hh.2 i hi)⟩
end Go.Proofs.YtgbakogihkdddaaGreatDoor

namespace Go.Proofs.YtgbakogihkdddaaGreatDoor
open Go.RowKit
set_option linter.unusedVariables false
set_option linter.unusedSimpArgs false
set_option maxRecDepth 20000

/-- What is told of a node. -/
structure NodeV where
  kind : Int
  mode : Int
  user : Int
  group : Int
  time : Int
  tgt : ByteArray
  major : Int
  minor : Int
  size : Int
  links : Int
  change : Int
def mayB (n : NodeV) : Bool :=
  (n.kind == 1 || n.kind == 6 || n.kind == 7 || n.kind == 3 || n.kind == 4 || n.kind == 5) &&
  (if n.kind = 3 then !n.tgt.toList.isEmpty && decide (n.tgt.size ≤ 1024) && !decide (0 ≤ Lib.indexByte n.tgt.data.toList 0) else n.tgt.toList.isEmpty) &&
  (if n.kind = 4 ∨ n.kind = 5 then decide (0 ≤ n.major) && decide (n.major ≤ 1048575) && (decide (0 ≤ n.minor) && decide (n.minor ≤ 1048575)) else decide (n.major = 0) && decide (n.minor = 0)) &&
  (decide (0 ≤ n.mode) && decide (n.mode ≤ 4095) && (decide (0 ≤ n.user) && decide (n.user ≤ 2147483647)) && (decide (0 ≤ n.group) && decide (n.group ≤ 2147483647))) &&
  decide (n.size = 0) && decide (n.links = 0) && decide (n.change = 0)
theorem infoNd : (Tryz.prog.info? 27).map (·.size) = some 11 := by kernel_rfl
/-- What is told of a node, as cells. -/
def nvC (v : NodeV) : List Value := [.int .i64 v.kind, .int .i64 v.mode, .int .i64 v.user, .int .i64 v.group, .int .i64 v.time, .string v.tgt, .int .i64 v.major, .int .i64 v.minor, .int .i64 v.size, .int .i64 v.links, .int .i64 v.change]
theorem nv_one (v : NodeV) : (nvC v).toArray.all (·.oneCell') = true := by simp [nvC, Value.oneCell']
end Go.Proofs.YtgbakogihkdddaaGreatDoor

namespace Go.Proofs.YtgbakogihkdddaaGreatDoor
set_option linter.unusedVariables false
set_option linter.unusedSimpArgs false

abbrev Nms := List (List UInt8 × Int)
structure NdP where
  v : NodeV
  names : Nms
  par : Int
  data : List Fp
structure FsP where
  nd : Int → Option NdP
  cnt : Nat
  next : Int
  quota : Int
  used : Int
  clock : Int

def getK (l : Nms) (k : List UInt8) : Option Int := (l.find? (fun p => p.1 == k)).map (·.2)
def delK (l : Nms) (k : List UInt8) : Nms := l.filter (fun p => p.1 != k)
def putK (l : Nms) (k : List UInt8) (i : Int) : Nms := l.takeWhile (fun p => decide (p.1 < k)) ++ (k, i) :: l.dropWhile (fun p => decide (p.1 < k))
/-- Names rise. -/
def OkK (l : Nms) : Prop := l.Pairwise (fun p q => p.1 < q.1)
def updN (f : Int → Option NdP) (i : Int) (o : Option NdP) : Int → Option NdP := fun j => if j = i then o else f j
theorem updN_same (f : Int → Option NdP) (i : Int) (o : Option NdP) : updN f i o i = o := by simp [updN]
theorem updN_other (f : Int → Option NdP) {i j : Int} (o : Option NdP) (h : j ≠ i) : updN f i o j = f j := by simp [updN, h]

theorem lt_irr (a : List UInt8) : ¬ a < a := List.lt_irrefl a
theorem lt_tr {a b c : List UInt8} (h : a < b) (k : b < c) : a < c := List.lt_trans h k
theorem lt_tri (a b : List UInt8) (h : ¬ a < b) (hn : a ≠ b) : b < a := by
  by_cases hb : b < a
  · exact hb
  · exact absurd (List.le_antisymm (List.not_lt.1 hb) (List.not_lt.1 h)) hn

theorem getK_mem {l : Nms} {k : List UInt8} {i : Int} (h : getK l k = some i) : (k, i) ∈ l := by
  unfold getK at h
  cases hf : l.find? (fun p => p.1 == k) with
  | none => rw [hf] at h; cases h
  | some p =>
    rw [hf] at h
    have h1 := List.mem_of_find?_eq_some hf
    have h2 := List.find?_some hf
    simp at h h2
    rw [← h2, ← h]; exact h1
theorem OkK.inj {l : Nms} (h : OkK l) {k : List UInt8} {i j : Int} (hi : (k, i) ∈ l) (hj : (k, j) ∈ l) : i = j := by
  induction l with
  | nil => cases hi
  | cons p t ih =>
    obtain ⟨h1, h2⟩ := List.pairwise_cons.1 h
    rcases List.mem_cons.1 hi with e1 | m1 <;> rcases List.mem_cons.1 hj with e2 | m2
    · rw [← e2] at e1; exact congrArg Prod.snd e1
    · have := h1 _ m2; rw [← e1] at this; exact absurd this (lt_irr _)
    · have := h1 _ m1; rw [← e2] at this; exact absurd this (lt_irr _)
    · exact ih h2 m1 m2
theorem getK_iff {l : Nms} (h : OkK l) {k : List UInt8} {i : Int} : getK l k = some i ↔ (k, i) ∈ l := by
  constructor
  · exact getK_mem
  · intro hm
    cases hg : getK l k with
    | some j => rw [h.inj hm (getK_mem hg)]
    | none =>
      unfold getK at hg
      rw [Option.map_eq_none_iff, List.find?_eq_none] at hg
      exact absurd (beq_self_eq_true _) (hg _ hm)
theorem getK_none {l : Nms} {k : List UInt8} : getK l k = none ↔ ∀ p ∈ l, p.1 ≠ k := by
  unfold getK
  rw [Option.map_eq_none_iff, List.find?_eq_none]
  simp
theorem delK_mem {l : Nms} {k : List UInt8} {p : List UInt8 × Int} : p ∈ delK l k ↔ p ∈ l ∧ p.1 ≠ k := by simp [delK]
theorem delK_ok {l : Nms} (h : OkK l) (k : List UInt8) : OkK (delK l k) := List.Pairwise.filter _ h
theorem putK_mem {l : Nms} {k : List UInt8} {i : Int} {p : List UInt8 × Int} : p ∈ putK l k i ↔ p = (k, i) ∨ p ∈ l := by
  unfold putK
  conv => rhs; rw [← List.takeWhile_append_dropWhile (p := fun p => decide (p.1 < k)) (l := l)]
  simp only [List.mem_append, List.mem_cons]
  constructor
  · rintro (h | h | h)
    · exact .inr (.inl h)
    · exact .inl h
    · exact .inr (.inr h)
  · rintro (h | h | h)
    · exact .inr (.inl h)
    · exact .inl h
    · exact .inr (.inr h)
theorem putK_ok {l : Nms} (h : OkK l) (k : List UInt8) (i : Int) (hn : getK l k = none) : OkK (putK l k i) := by
  have hne := getK_none.1 hn
  unfold putK OkK
  have e : l = l.takeWhile (fun p => decide (p.1 < k)) ++ l.dropWhile (fun p => decide (p.1 < k)) := (List.takeWhile_append_dropWhile).symm
  have h1 : ∀ p ∈ l.takeWhile (fun p => decide (p.1 < k)), p.1 < k := fun p hp => by simpa using mem_tw hp
  cases hd : l.dropWhile (fun p => decide (p.1 < k)) with
  | nil =>
    rw [List.pairwise_append]
    refine ⟨h.sublist (List.takeWhile_sublist _), List.pairwise_singleton _ _, ?_⟩
    intro p hp q hq
    simp at hq; subst hq
    exact h1 p hp
  | cons f t =>
    have hf := drop_first hd
    simp at hf
    have hfl : f ∈ l := (List.dropWhile_sublist _).subset (by rw [hd]; exact List.mem_cons_self)
    have hkf : k < f.1 := lt_tri _ _ (by simpa using hf) (hne f hfl)
    have hall := h
    unfold OkK at hall
    rw [e, hd, List.pairwise_append, List.pairwise_cons] at hall
    obtain ⟨a1, ⟨a2, a3⟩, a4⟩ := hall
    rw [List.pairwise_append, List.pairwise_cons, List.pairwise_cons]
    refine ⟨a1, ⟨?_, a2, a3⟩, ?_⟩
    · intro q hq
      rcases List.mem_cons.1 hq with rfl | hq
      · exact hkf
      · exact lt_tr hkf (a2 q hq)
    · intro p hp q hq
      rcases List.mem_cons.1 hq with rfl | hq
      · exact h1 p hp
      · exact a4 p hp q hq
theorem getK_put {l : Nms} (h : OkK l) (k : List UInt8) (i : Int) (hn : getK l k = none) (k' : List UInt8) : getK (putK l k i) k' = if k' = k then some i else getK l k' := by
  have hp := putK_ok h k i hn
  by_cases hk : k' = k
  · subst hk
    rw [if_pos rfl, getK_iff hp, putK_mem]; exact .inl rfl
  · rw [if_neg hk]
    cases hg : getK l k' with
    | some j => rw [getK_iff hp, putK_mem]; exact .inr (getK_mem hg)
    | none =>
      rw [getK_none] at hg ⊢
      intro p hp'
      rcases putK_mem.1 hp' with rfl | hp'
      · exact fun e => hk e.symm
      · exact hg p hp'
theorem getK_del {l : Nms} (h : OkK l) (k k' : List UInt8) : getK (delK l k) k' = if k' = k then none else getK l k' := by
  by_cases hk : k' = k
  · subst hk
    rw [if_pos rfl, getK_none]
    intro p hp
    exact (delK_mem.1 hp).2
  · rw [if_neg hk]
    cases hg : getK l k' with
    | some j => rw [getK_iff (delK_ok h k), delK_mem]; exact ⟨getK_mem hg, hk⟩
    | none =>
      rw [getK_none] at hg ⊢
      intro p hp
      exact hg p (delK_mem.1 hp).1
theorem putK_len (l : Nms) (k : List UInt8) (i : Int) : (putK l k i).length = l.length + 1 := by
  unfold putK
  have := congrArg List.length (List.takeWhile_append_dropWhile (p := fun p : List UInt8 × Int => decide (p.1 < k)) (l := l))
  simp only [List.length_append, List.length_cons] at *
  omega
theorem delK_len {l : Nms} (h : OkK l) {k : List UInt8} {i : Int} (hg : getK l k = some i) : (delK l k).length + 1 = l.length := by
  have hm := getK_mem hg
  clear hg
  induction l with
  | nil => cases hm
  | cons p t ih =>
    obtain ⟨h1, h2⟩ := List.pairwise_cons.1 h
    unfold delK
    rw [List.filter_cons]
    by_cases hp : p.1 = k
    · have hr : t.filter (fun p => p.1 != k) = t := by
        rw [List.filter_eq_self]
        intro q hq
        have := h1 q hq
        rw [hp] at this
        simp
        intro e
        rw [e] at this
        exact lt_irr _ this
      rw [if_neg (by simp [hp]), hr]; rfl
    · rcases List.mem_cons.1 hm with e | hm
      · exact absurd (congrArg Prod.fst e).symm hp
      · rw [if_pos (by simpa using hp)]
        simp only [List.length_cons]
        have := ih h2 hm
        unfold delK at this
        omega
end Go.Proofs.YtgbakogihkdddaaGreatDoor

namespace Go.Proofs.YtgbakogihkdddaaGreatDoor
set_option linter.unusedVariables false
/-- Bytes as a text. -/
def strB (l : List UInt8) : ByteArray := ⟨l.toArray⟩
theorem strB_of (s : ByteArray) : strB s.data.toList = s := by cases s; rfl
theorem strB_size (l : List UInt8) : (strB l).size = l.length := by simp [strB, ByteArray.size]
theorem strB_data (l : List UInt8) : (strB l).data.toList = l := rfl
theorem strB_list (l : List UInt8) : (strB l).toList = l := by rw [Lib.toList_data]; rfl
/-- Bytes as cells, and as numbers. -/
def bc (L : List UInt8) : List Value := L.map fun b => Value.int .u8 (b.toNat : Int)
def nb (L : List UInt8) : List Int := L.map fun b => (b.toNat : Int)
theorem bc_nb (L : List UInt8) : bc L = (nb L).map (.int .u8) := by simp [bc, nb]
theorem nb_len (L : List UInt8) : (nb L).length = L.length := by simp [nb]
def okN (s : ByteArray) : Bool := !s.toList.isEmpty && decide (s.size ≤ 255) && !(s.toList == [46]) && !(s.toList == [46, 46]) && !decide (0 ≤ Lib.indexAny s.data.toList [47, 0])
end Go.Proofs.YtgbakogihkdddaaGreatDoor

namespace Go.Proofs.YtgbakogihkdddaaGreatDoor
set_option linter.unusedVariables false
set_option linter.unusedSimpArgs false

/-- The sum of a number of each node. -/
def sumN (nd : Int → Option NdP) (g : Option NdP → Nat) (n : Nat) : Nat := ((List.range n).map (fun j : Nat => g (nd (j : Int)))).sum
theorem sumN_succ (nd : Int → Option NdP) (g : Option NdP → Nat) (n : Nat) : sumN nd g (n + 1) = sumN nd g n + g (nd (n : Int)) := by
  simp [sumN, List.range_succ]
theorem sumN_congr {nd nd' : Int → Option NdP} {g g' : Option NdP → Nat} {n : Nat} (h : ∀ j : Nat, j < n → g (nd (j : Int)) = g' (nd' (j : Int))) : sumN nd g n = sumN nd' g' n := by
  induction n with
  | zero => rfl
  | succ n ih => rw [sumN_succ, sumN_succ, ih (fun j hj => h j (by omega)), h n (by omega)]
theorem sumN_le {nd : Int → Option NdP} {g : Option NdP → Nat} {n : Nat} (i : Nat) (hi : i < n) : g (nd (i : Int)) ≤ sumN nd g n := by
  induction n with
  | zero => omega
  | succ n ih =>
    rw [sumN_succ]
    rcases Nat.lt_or_ge i n with h | h
    · have := ih h; omega
    · have e : i = n := by omega
      subst e; omega
theorem sumN_upd (nd : Int → Option NdP) (g : Option NdP → Nat) (o : Option NdP) (i : Int) : ∀ n : Nat, 0 ≤ i → i < n → sumN (updN nd i o) g n + g (nd i) = sumN nd g n + g o
  | 0, h0, h => by omega
  | n + 1, h0, h => by
    rw [sumN_succ, sumN_succ]
    by_cases e : i = (n : Int)
    · subst e
      rw [updN_same]
      have : sumN (updN nd (n : Int) o) g n = sumN nd g n := sumN_congr (fun j hj => by rw [updN_other _ _ (by omega)])
      omega
    · have := sumN_upd nd g o i n h0 (by omega)
      rw [updN_other _ _ (fun e' => e e'.symm)]
      omega
theorem sumN_zero {nd : Int → Option NdP} {g : Option NdP → Nat} {n : Nat} (h : sumN nd g n = 0) (i : Nat) (hi : i < n) : g (nd (i : Int)) = 0 := by
  have := @sumN_le nd g n i hi
  omega

def gOne : Option NdP → Nat := fun o => if o.isSome then 1 else 0
def gSize : Option NdP → Nat := fun o => match o with | some n => sizeD n.data | none => 0
def gLink (i : Int) : Option NdP → Nat := fun o => match o with | some n => n.names.countP (fun p => p.2 == i) | none => 0

/-- What holds of a node. -/
structure OkNd (T : FsP) (i : Int) (n : NdP) : Prop where
  low : 1 ≤ i
  high : i ≤ T.next
  sorted : OkK n.names
  names : ∀ p ∈ n.names, okN (strB p.1) = true ∧ p.2 ≠ 1 ∧ ∃ m, T.nd p.2 = some m ∧ (m.v.kind = 6 → m.par = i)
  file : n.v.kind ≠ 6 → n.names = []
  data : OkD n.data
  plain : n.v.kind ≠ 1 → n.data = []
  inside : ∀ p ∈ n.data, endP p ≤ n.v.size
  size : 0 ≤ n.v.size ∧ n.v.size ≤ 1099511627776
  par : n.v.kind = 6 → i ≠ 1 → ∃ d, T.nd n.par = some d ∧ d.v.kind = 6 ∧ ∃ k, (k, i) ∈ d.names
  links : n.v.links = (sumN T.nd (gLink i) (T.next + 1).toNat : Nat) + (if i = 1 then 1 else 0)
  most : n.v.links ≤ T.clock + 1
  change : 0 ≤ n.v.change ∧ n.v.change ≤ T.clock
  mode : 0 ≤ n.v.mode ∧ n.v.mode ≤ 4095
  user : 0 ≤ n.v.user ∧ n.v.user ≤ 2147483647
  group : 0 ≤ n.v.group ∧ n.v.group ≤ 2147483647
  time : -9223372036854775808 ≤ n.v.time ∧ n.v.time ≤ 9223372036854775807
  kind : n.v.kind = 1 ∨ n.v.kind = 3 ∨ n.v.kind = 4 ∨ n.v.kind = 5 ∨ n.v.kind = 6 ∨ n.v.kind = 7
  dev : 0 ≤ n.v.major ∧ n.v.major ≤ 1048575 ∧ 0 ≤ n.v.minor ∧ n.v.minor ≤ 1048575
  tgt : n.v.tgt.size ≤ 1024
  one : n.v.kind = 6 → n.v.links = 1
  few : (n.names.length : Int) ≤ T.clock
/-- What always holds of a tree. -/
structure OkT (T : FsP) : Prop where
  root : ∃ d, T.nd 1 = some d ∧ d.v.kind = 6 ∧ d.par = 1
  node : ∀ i n, T.nd i = some n → OkNd T i n
  next : 1 ≤ T.next ∧ T.next ≤ T.clock + 1
  clock : 0 ≤ T.clock
  quota : 0 ≤ T.quota ∧ T.quota ≤ 9223372036854775807
  used : T.used = (sumN T.nd gSize (T.next + 1).toNat : Nat)
  room : T.used ≤ T.quota
  cnt : T.cnt = sumN T.nd gOne (T.next + 1).toNat
  most : T.cnt ≤ 1000
  rank : ∃ r : Int → Nat, ∀ i n, T.nd i = some n → n.v.kind = 6 → i ≠ 1 → r n.par < r i

/-- The errors of a directory and a part. -/
def placeE (T : FsP) (dir : Int) (part : List UInt8) : Int :=
  match T.nd dir with
  | none => 10
  | some d => if d.v.kind = 6 then (if okN (strB part) = true then 0 else 9) else 12
def namesP (T : FsP) (dir : Int) : Nms := match T.nd dir with | some d => d.names | none => []
def askK : Option Int → Int × Int
  | some i => (i, 0)
  | none => (0, 10)
def findP (T : FsP) (dir : Int) (part : List UInt8) : Int × Int :=
  if placeE T dir part = 0 then askK (getK (namesP T dir) part) else (0, placeE T dir part)
/-- Marks of a change: of a directory that has other names now. -/
def touch (c : Int) (n : NdP) : NdP := { n with v := { n.v with time := c, change := c } }
def setChange (c : Int) (n : NdP) : NdP := { n with v := { n.v with change := c } }
/-- A node that is made. -/
def freshN (n : NodeV) (c dir : Int) : NdP := { v := { n with links := 1, change := c }, names := [], par := if n.kind = 6 then dir else 0, data := [] }
def makeT (T : FsP) (dir : Int) (d : NdP) (part : List UInt8) (n : NodeV) : FsP :=
  { T with clock := T.clock + 1, next := T.next + 1, cnt := T.cnt + 1, nd := updN (updN T.nd dir (some { touch (T.clock + 1) d with names := putK d.names part (T.next + 1) })) (T.next + 1) (some (freshN n (T.clock + 1) dir)) }
def makeP (T : FsP) (dir : Int) (part : List UInt8) (n : NodeV) : FsP × Int × Int :=
  match T.nd dir with
  | none => (T, 0, 10)
  | some d =>
    if d.v.kind = 6 then
      if okN (strB part) = true then
        if mayB n = true then
          if (getK d.names part).isSome then (T, 0, 11) else if 1000 ≤ T.cnt then (T, 0, 14) else (makeT T dir d part n, T.next + 1, 0)
        else (T, 0, 1)
      else (T, 0, 9)
    else (T, 0, 12)
end Go.Proofs.YtgbakogihkdddaaGreatDoor

namespace Go.Proofs.YtgbakogihkdddaaGreatDoor
set_option linter.unusedVariables false
set_option linter.unusedSimpArgs false

theorem sumN_all0 {nd : Int → Option NdP} {g : Option NdP → Nat} {n : Nat} (h : ∀ j : Nat, j < n → g (nd (j : Int)) = 0) : sumN nd g n = 0 := by
  induction n with
  | zero => rfl
  | succ n ih => rw [sumN_succ, ih (fun j hj => h j (by omega)), h n (by omega)]
theorem putK_count (l : Nms) (k : List UInt8) (i : Int) (q : List UInt8 × Int → Bool) : (putK l k i).countP q = l.countP q + (if q (k, i) then 1 else 0) := by
  unfold putK
  conv => rhs; rw [← List.takeWhile_append_dropWhile (p := fun p : List UInt8 × Int => decide (p.1 < k)) (l := l)]
  rw [List.countP_append, List.countP_append, List.countP_cons]
  omega
theorem delK_count {l : Nms} (h : OkK l) {k : List UInt8} {i : Int} (hg : getK l k = some i) (q : List UInt8 × Int → Bool) : (delK l k).countP q + (if q (k, i) then 1 else 0) = l.countP q := by
  have hm := getK_mem hg
  clear hg
  induction l with
  | nil => cases hm
  | cons p t ih =>
    obtain ⟨h1, h2⟩ := List.pairwise_cons.1 h
    unfold delK
    rw [List.filter_cons]
    by_cases hp : p.1 = k
    · have hr : t.filter (fun p => p.1 != k) = t := by
        rw [List.filter_eq_self]
        intro q hq
        have := h1 q hq
        rw [hp] at this
        simp
        intro e
        rw [e] at this
        exact lt_irr _ this
      have hpe : p = (k, i) := by
        rcases List.mem_cons.1 hm with e | hm'
        · exact e.symm
        · have := h1 _ hm'
          rw [hp] at this
          exact absurd this (lt_irr _)
      rw [if_neg (by simp [hp]), hr, List.countP_cons, hpe]
    · rcases List.mem_cons.1 hm with e | hm
      · exact absurd (congrArg Prod.fst e).symm hp
      · rw [if_pos (by simpa using hp), List.countP_cons, List.countP_cons]
        have := ih h2 hm
        unfold delK at this
        omega
theorem gLink_some (i : Int) (n : NdP) : gLink i (some n) = n.names.countP (fun p => p.2 == i) := rfl
theorem gLink_zero {T : FsP} (h : OkT T) (i : Int) (hi : T.nd i = none) (N : Nat) : sumN T.nd (gLink i) N = 0 := by
  refine sumN_all0 (fun j hj => ?_)
  cases hn : T.nd (j : Int) with
  | none => rfl
  | some n =>
    rw [gLink_some, List.countP_eq_zero]
    intro p hp
    obtain ⟨m, hm, _⟩ := ((h.node _ n hn).names p hp).2.2
    simp
    intro e
    rw [e, hi] at hm
    cases hm

/-- What holds of a node goes on while others change. -/
theorem OkNd.step {T T' : FsP} {j : Int} {m : NdP} (h : OkNd T j m) (hnext : T.next ≤ T'.next) (hclock : T.clock ≤ T'.clock)
    (hex : ∀ p ∈ m.names, ∀ a, T.nd p.2 = some a → ∃ a', T'.nd p.2 = some a' ∧ a'.v.kind = a.v.kind ∧ (a.v.kind = 6 → a'.par = a.par))
    (hpar : ∀ d, T.nd m.par = some d → d.v.kind = 6 → (∃ k, (k, j) ∈ d.names) → ∃ d', T'.nd m.par = some d' ∧ d'.v.kind = 6 ∧ ∃ k, (k, j) ∈ d'.names)
    (hlinks : sumN T'.nd (gLink j) (T'.next + 1).toNat = sumN T.nd (gLink j) (T.next + 1).toNat) : OkNd T' j m where
  low := h.low
  high := by have := h.high; omega
  sorted := h.sorted
  names := fun p hp => by
    obtain ⟨h1, h2, a, h3, h4⟩ := h.names p hp
    obtain ⟨a', e1, e2, e3⟩ := hex p hp a h3
    exact ⟨h1, h2, a', e1, fun hk => by rw [e2] at hk; rw [e3 hk]; exact h4 hk⟩
  file := h.file
  data := h.data
  plain := h.plain
  inside := h.inside
  size := h.size
  par := fun hk hj => by
    obtain ⟨d, h1, h2, h3⟩ := h.par hk hj
    exact hpar d h1 h2 h3
  links := by rw [hlinks]; exact h.links
  most := by have := h.most; omega
  change := by have := h.change; omega
  mode := h.mode
  user := h.user
  group := h.group
  time := h.time
  kind := h.kind
  dev := h.dev
  tgt := h.tgt
  one := h.one
  few := by have := h.few; omega

theorem makeT_ok {T : FsP} (h : OkT T) {dir : Int} {d : NdP} {part : List UInt8} {n : NodeV} (hd : T.nd dir = some d) (hk : d.v.kind = 6) (hp : okN (strB part) = true) (hm : mayB n = true) (hn : getK d.names part = none) (hc : T.cnt < 1000)
    (ht : -9223372036854775808 ≤ n.time ∧ n.time ≤ 9223372036854775807) (hclk : T.clock + 1 ≤ 9223372036854775807) : OkT (makeT T dir d part n) := by
  have od := h.node dir d hd
  have hN := h.next
  have hC := h.clock
  have hi0 : T.nd (T.next + 1) = none := by
    cases e : T.nd (T.next + 1) with
    | none => rfl
    | some x => have := (h.node _ x e).high; omega
  have hdi : dir ≠ T.next + 1 := by have := od.high; omega
  obtain ⟨c, hcd⟩ : ∃ c, c = T.clock + 1 := ⟨_, rfl⟩
  obtain ⟨i, hid⟩ : ∃ i, i = T.next + 1 := ⟨_, rfl⟩
  obtain ⟨d', hdd⟩ : ∃ d', d' = ({ touch c d with names := putK d.names part i } : NdP) := ⟨_, rfl⟩
  obtain ⟨f, hfd⟩ : ∃ f, f = freshN n c dir := ⟨_, rfl⟩
  have hT : makeT T dir d part n = { T with clock := c, next := i, cnt := T.cnt + 1, nd := updN (updN T.nd dir (some d')) i (some f) } := by
    unfold makeT; rw [hdd, hfd, hid, hcd]
  rw [hT]
  rw [← hid] at hdi hi0
  have d1 : d'.v.kind = 6 := by rw [hdd]; exact hk
  have d2 : d'.par = d.par := by rw [hdd]; rfl
  have d3 : d'.names = putK d.names part i := by rw [hdd]
  have nI : ∀ g : Option NdP → Nat, updN (updN T.nd dir (some d')) i (some f) i = some f := fun _ => updN_same _ _ _
  have nD : updN (updN T.nd dir (some d')) i (some f) dir = some d' := by rw [updN_other _ _ hdi, updN_same]
  have nO : ∀ x, x ≠ i → x ≠ dir → updN (updN T.nd dir (some d')) i (some f) x = T.nd x := fun x h1 h2 => by rw [updN_other _ _ h1, updN_other _ _ h2]
  have hex : ∀ x a, T.nd x = some a → ∃ a', updN (updN T.nd dir (some d')) i (some f) x = some a' ∧ a'.v.kind = a.v.kind ∧ (a.v.kind = 6 → a'.par = a.par) ∧ (∀ p ∈ a.names, p ∈ a'.names) := by
    intro x a hx
    have hxi : x ≠ i := fun e => by rw [e, hi0] at hx; cases hx
    by_cases hxd : x = dir
    · subst hxd
      rw [hd] at hx; cases hx
      exact ⟨d', nD, by rw [d1, hk], fun _ => d2, fun p hp => by rw [d3]; exact putK_mem.2 (.inr hp)⟩
    · exact ⟨a, by rw [nO x hxi hxd]; exact hx, rfl, fun _ => rfl, fun p hp => hp⟩
  have hNat : (i + 1).toNat = (T.next + 1).toNat + 1 := by omega
  have hcast : (((T.next + 1).toNat : Nat) : Int) = i := by omega
  have hsum : ∀ g : Option NdP → Nat, sumN (updN (updN T.nd dir (some d')) i (some f)) g (i + 1).toNat + g (some d) = sumN T.nd g (T.next + 1).toNat + g (some d') + g (some f) := by
    intro g
    rw [hNat, sumN_succ, hcast, updN_same]
    have e1 : sumN (updN (updN T.nd dir (some d')) i (some f)) g (T.next + 1).toNat = sumN (updN T.nd dir (some d')) g (T.next + 1).toNat := sumN_congr (fun j hj => by rw [updN_other _ _ (by omega)])
    have e2 := sumN_upd T.nd g (some d') dir (T.next + 1).toNat (by have := od.low; omega) (by have := od.high; omega)
    rw [hd] at e2
    omega
  have hf0 : f.names = [] := by rw [hfd]; rfl
  have hlink : ∀ x, sumN (updN (updN T.nd dir (some d')) i (some f)) (gLink x) (i + 1).toNat = sumN T.nd (gLink x) (T.next + 1).toNat + (if i = x then 1 else 0) := by
    intro x
    have := hsum (gLink x)
    rw [gLink_some, gLink_some, gLink_some, hf0, d3, putK_count] at this
    simp only [beq_iff_eq, List.countP_nil] at this
    omega
  have hstep : ∀ x a, T.nd x = some a → ∀ T' : FsP, T' = { T with clock := c, next := i, cnt := T.cnt + 1, nd := updN (updN T.nd dir (some d')) i (some f) } → OkNd T' x a := by
    intro x a hx T' hT'
    subst hT'
    have ox := h.node x a hx
    refine ox.step (by simp only; omega) (by simp only; omega) ?_ ?_ ?_
    · intro p _ b hb
      obtain ⟨b', e1, e2, e3, _⟩ := hex p.2 b hb
      exact ⟨b', e1, e2, e3⟩
    · rintro b hb hbk ⟨k, hkm⟩
      obtain ⟨b', e1, e2, e3, e4⟩ := hex _ b hb
      exact ⟨b', e1, by rw [e2]; exact hbk, k, e4 _ hkm⟩
    · rw [hlink, if_neg (by have := ox.high; omega)]; rfl
  have hmb := hm
  unfold mayB at hmb
  simp only [Bool.and_eq_true, decide_eq_true_eq, Bool.or_eq_true, beq_iff_eq] at hmb
  refine ⟨?_, ?_, ?_, ?_, ?_, ?_, ?_, ?_, ?_, ?_⟩
  · obtain ⟨r, hr, hr6, hrp⟩ := h.root
    obtain ⟨a', e1, e2, e3, _⟩ := hex 1 r hr
    exact ⟨a', e1, by rw [e2]; exact hr6, by rw [e3 hr6]; exact hrp⟩
  · intro x a hx
    by_cases hxi : x = i
    · subst hxi
      have hx' : some f = some a := by rw [← hx]; exact (updN_same _ _ _).symm
      cases hx'
      have fk : f.v.kind = n.kind := by rw [hfd]; rfl
      refine ⟨by omega, Int.le_refl _, by rw [hf0]; exact List.Pairwise.nil, (fun p hp => by rw [hf0] at hp; cases hp), fun _ => hf0, ?_, ?_, ?_, ?_, ?_, ?_, ?_, ?_, ?_, ?_, ?_, ?_, ?_, ?_, ?_, ?_, by rw [hf0]; show (0 : Int) ≤ c; omega⟩
      · rw [hfd]; exact OkD.nil
      · intro _; rw [hfd]; rfl
      · intro p hp; rw [hfd] at hp; cases hp
      · rw [hfd]; show 0 ≤ n.size ∧ n.size ≤ _; omega
      · intro hk6 _
        have hpd : f.par = dir := by rw [hfd]; unfold freshN; simp only; rw [if_pos (by rw [← fk]; exact hk6)]
        refine ⟨d', by rw [hpd]; exact nD, d1, part, by rw [d3]; exact putK_mem.2 (.inl rfl)⟩
      · rw [hlink, gLink_zero h _ hi0, if_pos rfl, if_neg (by omega), hfd]; rfl
      · rw [hfd]; show (1 : Int) ≤ c + 1; omega
      · rw [hfd]; show 0 ≤ c ∧ c ≤ c; omega
      · rw [hfd]; show 0 ≤ n.mode ∧ n.mode ≤ _; omega
      · rw [hfd]; show 0 ≤ n.user ∧ n.user ≤ _; omega
      · rw [hfd]; show 0 ≤ n.group ∧ n.group ≤ _; omega
      · rw [hfd]; exact ht
      · rw [fk]; omega
      · rw [hfd]
        show 0 ≤ n.major ∧ n.major ≤ _ ∧ 0 ≤ n.minor ∧ n.minor ≤ _
        have := hmb.1.1.1.1.2
        split at this <;> simp at this <;> omega
      · rw [hfd]
        show n.tgt.size ≤ 1024
        have := hmb.1.1.1.1.1.2
        split at this
        · simp at this; exact this.1.2
        · have e : n.tgt.toList.length = n.tgt.size := by rw [ByteArray.toList_eq]; rfl
          rw [List.isEmpty_iff] at this
          rw [this] at e
          simp at e
          omega
      · intro _; rw [hfd]; rfl
    · by_cases hxd : x = dir
      · subst hxd
        have hx' : some d' = some a := by rw [← hx]; exact nD.symm
        cases hx'
        have o := hstep x d hd _ rfl
        refine ⟨o.low, o.high, ?_, ?_, (fun e => absurd d1 e), ?_, (fun _ => ?_), ?_, ?_, ?_, ?_, ?_, ?_, ?_, ?_, ?_, ?_, ?_, ?_, ?_, ?_, ?_⟩
        · rw [d3]; exact putK_ok od.sorted _ _ hn
        · intro p hpm
          rw [d3] at hpm
          rcases putK_mem.1 hpm with rfl | hpm
          · refine ⟨hp, by omega, f, updN_same _ _ _, ?_⟩
            intro hk6
            rw [hfd] at hk6 ⊢
            unfold freshN at hk6 ⊢
            simp only at hk6 ⊢
            rw [if_pos hk6]
          · exact o.names p hpm
        · rw [hdd]; exact o.data
        · rw [hdd]; exact o.plain (by rw [hk]; omega)
        · rw [hdd]; exact o.inside
        · rw [hdd]; exact o.size
        · intro _ hx1
          rw [d2]
          exact o.par hk hx1
        · have e0 : d'.v.links = d.v.links := by rw [hdd]; rfl
          rw [e0]; exact o.links
        · rw [hdd]; exact o.most
        · rw [hdd]; show 0 ≤ c ∧ c ≤ c; omega
        · rw [hdd]; exact o.mode
        · rw [hdd]; exact o.user
        · rw [hdd]; exact o.group
        · rw [hdd]; show -9223372036854775808 ≤ c ∧ c ≤ _; omega
        · rw [hdd]; exact o.kind
        · rw [hdd]; exact o.dev
        · rw [hdd]; exact o.tgt
        · rw [hdd]; exact o.one
        · rw [d3, putK_len]; have := od.few; show ((d.names.length + 1 : Nat) : Int) ≤ c; omega
      · exact hstep x a (by rw [← hx]; exact (nO x hxi hxd).symm) _ rfl
  · show 1 ≤ i ∧ i ≤ c + 1; omega
  · show 0 ≤ c; omega
  · exact h.quota
  · have := hsum gSize
    have e1 : gSize (some d') = gSize (some d) := by rw [hdd]; rfl
    have e2 : gSize (some f) = 0 := by rw [hfd]; rfl
    have hu := h.used
    show T.used = (sumN (updN (updN T.nd dir (some d')) i (some f)) gSize (i + 1).toNat : Nat)
    omega
  · exact h.room
  · have := hsum gOne
    have hu := h.cnt
    show T.cnt + 1 = sumN (updN (updN T.nd dir (some d')) i (some f)) gOne (i + 1).toNat
    have e1 : gOne (some d') = 1 := rfl
    have e2 : gOne (some f) = 1 := rfl
    have e3 : gOne (some d) = 1 := rfl
    omega
  · show T.cnt + 1 ≤ 1000; omega
  · obtain ⟨r, hr⟩ := h.rank
    refine ⟨fun x => if x = i then r dir + 1 else r x, ?_⟩
    intro x a hx hk6 hx1
    by_cases hxi : x = i
    · subst hxi
      have hx' : some f = some a := by rw [← hx]; exact (updN_same _ _ _).symm
      cases hx'
      have hpd : f.par = dir := by rw [hfd] at hk6 ⊢; unfold freshN at hk6 ⊢; simp only at hk6 ⊢; rw [if_pos hk6]
      simp only [if_true]
      rw [hpd, if_neg hdi]; omega
    · have key : ∃ b, T.nd x = some b ∧ b.v.kind = 6 ∧ b.par = a.par := by
        by_cases hxd : x = dir
        · subst hxd
          have hx' : some d' = some a := by rw [← hx]; exact nD.symm
          cases hx'
          exact ⟨d, hd, hk, d2.symm⟩
        · exact ⟨a, by rw [← hx]; exact (nO x hxi hxd).symm, hk6, rfl⟩
      obtain ⟨b, hb, hb6, hbp⟩ := key
      have := hr x b hb hb6 hx1
      obtain ⟨q, hq, _⟩ := (h.node x b hb).par hb6 hx1
      simp only
      rw [← hbp, if_neg hxi, if_neg (fun e => by rw [e, hi0] at hq; cases hq)]
      exact this
end Go.Proofs.YtgbakogihkdddaaGreatDoor

namespace Go.Proofs.YtgbakogihkdddaaGreatDoor
set_option linter.unusedVariables false
set_option linter.unusedSimpArgs false

/-- A node with another number of names. -/
def linked (c k : Int) (m : NdP) : NdP := { m with v := { m.v with links := m.v.links + k, change := c } }
/-- A directory with other names. -/
def named (c : Int) (d : NdP) (l : Nms) : NdP := { touch c d with names := l }
def linkT (T : FsP) (dir : Int) (d : NdP) (part : List UInt8) (ino : Int) (m : NdP) : FsP :=
  { T with clock := T.clock + 1, nd := updN (updN T.nd dir (some (named (T.clock + 1) d (putK d.names part ino)))) ino (some (linked (T.clock + 1) 1 m)) }
def linkP (T : FsP) (dir : Int) (part : List UInt8) (ino : Int) : FsP × Int :=
  match T.nd ino with
  | none => (T, 10)
  | some m =>
    match T.nd dir with
    | none => (T, 10)
    | some d =>
      if d.v.kind = 6 then
        if okN (strB part) = true then
          if m.v.kind = 6 then (T, 13) else if (getK d.names part).isSome then (T, 11) else (linkT T dir d part ino m, 0)
        else (T, 9)
      else (T, 12)
def removeT (T : FsP) (dir : Int) (d : NdP) (part : List UInt8) (ino : Int) (m : NdP) : FsP :=
  if m.v.links = 1 then
    { T with clock := T.clock + 1, used := T.used - sizeD m.data, cnt := T.cnt - 1, nd := updN (updN T.nd dir (some (named (T.clock + 1) d (delK d.names part)))) ino none }
  else
    { T with clock := T.clock + 1, nd := updN (updN T.nd dir (some (named (T.clock + 1) d (delK d.names part)))) ino (some (linked (T.clock + 1) (-1) m)) }
def removeP (T : FsP) (dir : Int) (part : List UInt8) : FsP × Int :=
  match T.nd dir with
  | none => (T, 10)
  | some d =>
    if d.v.kind = 6 then
      if okN (strB part) = true then
        match getK d.names part with
        | none => (T, 10)
        | some ino =>
          match T.nd ino with
          | none => (T, 10)
          | some m => if m.names = [] then (removeT T dir d part ino m, 0) else (T, 13)
      else (T, 9)
    else (T, 12)

/-- Two nodes turn: a directory has other names, and what it names is another node, or gone. -/
theorem two_ok {T : FsP} (h : OkT T) {dir ino : Int} {d m : NdP} {l : Nms} {o : Option NdP} {s : Int} {used' : Int} {cnt' : Nat} (hd : T.nd dir = some d) (hk : d.v.kind = 6) (hm : T.nd ino = some m) (hne : dir ≠ ino) (hi1 : ino ≠ 1)
    (hl : OkK l) (hlm : ∀ p ∈ l, okN (strB p.1) = true ∧ p.2 ≠ 1 ∧ ((p ∈ d.names) ∨ (p.2 = ino ∧ m.v.kind ≠ 6)) ∧ (o = none → p.2 ≠ ino))
    (hdm : ∀ k x, (k, x) ∈ d.names → x ≠ ino → (k, x) ∈ l) (hdi : m.v.kind = 6 → o ≠ none → ∀ k, (k, ino) ∈ d.names → (k, ino) ∈ l)
    (hlink : ∀ x, ((l.countP (fun p => p.2 == x) : Nat) : Int) = d.names.countP (fun p => p.2 == x) + (if ino = x then s else 0))
    (ho : o = none ∨ o = some (linked (T.clock + 1) s m)) (hs : -1 ≤ s ∧ s ≤ 1) (hmn : m.names = [] ∨ o ≠ none)
    (h0 : o = none → m.v.links + s = 0) (hone : m.v.kind = 6 → o ≠ none → m.v.links + s = 1) (hlen : l.length ≤ d.names.length + 1)
    (hused : used' + (gSize (some m) : Nat) = T.used + (gSize o : Nat)) (hcnt : cnt' + gOne (some m) = T.cnt + gOne o)
    (hclk : T.clock + 1 ≤ 9223372036854775807) :
    OkT { T with clock := T.clock + 1, used := used', cnt := cnt', nd := updN (updN T.nd dir (some (named (T.clock + 1) d l))) ino o } := by
  have od := h.node dir d hd
  have om := h.node ino m hm
  have hN := h.next
  have hC := h.clock
  obtain ⟨c, hcd⟩ : ∃ c, c = T.clock + 1 := ⟨_, rfl⟩
  rw [← hcd] at ho ⊢
  obtain ⟨d', hdd⟩ : ∃ d', d' = named c d l := ⟨_, rfl⟩
  rw [← hdd]
  have d1 : d'.v.kind = 6 := by rw [hdd]; exact hk
  have d2 : d'.par = d.par := by rw [hdd]; rfl
  have d3 : d'.names = l := by rw [hdd]; rfl
  have nI : updN (updN T.nd dir (some d')) ino o ino = o := updN_same _ _ _
  have nD : updN (updN T.nd dir (some d')) ino o dir = some d' := by rw [updN_other _ _ hne, updN_same]
  have nO : ∀ x, x ≠ ino → x ≠ dir → updN (updN T.nd dir (some d')) ino o x = T.nd x := fun x h1 h2 => by rw [updN_other _ _ h1, updN_other _ _ h2]
  have hsum : ∀ g : Option NdP → Nat, sumN (updN (updN T.nd dir (some d')) ino o) g (T.next + 1).toNat + g (some d) + g (some m) = sumN T.nd g (T.next + 1).toNat + g (some d') + g o := by
    intro g
    have e1 := sumN_upd (updN T.nd dir (some d')) g o ino (T.next + 1).toNat (by have := om.low; omega) (by have := om.high; omega)
    have e2 := sumN_upd T.nd g (some d') dir (T.next + 1).toNat (by have := od.low; omega) (by have := od.high; omega)
    rw [updN_other _ _ (fun e => hne e.symm), hm] at e1
    rw [hd] at e2
    omega
  have hom : ∀ x, gLink x o = gLink x (some m) ∨ (o = none ∧ m.names = []) := by
    intro x
    rcases ho with e | e
    · exact .inr ⟨e, by rcases hmn with h1 | h1; exact h1; exact absurd e h1⟩
    · left; rw [e]; rfl
  have hlk : ∀ x, ((sumN (updN (updN T.nd dir (some d')) ino o) (gLink x) (T.next + 1).toNat : Nat) : Int) = (sumN T.nd (gLink x) (T.next + 1).toNat : Nat) + (if ino = x then s else 0) := by
    intro x
    have e1 := hsum (gLink x)
    have e2 := hlink x
    rw [gLink_some, gLink_some, gLink_some, d3] at e1
    rcases hom x with e | ⟨e, e'⟩
    · rw [e, gLink_some] at e1; omega
    · have e3 : gLink x o = 0 := by rw [e]; rfl
      rw [e3, e', List.countP_nil] at e1
      omega
  have lm := om.links
  rw [if_neg hi1] at lm
  -- where one is gone no name leads to it
  have hgone : o = none → ∀ x a, T.nd x = some a → x ≠ dir → ∀ p ∈ a.names, p.2 ≠ ino := by
    intro ho0 x a hx hxd p hp hpe
    have e1 := hlk ino
    rw [if_pos rfl] at e1
    have e2 := h0 ho0
    have e3 : sumN (updN (updN T.nd dir (some d')) ino o) (gLink ino) (T.next + 1).toNat = 0 := by omega
    have ox := h.node x a hx
    have e4 := sumN_zero e3 x.toNat (by have := ox.low; have := ox.high; omega)
    have e5 : ((x.toNat : Nat) : Int) = x := by have := ox.low; omega
    rw [e5] at e4
    have hxi : x ≠ ino := by
      intro e
      subst e
      rw [hm] at hx; cases hx
      rcases hmn with h1 | h1
      · rw [h1] at hp; cases hp
      · exact h1 ho0
    rw [nO x hxi hxd, hx, gLink_some, List.countP_eq_zero] at e4
    exact absurd (by simpa using hpe) (e4 p hp)
  have hex : ∀ x a, T.nd x = some a → (x = ino → o ≠ none) → ∃ a', updN (updN T.nd dir (some d')) ino o x = some a' ∧ a'.v.kind = a.v.kind ∧ (a.v.kind = 6 → a'.par = a.par) := by
    intro x a hx hxo
    by_cases hxi : x = ino
    · subst hxi
      rw [hm] at hx; cases hx
      rcases ho with e | e
      · exact absurd e (hxo rfl)
      · exact ⟨linked c s m, by rw [nI, e], rfl, fun _ => rfl⟩
    · by_cases hxd : x = dir
      · subst hxd
        rw [hd] at hx; cases hx
        exact ⟨d', nD, by rw [d1, hk], fun _ => d2⟩
      · exact ⟨a, by rw [nO x hxi hxd]; exact hx, rfl, fun _ => rfl⟩
  have hpr : ∀ x b, T.nd x = some b → b.v.kind = 6 → ∀ j a, T.nd j = some a → a.v.kind = 6 → (j = ino → o ≠ none) → (∃ k, (k, j) ∈ b.names) → ∃ b', updN (updN T.nd dir (some d')) ino o x = some b' ∧ b'.v.kind = 6 ∧ ∃ k, (k, j) ∈ b'.names := by
    rintro x b hx hb6 j a hj ha6 hjo ⟨k, hkm⟩
    by_cases hxi : x = ino
    · subst hxi
      rw [hm] at hx; cases hx
      rcases ho with e | e
      · rcases hmn with h1 | h1
        · rw [h1] at hkm; cases hkm
        · exact absurd e h1
      · exact ⟨linked c s m, by rw [nI, e], hb6, k, hkm⟩
    · by_cases hxd : x = dir
      · subst hxd
        rw [hd] at hx; cases hx
        refine ⟨d', nD, d1, k, ?_⟩
        rw [d3]
        by_cases hji : j = ino
        · subst hji
          rw [hm] at hj; cases hj
          exact hdi ha6 (hjo rfl) k hkm
        · exact hdm k j hkm hji
      · exact ⟨b, by rw [nO x hxi hxd]; exact hx, hb6, k, hkm⟩
  have hstep : ∀ x a, T.nd x = some a → x ≠ ino → x ≠ dir → OkNd { T with clock := c, used := used', cnt := cnt', nd := updN (updN T.nd dir (some d')) ino o } x a := by
    intro x a hx hxi hxd
    have ox := h.node x a hx
    refine ⟨ox.low, ox.high, ox.sorted, ?_, ox.file, ox.data, ox.plain, ox.inside, ox.size, ?_, ?_, ?_, ?_, ox.mode, ox.user, ox.group, ox.time, ox.kind, ox.dev, ox.tgt, ox.one, by have := ox.few; show (a.names.length : Int) ≤ c; omega⟩
    · intro p hp
      obtain ⟨h1, h2, b, h3, h4⟩ := ox.names p hp
      obtain ⟨b', e1, e2, e3⟩ := hex p.2 b h3 (fun e e' => hgone e' x a hx hxd p hp e)
      exact ⟨h1, h2, b', e1, fun hk' => by rw [e2] at hk'; rw [e3 hk']; exact h4 hk'⟩
    · intro hk' hx1
      obtain ⟨b, h1, h2, h3⟩ := ox.par hk' hx1
      exact hpr a.par b h1 h2 x a hx hk' (fun e => absurd e hxi) h3
    · have := hlk x
      rw [if_neg (fun e => hxi e.symm)] at this
      have e2 := ox.links
      show a.v.links = (sumN (updN (updN T.nd dir (some d')) ino o) (gLink x) (T.next + 1).toNat : Nat) + _
      rw [this]; simpa using e2
    · have := ox.most; show a.v.links ≤ c + 1; omega
    · have := ox.change; show 0 ≤ a.v.change ∧ a.v.change ≤ c; omega
  refine ⟨?_, ?_, ?_, ?_, ?_, ?_, ?_, ?_, ?_, ?_⟩
  · obtain ⟨r, hr, hr6, hrp⟩ := h.root
    obtain ⟨a', e1, e2, e3⟩ := hex 1 r hr (fun e => absurd e.symm hi1)
    exact ⟨a', e1, by rw [e2]; exact hr6, by rw [e3 hr6]; exact hrp⟩
  · intro x a hx
    by_cases hxi : x = ino
    · subst hxi
      have hx' : o = some a := by rw [← hx]; exact nI.symm
      rcases ho with e | e
      · rw [e] at hx'; cases hx'
      · rw [e] at hx'; cases hx'
        have hon : o ≠ none := by rw [e]; simp
        refine ⟨om.low, om.high, om.sorted, ?_, om.file, om.data, om.plain, om.inside, om.size, ?_, ?_, ?_, ?_, om.mode, om.user, om.group, om.time, om.kind, om.dev, om.tgt, fun hk' => by have := hone hk' hon; show m.v.links + s = 1; omega, by have := om.few; show (m.names.length : Int) ≤ c; omega⟩
        · intro p hp
          obtain ⟨h1, h2, b, h3, h4⟩ := om.names p hp
          obtain ⟨b', e1, e2, e3⟩ := hex p.2 b h3 (fun _ => hon)
          exact ⟨h1, h2, b', e1, fun hk' => by rw [e2] at hk'; rw [e3 hk']; exact h4 hk'⟩
        · intro hk' hx1
          obtain ⟨b, h1, h2, h3⟩ := om.par hk' hx1
          exact hpr m.par b h1 h2 x m hm hk' (fun _ => hon) h3
        · have := hlk x
          rw [if_pos rfl] at this
          show m.v.links + s = (sumN (updN (updN T.nd dir (some d')) x o) (gLink x) (T.next + 1).toNat : Nat) + _
          rw [this, if_neg hi1]; omega
        · have := om.most; show m.v.links + s ≤ c + 1; omega
        · show 0 ≤ c ∧ c ≤ c; omega
    · by_cases hxd : x = dir
      · subst hxd
        have hx' : some d' = some a := by rw [← hx]; exact nD.symm
        cases hx'
        refine ⟨od.low, od.high, by rw [d3]; exact hl, ?_, (fun e => absurd d1 e), by rw [hdd]; exact od.data, (fun _ => by rw [hdd]; exact od.plain (by rw [hk]; omega)), by rw [hdd]; exact od.inside, by rw [hdd]; exact od.size, ?_, ?_, ?_, ?_, by rw [hdd]; exact od.mode, by rw [hdd]; exact od.user, by rw [hdd]; exact od.group, ?_, by rw [hdd]; exact od.kind, by rw [hdd]; exact od.dev, by rw [hdd]; exact od.tgt, by rw [hdd]; exact od.one, by rw [d3]; have := od.few; show (l.length : Int) ≤ c; omega⟩
        · intro p hp
          rw [d3] at hp
          obtain ⟨h1, h2, h3, h5⟩ := hlm p hp
          refine ⟨h1, h2, ?_⟩
          rcases h3 with h3 | ⟨h3, h4⟩
          · obtain ⟨_, _, b, e1, e2⟩ := od.names p h3
            obtain ⟨b', e3, e4, e5⟩ := hex p.2 b e1 (fun e e' => h5 e' e)
            exact ⟨b', e3, fun hk' => by rw [e4] at hk'; rw [e5 hk']; exact e2 hk'⟩
          · obtain ⟨b', e3, e4, e5⟩ := hex p.2 m (by rw [h3]; exact hm) (fun e e' => h5 e' e)
            exact ⟨b', e3, fun hk' => by rw [e4] at hk'; exact absurd hk' h4⟩
        · intro _ hx1
          obtain ⟨b, h1, h2, h3⟩ := od.par hk hx1
          rw [d2]
          exact hpr d.par b h1 h2 x d hd hk (fun e => absurd e hxi) h3
        · have := hlk x
          rw [if_neg (fun e => hxi e.symm)] at this
          have e2 := od.links
          have e0 : d'.v.links = d.v.links := by rw [hdd]; rfl
          rw [e0]
          show d.v.links = (sumN (updN (updN T.nd x (some d')) ino o) (gLink x) (T.next + 1).toNat : Nat) + _
          rw [this]; simpa using e2
        · rw [hdd]; have := od.most; show d.v.links ≤ c + 1; omega
        · rw [hdd]; show 0 ≤ c ∧ c ≤ c; omega
        · rw [hdd]; show -9223372036854775808 ≤ c ∧ c ≤ _; omega
      · exact hstep x a (by rw [← hx]; exact (nO x hxi hxd).symm) hxi hxd
  · show 1 ≤ T.next ∧ T.next ≤ c + 1; omega
  · show 0 ≤ c; omega
  · exact h.quota
  · have e1 := hsum gSize
    have e2 : gSize (some d') = gSize (some d) := by rw [hdd]; rfl
    have e3 := h.used
    show used' = (sumN (updN (updN T.nd dir (some d')) ino o) gSize (T.next + 1).toNat : Nat)
    omega
  · have e1 := h.room
    show used' ≤ T.quota
    have e4 : gSize o ≤ gSize (some m) := by
      rcases ho with e | e
      · rw [e]; exact Nat.zero_le _
      · rw [e]; exact Nat.le_refl _
    omega
  · have e1 := hsum gOne
    have e3 := h.cnt
    show cnt' = sumN (updN (updN T.nd dir (some d')) ino o) gOne (T.next + 1).toNat
    have e2 : gOne (some d') = gOne (some d) := rfl
    omega
  · have e1 := h.most
    show cnt' ≤ 1000
    have e4 : gOne o ≤ gOne (some m) := by
      rcases ho with e | e
      · rw [e]; exact Nat.zero_le _
      · rw [e]; exact Nat.le_refl _
    omega
  · obtain ⟨r, hr⟩ := h.rank
    refine ⟨r, ?_⟩
    intro x a hx hk6 hx1
    by_cases hxi : x = ino
    · subst hxi
      have hx' : o = some a := by rw [← hx]; exact nI.symm
      rcases ho with e | e
      · rw [e] at hx'; cases hx'
      · rw [e] at hx'; cases hx'
        exact hr x m hm hk6 hx1
    · by_cases hxd : x = dir
      · subst hxd
        have hx' : some d' = some a := by rw [← hx]; exact nD.symm
        cases hx'
        rw [d2]
        exact hr x d hd hk hx1
      · exact hr x a (by rw [← hx]; exact (nO x hxi hxd).symm) hk6 hx1
theorem linkT_ok {T : FsP} (h : OkT T) {dir ino : Int} {d m : NdP} {part : List UInt8} (hd : T.nd dir = some d) (hk : d.v.kind = 6) (hp : okN (strB part) = true) (hm : T.nd ino = some m) (hmk : m.v.kind ≠ 6) (hn : getK d.names part = none)
    (hclk : T.clock + 1 ≤ 9223372036854775807) : OkT (linkT T dir d part ino m) := by
  have hne : dir ≠ ino := fun e => by rw [e, hm] at hd; cases hd; exact hmk hk
  have hi1 : ino ≠ 1 := fun e => by
    obtain ⟨r, hr, hr6, _⟩ := h.root
    rw [e, hr] at hm; cases hm; exact hmk hr6
  have od := h.node dir d hd
  refine two_ok h (s := 1) hd hk hm hne hi1 (putK_ok od.sorted part ino hn) ?_ (fun k x hkx _ => putK_mem.2 (.inr hkx)) (fun e => absurd e hmk) ?_ (.inr rfl) (by omega) (.inr (by simp)) (fun e => by cases e) (fun e => absurd e hmk) (by rw [putK_len]; omega) ?_ ?_ hclk
  · intro p hp'
    rcases putK_mem.1 hp' with rfl | hp'
    · exact ⟨hp, hi1, .inr ⟨rfl, hmk⟩, fun e => by cases e⟩
    · obtain ⟨h1, h2, _⟩ := od.names p hp'
      exact ⟨h1, h2, .inl hp', fun e => by cases e⟩
  · intro x
    rw [putK_count]
    simp only [beq_iff_eq]
    split <;> simp
  · rfl
  · rfl
theorem removeT_ok {T : FsP} (h : OkT T) {dir ino : Int} {d m : NdP} {part : List UInt8} (hd : T.nd dir = some d) (hk : d.v.kind = 6) (hg : getK d.names part = some ino) (hm : T.nd ino = some m) (hmn : m.names = [])
    (hclk : T.clock + 1 ≤ 9223372036854775807) : OkT (removeT T dir d part ino m) := by
  have od := h.node dir d hd
  have hmem := getK_mem hg
  have hne : dir ≠ ino := fun e => by rw [e, hm] at hd; cases hd; rw [hmn] at hmem; cases hmem
  have hi1 : ino ≠ 1 := (od.names _ hmem).2.1
  have om := h.node ino m hm
  have hcount : ∀ x, (((delK d.names part).countP (fun p => p.2 == x) : Nat) : Int) = d.names.countP (fun p => p.2 == x) + (if ino = x then -1 else 0) := by
    intro x
    have := delK_count od.sorted hg (fun p => p.2 == x)
    simp only [beq_iff_eq] at this
    split <;> rename_i hx
    · rw [if_pos hx] at this; omega
    · rw [if_neg hx] at this; omega
  -- a directory has one name alone
  have hdi : m.v.kind = 6 → m.v.links = 1 := om.one
  unfold removeT
  split
  · rename_i hl1
    refine two_ok h (s := -1) (o := none) hd hk hm hne hi1 (delK_ok od.sorted part) ?_ ?_ (fun _ e => absurd rfl e) hcount (.inl rfl) (by omega) (.inl hmn) (fun _ => by omega) (fun _ e => absurd rfl e) (by have := delK_len od.sorted hg; omega) ?_ ?_ hclk
    · intro p hp
      obtain ⟨hp1, hp2⟩ := delK_mem.1 hp
      obtain ⟨h1, h2, _⟩ := od.names p hp1
      refine ⟨h1, h2, .inl hp1, fun _ e => ?_⟩
      have e1 := delK_count od.sorted hg (fun p => p.2 == ino)
      have e2 := @sumN_le T.nd (gLink ino) (T.next + 1).toNat dir.toNat (by have := od.low; have := od.high; omega)
      have e3 : ((dir.toNat : Nat) : Int) = dir := by have := od.low; omega
      rw [e3, hd, gLink_some] at e2
      have e4 := om.links
      rw [if_neg hi1] at e4
      simp only [beq_self_eq_true, if_true] at e1
      have e5 : (delK d.names part).countP (fun p => p.2 == ino) = 0 := by omega
      rw [List.countP_eq_zero] at e5
      exact absurd (by simpa using e) (e5 p hp)
    · intro k x hkx hxi
      refine delK_mem.2 ⟨hkx, fun e => hxi ?_⟩
      simp only at e
      subst e
      exact od.sorted.inj hkx hmem
    · show T.used - (sizeD m.data : Nat) + (gSize (some m) : Nat) = T.used + ((0 : Nat) : Int)
      have e : gSize (some m) = sizeD m.data := rfl
      omega
    · have := h.cnt
      have h1 := @sumN_le T.nd gOne (T.next + 1).toNat ino.toNat (by have := om.low; have := om.high; omega)
      have h2 : ((ino.toNat : Nat) : Int) = ino := by have := om.low; omega
      rw [h2, hm] at h1
      have h3 : gOne (some m) = 1 := rfl
      have h4 : gOne none = 0 := rfl
      omega
  · rename_i hl1
    refine two_ok h (s := -1) (o := some (linked (T.clock + 1) (-1) m)) hd hk hm hne hi1 (delK_ok od.sorted part) ?_ ?_ (fun e => absurd (hdi e) hl1) hcount (.inr rfl) (by omega) (.inr (by simp)) (fun e => by cases e) (fun e => absurd (hdi e) hl1) (by have := delK_len od.sorted hg; omega) ?_ ?_ hclk
    · intro p hp
      obtain ⟨hp1, hp2⟩ := delK_mem.1 hp
      obtain ⟨h1, h2, _⟩ := od.names p hp1
      exact ⟨h1, h2, .inl hp1, fun e => by cases e⟩
    · intro k x hkx hxi
      refine delK_mem.2 ⟨hkx, fun e => hxi ?_⟩
      simp only at e
      subst e
      exact od.sorted.inj hkx hmem
    · rfl
    · rfl
end Go.Proofs.YtgbakogihkdddaaGreatDoor
