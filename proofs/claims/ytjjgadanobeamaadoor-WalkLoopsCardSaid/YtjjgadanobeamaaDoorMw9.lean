/-
  All that is below a directory, on paper.
  strings.SplitSeq at "/": what its function does with the loop that ranges over it.
  A way along links, on paper.
  A loop that ranges over strings.SplitSeq(s, "/"): what its body owes, and what follows.
  name.Parts: what stands between the slashes of a path.
  The document's nought and NameOk.
  Rows of texts that are read; the document's SameTexts.
  The document's slashes.
  A tree of files on paper: what the document fixes.
  Decimal digits, told alone (a seat without strconv).
  As many nodes as may be, on paper: each with a name of its own in the root.
  A row of links, each leading to the next one, on paper.
-/
import Derived.Test.YtjjgadanobeamaaDoorMw8
import Derived.RangeFuncKeeps
import Derived.RangeFuncLeaves
import Derived.RangeFuncCalls
import Derived.Shelf.Abstract
import Derived.WalkKit
import Derived.OwnWalkIn
import Derived.TacticsInMore
import Derived.LoopNIn
import Derived.LoopIn
import Derived.RangeFuncFrom
import Derived.RangeFuncBox
import Derived.Maps.AppendAt
import Derived.Lib.ItoaMem
namespace Go.Proofs.YtjjgadanobeamaaDoor
set_option linter.unusedVariables false
set_option linter.unusedSimpArgs false
set_option maxRecDepth 20000

def joinW (path part : List UInt8) : List UInt8 := if path = [] then part else path ++ 47 :: part
def Deep (T : FsP) : Nat → Int → Prop
  | 0, dir => namesP T dir = []
  | k + 1, dir => ∀ p ∈ namesP T dir, Deep T k p.2
abbrev SeenP := List UInt8 × Int
def allL (go : Int → List UInt8 → List SeenP) (path : List UInt8) : Nms → List SeenP
  | [] => []
  | p :: r => ((joinW path p.1, p.2) :: go p.2 (joinW path p.1)) ++ allL go path r
def allP (T : FsP) : Nat → Int → List UInt8 → List SeenP
  | 0, _, _ => []
  | k + 1, dir, path => allL (allP T k) path (namesP T dir)
theorem allL_append (go : Int → List UInt8 → List SeenP) (path : List UInt8) : ∀ a b : Nms, allL go path (a ++ b) = allL go path a ++ allL go path b
  | [], b => rfl
  | p :: r, b => by
    show _ ++ allL go path (r ++ b) = _
    rw [allL_append go path r b]
    simp [allL]
theorem allL_snoc (go : Int → List UInt8 → List SeenP) (path : List UInt8) (l : Nms) (i : Nat) (h : i < l.length) : allL go path (l.take (i + 1)) = allL go path (l.take i) ++ ((joinW path l[i].1, l[i].2) :: go l[i].2 (joinW path l[i].1)) := by
  rw [List.take_succ_eq_append_getElem h, allL_append]
  simp [allL]
theorem Deep.more {T : FsP} : ∀ {k : Nat} {dir : Int}, Deep T k dir → Deep T (k + 1) dir
  | 0, dir, h => by
    intro p hp
    rw [show namesP T dir = [] from h] at hp
    cases hp
  | k + 1, dir, h => fun p hp => Deep.more (h p hp)
theorem joinW_len (path part : List UInt8) : (joinW path part).length ≤ path.length + 1 + part.length := by
  unfold joinW
  split
  · omega
  · simp; omega
theorem find_mem {T : FsP} (hT : OkT T) {dir : Int} {p : List UInt8 × Int} (h : p ∈ namesP T dir) : findP T dir p.1 = (p.2, 0) ∧ p.1.length ≤ 255 ∧ p.1 ≠ [] ∧ (1 ≤ p.2 ∧ p.2 ≤ T.next) := by
  unfold namesP at h
  cases hn : T.nd dir with
  | none => rw [hn] at h; cases h
  | some d =>
    rw [hn] at h
    replace h : p ∈ d.names := h
    have hd := hT.node dir d hn
    obtain ⟨h1, h2, m, h3, h4⟩ := hd.names p h
    have h6 : d.v.kind = 6 := Classical.byContradiction fun h6 => by
      rw [hd.file h6] at h; cases h
    have hg : getK d.names p.1 = some p.2 := (getK_iff hd.sorted).2 h
    have hm := hT.node _ m h3
    have hk := h1
    simp only [okN, Bool.and_eq_true, decide_eq_true_eq] at hk
    refine ⟨?_, ?_, ?_, hm.low, hm.high⟩
    · unfold findP placeE namesP
      rw [hn]
      simp only [h6, h1, if_pos, hg, askK]
    · have := hk.1.1.1.2; rw [strB_size] at this; exact this
    · rintro e
      rw [e] at h1
      have h0 : okN (strB []) = false := by kernel_rfl
      rw [h0] at h1; cases h1
theorem names_in {T : FsP} (hT : OkT T) (dir : Int) : ((namesP T dir).length : Int) ≤ T.clock := by
  unfold namesP
  cases hn : T.nd dir with
  | none => exact hT.clock
  | some d => exact (hT.node dir d hn).few
theorem allL_take_le (go : Int → List UInt8 → List SeenP) (path : List UInt8) (l : Nms) (i : Nat) : (allL go path (l.take i)).length ≤ (allL go path l).length := by
  have := congrArg List.length (allL_append go path (l.take i) (l.drop i))
  rw [List.take_append_drop, List.length_append] at this
  omega
end Go.Proofs.YtjjgadanobeamaaDoor

namespace Go.Proofs.YtjjgadanobeamaaDoor
open Go.RowKit Go.Shelf
set_option linter.unusedVariables false
set_option linter.unusedSimpArgs false

attribute [local go_sem] Oper.semAt_some

def pieces : List UInt8 → List (List UInt8)
  | [] => [[]]
  | b :: r => if b = 47 then [] :: pieces r else match pieces r with | [] => [[b]] | p :: ps => (b :: p) :: ps
theorem pieces_ne : ∀ l, pieces l ≠ []
  | [] => by simp [pieces]
  | b :: r => by
    unfold pieces
    split
    · simp
    · split <;> simp
structure SeqB (W : World) (b1 b2 b3 : Nat) (s : ByteArray) : Prop where
  sep : W.heap[b1]? = some (.cells #[.string ⟨#[47]⟩] 9 (0, 0))
  str : W.heap[b2]? = some (.cells #[.string s] 9 (0, 0))
  save : W.heap[b3]? = some (.cells #[.int .i64 0] 3 (0, 0))
end Go.Proofs.YtjjgadanobeamaaDoor

namespace Go.Proofs.YtjjgadanobeamaaDoor
set_option linter.unusedVariables false
set_option linter.unusedSimpArgs false
set_option maxRecDepth 20000

def atW (dir : Int) (gone : List Int) : Int := gone.headD dir
def roots (l : List UInt8) : Bool := l.head? == some 47
def turnT (path : List UInt8) (todo : List (List UInt8)) : List (List UInt8) := pieces path ++ todo
def turnG (path : List UInt8) (gone : List Int) : List Int := if roots path then [] else gone
inductive StepR where
  | go (gone : List Int) (todo : List (List UInt8)) (links : Int)
  | stop (e : Int)
def stepN (T : FsP) (gone : List Int) (todo : List (List UInt8)) (links fi fe : Int) : StepR :=
  if fe = 0 then
    match T.nd fi with
    | none => .stop 10
    | some n =>
      if n.v.kind = 3 then
        if 40 < links + 1 then .stop 15
        else .go (turnG n.v.tgt.data.toList gone) (turnT n.v.tgt.data.toList todo) (links + 1)
      else .go (fi :: gone) todo links
  else .stop fe
def stepP (T : FsP) (dir : Int) (gone : List Int) (part : List UInt8) (todo : List (List UInt8)) (links : Int) : StepR :=
  if part = [] ∨ part = [46] then .go gone todo links
  else if part = [46, 46] then .go gone.tail todo links
  else stepN T gone todo links (findP T (atW dir gone) part).1 (findP T (atW dir gone) part).2
def folP (T : FsP) (dir : Int) : Nat → List Int → List (List UInt8) → Int → Option (Int × Int)
  | 0, _, _, _ => none
  | k + 1, gone, [], links => some (atW dir gone, 0)
  | k + 1, gone, part :: todo, links =>
    match stepP T dir gone part todo links with
    | .go g t l => folP T dir k g t l
    | .stop e => some (0, e)
def followP (T : FsP) (dir : Int) (k : Nat) (path : List UInt8) : Option (Int × Int) := folP T dir k [] (turnT path []) 0
end Go.Proofs.YtjjgadanobeamaaDoor

namespace Go.Proofs.YtjjgadanobeamaaDoor
open Go.RowKit Go.Shelf
set_option linter.unusedVariables false
set_option linter.unusedSimpArgs false

theorem SeqB.put {W : World} {b1 b2 b3 : Nat} {s : ByteArray} (h : SeqB W b1 b2 b3 s) (k : Nat) (o : Obj) (hk : k ≠ b1 ∧ k ≠ b2 ∧ k ≠ b3) : SeqB (W.putObj k o) b1 b2 b3 s :=
  ⟨(World.putObj_heap_other hk.1.symm).trans h.sep, (World.putObj_heap_other hk.2.1.symm).trans h.str, (World.putObj_heap_other hk.2.2.symm).trans h.save⟩
end Go.Proofs.YtjjgadanobeamaaDoor

namespace Go.Proofs.YtjjgadanobeamaaDoor
open Go.RowKit Go.Shelf
set_option linter.unusedVariables false
set_option linter.unusedSimpArgs false

attribute [local go_sem] Oper.semAt_some

def skipP (p : List UInt8) : Bool := p.isEmpty || p == [46]
def keepP (ps : List (List UInt8)) : List (List UInt8) := ps.filter (fun p => !skipP p)
def okP (p : List UInt8) : Bool := okN (strB p)
def partsOf (l : List UInt8) : Option (List (List UInt8)) :=
  if l = [] ∨ 4096 < l.length ∨ l.head? = some 47 then none else if (keepP (pieces l)).all okP then some (keepP (pieces l)) else none
def strV (p : List UInt8) : Value := .string (strB p)
theorem infoS : (Tryd.prog.info? 9).map (fun i => (i.zero, i.size, i.bytes)) = some (some (.string ⟨#[]⟩), 1, 16) := by kernel_rfl

structure PartI (w : World) (n N : Nat) (pre : List (List UInt8)) (W : World) : Prop where
  ok : (keepP pre).all okP = true
  row : ∃ (ao : Option Addr) (cap : Nat), W.heap[n + 2]? = some (.cells #[.slice ao (keepP pre).length cap] 51 (0, 0)) ∧ W.ownsRow N 9 1 (.slice ao (keepP pre).length cap) (keepP pre).length ((keepP pre).map strV)
  r1 : W.heap[n]? = some (.cells #[.slice none 0 0] 51 (0, 0))
  r2 : W.heap[n + 1]? = some (.cells #[.int .i64 0] 24 (0, 0))
  bel : Below n w W
  big : N ≤ W.heap.size
theorem PartI.kept {w W W' : World} {n N : Nat} {pre : List (List UInt8)} (h : PartI w n N pre W) (hk : Kept NoB W W') (hn : n ≤ w.heap.size) : PartI w n N pre W' := by
  obtain ⟨ao, cap, h1, h2⟩ := h.row
  exact ⟨h.ok, ⟨ao, cap, hk.obj h1 (fun h => h), hk.row h2 (fun _ _ h => h)⟩, hk.obj h.r1 (fun h => h), hk.obj h.r2 (fun h => h),
    ⟨hk.os.trans h.bel.os, hk.tape.trans h.bel.tape, hk.output.trans h.bel.output, Nat.le_trans h.bel.size hk.size, fun i hi => (hk.block i (Nat.lt_of_lt_of_le hi (Nat.le_trans hn h.bel.size)) (fun h => h)).trans (h.bel.block i hi)⟩, Nat.le_trans h.big hk.size⟩

end Go.Proofs.YtjjgadanobeamaaDoor

namespace Go.Proofs.YtjjgadanobeamaaDoor
open Go.RowKit Go.Shelf
set_option linter.unusedVariables false
set_option linter.unusedSimpArgs false

end Go.Proofs.YtjjgadanobeamaaDoor

namespace Go.Proofs.YtjjgadanobeamaaDoor
open Go.RowKit Go.Shelf
set_option linter.unusedVariables false
set_option linter.unusedSimpArgs false

def RdS (w : World) (B : Nat) (ao : Option Addr) (ps : List (List UInt8)) : Prop :=
  ∀ i, i < ps.length → ∃ g off, ao = some ⟨g, off, none⟩ ∧ g < B ∧ w.cell? ⟨g, off + i, none⟩ = some (.string (strB (ps.getD i [])))
theorem RdS.kept {S : Nat → Prop} {w w' : World} {B : Nat} {ao : Option Addr} {ps : List (List UInt8)} (h : RdS w B ao ps) (hk : Kept S w w') (hs : ∀ k, k < B → ¬ S k) : RdS w' B ao ps := by
  intro i hi
  obtain ⟨g, off, h1, h2, h3⟩ := h i hi
  exact ⟨g, off, h1, h2, (World.cell?_of_block (hk.block _ (World.block_lt_of_cell? w _ h3) (hs g h2))).trans h3⟩
theorem RdS.keptNo {w w' : World} {B : Nat} {ao : Option Addr} {ps : List (List UInt8)} (h : RdS w B ao ps) (hk : Kept NoB w w') : RdS w' B ao ps := h.kept hk (fun _ _ h => h)
theorem RdS.below {w w' : World} {B : Nat} {ao : Option Addr} {ps : List (List UInt8)} (h : RdS w w.heap.size ao ps) (hb : Below w.heap.size w w') : RdS w' w'.heap.size ao ps := by
  intro i hi
  obtain ⟨g, off, h1, h2, h3⟩ := h i hi
  exact ⟨g, off, h1, Nat.lt_of_lt_of_le h2 hb.size, (World.cell?_of_block (hb.block _ h2)).trans h3⟩
theorem RdS.room {w : World} {B : Nat} {ao : Option Addr} {ps : List (List UInt8)} (h : RdS w B ao ps) : RdS w w.heap.size ao ps := by
  intro i hi
  obtain ⟨g, off, h1, h2, h3⟩ := h i hi
  exact ⟨g, off, h1, World.block_lt_of_cell? w _ h3, h3⟩
theorem own_readsS {w : World} {base n cap : Nat} {ao : Option Addr} {ps : List (List UInt8)} (h : w.ownsRow base 9 1 (.slice ao n cap) n (ps.map strV)) (hn : ps.length = n) : RdS w w.heap.size ao ps := by
  intro i hi
  rcases h.2 with ⟨_, hz⟩ | ⟨g, c, cur, hv, _⟩
  · omega
  · simp at hv
    obtain ⟨rfl, rfl⟩ := hv
    have hc : w.cell? ⟨g, i, none⟩ = some (.string (strB (ps.getD i []))) := by
      rw [h.cellAt i (by omega)]; simp [List.getD, hi, strV]
    exact ⟨g, 0, rfl, World.block_lt_of_cell? w _ hc, by rw [Nat.zero_add]; exact hc⟩

theorem drop_getDs (ps : List (List UInt8)) (j : Nat) (hj : j < ps.length) : ps.drop j = ps.getD j [] :: ps.drop (j + 1) := by
  rw [List.drop_eq_getElem_cons hj]; simp [List.getD, hj]
end Go.Proofs.YtjjgadanobeamaaDoor

namespace Go.Proofs.YtjjgadanobeamaaDoor
open Go.RowKit Go.Shelf
set_option linter.unusedVariables false
set_option linter.unusedSimpArgs false

structure StrSt (w0 w : World) (a : Option Addr) (l c : Nat) (ps : List (List UInt8)) : Prop where
  len : l = ps.length
  own : w.ownsRow 0 9 1 (.slice a l c) l (ps.map strV)
  kept : Kept NoB w0 w
  fresh : ∀ k, (Value.slice a l c).ownBlock = some k → w0.heap.size ≤ k
theorem StrSt.nil (w : World) : StrSt w w none 0 0 [] := ⟨rfl, World.ownsRow_nil _ _ _ _, Kept.refl _ _, fun k hk => by simp [Value.ownBlock] at hk⟩
theorem StrSt.on {w0 w w' : World} {a : Option Addr} {l c : Nat} {ps : List (List UInt8)} (h : StrSt w0 w a l c ps) (hk : Kept NoB w w') : StrSt w0 w' a l c ps := ⟨h.len, hk.row h.own (fun _ _ h => h), h.kept.trans hk, h.fresh⟩
theorem StrSt.alloc {w0 w : World} {a : Option Addr} {l c : Nat} {ps : List (List UInt8)} (h : StrSt w0 w a l c ps) (o : Obj) : StrSt w0 (w.alloc o) a l c ps := h.on ((Kept.refl NoB w).alloc o)
theorem StrSt.reads {w0 w : World} {a : Option Addr} {l c : Nat} {ps : List (List UInt8)} (h : StrSt w0 w a l c ps) : RdS w w.heap.size a ps := own_readsS h.own h.len.symm
theorem pieces_cut : ∀ (c r : List UInt8), (47 : UInt8) ∉ c → pieces (c ++ 47 :: r) = c :: pieces r
  | [], r, _ => by simp [pieces]
  | b :: c, r, h => by
    have hb : b ≠ 47 := fun e => h (by rw [e]; simp)
    have ih := pieces_cut c r (fun e => h (by simp [e]))
    rw [List.cons_append, pieces, if_neg hb, ih]
theorem pieces_whole : ∀ (c : List UInt8), (47 : UInt8) ∉ c → pieces c = [c]
  | [], _ => rfl
  | b :: c, h => by
    have hb : b ≠ 47 := fun e => h (by rw [e]; simp)
    have ih := pieces_whole c (fun e => h (by simp [e]))
    rw [pieces, if_neg hb, ih]
structure InvS (l : List UInt8) (D : List (List UInt8)) (cur : List UInt8) (f i : Nat) : Prop where
  go : i ≤ l.length → f + cur.length = i ∧ l.drop f = cur ++ l.drop i ∧ (47 : UInt8) ∉ cur ∧ D ++ keepP (pieces (l.drop f)) = keepP (pieces l)
  fin : l.length < i → D = keepP (pieces l)
theorem InvS.start (l : List UInt8) : InvS l [] [] 0 0 := ⟨fun _ => ⟨rfl, rfl, by simp, rfl⟩, fun h => absurd h (by omega)⟩
theorem InvS.plain {l : List UInt8} {D : List (List UInt8)} {cur : List UInt8} {f i : Nat} (h : InvS l D cur f i) (b : UInt8) (hi : i < l.length) (hb : l.drop i = b :: l.drop (i + 1)) (hne : b ≠ 47) : InvS l D (cur ++ [b]) f (i + 1) := by
  obtain ⟨h1, h2, h3, h4⟩ := h.go (by omega)
  refine ⟨fun _ => ⟨by simp; omega, by rw [h2, hb]; simp, ?_, h4⟩, fun h => by omega⟩
  intro e
  rcases List.mem_append.1 e with e | e
  · exact h3 e
  · simp at e; exact hne e.symm
def nextD (D : List (List UInt8)) (cur : List UInt8) : List (List UInt8) := if skipP cur then D else D ++ [cur]
theorem InvS.cut {l : List UInt8} {D : List (List UInt8)} {cur : List UInt8} {f i : Nat} (h : InvS l D cur f i) (hi : i ≤ l.length) (hb : i = l.length ∨ l.drop i = 47 :: l.drop (i + 1)) : InvS l (nextD D cur) [] (i + 1) (i + 1) := by
  obtain ⟨h1, h2, h3, h4⟩ := h.go hi
  have hk : ∀ ps, nextD D cur ++ keepP ps = D ++ keepP (cur :: ps) := by
    intro ps
    unfold nextD
    cases hs : skipP cur with
    | true => simp [keepP, hs]
    | false => simp [keepP, hs]
  rcases hb with hb | hb
  · refine ⟨fun h => by omega, fun _ => ?_⟩
    rw [h2, List.drop_of_length_le (by omega), List.append_nil, pieces_whole cur h3] at h4
    rw [← h4, ← hk, keepP, List.filter_nil, List.append_nil]
  · refine ⟨fun h => ⟨by simp, rfl, by simp, ?_⟩, fun h => ?_⟩
    · rw [h2, hb, pieces_cut cur _ h3] at h4
      rw [← h4, hk]
    · have : l.drop i = [] := List.drop_of_length_le (by omega)
      rw [this] at hb; cases hb
theorem InvS.piece {l : List UInt8} {D : List (List UInt8)} {cur : List UInt8} {f i : Nat} (h : InvS l D cur f i) (hi : i ≤ l.length) : (strB l).extract f i = strB cur := by
  obtain ⟨h1, h2, h3, h4⟩ := h.go hi
  apply ByteArray.ext
  rw [ByteArray.data_extract]
  simp only [strB, List.extract_toArray, List.extract_eq_take_drop]
  rw [h2, List.take_append_of_le_length (by omega), List.take_of_length_le (by omega)]
end Go.Proofs.YtjjgadanobeamaaDoor

namespace Go.Proofs.YtjjgadanobeamaaDoor
set_option linter.unusedVariables false
set_option linter.unusedSimpArgs false
set_option maxRecDepth 20000

end Go.Proofs.YtjjgadanobeamaaDoor

namespace Go.Proofs.YtjjgadanobeamaaDoor
open Go.Lib
set_option linter.unusedVariables false

theorem dig_toNat (k : Nat) (hk : k < 10) : (UInt8.ofNat (48 + k)).toNat = 48 + k := by
  rw [UInt8.toNat_ofNat']; omega
theorem decDigits_lt {u : Nat} (h : u < 10) : decDigits u = [UInt8.ofNat (48 + u)] := by rw [decDigits, dif_pos h]
theorem decDigits_ge {u : Nat} (h : ¬ u < 10) : decDigits u = decDigits (u / 10) ++ [UInt8.ofNat (48 + u % 10)] := by rw [decDigits, dif_neg h]
theorem decDigits_ne (u : Nat) : decDigits u ≠ [] := by
  intro h
  have := congrArg List.length h
  rw [decDigits] at h
  split at h <;> simp at h
theorem decDigits_all : ∀ (n u : Nat), u ≤ n → ∀ b ∈ decDigits u, 48 ≤ b.toNat ∧ b.toNat ≤ 57 := by
  intro n
  induction n with
  | zero =>
    intro u hu b hb
    rw [decDigits_lt (by omega)] at hb
    simp only [List.mem_singleton] at hb
    subst hb
    rw [dig_toNat u (by omega)]; omega
  | succ n ih =>
    intro u hu b hb
    by_cases h10 : u < 10
    · rw [decDigits_lt h10] at hb
      simp only [List.mem_singleton] at hb
      subst hb
      rw [dig_toNat u h10]; omega
    · rw [decDigits_ge h10] at hb
      rcases List.mem_append.1 hb with h | h
      · exact ih (u / 10) (by omega) b h
      · simp only [List.mem_singleton] at h
        subst h
        rw [dig_toNat (u % 10) (by omega)]; omega
theorem decDigits_len : ∀ (k u : Nat), 1 ≤ k → u < 10 ^ k → (decDigits u).length ≤ k := by
  intro k
  induction k with
  | zero => intro u h; omega
  | succ k ih =>
    intro u _ hu
    by_cases h10 : u < 10
    · rw [decDigits_lt h10]; simp
    · rw [decDigits_ge h10, List.length_append]
      have hk : 1 ≤ k := by
        rcases Nat.eq_zero_or_pos k with h | h
        · subst h; simp at hu; omega
        · exact h
      have := ih (u / 10) hk (by rw [Nat.pow_succ] at hu; omega)
      simp; omega

theorem dec_val : ∀ (n u : Nat), u ≤ n → (decDigits u).foldl (fun (a : Nat) (b : UInt8) => a * 10 + (b.toNat - 48)) 0 = u := by
  intro n
  induction n with
  | zero =>
    intro u hu
    rw [decDigits_lt (by omega), List.foldl_cons, List.foldl_nil, dig_toNat u (by omega)]
    omega
  | succ n ih =>
    intro u hu
    by_cases h10 : u < 10
    · rw [decDigits_lt h10, List.foldl_cons, List.foldl_nil, dig_toNat u h10]
      omega
    · rw [decDigits_ge h10, List.foldl_append, ih (u / 10) (by omega), List.foldl_cons, List.foldl_nil, dig_toNat (u % 10) (by omega)]
      omega
theorem dec_inj {u v : Nat} (h : decDigits u = decDigits v) : u = v := by
  have h1 := dec_val u u (Nat.le_refl _)
  rw [h, dec_val v v (Nat.le_refl _)] at h1
  exact h1.symm
theorem contains_slash (b : UInt8) (h : 48 ≤ b.toNat ∧ b.toNat ≤ 122) : ([47, 0] : List UInt8).contains b = false := by
  have h1 : b ≠ 47 := fun e => by rw [e] at h; exact absurd h.1 (by decide)
  have h2 : b ≠ 0 := fun e => by rw [e] at h; exact absurd h.1 (by decide)
  simp [h1, h2]
theorem ok_dec (c : UInt8) (hc : 97 ≤ c.toNat ∧ c.toNat ≤ 122) (u : Nat) (hu : u < 1000000) : okN (strB (c :: decDigits u)) = true := by
  have hl := decDigits_len 6 u (by decide) hu
  have hne := decDigits_ne u
  have hi : Lib.indexAny (c :: decDigits u) [47, 0] = -1 := by
    refine Lib.indexAny_none (fun j b hj hb => contains_slash b ?_)
    have hm : b ∈ c :: decDigits u := List.mem_of_getElem? hb
    rcases List.mem_cons.1 hm with e | e
    · subst e; omega
    · have := decDigits_all u u (Nat.le_refl _) b e
      omega
  unfold okN
  rw [strB_list, strB_size, strB_data, hi]
  have h1 : decide ((c :: decDigits u).length ≤ 255) = true := by simp; omega
  have hc1 : c ≠ 46 := fun e => by rw [e] at hc; exact absurd hc.1 (by decide)
  have h2 : ((c :: decDigits u) == [46]) = false := by simp [hc1]
  have h3 : ((c :: decDigits u) == [46, 46]) = false := by simp [hc1]
  rw [h1, h2, h3]
  rfl
end Go.Proofs.YtjjgadanobeamaaDoor

namespace Go.Proofs.YtjjgadanobeamaaDoor
open Go.Lib
set_option linter.unusedVariables false
set_option linter.unusedSimpArgs false
set_option maxRecDepth 20000

def fifoV : NodeV := { kind := 7, mode := 0, user := 0, group := 0, time := 0, tgt := ⟨#[]⟩, major := 0, minor := 0, size := 0, links := 0, change := 0 }
def dir0V : NodeV := { kind := 6, mode := 0, user := 0, group := 0, time := 0, tgt := ⟨#[]⟩, major := 0, minor := 0, size := 0, links := 0, change := 0 }
theorem may_fifo : mayB fifoV = true := by kernel_rfl
end Go.Proofs.YtjjgadanobeamaaDoor

namespace Go.Proofs.YtjjgadanobeamaaDoor
open Go.Lib
set_option linter.unusedVariables false
set_option linter.unusedSimpArgs false
set_option maxRecDepth 20000

def endL : List UInt8 := [101, 110, 100]
def selfL : List UInt8 := [115, 101, 108, 102]
def nmL (u : Nat) : List UInt8 := 108 :: decDigits u
def tgtL : Nat → List UInt8
  | 0 => endL
  | u + 1 => nmL u
def symV (t : List UInt8) : NodeV := { kind := 3, mode := 0, user := 0, group := 0, time := 0, tgt := strB t, major := 0, minor := 0, size := 0, links := 0, change := 0 }
theorem nmL_ok (u : Nat) (hu : u < 1000000) : okN (strB (nmL u)) = true := ok_dec 108 (by decide) u hu
theorem nmL_inj {u v : Nat} (h : nmL u = nmL v) : u = v := dec_inj (List.cons.inj h).2
theorem endL_ok : okN (strB endL) = true := by kernel_rfl
theorem selfL_ok : okN (strB selfL) = true := by kernel_rfl
theorem endL_ne (u : Nat) : endL ≠ nmL u := fun e => absurd (List.cons.inj e).1 (by decide)
theorem selfL_ne (u : Nat) : selfL ≠ nmL u := fun e => absurd (List.cons.inj e).1 (by decide)
theorem nmL_dig (u : Nat) : ∀ b ∈ nmL u, 48 ≤ b.toNat ∧ b.toNat ≤ 108 := by
  intro b hb
  rcases List.mem_cons.1 hb with e | e
  · subst e; decide
  · have := decDigits_all u u (Nat.le_refl _) b e; omega
theorem nmL_len (u : Nat) (hu : u < 1000000) : 1 ≤ (nmL u).length ∧ (nmL u).length ≤ 7 := by
  have := decDigits_len 6 u (by decide) hu
  constructor
  · simp [nmL]
  · simp [nmL]; omega
theorem tgtL_low (u : Nat) : ∀ b ∈ tgtL u, 48 ≤ b.toNat := by
  cases u with
  | zero => decide
  | succ u => exact fun b hb => (nmL_dig u b hb).1
theorem tgtL_len (u : Nat) (hu : u < 1000000) : 1 ≤ (tgtL u).length ∧ (tgtL u).length ≤ 7 := by
  cases u with
  | zero => decide
  | succ u => exact nmL_len u (by omega)
theorem low_47 {l : List UInt8} (h : ∀ b ∈ l, 48 ≤ b.toNat) : (47 : UInt8) ∉ l := fun e => absurd (h _ e) (by decide)
theorem low_0 {l : List UInt8} (h : ∀ b ∈ l, 48 ≤ b.toNat) : (0 : UInt8) ∉ l := fun e => absurd (h _ e) (by decide)
theorem roots_low {l : List UInt8} (h : ∀ b ∈ l, 48 ≤ b.toNat) : roots l = false := by
  cases l with
  | nil => rfl
  | cons b t =>
    have hb := h b (by simp)
    have : b ≠ 47 := fun e => by rw [e] at hb; exact absurd hb (by decide)
    simp [roots, this]
theorem index0_none : ∀ (l : List UInt8), (0 : UInt8) ∉ l → Lib.indexByte l 0 = -1
  | [], _ => rfl
  | b :: r, h => by
    have hb : b ≠ 0 := fun e => h (by simp [e])
    have hr := index0_none r (fun e => h (by simp [e]))
    have e2 : (b == 0) = false := by simpa using hb
    unfold Lib.indexByte
    simp [e2, hr]
theorem may_sym (t : List UInt8) (h1 : 1 ≤ t.length) (h2 : t.length ≤ 1024) (h0 : (0 : UInt8) ∉ t) : mayB (symV t) = true := by
  have hi := index0_none t h0
  have hne : t.isEmpty = false := by cases t with | nil => simp at h1 | cons => rfl
  have hs : (strB t).toList = t := strB_list t
  have hd : (strB t).data.toList = t := rfl
  have hz := strB_size t
  simp only [mayB, symV, hs, hd, hz, hi, hne]
  simp [h2]

structure LkG (T : FsP) (m : Nat) : Prop where
  root : ∃ d, T.nd 1 = some d ∧ d.v.kind = 6 ∧ OkK d.names ∧ getK d.names endL = some 2 ∧ ∀ j, j < m → getK d.names (nmL j) = some ((j : Int) + 3)
  fin : ∃ n, T.nd 2 = some n ∧ n.v.kind = 7
  node : ∀ j : Nat, j < m → ∃ n, T.nd ((j : Int) + 3) = some n ∧ n.v.kind = 3 ∧ n.v.tgt = strB (tgtL j)
structure Lk (T : FsP) (m : Nat) : Prop extends LkG T m where
  next : T.next = (m : Int) + 2
  cnt : T.cnt = m + 2
  clock : T.clock = (m : Int) + 1
  neg : ∀ d, T.nd 1 = some d → ∀ s, getK d.names s ≠ none → s = endL ∨ ∃ j < m, s = nmL j
theorem lk_start (q : Int) : ∃ T, makeP (newT q) 1 endL fifoV = (T, 2, 0) ∧ Lk T 0 := by
  have h1 : (newT q).nd 1 = some rootN := rfl
  have he : makeP (newT q) 1 endL fifoV = (makeT (newT q) 1 rootN endL fifoV, (newT q).next + 1, 0) := by
    rw [makeP_yes fifoV h1 rfl endL_ok, if_pos may_fifo, if_neg (by decide), if_neg (show ¬ 1000 ≤ (newT q).cnt from by show ¬ 1000 ≤ 1; decide)]
  refine ⟨_, he, ⟨⟨⟨{ touch ((newT q).clock + 1) rootN with names := putK rootN.names endL ((newT q).next + 1) }, ?_, rfl, ?_, rfl, fun j hj => by omega⟩, ⟨freshN fifoV ((newT q).clock + 1) 1, ?_, rfl⟩, fun j hj => by omega⟩, rfl, rfl, rfl, ?_⟩⟩
  · rfl
  · exact putK_ok (l := []) List.Pairwise.nil _ _ rfl
  · rfl
  · intro d hd s hs
    have e : d = { touch ((newT q).clock + 1) rootN with names := putK rootN.names endL ((newT q).next + 1) } := by
      have : updN (updN (newT q).nd 1 (some { touch ((newT q).clock + 1) rootN with names := putK rootN.names endL ((newT q).next + 1) })) 2 (some (freshN fifoV ((newT q).clock + 1) 1)) 1 = some d := hd
      rw [updN_other _ _ (by decide), updN_same] at this
      exact (Option.some.inj this).symm
    rw [e] at hs
    refine .inl (Classical.byContradiction fun hne => hs ?_)
    show getK (putK [] endL _) s = none
    rw [getK_put (l := []) List.Pairwise.nil _ _ rfl, if_neg hne]; rfl
theorem lk_make {T : FsP} {m : Nat} (h : Lk T m) (hm : m < 900) : ∃ T', makeP T 1 (nmL m) (symV (tgtL m)) = (T', (m : Int) + 3, 0) ∧ Lk T' (m + 1) := by
  obtain ⟨d, d1, d2, d3, d4, d5⟩ := h.root
  obtain ⟨nf, f1, f2⟩ := h.fin
  have hg : getK d.names (nmL m) = none := Classical.byContradiction fun hn => by
    rcases h.neg d d1 _ hn with e | ⟨j, hj, e⟩
    · exact endL_ne m e.symm
    · have := nmL_inj e; omega
  have ht := tgtL_len m (by omega)
  have he : makeP T 1 (nmL m) (symV (tgtL m)) = (makeT T 1 d (nmL m) (symV (tgtL m)), T.next + 1, 0) := by
    rw [makeP_yes _ d1 d2 (nmL_ok _ (by omega)), if_pos (may_sym _ ht.1 (by omega) (low_0 (tgtL_low m))), if_neg (by rw [hg]; decide), if_neg (by rw [h.cnt]; omega)]
  have hnx : T.next + 1 = (m : Int) + 3 := by rw [h.next]; omega
  have g1 : (makeT T 1 d (nmL m) (symV (tgtL m))).nd 1 = some { touch (T.clock + 1) d with names := putK d.names (nmL m) (T.next + 1) } := by
    show updN (updN T.nd 1 _) (T.next + 1) _ 1 = _
    rw [updN_other _ _ (by rw [hnx]; omega), updN_same]
  refine ⟨_, by rw [he, hnx], ⟨⟨⟨_, g1, d2, putK_ok d3 _ _ hg, ?_, fun j hj => ?_⟩, ⟨nf, ?_, f2⟩, fun j hj => ?_⟩, ?_, ?_, ?_, ?_⟩⟩
  · show getK (putK d.names (nmL m) (T.next + 1)) endL = _
    rw [getK_put d3 _ _ hg, if_neg (endL_ne m)]; exact d4
  · show getK (putK d.names (nmL m) (T.next + 1)) (nmL j) = _
    rw [getK_put d3 _ _ hg, hnx]
    by_cases e : j = m
    · subst e; rw [if_pos rfl]
    · rw [if_neg (fun q => e (nmL_inj q))]; exact d5 j (by omega)
  · show updN (updN T.nd 1 _) (T.next + 1) _ 2 = _
    rw [updN_other _ _ (by rw [hnx]; omega), updN_other _ _ (by decide)]; exact f1
  · show ∃ n, updN (updN T.nd 1 _) (T.next + 1) _ ((j : Int) + 3) = some n ∧ _
    by_cases e : j = m
    · subst e
      rw [hnx, updN_same]
      exact ⟨_, rfl, rfl, rfl⟩
    · rw [updN_other _ _ (by rw [hnx]; omega), updN_other _ _ (by omega)]
      exact h.node j (by omega)
  · show T.next + 1 = _; rw [hnx]; push_cast; omega
  · show T.cnt + 1 = _; rw [h.cnt]
  · show T.clock + 1 = _; rw [h.clock]; push_cast; omega
  · intro d' hd' s hs
    rw [g1] at hd'
    cases hd'
    change getK (putK d.names (nmL m) (T.next + 1)) s ≠ none at hs
    rw [getK_put d3 _ _ hg] at hs
    by_cases e : s = nmL m
    · exact .inr ⟨m, by omega, e⟩
    · rw [if_neg e] at hs
      rcases h.neg d d1 _ hs with q | ⟨j, hj, q⟩
      · exact .inl q
      · exact .inr ⟨j, by omega, q⟩
theorem lk_self {T : FsP} {m : Nat} (h : Lk T m) (hm : m < 900) : ∃ T', makeP T 1 selfL (symV selfL) = (T', (m : Int) + 3, 0) ∧ LkG T' m ∧ T'.clock = (m : Int) + 2 ∧ ∃ d n, T'.nd 1 = some d ∧ d.v.kind = 6 ∧ getK d.names selfL = some ((m : Int) + 3) ∧ T'.nd ((m : Int) + 3) = some n ∧ n.v.kind = 3 ∧ n.v.tgt = strB selfL := by
  obtain ⟨d, d1, d2, d3, d4, d5⟩ := h.root
  obtain ⟨nf, f1, f2⟩ := h.fin
  have hg : getK d.names selfL = none := Classical.byContradiction fun hn => by
    rcases h.neg d d1 _ hn with e | ⟨j, hj, e⟩
    · exact absurd e (by decide)
    · exact selfL_ne j e
  have he : makeP T 1 selfL (symV selfL) = (makeT T 1 d selfL (symV selfL), T.next + 1, 0) := by
    rw [makeP_yes _ d1 d2 selfL_ok, if_pos (may_sym _ (by decide) (by decide) (by decide)), if_neg (by rw [hg]; decide), if_neg (by rw [h.cnt]; omega)]
  have hnx : T.next + 1 = (m : Int) + 3 := by rw [h.next]; omega
  have g1 : (makeT T 1 d selfL (symV selfL)).nd 1 = some { touch (T.clock + 1) d with names := putK d.names selfL (T.next + 1) } := by
    show updN (updN T.nd 1 _) (T.next + 1) _ 1 = _
    rw [updN_other _ _ (by rw [hnx]; omega), updN_same]
  refine ⟨_, by rw [he, hnx], ⟨⟨_, g1, d2, putK_ok d3 _ _ hg, ?_, fun j hj => ?_⟩, ⟨nf, ?_, f2⟩, fun j hj => ?_⟩, ?_, ⟨_, freshN (symV selfL) (T.clock + 1) 1, g1, d2, ?_, ?_, rfl, rfl⟩⟩
  · show getK (putK d.names selfL (T.next + 1)) endL = _
    rw [getK_put d3 _ _ hg, if_neg (by decide)]; exact d4
  · show getK (putK d.names selfL (T.next + 1)) (nmL j) = _
    rw [getK_put d3 _ _ hg, if_neg (fun q => selfL_ne j q.symm)]; exact d5 j hj
  · show updN (updN T.nd 1 _) (T.next + 1) _ 2 = _
    rw [updN_other _ _ (by rw [hnx]; omega), updN_other _ _ (by decide)]; exact f1
  · show ∃ n, updN (updN T.nd 1 _) (T.next + 1) _ ((j : Int) + 3) = some n ∧ _
    rw [updN_other _ _ (by rw [hnx]; omega), updN_other _ _ (by omega)]
    exact h.node j hj
  · show T.clock + 1 = _; rw [h.clock]; omega
  · show getK (putK d.names selfL (T.next + 1)) selfL = _
    rw [getK_put d3 _ _ hg, if_pos rfl, hnx]
  · show updN (updN T.nd 1 _) (T.next + 1) _ ((m : Int) + 3) = _
    rw [hnx, updN_same]
theorem find_root {T : FsP} {d : NdP} (d1 : T.nd 1 = some d) (d2 : d.v.kind = 6) {s : List UInt8} (hs : okN (strB s) = true) {i : Int} (hg : getK d.names s = some i) : findP T 1 s = (i, 0) := by
  unfold findP placeE namesP
  rw [d1]
  simp only [d2, hs, if_pos, hg, askK]
theorem step_link {T : FsP} {s : List UInt8} {i : Int} {n : NdP} {t : List UInt8} (h1 : ∀ b ∈ s, 48 ≤ b.toNat) (h0 : s ≠ []) (hf : findP T 1 s = (i, 0)) (hn : T.nd i = some n) (h3 : n.v.kind = 3) (ht : n.v.tgt = strB t) (h2 : ∀ b ∈ t, 48 ≤ b.toNat) (links : Int) :
    stepP T 1 [] s [] links = if 40 < links + 1 then .stop 15 else .go [] [t] (links + 1) := by
  have e1 : ¬ (s = [] ∨ s = [46]) := by
    rintro (e | e)
    · exact h0 e
    · rw [e] at h1; exact absurd (h1 46 (by simp)) (by decide)
  have e2 : ¬ s = [46, 46] := fun e => by rw [e] at h1; exact absurd (h1 46 (by simp)) (by decide)
  have hat : atW 1 ([] : List Int) = 1 := rfl
  have hd : n.v.tgt.data.toList = t := by rw [ht]; rfl
  unfold stepP
  rw [if_neg e1, if_neg e2, hat, hf]
  unfold stepN
  simp only [if_pos, hn, h3, hd]
  unfold turnG turnT
  rw [roots_low h2, pieces_whole t (low_47 h2)]
  rfl
theorem lk_go {T : FsP} {m : Nat} (h : LkG T m) (hm : m < 900) : ∀ (j : Nat), j < m → ∀ (k : Nat) (links : Int), j + 3 ≤ k → folP T 1 k [] [nmL j] links = if 40 < links + (j : Int) + 1 then some (0, 15) else some (2, 0) := by
  obtain ⟨d, d1, d2, d3, d4, d5⟩ := h.root
  obtain ⟨nf, f1, f2⟩ := h.fin
  intro j
  induction j with
  | zero =>
    intro hj k links hk
    obtain ⟨n, n1, n2, n3⟩ := h.node 0 hj
    obtain ⟨k, rfl⟩ : ∃ k', k = k' + 1 := ⟨k - 1, by omega⟩
    obtain ⟨k, rfl⟩ : ∃ k', k = k' + 1 := ⟨k - 1, by omega⟩
    obtain ⟨k, rfl⟩ : ∃ k', k = k' + 1 := ⟨k - 1, by omega⟩
    have hf := find_root d1 d2 (nmL_ok 0 (by omega)) (d5 0 hj)
    have hfe := find_root d1 d2 endL_ok d4
    have hst := step_link (fun b hb => (nmL_dig 0 b hb).1) (by simp [nmL]) hf n1 n2 n3 (tgtL_low 0) links
    show (match stepP T 1 [] (nmL 0) [] links with | .go g t l => folP T 1 (k + 1 + 1) g t l | .stop e => some (0, e)) = _
    rw [hst]
    by_cases hl : 40 < links + 1
    · rw [if_pos hl, if_pos (by simpa using hl)]
    · rw [if_neg hl, if_neg (by simpa using hl)]
      have hse : stepP T 1 [] (tgtL 0) [] (links + 1) = .go [2] [] (links + 1) := by
        have hat : atW 1 ([] : List Int) = 1 := rfl
        show stepP T 1 [] endL [] (links + 1) = _
        unfold stepP
        rw [if_neg (by decide), if_neg (by decide), hat, hfe]
        unfold stepN
        simp only [if_pos, f1, f2]
        rw [if_neg (by decide)]
      show (match stepP T 1 [] (tgtL 0) [] (links + 1) with | .go g t l => folP T 1 (k + 1) g t l | .stop e => some (0, e)) = _
      rw [hse]; rfl
  | succ j ih =>
    intro hj k links hk
    obtain ⟨n, n1, n2, n3⟩ := h.node (j + 1) hj
    obtain ⟨k, rfl⟩ : ∃ k', k = k' + 1 := ⟨k - 1, by omega⟩
    have hf := find_root d1 d2 (nmL_ok (j + 1) (by omega)) (d5 (j + 1) hj)
    have hst := step_link (fun b hb => (nmL_dig (j + 1) b hb).1) (by simp [nmL]) hf n1 n2 n3 (tgtL_low (j + 1)) links
    show (match stepP T 1 [] (nmL (j + 1)) [] links with | .go g t l => folP T 1 k g t l | .stop e => some (0, e)) = _
    rw [hst]
    by_cases hl : 40 < links + 1
    · rw [if_pos hl, if_pos (by push_cast; omega)]
    · rw [if_neg hl]
      show folP T 1 k [] [nmL j] (links + 1) = _
      rw [ih (by omega) k (links + 1) (by omega)]
      by_cases h2 : 40 < links + 1 + (j : Int) + 1
      · rw [if_pos h2, if_pos (by push_cast; omega)]
      · rw [if_neg h2, if_neg (by push_cast; omega)]
theorem lk_loop {T : FsP} {d n : NdP} {i : Int} (d1 : T.nd 1 = some d) (d2 : d.v.kind = 6) (hg : getK d.names selfL = some i) (n1 : T.nd i = some n) (n2 : n.v.kind = 3) (n3 : n.v.tgt = strB selfL) : ∀ (r k : Nat) (links : Int), links + r = 40 → r + 1 ≤ k → folP T 1 k [] [selfL] links = some (0, 15) := by
  have hf := find_root d1 d2 selfL_ok hg
  intro r
  induction r with
  | zero =>
    intro k links hl hk
    obtain ⟨k, rfl⟩ : ∃ k', k = k' + 1 := ⟨k - 1, by omega⟩
    have hst := step_link (t := selfL) (by decide) (by decide) hf n1 n2 n3 (by decide) links
    show (match stepP T 1 [] selfL [] links with | .go g t l => folP T 1 k g t l | .stop e => some (0, e)) = _
    rw [hst, if_pos (by omega)]
  | succ r ih =>
    intro k links hl hk
    obtain ⟨k, rfl⟩ : ∃ k', k = k' + 1 := ⟨k - 1, by omega⟩
    have hst := step_link (t := selfL) (by decide) (by decide) hf n1 n2 n3 (by decide) links
    show (match stepP T 1 [] selfL [] links with | .go g t l => folP T 1 k g t l | .stop e => some (0, e)) = _
    rw [hst, if_neg (by omega)]
    exact ih k (links + 1) (by omega) (by omega)
end Go.Proofs.YtjjgadanobeamaaDoor
