/-
  What is kept of a world while a call writes some blocks alone; rows of bytes; objects of two or more fields. Nothing of the program is named here.
  What was written of a file, on paper: pieces that rise, none beside another; bytes put, cut, read; how many bytes fit.
  What was written of a file, on paper: which bytes there are behind a write and a cut; reading; how many fit.
  Numbers made of bytes, the lowest first; bits of them. No Go in sight.
  bytes.Clone: a copy in memory of the call's own.
  What comes in, opened as it is needed: 'Rd w t cs': the cells cs read as a value of type t. One lemma for each kind of type.
-/
import Derived.WalkKit
import Derived.WalkSpells
import Derived.WalkLawsBesides
import Derived.Deep.QuietTactic
import Derived.BigQuiet
import Derived.Lib.Hide
import Derived.Laws.BitsAllLaws
import Derived.Test.YtgbakogihkdddaaGreatDoorRows
import Derived.ProofKit
import Derived.OpenShut
import Derived.ShutString
import Derived.ChangeOld
import Derived.Deep.Slices
import Derived.Deep.Fields
namespace Go.Proofs.YtgbakogihkdddaaGreatDoor
open Go.RowKit

/-- Blocks of w that are not of S are in w' as they were. -/
structure Kept (S : Nat → Prop) (w w' : World) : Prop where
  os : w'.os = w.os
  tape : w'.tape = w.tape
  output : w'.output = w.output
  size : w.heap.size ≤ w'.heap.size
  block : ∀ k, k < w.heap.size → ¬ S k → w'.heap[k]? = w.heap[k]?

def NoB : Nat → Prop := fun _ => False
def OneB (r : Nat) : Nat → Prop := fun k => k = r
def TwoB (r s : Nat) : Nat → Prop := fun k => k = r ∨ k = s
/-- A slice's own block, if it has one. -/
def OwnB (v : Value) : Nat → Prop := fun k => v.ownBlock = some k
def OrB (S T : Nat → Prop) : Nat → Prop := fun k => S k ∨ T k

theorem Kept.refl (S : Nat → Prop) (w : World) : Kept S w w := ⟨rfl, rfl, rfl, Nat.le_refl _, fun _ _ _ => rfl⟩
theorem Kept.trans {S : Nat → Prop} {a b c : World} (h : Kept S a b) (k : Kept S b c) : Kept S a c :=
  ⟨k.os.trans h.os, k.tape.trans h.tape, k.output.trans h.output, Nat.le_trans h.size k.size, fun i hi hs => (k.block i (Nat.lt_of_lt_of_le hi h.size) hs).trans (h.block i hi hs)⟩
theorem Kept.mono {S T : Nat → Prop} {a b : World} (h : Kept S a b) (hs : ∀ k, k < a.heap.size → S k → T k) : Kept T a b :=
  ⟨h.os, h.tape, h.output, h.size, fun i hi ht => h.block i hi (fun s => ht (hs i hi s))⟩
theorem Kept.drew {S : Nat → Prop} {a b : World} (h : Kept S a b) : Kept S a b.drew := ⟨h.os, h.tape, h.output, h.size, h.block⟩
theorem Kept.drewN {S : Nat → Prop} {a b : World} (h : Kept S a b) (n : Nat) : Kept S a (b.drewN n) := ⟨h.os, h.tape, h.output, h.size, h.block⟩
theorem Kept.setCell {S : Nat → Prop} {a b : World} (h : Kept S a b) {p : Addr} (hp : S p.block ∨ a.heap.size ≤ p.block) (u : Value) : Kept S a (b.setCell p u) :=
  ⟨h.os, h.tape, h.output, by simpa using h.size, fun i hi hs => (Below.heap_setCell _ _ _ _ (fun e => by rcases hp with hp | hp; exact hs (e ▸ hp); omega)).trans (h.block i hi hs)⟩
theorem Kept.alloc {S : Nat → Prop} {a b : World} (h : Kept S a b) (o : Obj) : Kept S a (b.alloc o) :=
  ⟨h.os, h.tape, h.output, by have := h.size; simp; omega, fun i hi hs => (Below.heap_alloc _ _ _ (Nat.lt_of_lt_of_le hi h.size)).trans (h.block i hi hs)⟩
theorem Kept.grown {S : Nat → Prop} {a b c : World} (h : Kept S a b) {row : Option Nat} (g : b.grownBy c row) (hr : ∀ k, k < a.heap.size → row = some k → S k) : Kept S a c :=
  ⟨g.os.trans h.os, g.tape.trans h.tape, g.output.trans h.output, Nat.le_trans h.size g.size,
    fun i hi hs => (g.block i (Nat.lt_of_lt_of_le hi h.size) (fun e => hs (hr i hi e.symm))).trans (h.block i hi hs)⟩
theorem Kept.ofBelow {S : Nat → Prop} {a b c : World} (h : Kept S a b) (g : Below b.heap.size b c) : Kept S a c :=
  ⟨g.os.trans h.os, g.tape.trans h.tape, g.output.trans h.output, Nat.le_trans h.size g.size,
    fun i hi hs => (g.block i (Nat.lt_of_lt_of_le hi h.size)).trans (h.block i hi hs)⟩
theorem Kept.below {S : Nat → Prop} {w a b : World} (h : Kept S a b) (hb : Below w.heap.size w a) (hs : ∀ k, S k → w.heap.size ≤ k) : Below w.heap.size w b :=
  ⟨h.os.trans hb.os, h.tape.trans hb.tape, h.output.trans hb.output, Nat.le_trans hb.size h.size,
    fun i hi => (h.block i (Nat.lt_of_lt_of_le hi hb.size) (fun s => by have := hs i s; omega)).trans (hb.block i hi)⟩
theorem Kept.belowNo {w a b : World} (h : Kept NoB a b) (hb : Below w.heap.size w a) : Below w.heap.size w b := h.below hb (fun _ s => s.elim)

theorem Kept.row {S : Nat → Prop} {a b : World} (h : Kept S a b) {base e size n : Nat} {v : Value} {xs : List Value} (ho : a.ownsRow base e size v n xs) (hs : ∀ k, v.ownBlock = some k → ¬ S k) : b.ownsRow base e size v n xs := by
  refine ⟨ho.1, ?_⟩
  rcases ho.2 with hn | ⟨g, cap, cur, rfl, hb, hg, rest⟩
  · exact .inl hn
  · exact .inr ⟨g, cap, cur, rfl, hb, (h.block g (Array.getElem?_eq_some_iff.1 hg).1 (hs g rfl)).trans hg, rest⟩
theorem Kept.obj {S : Nat → Prop} {a b : World} (h : Kept S a b) {R : Nat} {o : Obj} (ho : a.heap[R]? = some o) (hs : ¬ S R) : b.heap[R]? = some o :=
  (h.block R (Array.getElem?_eq_some_iff.1 ho).1 hs).trans ho

theorem obj_cell {w : World} {R : Nat} {cs : Array Value} {t : TypeId} (h : w.heap[R]? = some (.cells cs t (0, 0))) (i : Nat) : w.cell? ⟨R, i, none⟩ = cs[i]? := cell_of_row w R i cs t (0, 0) h
theorem obj_free {w : World} {R : Nat} {cs : Array Value} {t : TypeId} (h : w.heap[R]? = some (.cells cs t (0, 0))) (i : Nat) : w.frozen? ⟨R, i, none⟩ = false := frozen_of_row w R i cs t h
theorem obj_set {w : World} {R : Nat} {cs : Array Value} {t : TypeId} (h : w.heap[R]? = some (.cells cs t (0, 0))) (i : Nat) (u : Value) : (w.setCell ⟨R, i, none⟩ u).heap[R]? = some (.cells (cs.setIfInBounds i u) t (0, 0)) :=
  heap_setCell_same w R i cs t u h
theorem obj_lt {w : World} {R : Nat} {o : Obj} (h : w.heap[R]? = some o) : R < w.heap.size := (Array.getElem?_eq_some_iff.1 h).1

/-- A row's block is not one of another element type. -/
theorem row_ne {w : World} {base e n : Nat} {v : Value} {xs : List Value} (ho : w.ownsRow base e 1 v n xs) {R : Nat} {cs : Array Value} {t : TypeId} (h : w.heap[R]? = some (.cells cs t (0, 0))) (ht : t ≠ e) : ∀ k, v.ownBlock = some k → k ≠ R := by
  intro k hk e'
  subst e'
  rcases ho.2 with ⟨rfl, _⟩ | ⟨g, cap, cur, rfl, _, hg, _⟩
  · simp [Value.ownBlock] at hk
  · simp [Value.ownBlock] at hk
    subst hk
    rw [hg] at h
    simp at h
    exact ht h.2.symm

theorem drewN_heap (w : World) (n : Nat) : (w.drewN n).heap = w.heap := rfl
theorem drewN_cell (w : World) (n : Nat) (a : Addr) : (w.drewN n).cell? a = w.cell? a := rfl

section
variable {P : Program} (w : World)
/-- An append to a row of the call's own: the row behind it stands in the same block, or in one that is new. -/
theorem run_app (e t ty : TypeId) (i : TypeInfo) (z : Value) (size bytes : Nat) (ht : P.underlying t = some (.slice e)) (hi : P.info? e = some i) (hz : i.zero = some z)
    (hsize : i.size = size) (hby : i.bytes = bytes) (hzs : z.cells.size = size) (hsz : 0 < size)
    (v : Value) (n : Nat) (xs : List Value) (hown : w.ownsRow 0 e size v n xs)
    (a : Addr) (m c : Nat) (news : List Value) (hl : news.length = m * size) (hnews : ∀ j u, news[j]? = some u → w.cell? (a.add j) = some u) (h1 : ∀ u ∈ news, u.oneCell' = true)
    (h63 : n + m ≤ maxLen) (hbytes : (n + m) * bytes ≤ 140737488355328) :
    ∃ v' w', (Builtin.append_ #[t, t] ty #[v, .slice (some a) m c]).run P w = .ok v' w' ∧ w'.ownsRow 0 e size v' (n + m) (xs ++ news) ∧ w.grownBy w' v.ownBlock ∧
      (∀ k, v'.ownBlock = some k → v.ownBlock = some k ∨ w.heap.size ≤ k) := by
  obtain ⟨v', w', hr, ho, hg, hn⟩ := run_append_own (P := P) w 0 t ty e i z size bytes ht hi hz hsize hby hzs hsz v n xs hown a m c news hl hnews h1 h63 hbytes (Nat.zero_le _)
  refine ⟨v', w', hr, ho, hg, ?_⟩
  intro k hk
  have hown2 := hown
  rcases hown.2 with ⟨rfl, rfl⟩ | ⟨g, cap, cur, rfl, hbg, hgg, hnc, hcm, hcs, htake⟩
  · have hx : xs = [] := List.eq_nil_of_length_eq_zero (by simpa using hown.1)
    subst hx
    obtain ⟨v2, w2, hr2, ho2, _, _⟩ := run_append_own (P := P) w w.heap.size t ty e i z size bytes ht hi hz hsize hby hzs hsz _ 0 [] (World.ownsRow_nil w w.heap.size e size) a m c news hl hnews h1 h63 hbytes (Nat.le_refl _)
    rw [hr] at hr2
    cases hr2
    exact .inr (ho2.lt k hk).1
  · by_cases hroom : n + m ≤ cap
    · obtain ⟨w2, hr2, _, _⟩ := run_append_fits (P := P) w 0 t ty e i size ht hi hsize g n cap xs hown a m c news hl hnews h1 hroom
      rw [hr] at hr2
      cases hr2
      exact .inl hk
    · subst hsize
      subst hby
      have holds : ∀ j u, xs[j]? = some u → w.cell? ((⟨g, 0, none⟩ : Addr).add j) = some u := hown.cells (g := g) rfl
      have hr2 := run_append_grow (P := P) w t ty e i z ht hi hz ⟨g, 0, none⟩ n cap xs hown.1 holds a m c news hl hnews (by omega) (by simp only [maxLen] at h63; omega) (growslice_fits (by omega) hbytes)
      rw [hr] at hr2
      cases hr2
      simp [Value.ownBlock] at hk
      exact .inr (by omega)

theorem wpList_app {ops : Array Oper} {rest : List Oper} {o : Oper} {a : Act} {Q : Exit → Act → World → Prop} (hgd : o.guard = none) (s x : Operand) (t : TypeId)
    (ho : o.op = .call { callee := .builtin .append, args := #[s, x], argTypes := #[t, t] })
    (e : TypeId) (i : TypeInfo) (z : Value) (size bytes : Nat) (ht : P.underlying t = some (.slice e)) (hi : P.info? e = some i) (hz : i.zero = some z)
    (hsize : i.size = size) (hby : i.bytes = bytes) (hzs : z.cells.size = size) (hsz : 0 < size)
    (v : Value) (n : Nat) (xs : List Value) (hs : a.eval s = v) (hown : w.ownsRow 0 e size v n xs)
    (ad : Addr) (m c : Nat) (news : List Value) (hx : a.eval x = .slice (some ad) m c) (hl : news.length = m * size) (hnews : ∀ j u, news[j]? = some u → w.cell? (ad.add j) = some u) (h1 : ∀ u ∈ news, u.oneCell' = true)
    (h63 : n + m ≤ maxLen) (hbytes : (n + m) * bytes ≤ 140737488355328)
    (h : ∀ v' w', w'.ownsRow 0 e size v' (n + m) (xs ++ news) → w.grownBy w' v.ownBlock → (∀ k, v'.ownBlock = some k → v.ownBlock = some k ∨ w.heap.size ≤ k) → wpList P ops Q rest (a.put o.dst v') w') : wpList P ops Q (o :: rest) a w :=
  wpList_plain hgd fun _ hK => by
    obtain ⟨v', w', hr, h2, h3, h4⟩ := run_app (P := P) w e t o.type i z size bytes ht hi hz hsize hby hzs hsz v n xs hown ad m c news hl hnews h1 h63 hbytes
    unfold Oper.wp execOp
    simp only [ho, resolve, invoke, builtin, Sem.run_bind, Sem.run_pure, Result.andThen_ok, List.map_toArray, List.map_cons, List.map_nil, hs, hx, hr]
    exact hK _ _ (h v' w' h2 h3 h4)
end

theorem post_mono {P Q : Ending → World → Prop} (h : ∀ e w, P e w → Q e w) : ∀ e w, P e w → Q e w := h
end Go.Proofs.YtgbakogihkdddaaGreatDoor

namespace Go.Proofs.YtgbakogihkdddaaGreatDoor
set_option linter.unusedVariables false
set_option linter.unusedSimpArgs false

/-- A piece: where it begins, and its bytes. -/
abbrev Fp := Int × List UInt8
def endP (p : Fp) : Int := p.1 + p.2.length
structure OkD (l : List Fp) : Prop where
  each : ∀ p ∈ l, 0 ≤ p.1 ∧ p.2 ≠ [] ∧ endP p ≤ 1099511627776
  apart : l.Pairwise (fun p q => endP p < q.1)
/-- Byte c is written at x. -/
def HasB (l : List Fp) (x : Int) (c : UInt8) : Prop := ∃ p ∈ l, p.1 ≤ x ∧ p.2[(x - p.1).toNat]? = some c

theorem OkD.nil : OkD [] := ⟨by simp, List.Pairwise.nil⟩
theorem HasB.lt {p : Fp} {x : Int} {c : UInt8} (h1 : p.1 ≤ x) (h : p.2[(x - p.1).toNat]? = some c) : x < endP p := by
  have := (List.getElem?_eq_some_iff.1 h).1
  unfold endP; omega
theorem hasB_append (a b : List Fp) (x : Int) (c : UInt8) : HasB (a ++ b) x c ↔ HasB a x c ∨ HasB b x c := by
  unfold HasB
  simp only [List.mem_append]
  constructor
  · rintro ⟨p, h | h, h2⟩
    · exact .inl ⟨p, h, h2⟩
    · exact .inr ⟨p, h, h2⟩
  · rintro (⟨p, h, h2⟩ | ⟨p, h, h2⟩)
    · exact ⟨p, .inl h, h2⟩
    · exact ⟨p, .inr h, h2⟩
theorem hasB_one (p : Fp) (x : Int) (c : UInt8) : HasB [p] x c ↔ p.1 ≤ x ∧ p.2[(x - p.1).toNat]? = some c := by simp [HasB]

/-- What pieces that are touched become. -/
def joinP (m : List Fp) (k : Int) (b : List UInt8) : Fp :=
  match m.head?, m.getLast? with
  | some f, some z => (min f.1 k, f.2.take (k - f.1).toNat ++ b ++ z.2.drop (k + b.length - z.1).toNat)
  | _, _ => (k, b)
def aheadP (l : List Fp) (k : Int) : List Fp := l.takeWhile (fun p => decide (endP p < k))
def touchP (l : List Fp) (k s : Int) : List Fp := (l.dropWhile (fun p => decide (endP p < k))).takeWhile (fun p => decide (p.1 ≤ s))
def behindP (l : List Fp) (k s : Int) : List Fp := (l.dropWhile (fun p => decide (endP p < k))).dropWhile (fun p => decide (p.1 ≤ s))
/-- Bytes b written at k. -/
def putP (l : List Fp) (k : Int) (b : List UInt8) : List Fp := aheadP l k ++ joinP (touchP l k (k + b.length)) k b :: behindP l k (k + b.length)

theorem split3 (l : List Fp) (k s : Int) : l = aheadP l k ++ (touchP l k s ++ behindP l k s) := by
  unfold aheadP touchP behindP
  rw [List.takeWhile_append_dropWhile, List.takeWhile_append_dropWhile]
theorem mem_tw {α : Type} {q : α → Bool} : ∀ {l : List α} {x : α}, x ∈ l.takeWhile q → q x = true
  | [], x, h => by simp at h
  | y :: l, x, h => by
    rw [List.takeWhile_cons] at h
    split at h
    · rename_i hq
      rcases List.mem_cons.1 h with rfl | h
      · exact hq
      · exact mem_tw h
    · cases h
theorem ahead_end {l : List Fp} {k : Int} : ∀ p ∈ aheadP l k, endP p < k := fun p hp => by
  have := mem_tw hp
  simpa using this
theorem drop_first {α : Type} {q : α → Bool} : ∀ {l : List α} {x : α} {t : List α}, l.dropWhile q = x :: t → q x = false
  | [], _, _, h => by simp at h
  | y :: l, x, t, h => by
    rw [List.dropWhile_cons] at h
    split at h
    · exact drop_first h
    · rename_i hq; cases h; simpa using hq
/-- From a place on, all pieces end no earlier. -/
theorem drop_end {l : List Fp} (h : OkD l) (k : Int) : ∀ p ∈ l.dropWhile (fun p => decide (endP p < k)), k ≤ endP p := by
  intro p hp
  cases hd : l.dropWhile (fun p => decide (endP p < k)) with
  | nil => rw [hd] at hp; cases hp
  | cons f t =>
    have hf := drop_first hd
    simp at hf
    have hap : (f :: t).Pairwise (fun p q => endP p < q.1) := by rw [← hd]; exact h.apart.sublist (List.dropWhile_sublist _)
    rw [hd] at hp
    rcases List.mem_cons.1 hp with rfl | hp'
    · exact hf
    · have h1 := (List.pairwise_cons.1 hap).1 p hp'
      have h2 : p ∈ l := (List.dropWhile_sublist _).subset (by rw [hd]; exact List.mem_cons_of_mem _ hp')
      have := (h.each p h2)
      unfold endP at *; omega
theorem touch_end {l : List Fp} (h : OkD l) (k s : Int) : ∀ p ∈ touchP l k s, k ≤ endP p ∧ p.1 ≤ s := by
  intro p hp
  unfold touchP at hp
  have h1 := mem_tw hp
  exact ⟨drop_end h k p (List.IsPrefix.subset (List.takeWhile_prefix _) hp), by simpa using h1⟩
theorem behind_at {l : List Fp} (h : OkD l) (k s : Int) : ∀ p ∈ behindP l k s, s < p.1 := by
  intro p hp
  unfold behindP at hp
  cases hd : (l.dropWhile (fun p => decide (endP p < k))).dropWhile (fun p => decide (p.1 ≤ s)) with
  | nil => rw [hd] at hp; cases hp
  | cons f t =>
    have hf := drop_first hd
    simp at hf
    have hap : (f :: t).Pairwise (fun p q => endP p < q.1) := by rw [← hd]; exact (h.apart.sublist (List.dropWhile_sublist _)).sublist (List.dropWhile_sublist _)
    rw [hd] at hp
    rcases List.mem_cons.1 hp with rfl | hp'
    · exact hf
    · have h1 := (List.pairwise_cons.1 hap).1 p hp'
      have h2 : f ∈ l := (List.dropWhile_sublist _).subset ((List.dropWhile_sublist _).subset (by rw [hd]; exact List.mem_cons_self))
      have := (h.each f h2)
      unfold endP at *; omega
/-- The joined piece, where some are touched. -/
theorem join_some {m : List Fp} (hm : m ≠ []) (k : Int) (b : List UInt8) : ∃ f z r y, m = f :: r ∧ m = y ++ [z] ∧ joinP m k b = (min f.1 k, f.2.take (k - f.1).toNat ++ b ++ z.2.drop (k + b.length - z.1).toNat) := by
  cases m with
  | nil => exact absurd rfl hm
  | cons f r =>
    refine ⟨f, (f :: r).getLast (by simp), r, (f :: r).dropLast, rfl, (List.dropLast_concat_getLast (by simp)).symm, ?_⟩
    unfold joinP
    rw [List.head?_cons, List.getLast?_eq_some_getLast (by simp)]
theorem join_none (k : Int) (b : List UInt8) : joinP [] k b = (k, b) := rfl
/-- Where it lies, and what it holds. -/
theorem join_ends {l : List Fp} (h : OkD l) {m : List Fp} (hml : m.Sublist l) (k : Int) (b : List UInt8) (hk : 0 ≤ k) (hb : b ≠ []) (ht : ∀ p ∈ m, k ≤ endP p ∧ p.1 ≤ k + b.length) (hmost : k + b.length ≤ 1099511627776) :
    0 ≤ (joinP m k b).1 ∧ (joinP m k b).1 ≤ k ∧ (joinP m k b).2 ≠ [] ∧ endP (joinP m k b) ≤ 1099511627776 ∧ (m = [] → joinP m k b = (k, b)) ∧
    (∀ f r, m = f :: r → (joinP m k b).1 = min f.1 k) ∧ (m = [] → endP (joinP m k b) = k + b.length) ∧ (∀ z y, m = y ++ [z] → endP (joinP m k b) = max (endP z) (k + b.length)) := by
  by_cases hm : m = []
  · subst hm
    rw [join_none]
    refine ⟨hk, by simp, hb, by simpa [endP] using hmost, fun _ => rfl, (fun f r e => by cases e), (fun _ => rfl), (fun z y e => by simp at e)⟩
  · obtain ⟨f, z, r, y, e1, e2, e3⟩ := join_some hm k b
    have hfm : f ∈ m := by rw [e1]; exact List.mem_cons_self
    have hzm : z ∈ m := by rw [e2]; simp
    have hf := h.each f (hml.subset hfm)
    have hz := h.each z (hml.subset hzm)
    have tf := ht f hfm
    have tz := ht z hzm
    have hl : ((f.2.take (k - f.1).toNat).length : Int) = k - min f.1 k := by
      rw [List.length_take]; unfold endP at tf; omega
    have hz2 : ((z.2.drop (k + b.length - z.1).toNat).length : Int) = max (endP z) (k + b.length) - (k + b.length) := by
      rw [List.length_drop]; unfold endP at *; omega
    have hend : endP (joinP m k b) = max (endP z) (k + b.length) := by
      rw [e3]; unfold endP; simp only [List.length_append]; push_cast; unfold endP at hz2; omega
    rw [hend]
    rw [e3]
    refine ⟨by simp only; omega, by simp only; omega, by simp [hb], by have := hz.2.2; omega, fun e => absurd e hm, ?_, fun e => absurd e hm, ?_⟩
    · intro f' r' e
      rw [e1] at e; cases e; rfl
    · intro z' y' e
      rw [e2] at e
      have := List.append_inj_right' e rfl
      cases this; rfl
theorem pair_sub {l m : List Fp} (h : OkD l) (hs : m.Sublist l) : m.Pairwise (fun p q => endP p < q.1) := h.apart.sublist hs
theorem put_ok {l : List Fp} (h : OkD l) (k : Int) (b : List UInt8) (hk : 0 ≤ k) (hb : b ≠ []) (hmost : k + b.length ≤ 1099511627776) : OkD (putP l k b) := by
  have hs := split3 l k (k + b.length)
  have hta := touch_end h k (k + b.length)
  have hba := behind_at h k (k + b.length)
  have haa := @ahead_end l k
  unfold putP
  generalize aheadP l k = A at *
  generalize touchP l k (k + b.length) = M at *
  generalize behindP l k (k + b.length) = Z at *
  have hAl : A.Sublist l := by rw [hs]; exact List.sublist_append_left _ _
  have hMl : M.Sublist l := by rw [hs]; exact (List.sublist_append_left _ _).trans (List.sublist_append_right _ _)
  have hZl : Z.Sublist l := by rw [hs]; exact (List.sublist_append_right _ _).trans (List.sublist_append_right _ _)
  obtain ⟨j1, j2, j3, j4, j5, j6, j7, j8⟩ := join_ends h hMl k b hk hb hta hmost
  have hap := h.apart
  rw [hs, List.pairwise_append, List.pairwise_append] at hap
  obtain ⟨a1, ⟨a2, a3, a4⟩, a5⟩ := hap
  constructor
  · intro p hp
    rcases List.mem_append.1 hp with hp | hp
    · exact h.each p (hAl.subset hp)
    · rcases List.mem_cons.1 hp with rfl | hp
      · exact ⟨j1, j3, j4⟩
      · exact h.each p (hZl.subset hp)
  · rw [List.pairwise_append, List.pairwise_cons]
    refine ⟨a1, ⟨?_, a3⟩, ?_⟩
    · intro q hq
      have hq1 := hba q hq
      by_cases hM : M = []
      · rw [j7 hM]; exact hq1
      · obtain ⟨f, z, r, y, e1, e2, e3⟩ := join_some hM k b
        rw [j8 z y e2]
        have := a4 z (by rw [e2]; simp) q hq
        omega
    · intro p hp q hq
      rcases List.mem_cons.1 hq with rfl | hq
      · have hp1 := haa p hp
        by_cases hM : M = []
        · rw [j5 hM]; exact hp1
        · obtain ⟨f, z, r, y, e1, e2, e3⟩ := join_some hM k b
          rw [j6 f r e1]
          have := a5 p hp f (by rw [e1]; simp)
          omega
      · exact a5 p hp q (List.mem_append.2 (.inr hq))
end Go.Proofs.YtgbakogihkdddaaGreatDoor

namespace Go.Proofs.YtgbakogihkdddaaGreatDoor
set_option linter.unusedVariables false
set_option linter.unusedSimpArgs false

/-- The joined piece's bytes: the new ones, and those of the touched pieces around them. -/
theorem join_has {l : List Fp} (h : OkD l) {m : List Fp} (hml : m.Sublist l) (k : Int) (b : List UInt8) (hk : 0 ≤ k) (ht : ∀ p ∈ m, k ≤ endP p ∧ p.1 ≤ k + b.length) (x : Int) (c : UInt8) :
    ((joinP m k b).1 ≤ x ∧ (joinP m k b).2[(x - (joinP m k b).1).toNat]? = some c) ↔ (k ≤ x ∧ b[(x - k).toNat]? = some c) ∨ ((x < k ∨ k + b.length ≤ x) ∧ HasB m x c) := by
  by_cases hm : m = []
  · subst hm
    rw [join_none]
    constructor
    · intro h'; exact .inl h'
    · rintro (h' | ⟨_, p, hp, _⟩)
      · exact h'
      · cases hp
  · obtain ⟨f, z, r, y, e1, e2, e3⟩ := join_some hm k b
    have hfm : f ∈ m := by rw [e1]; exact List.mem_cons_self
    have hzm : z ∈ m := by rw [e2]; simp
    have hf := h.each f (hml.subset hfm)
    have hz := h.each z (hml.subset hzm)
    have tf := ht f hfm
    have tz := ht z hzm
    have hap := pair_sub h hml
    have hl : (f.2.take (k - f.1).toNat).length = (k - min f.1 k).toNat := by
      rw [List.length_take]; unfold endP at tf; omega
    rw [e3]
    simp only
    -- what lies ahead of k is the first one's, what lies behind is the last one's
    have hahead : ∀ p ∈ m, x < k → p.1 ≤ x → p.2[(x - p.1).toNat]? = some c → p = f := by
      intro p hp hx h1 h2
      rw [e1] at hp hap
      rcases List.mem_cons.1 hp with rfl | hp
      · rfl
      · have := (List.pairwise_cons.1 hap).1 p hp
        omega
    have hbehind : ∀ p ∈ m, k + b.length ≤ x → p.1 ≤ x → p.2[(x - p.1).toNat]? = some c → p = z := by
      intro p hp hx h1 h2
      have hlt := HasB.lt h1 h2
      rw [e2] at hp hap
      rcases List.mem_append.1 hp with hp | hp
      · have := (List.pairwise_append.1 hap).2.2 p hp z (by simp)
        omega
      · simpa using hp
    by_cases hx1 : x < k
    · constructor
      · rintro ⟨g1, g2⟩
        right
        refine ⟨.inl hx1, f, hfm, by omega, ?_⟩
        rw [List.append_assoc, List.getElem?_append_left (by rw [hl]; omega)] at g2
        rw [List.getElem?_take] at g2
        split at g2
        · rw [← g2]; congr 1; omega
        · cases g2
      · rintro (⟨g1, _⟩ | ⟨_, p, hp, g1, g2⟩)
        · omega
        · have := hahead p hp hx1 g1 g2
          subst this
          refine ⟨by omega, ?_⟩
          rw [List.append_assoc, List.getElem?_append_left (by rw [hl]; omega), List.getElem?_take, if_pos (by omega), ← g2]
          congr 1; omega
    · by_cases hx2 : x < k + b.length
      · constructor
        · rintro ⟨g1, g2⟩
          left
          refine ⟨by omega, ?_⟩
          rw [List.append_assoc, List.getElem?_append_right (by rw [hl]; omega), List.getElem?_append_left (by rw [hl]; omega), hl] at g2
          rw [← g2]; congr 1; omega
        · rintro (⟨g1, g2⟩ | ⟨h', _⟩)
          · refine ⟨by omega, ?_⟩
            rw [List.append_assoc, List.getElem?_append_right (by rw [hl]; omega), List.getElem?_append_left (by rw [hl]; omega), hl, ← g2]
            congr 1; omega
          · omega
      · constructor
        · rintro ⟨g1, g2⟩
          right
          refine ⟨.inr (by omega), z, hzm, by omega, ?_⟩
          rw [List.append_assoc, List.getElem?_append_right (by rw [hl]; omega), List.getElem?_append_right (by rw [hl]; omega), hl, List.getElem?_drop] at g2
          rw [← g2]; congr 1; omega
        · rintro (⟨g1, g2⟩ | ⟨_, p, hp, g1, g2⟩)
          · have := (List.getElem?_eq_some_iff.1 g2).1; omega
          · have := hbehind p hp (by omega) g1 g2
            subst this
            refine ⟨by omega, ?_⟩
            rw [List.append_assoc, List.getElem?_append_right (by rw [hl]; omega), List.getElem?_append_right (by rw [hl]; omega), hl, List.getElem?_drop, ← g2]
            congr 1; omega
theorem put_has {l : List Fp} (h : OkD l) (k : Int) (b : List UInt8) (hk : 0 ≤ k) (hb : b ≠ []) (x : Int) (c : UInt8) :
    HasB (putP l k b) x c ↔ (k ≤ x ∧ b[(x - k).toNat]? = some c) ∨ ((x < k ∨ k + b.length ≤ x) ∧ HasB l x c) := by
  have hs := split3 l k (k + b.length)
  have hta := touch_end h k (k + b.length)
  have hba := behind_at h k (k + b.length)
  have haa := @ahead_end l k
  have hbl : 0 < b.length := List.length_pos_iff.2 hb
  unfold putP
  generalize aheadP l k = A at *
  generalize touchP l k (k + b.length) = M at *
  generalize behindP l k (k + b.length) = Z at *
  have hMl : M.Sublist l := by rw [hs]; exact (List.sublist_append_left _ _).trans (List.sublist_append_right _ _)
  have hj := join_has h hMl k b hk hta x c
  have e : A ++ joinP M k b :: Z = A ++ ([joinP M k b] ++ Z) := rfl
  rw [e, hasB_append, hasB_append, hasB_one, hj]
  conv => rhs; rw [hs, hasB_append, hasB_append]
  have hA : HasB A x c → x < k := by
    rintro ⟨p, hp, g1, g2⟩
    have := haa p hp
    have := HasB.lt g1 g2
    omega
  have hZ : HasB Z x c → k + b.length ≤ x := by
    rintro ⟨p, hp, g1, g2⟩
    have := hba p hp
    omega
  constructor
  · rintro (h' | (h' | ⟨h1, h2⟩) | h')
    · exact .inr ⟨.inl (hA h'), .inl h'⟩
    · exact .inl h'
    · exact .inr ⟨h1, .inr (.inl h2)⟩
    · exact .inr ⟨.inr (hZ h'), .inr (.inr h')⟩
  · rintro (h' | ⟨h1, h2 | h2 | h2⟩)
    · exact .inr (.inl (.inl h'))
    · exact .inl h2
    · exact .inr (.inl (.inr ⟨h1, h2⟩))
    · exact .inr (.inr h2)

/-- What lies from a size on is taken away. -/
def cutP (l : List Fp) (s : Int) : List Fp :=
  l.takeWhile (fun p => decide (endP p ≤ s)) ++
    match (l.dropWhile (fun p => decide (endP p ≤ s))) with
    | p :: _ => if p.1 < s then [(p.1, p.2.take (s - p.1).toNat)] else []
    | [] => []
def sizeD (l : List Fp) : Nat := (l.map fun p => p.2.length).sum
theorem sizeD_append (a b : List Fp) : sizeD (a ++ b) = sizeD a + sizeD b := by simp [sizeD]
theorem sizeD_cons (p : Fp) (l : List Fp) : sizeD (p :: l) = p.2.length + sizeD l := by simp [sizeD]

theorem cut_ok {l : List Fp} (h : OkD l) (s : Int) (hs : 0 ≤ s) : OkD (cutP l s) := by
  have e : l = l.takeWhile (fun p => decide (endP p ≤ s)) ++ l.dropWhile (fun p => decide (endP p ≤ s)) := (List.takeWhile_append_dropWhile).symm
  unfold cutP
  generalize l.takeWhile (fun p => decide (endP p ≤ s)) = A at *
  cases hd : l.dropWhile (fun p => decide (endP p ≤ s)) with
  | nil =>
    simp only [List.append_nil]
    have hA : A.Sublist l := by rw [e]; exact List.sublist_append_left _ _
    exact ⟨fun p hp => h.each p (hA.subset hp), h.apart.sublist hA⟩
  | cons p t =>
    rw [hd] at e
    have hA : A.Sublist l := by rw [e]; exact List.sublist_append_left _ _
    have hpl : p ∈ l := by rw [e]; simp
    have hp := h.each p hpl
    have hf := drop_first hd
    simp at hf
    simp only
    split
    · rename_i hlt
      constructor
      · intro q hq
        rcases List.mem_append.1 hq with hq | hq
        · exact h.each q (hA.subset hq)
        · simp at hq; subst hq
          refine ⟨hp.1, ?_, ?_⟩
          · intro e'
            have := congrArg List.length e'
            simp at this
            rcases this with h' | h'
            · omega
            · exact hp.2.1 h'
          · have := hp.2.2; unfold endP at *; simp only [List.length_take]; omega
      · rw [List.pairwise_append]
        refine ⟨h.apart.sublist hA, List.pairwise_singleton _ _, ?_⟩
        intro q hq r hr
        simp at hr; subst hr
        have hap := h.apart
        rw [e, List.pairwise_append] at hap
        exact hap.2.2 q hq p (by simp)
    · simp only [List.append_nil]
      exact ⟨fun p hp => h.each p (hA.subset hp), h.apart.sublist hA⟩
theorem cut_has {l : List Fp} (h : OkD l) (s : Int) (x : Int) (c : UInt8) : HasB (cutP l s) x c ↔ x < s ∧ HasB l x c := by
  have e : l = l.takeWhile (fun p => decide (endP p ≤ s)) ++ l.dropWhile (fun p => decide (endP p ≤ s)) := (List.takeWhile_append_dropWhile).symm
  have ha : ∀ p ∈ l.takeWhile (fun p => decide (endP p ≤ s)), endP p ≤ s := fun p hp => by
    have := mem_tw hp
    simpa using this
  unfold cutP
  generalize l.takeWhile (fun p => decide (endP p ≤ s)) = A at *
  have hA : HasB A x c → x < s := by
    rintro ⟨p, hp, g1, g2⟩
    have := ha p hp
    have := HasB.lt g1 g2
    omega
  cases hd : l.dropWhile (fun p => decide (endP p ≤ s)) with
  | nil =>
    rw [hd] at e
    simp only [List.append_nil] at e ⊢
    rw [e]
    exact ⟨fun h' => ⟨hA h', h'⟩, fun h' => h'.2⟩
  | cons p t =>
    rw [hd] at e
    have hf := drop_first hd
    simp at hf
    have hap := h.apart
    rw [e, List.pairwise_append, List.pairwise_cons] at hap
    have ht : ∀ q ∈ t, HasB [q] x c → s ≤ x := by
      rintro q hq h'
      rw [hasB_one] at h'
      have := hap.2.1.1 q hq
      omega
    have hT : HasB t x c → s ≤ x := by
      rintro ⟨q, hq, g⟩
      exact ht q hq ((hasB_one q x c).2 g)
    have e2 : A ++ p :: t = A ++ ([p] ++ t) := rfl
    conv => rhs; rw [e, e2, hasB_append, hasB_append, hasB_one]
    simp only
    split
    · rename_i hlt
      rw [hasB_append, hasB_one]
      simp only [List.getElem?_take]
      constructor
      · rintro (h' | ⟨g1, g2⟩)
        · exact ⟨hA h', .inl h'⟩
        · split at g2
          · exact ⟨by omega, .inr (.inl ⟨g1, g2⟩)⟩
          · cases g2
      · rintro ⟨hx, h' | ⟨g1, g2⟩ | h'⟩
        · exact .inl h'
        · exact .inr ⟨g1, by rw [if_pos (by omega)]; exact g2⟩
        · have := hT h'; omega
    · rename_i hlt
      simp only [List.append_nil]
      constructor
      · intro h'; exact ⟨hA h', .inl h'⟩
      · rintro ⟨hx, h' | ⟨g1, g2⟩ | h'⟩
        · exact h'
        · omega
        · have := hT h'; omega

/-- How many of some bytes may be written, if at most room of them are new; and how many are. -/
def fitB (is : Int → Bool) : Nat → Int → Nat → Nat × Nat
  | 0, _, _ => (0, 0)
  | s + 1, k, room => if is k then ((fitB is s (k + 1) room).1 + 1, (fitB is s (k + 1) room).2) else match room with
    | 0 => (0, 0)
    | r + 1 => ((fitB is s (k + 1) r).1 + 1, (fitB is s (k + 1) r).2 + 1)
theorem fitB_le (is : Int → Bool) : ∀ (s : Nat) (k : Int) (room : Nat), (fitB is s k room).1 ≤ s ∧ (fitB is s k room).2 ≤ room ∧ (fitB is s k room).2 ≤ (fitB is s k room).1
  | 0, k, room => by simp [fitB]
  | s + 1, k, room => by
    unfold fitB
    split
    · have := fitB_le is s (k + 1) room
      simp only; omega
    · cases room with
      | zero => simp
      | succ r =>
        have := fitB_le is s (k + 1) r
        simp only; omega
theorem fitB_in (is : Int → Bool) : ∀ (g s : Nat) (k : Int) (room : Nat), g ≤ s → (∀ i : Nat, i < g → is (k + i) = true) → fitB is s k room = ((fitB is (s - g) (k + g) room).1 + g, (fitB is (s - g) (k + g) room).2)
  | 0, s, k, room, _, _ => by simp
  | g + 1, s, k, room, hg, h => by
    obtain ⟨s', rfl⟩ : ∃ s', s = s' + 1 := ⟨s - 1, by omega⟩
    have h0 := h 0 (by omega)
    simp at h0
    conv => lhs; unfold fitB
    rw [if_pos h0, fitB_in is g s' (k + 1) room (by omega) (fun i hi => by have := h (i + 1) (by omega); rw [← this]; congr 1; push_cast; omega)]
    have e1 : s' + 1 - (g + 1) = s' - g := by omega
    have e2 : k + ((g + 1 : Nat) : Int) = k + 1 + (g : Int) := by push_cast; omega
    rw [e1, e2]
    rfl
theorem fitB_gap (is : Int → Bool) : ∀ (g s : Nat) (k : Int) (room : Nat), g ≤ s → g ≤ room → (∀ i : Nat, i < g → is (k + i) = false) → fitB is s k room = ((fitB is (s - g) (k + g) (room - g)).1 + g, (fitB is (s - g) (k + g) (room - g)).2 + g)
  | 0, s, k, room, _, _, _ => by simp
  | g + 1, s, k, room, hg, hr, h => by
    obtain ⟨s', rfl⟩ : ∃ s', s = s' + 1 := ⟨s - 1, by omega⟩
    obtain ⟨r', rfl⟩ : ∃ r', room = r' + 1 := ⟨room - 1, by omega⟩
    have h0 := h 0 (by omega)
    simp at h0
    conv => lhs; unfold fitB
    rw [if_neg (by simp [h0])]
    simp only
    rw [fitB_gap is g s' (k + 1) r' (by omega) (by omega) (fun i hi => by have := h (i + 1) (by omega); rw [← this]; congr 1; push_cast; omega)]
    have e1 : s' + 1 - (g + 1) = s' - g := by omega
    have e2 : k + ((g + 1 : Nat) : Int) = k + 1 + (g : Int) := by push_cast; omega
    have e3 : r' + 1 - (g + 1) = r' - g := by omega
    rw [e1, e2, e3]
    rfl
theorem fitB_full (is : Int → Bool) (g s : Nat) (k : Int) (room : Nat) (hg : g ≤ s) (hr : room < g) (h : ∀ i : Nat, i < g → is (k + i) = false) : fitB is s k room = (room, room) := by
  rw [fitB_gap is room s k room (by omega) (Nat.le_refl _) (fun i hi => h i (by omega))]
  obtain ⟨s', e⟩ : ∃ s', s - room = s' + 1 := ⟨s - room - 1, by omega⟩
  rw [e, Nat.sub_self]
  unfold fitB
  rw [if_neg (by rw [h room hr]; simp)]
  simp
end Go.Proofs.YtgbakogihkdddaaGreatDoor

namespace Go.Proofs.YtgbakogihkdddaaGreatDoor

def num : List Int → Nat
  | [] => 0
  | b :: r => b.toNat + 256 * num r
def AllB (bs : List Int) : Prop := ∀ b ∈ bs, 0 ≤ b ∧ b < 256

theorem num_lt (bs : List Int) (h : AllB bs) : num bs < 256 ^ bs.length := by
  induction bs with
  | nil => simp [num]
  | cons b r ih =>
    have h1 := h b (by simp)
    have h2 := ih (fun x hx => h x (by simp [hx]))
    simp only [num, List.length_cons, Nat.pow_succ]
    omega
theorem num_append (a b : List Int) : num (a ++ b) = num a + 256 ^ a.length * num b := by
  induction a with
  | nil => simp [num]
  | cons x r ih => simp only [List.cons_append, num, ih, List.length_cons, Nat.pow_succ]; rw [Nat.mul_add, Nat.mul_comm (256 ^ r.length) 256, Nat.mul_assoc]; omega
theorem AllB.take {bs : List Int} (h : AllB bs) (n : Nat) : AllB (bs.take n) := fun b hb => h b (List.mem_of_mem_take hb)
theorem AllB.drop {bs : List Int} (h : AllB bs) (n : Nat) : AllB (bs.drop n) := fun b hb => h b (List.mem_of_mem_drop hb)
theorem AllB.getD {bs : List Int} (h : AllB bs) (i : Nat) : 0 ≤ bs.getD i 0 ∧ bs.getD i 0 < 256 := by
  by_cases hi : i < bs.length
  · have : bs.getD i 0 = bs[i] := by simp [List.getD, hi]
    rw [this]; exact h _ (List.getElem_mem hi)
  · have : bs.getD i 0 = 0 := by simp [List.getD, List.getElem?_eq_none (Nat.le_of_not_lt hi)]
    omega
theorem num_take_drop (bs : List Int) (h : AllB bs) (n : Nat) : num (bs.take n) = num bs % 256 ^ n ∧ num (bs.drop n) = num bs / 256 ^ n := by
  by_cases hn : n ≤ bs.length
  · have e : num bs = num (bs.take n) + 256 ^ n * num (bs.drop n) := by
      have := num_append (bs.take n) (bs.drop n)
      rw [List.take_append_drop, List.length_take, Nat.min_eq_left hn] at this
      exact this
    have l := num_lt _ (h.take n)
    rw [List.length_take, Nat.min_eq_left hn] at l
    rw [e]
    refine ⟨?_, ?_⟩
    · rw [Nat.add_mul_mod_self_left, Nat.mod_eq_of_lt l]
    · rw [Nat.add_mul_div_left _ _ (Nat.pow_pos (by decide)), Nat.div_eq_of_lt l, Nat.zero_add]
  · have l := num_lt _ h
    have l2 : num bs < 256 ^ n := Nat.lt_of_lt_of_le l (Nat.pow_le_pow_right (by decide) (by omega))
    rw [List.take_of_length_le (by omega), List.drop_of_length_le (by omega), Nat.mod_eq_of_lt l2, Nat.div_eq_of_lt l2]
    simp [num]
theorem num_take_succ (bs : List Int) (i : Nat) (hi : i < bs.length) : num (bs.take (i + 1)) = num (bs.take i) + (bs.getD i 0).toNat * 256 ^ i := by
  have e : bs.take (i + 1) = bs.take i ++ [bs.getD i 0] := by
    rw [List.take_succ_eq_append_getElem hi]; simp [List.getD, hi]
  rw [e, num_append, List.length_take, Nat.min_eq_left (by omega)]
  simp [num, Nat.mul_comm]

/-- 'a | b << s' where a has no more than s bits: a sum. -/
theorem or_shift (a b s : Nat) (h : a < 2 ^ s) : a ||| b * 2 ^ s = a + b * 2 ^ s := by
  rw [← Nat.shiftLeft_eq, Nat.or_comm, Nat.add_comm]
  exact (Nat.shiftLeft_add_eq_or_of_lt h b).symm

theorem pow256 (i : Nat) : 256 ^ i = 2 ^ (8 * i) := by rw [Nat.pow_mul]

/-- What is told by k bits from bit 'at' on. -/
def bitsAt (bs : List Int) (p k : Nat) : Nat := num bs / 2 ^ p % 2 ^ k

/-- Of the bytes from f on the first m make up the bits from 8 f + s on, if these are no more than there. -/
theorem bitsAt_window (bs : List Int) (h : AllB bs) (f s k m : Nat) (hm : s + k ≤ 8 * m) :
    num ((bs.drop f).take m) / 2 ^ s % 2 ^ k = bitsAt bs (8 * f + s) k := by
  unfold bitsAt
  rw [(num_take_drop (bs.drop f) (h.drop f) m).1, (num_take_drop bs h f).2, pow256, pow256, Nat.pow_add, ← Nat.div_div_eq_div_mul]
  generalize num bs / 2 ^ (8 * f) = x
  have e : 2 ^ (8 * m) = 2 ^ s * 2 ^ (8 * m - s) := by rw [← Nat.pow_add]; congr 1; omega
  rw [e, Nat.mod_mul_right_div_self]
  exact Nat.mod_mod_of_dvd _ (Nat.pow_dvd_pow 2 (by omega))
theorem bitsAt_lt (bs : List Int) (p k : Nat) : bitsAt bs p k < 2 ^ k := Nat.mod_lt _ (Nat.pow_pos (by decide))

theorem pow_le_pow2 {a b : Nat} (h : a ≤ b) : 2 ^ a ≤ 2 ^ b := Nat.pow_le_pow_right (by decide) h

/-- One more byte of a window of at most eight. -/
theorem or_step (bs : List Int) (h : AllB bs) (f j : Nat) (hj : j < 8) (hi : f + j < bs.length) (z : Int) (hz : bs.getD (f + j) 0 = z) :
    bits .or .u64 (num ((bs.drop f).take j) : Nat) (IntKind.u64.wrap (z * 2 ^ (8 * j))) = (num ((bs.drop f).take (j + 1)) : Nat) := by
  have hg := h.getD (f + j)
  rw [hz] at hg
  have hl := num_lt _ ((h.drop f).take j)
  have hlen : ((bs.drop f).take j).length = j := by rw [List.length_take, List.length_drop]; omega
  rw [hlen, pow256] at hl
  have hs := num_take_succ (bs.drop f) j (by rw [List.length_drop]; omega)
  have hd : (bs.drop f).getD j 0 = z := by rw [← hz]; simp [List.getD, List.getElem?_drop]
  rw [hd, pow256] at hs
  obtain ⟨y, rfl⟩ := Int.eq_ofNat_of_zero_le hg.1
  have hy : y < 256 := by omega
  have hb1 : 2 ^ (8 * j) ≤ 2 ^ 56 := pow_le_pow2 (by omega)
  have hb2 : y * 2 ^ (8 * j) ≤ 255 * 2 ^ 56 := Nat.mul_le_mul (by omega) hb1
  have hw : IntKind.u64.wrap ((y : Int) * 2 ^ (8 * j)) = ((y * 2 ^ (8 * j) : Nat) : Int) := by
    rw [IntKind.wrap_u64]
    have e : ((y : Int) * 2 ^ (8 * j)) = ((y * 2 ^ (8 * j) : Nat) : Int) := by push_cast; rfl
    rw [e]
    omega
  rw [hw, hs]
  have := u64_or_nat (num ((bs.drop f).take j)) (y * 2 ^ (8 * j)) (by omega) (by omega)
  rw [this, or_shift _ _ _ hl]
  simp

/-- 'v >> t & (1 << k - 1)', cut to 32 bits. -/
theorem and_mask (x t k : Nat) (hx : x < 18446744073709551616) (hk : k ≤ 32) :
    bits .and .u64 ((x : Int) / 2 ^ t) (IntKind.u64.wrap (2 ^ k - 1)) % 4294967296 = ((x / 2 ^ t % 2 ^ k : Nat) : Int) := by
  have h1 : (1 : Nat) ≤ 2 ^ k := Nat.one_le_two_pow
  have h2 : 2 ^ k ≤ 2 ^ 32 := pow_le_pow2 hk
  have hw : IntKind.u64.wrap ((2 : Int) ^ k - 1) = ((2 ^ k - 1 : Nat) : Int) := by
    rw [IntKind.wrap_u64]
    have e : ((2 : Int) ^ k - 1) = ((2 ^ k - 1 : Nat) : Int) := by rw [Int.natCast_sub h1]; push_cast; rfl
    rw [e]
    omega
  have hd : ((x : Int) / 2 ^ t) = ((x / 2 ^ t : Nat) : Int) := by push_cast; rfl
  have hq : x / 2 ^ t ≤ x := Nat.div_le_self _ _
  rw [hw, hd, u64_and_nat _ _ (by omega) (by omega), Nat.and_two_pow_sub_one_eq_mod]
  have : x / 2 ^ t % 2 ^ k < 2 ^ k := Nat.mod_lt _ (by omega)
  omega
theorem wrap_pow (k : Nat) (hk : k ≤ 32) : IntKind.u64.wrap ((2 : Int) ^ k) = 2 ^ k := by
  have h2 : 2 ^ k ≤ 2 ^ 32 := pow_le_pow2 hk
  rw [IntKind.wrap_u64]
  have e : ((2 : Int) ^ k) = ((2 ^ k : Nat) : Int) := by push_cast; rfl
  rw [e]
  generalize 2 ^ k = y at h2 ⊢
  omega
theorem num_take_lt (bs : List Int) (h : AllB bs) (j : Nat) (hj : j ≤ 8) : num (bs.take j) < 18446744073709551616 := by
  have hl := num_lt _ (h.take j)
  have : (bs.take j).length ≤ j := List.length_take_le _ _
  have h3 : 256 ^ (bs.take j).length ≤ 256 ^ 8 := Nat.pow_le_pow_right (by decide) (by omega)
  omega
end Go.Proofs.YtgbakogihkdddaaGreatDoor

namespace Go.Proofs.YtgbakogihkdddaaGreatDoor
open Go.RowKit
set_option linter.unusedVariables false

theorem info5 : (Tryz.prog.info? 5).map (fun i => (i.zero, i.size, i.bytes)) = some (some (.int .u8 0), 1, 1) := by kernel_rfl

/-- A slice of bytes reads as xs. -/
def Reads (w : World) (ao : Option Addr) (xs : List Int) : Prop :=
  (ao = none → xs = []) ∧ ∀ a, ao = some a → ∀ i, i < xs.length → w.cell? (a.add i) = some (.int .u8 (xs.getD i 0))

theorem Reads.kept {S : Nat → Prop} {w w' : World} {ao : Option Addr} {xs : List Int} (h : Reads w ao xs) (hk : Kept S w w') (hs : ∀ a, ao = some a → ¬ S a.block) : Reads w' ao xs := by
  refine ⟨h.1, fun a ha i hi => ?_⟩
  have hc := h.2 a ha i hi
  have hb := World.block_lt_of_cell? w _ hc
  have e : (a.add i).block = a.block := by unfold Addr.add; split <;> rfl
  exact (World.cell?_of_block (hk.block _ hb (by rw [e]; exact hs a ha))).trans hc

theorem addr_add (g o i : Nat) : (⟨g, o, none⟩ : Addr).add i = ⟨g, o + i, none⟩ := by unfold Addr.add; split <;> simp_all

theorem own_reads {w : World} {ao : Option Addr} {n cap : Nat} {xs : List Int} (h : w.ownsRow 0 5 1 (.slice ao n cap) xs.length (xs.map (.int .u8))) (hn : n = xs.length) : Reads w ao xs := by
  subst hn
  refine ⟨fun e => ?_, fun a e i hi => ?_⟩
  · subst e
    rcases h.2 with ⟨_, hz⟩ | ⟨g, c, cur, hv, _⟩
    · exact List.eq_nil_of_length_eq_zero hz
    · simp at hv
  · subst e
    obtain ⟨g, rfl⟩ : ∃ g, a = ⟨g, 0, none⟩ := by
      rcases h.2 with ⟨hv, _⟩ | ⟨g, c, cur, hv, _⟩
      · simp at hv
      · simp at hv; exact ⟨g, hv.1⟩
    rw [addr_add, Nat.zero_add, h.cellAt i (by omega)]
    simp [List.getD, hi]

/-- What a copy is: a row of the call's own, nil as before. -/
def Copied (w : World) (ao : Option Addr) (xs : List Int) (e : Ending) (w' : World) : Prop :=
  ∃ ao' cap', e = .returned (.slice ao' xs.length cap') ∧ w'.ownsRow 0 5 1 (.slice ao' xs.length cap') xs.length (xs.map (.int .u8)) ∧
    (∀ k, (Value.slice ao' xs.length cap').ownBlock = some k → w.heap.size ≤ k) ∧ (ao' = none ↔ ao = none) ∧ Kept NoB w w'

theorem own_shape {w : World} {base e : Nat} {v : Value} {n : Nat} {xs : List Value} (h : w.ownsRow base e 1 v n xs) : ∃ ao cap, v = .slice ao n cap := by
  rcases h.2 with ⟨rfl, rfl⟩ | ⟨g, cap, cur, rfl, _⟩
  · exact ⟨none, 0, rfl⟩
  · exact ⟨_, cap, rfl⟩

set_option maxHeartbeats 1000000 in
theorem clone_any (ao : Option Addr) (cap : Nat) (xs : List Int) (w : World) (hr : Reads w ao xs) (hl : xs.length ≤ 140737488355328) :
    Calls Tryz.prog 51 #[.slice ao xs.length cap] w (Copied w ao xs) := by
  obtain ⟨i0, hi, hz0, hz1, hz2⟩ := info_parts info5
  have q22 : ∀ (w : World) (a : Option Addr) (n c n' c' : Nat), (binOp .eql 22 (.slice a n c) (.slice none n' c')).run Tryz.prog w = .ok (.bool a.isNone) w := fun w a n c n' c' => Lib.run_eql_slice_nil w _ _ a n c n' c' Tryz.underlying22
  cases ao with
  | none =>
    go_enter Tryz.func51, Tryz.ntmps51
    go_wp2
    go_ret
    have : xs = [] := hr.1 rfl
    subst this
    exact ⟨none, 0, rfl, World.ownsRow_nil _ _ _ _, by simp [Value.ownBlock], by simp, Kept.refl _ _⟩
  | some a =>
    have HA := Lib.hid (hr.2 a rfl); clear hr
    obtain ⟨n, hn⟩ : ∃ n, n = xs.length := ⟨_, rfl⟩
    have HN := Lib.hid hn
    rw [← hn] at hl ⊢
    clear hn
    go_enter Tryz.func51, Tryz.ntmps51
    go_wp2_with (at_builtin; refine wpList_append_own _ rfl _ _ 22 rfl w.heap.size 5 i0 (.int .u8 0) 1 1 Tryz.underlying22 hi hz0 hz1 hz2 rfl (by decide) _ _ _ rfl (World.ownsRow_made w #[] 0 (Nat.le_refl _) (Nat.zero_le _) rfl) a n cap (xs.map (Value.int .u8)) rfl ?qc1 ?qc2 ?qc3 ?qc4 ?qc5 ?qc6 ?_)
    case qc1 => simp [HN.out]
    case qc2 =>
      intro j u hj
      have hjn : j < xs.length := by
        have := (List.getElem?_eq_some_iff.1 hj).1
        simpa using this
      refine Lib.cell?_alloc_some _ ?_
      rw [HA.out j hjn]
      have e : (xs.map (Value.int .u8))[j]? = some (Value.int .u8 (xs.getD j 0)) := by simp [List.getD, List.getElem?_eq_getElem hjn]
      rw [e] at hj
      exact hj
    case qc3 => intro u hu; obtain ⟨x, _, rfl⟩ := List.mem_map.1 hu; rfl
    case qc4 => unfold maxLen; omega
    case qc5 => omega
    case qc6 => simp
    intro v' w1 hown hgrow hnil
    go_wp2
    go_ret
    obtain ⟨ao', cap', rfl⟩ := own_shape hown
    have hb := hown.lt
    rw [HN.out] at hown hb hnil ⊢
    refine ⟨ao', cap', rfl, ⟨hown.1, ?_⟩, fun k hk => (hb k hk).1, ?_, ?_⟩
    · rcases hown.2 with h | ⟨g, c, cur, e1, _, e2⟩
      · exact .inl h
      · exact .inr ⟨g, c, cur, e1, Nat.zero_le _, e2⟩
    · constructor
      · intro e
        subst e
        rcases hown.2 with ⟨h1, h2⟩ | ⟨g, c, cur, h1, _⟩
        · exact absurd h1 hnil
        · simp at h1
      · intro e; cases e
    · exact ((Kept.refl NoB w).alloc _).grown hgrow (by intro k hk e; simp [Value.ownBlock] at e; omega)
end Go.Proofs.YtgbakogihkdddaaGreatDoor

namespace Go.Proofs.YtgbakogihkdddaaGreatDoor
open Go.RowKit Go.ChangeShapes Go.WideShapes Go.Deep
set_option linter.unusedVariables false
set_option maxRecDepth 20000

def Rd (w : World) (t : TypeId) (cs : List Value) : Prop :=
  ∃ (H : Type) (enc : TypeId × Value → H) (base : Nat) (spare : Nat → Bool) (held : Bool) (fuel : Nat) (x : DataW H × List MemPlace), DataW.trod enc Tryz.prog w base spare held fuel t cs = some x
/-- An argument: its value is of its type, and reads. -/
def Arg (w : World) (t : TypeId) (v : Value) : Prop := (∃ base, Value.okWide Tryz.prog w .any base t v) ∧ Rd w t v.cells.toList

theorem Rd.int {w : World} {t : TypeId} {cs : List Value} {k : IntKind} (ht : Tryz.prog.underlying t = some (.int k)) (h : Rd w t cs) : ∃ n, cs = [.int k n] ∧ (Lit.int k n).wf = true := by
  obtain ⟨H, enc, base, spare, held, fuel, x, hx⟩ := h
  obtain ⟨n, h1, _, h2⟩ := DataW.trod_int ht hx
  exact ⟨n, h1, h2⟩
theorem Rd.string {w : World} {t : TypeId} {cs : List Value} (ht : Tryz.prog.underlying t = some .string) (h : Rd w t cs) : ∃ s : ByteArray, cs = [.string s] ∧ s.size ≤ maxLen := by
  obtain ⟨H, enc, base, spare, held, fuel, x, hx⟩ := h
  obtain ⟨s, h1, _, h2⟩ := DataW.trod_string ht hx
  exact ⟨s, h1, h2⟩
/-- A slice: nil, or each element's cells are there and read. -/
theorem Rd.slice {w : World} {t e : TypeId} {cs : List Value} (ht : Tryz.prog.underlying t = some (.slice e)) (h : Rd w t cs) :
    ∃ (ao : Option Addr) (len cap : Nat), cs = [.slice ao len cap] ∧ len ≤ cap ∧ cap ≤ maxLen ∧ (ao = none → len = 0 ∧ cap = 0) ∧
      ∀ a, ao = some a → ∀ i, i < len → ∃ cs', Rd w e cs' ∧ cs'.length = Tryz.prog.cellsOf e ∧ ∀ j, j < cs'.length → w.cell? (a.add (i * Tryz.prog.cellsOf e + j)) = cs'[j]? := by
  obtain ⟨H, enc, base, spare, held, fuel, x, hx⟩ := h
  rcases open_slice ht hx with ⟨h0, _⟩ | ⟨a, len, cap, m, n, D, Pl, hcs, hb, hl, hm, hmm, hx2, hi⟩
  · exact ⟨none, 0, 0, h0, Nat.le_refl _, Nat.zero_le _, (fun _ => ⟨rfl, rfl⟩), (fun a ha => by cases ha)⟩
  · refine ⟨some a, len, cap, hcs, hl, hm, (fun h => by cases h), ?_⟩
    intro a' ha i hil
    cases ha
    obtain ⟨cs', h1, h2⟩ := hi i (by rw [hmm]; split <;> omega)
    obtain ⟨_, hlen, hat⟩ := World.cells?_some h1
    refine ⟨cs', ⟨H, enc, base, spare, held, n, _, h2⟩, hlen, fun j hj => ?_⟩
    rw [← Go.Deep.add_add]
    exact hat j (by omega)
/-- A struct: each field's cells read. -/
theorem Rd.struct {w : World} {t : TypeId} {cs : List Value} {fs : Array Field} (ht : Tryz.prog.underlying t = some (.struct fs)) (h : Rd w t cs) :
    cs.length = Tryz.prog.cellsOf t ∧ ∀ (i : Nat) (f : Field), fs[i]? = some f → Rd w f.type ((cs.drop f.offset).take (Tryz.prog.cellsOf f.type)) := by
  obtain ⟨H, enc, base, spare, held, fuel, x, hx⟩ := h
  obtain ⟨ys, n, _, _, hlen, hyl, hf⟩ := DataW.trod_struct ht hx
  refine ⟨hlen, fun i f hi => ?_⟩
  have hil : i < fs.size := (Array.getElem?_eq_some_iff.1 hi).1
  have hy : ys[i]? = some (ys[i]'(by omega)) := List.getElem?_eq_getElem (by omega)
  exact ⟨H, enc, base, spare, held, n, _, (hf i f hi).trans hy⟩
theorem Arg.mk' {H : Type} {enc : TypeId × Value → H} {w : World} {b0 base : Nat} {spare : Nat → Bool} {held : Bool} {t : TypeId} {v : Value} {d : DataW H} {p : List MemPlace} (hv : Value.okWide Tryz.prog w .any b0 t v)
    (hd : DataW.Trod enc Tryz.prog w base spare held t v d p) : Arg w t v := by
  obtain ⟨fuel, h⟩ := hd
  exact ⟨⟨b0, hv⟩, H, enc, base, spare, held, fuel, _, h⟩
theorem Arg.int {w : World} {t : TypeId} {v : Value} {k : IntKind} (ht : Tryz.prog.underlying t = some (.int k)) (h : Arg w t v) : ∃ n, v = .int k n ∧ (Lit.int k n).wf = true := by
  obtain ⟨⟨base, hv⟩, hr⟩ := h
  obtain ⟨n, rfl⟩ := okWide_int ht hv
  obtain ⟨m, h1, h2⟩ := hr.int ht
  simp [Value.cells] at h1
  subst h1
  exact ⟨_, rfl, h2⟩
theorem Arg.slice {w : World} {t e : TypeId} {v : Value} (ht : Tryz.prog.underlying t = some (.slice e)) (h : Arg w t v) :
    ∃ (ao : Option Addr) (len cap : Nat), v = .slice ao len cap ∧ len ≤ cap ∧ cap ≤ maxLen ∧ (ao = none → len = 0 ∧ cap = 0) ∧
      ∀ a, ao = some a → ∀ i, i < len → ∃ cs', Rd w e cs' ∧ cs'.length = Tryz.prog.cellsOf e ∧ ∀ j, j < cs'.length → w.cell? (a.add (i * Tryz.prog.cellsOf e + j)) = cs'[j]? := by
  obtain ⟨⟨base, hv⟩, hr⟩ := h
  obtain ⟨a, l, c, rfl⟩ := okWide_slice ht hv
  obtain ⟨ao, len, cap, h1, rest⟩ := hr.slice ht
  simp [Value.cells] at h1
  obtain ⟨rfl, rfl, rfl⟩ := h1
  exact ⟨_, _, _, rfl, rest⟩
theorem Arg.string {w : World} {t : TypeId} {v : Value} (ht : Tryz.prog.underlying t = some .string) (h : Arg w t v) : ∃ s : ByteArray, v = .string s ∧ s.size ≤ maxLen := by
  obtain ⟨⟨base, hv⟩, hr⟩ := h
  obtain ⟨s, rfl⟩ := okWide_string ht hv
  obtain ⟨s', h1, h2⟩ := hr.string ht
  simp [Value.cells] at h1
  subst h1
  exact ⟨_, rfl, h2⟩

theorem cells_u8 : Tryz.prog.cellsOf 5 = 1 := by kernel_rfl
/-- A slice of bytes that came in: as a list of numbers. -/
theorem Rd.bytes {w : World} {t : TypeId} {cs : List Value} (ht : Tryz.prog.underlying t = some (.slice 5)) (h : Rd w t cs) :
    ∃ (ao : Option Addr) (cap : Nat) (bs : List Int), cs = [.slice ao bs.length cap] ∧ bs.length ≤ cap ∧ cap ≤ maxLen ∧ Reads w ao bs ∧ AllB bs ∧ (ao = none → cap = 0) := by
  obtain ⟨H, enc, base, spare, held, fuel, x, hx⟩ := h
  rcases open_ints ht Tryz.underlying5 cells_u8 hx with ⟨hcs, _⟩ | ⟨a, l, c, zs, hcs, _, hl, hm, hz, _, hcell, hwz⟩
  · exact ⟨none, 0, [], hcs, Nat.le_refl _, Nat.zero_le _, ⟨(fun _ => rfl), (fun a ha => by cases ha)⟩, (by intro b hb; cases hb), (fun _ => rfl)⟩
  · have hzl : l ≤ zs.length := by
      have := hz
      split at this <;> omega
    have hlen : (zs.take l).length = l := by rw [List.length_take]; omega
    refine ⟨some a, c, zs.take l, by rw [hlen]; exact hcs, by rw [hlen]; exact hl, hm, ⟨(fun h => by cases h), ?_⟩, ?_, (fun h => by cases h)⟩
    · intro a' ha i hi
      cases ha
      rw [hlen] at hi
      rw [hcell i (by omega)]
      simp [List.getD, hi]
    · intro b hb
      have := hwz b (List.mem_of_mem_take hb)
      simp [Lit.wf, IntKind.min, IntKind.max, IntKind.signed, IntKind.bits] at this
      omega
theorem Arg.bytes {w : World} {t : TypeId} {v : Value} (ht : Tryz.prog.underlying t = some (.slice 5)) (h : Arg w t v) :
    ∃ (ao : Option Addr) (cap : Nat) (bs : List Int), v = .slice ao bs.length cap ∧ bs.length ≤ cap ∧ cap ≤ maxLen ∧ Reads w ao bs ∧ AllB bs ∧ (ao = none → cap = 0) := by
  obtain ⟨⟨base, hv⟩, hr⟩ := h
  obtain ⟨a, l, c, rfl⟩ := okWide_slice ht hv
  obtain ⟨ao, cap, bs, h1, rest⟩ := hr.bytes ht
  simp [Value.cells] at h1
  obtain ⟨rfl, rfl, rfl⟩ := h1
  exact ⟨_, _, _, rfl, rest⟩
theorem i64_bd {n : Int} (h : (Lit.int .i64 n).wf = true) : -9223372036854775808 ≤ n ∧ n ≤ 9223372036854775807 := by
  simpa [Lit.wf, IntKind.min, IntKind.max, IntKind.signed, IntKind.bits] using h
theorem u32_bd {n : Int} (h : (Lit.int .u32 n).wf = true) : 0 ≤ n ∧ n ≤ 4294967295 := by
  simpa [Lit.wf, IntKind.min, IntKind.max, IntKind.signed, IntKind.bits] using h
theorem u8_bd {n : Int} (h : (Lit.int .u8 n).wf = true) : 0 ≤ n ∧ n ≤ 255 := by
  simpa [Lit.wf, IntKind.min, IntKind.max, IntKind.signed, IntKind.bits] using h
end Go.Proofs.YtgbakogihkdddaaGreatDoor
