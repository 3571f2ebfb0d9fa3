/-
  A tree of files on paper: what each call makes of it, and what it answers.
  A tree of files on paper: what always holds of it; its calls.
  A tree of files on paper: making a node keeps what always holds.
  A tree of files on paper: a second name, and one taken away, keep what always holds.
  A tree of files on paper: one node that turns, and a name that is moved, keep what always holds.
  A tree of files on paper: a name that is moved keeps what always holds.
  A tree of files in memory: its nodes, their names, what was written of them; the blocks of each bear a mark of their own.
  A tree of files in memory: what lies where; what reads it.
  sort.Search: the first place at which a predicate that stays true is true.
-/
import Derived.Test.YtjjgadanobeamaaGreatDoorMs1
import Derived.OwnWalk
import Derived.Deep.MidRow
import Derived.Laws.Rows
import Derived.Laws.Tables
namespace Go.Proofs.YtjjgadanobeamaaGreatDoor
set_option linter.unusedVariables false
set_option linter.unusedSimpArgs false

abbrev Nms := List (List UInt8 × Int)
structure NdP where
  v : NodeV
  names : Nms
  par : Int
  data : List Fp
structure FsP where
  nd : Int → Option NdP
  cnt : Nat
  next : Int
  quota : Int
  used : Int
  clock : Int

def getK (l : Nms) (k : List UInt8) : Option Int := (l.find? (fun p => p.1 == k)).map (·.2)
def putK (l : Nms) (k : List UInt8) (i : Int) : Nms := l.takeWhile (fun p => decide (p.1 < k)) ++ (k, i) :: l.dropWhile (fun p => decide (p.1 < k))
def OkK (l : Nms) : Prop := l.Pairwise (fun p q => p.1 < q.1)
def updN (f : Int → Option NdP) (i : Int) (o : Option NdP) : Int → Option NdP := fun j => if j = i then o else f j
theorem updN_same (f : Int → Option NdP) (i : Int) (o : Option NdP) : updN f i o i = o := by simp [updN]
theorem updN_other (f : Int → Option NdP) {i j : Int} (o : Option NdP) (h : j ≠ i) : updN f i o j = f j := by simp [updN, h]

theorem lt_irr (a : List UInt8) : ¬ a < a := List.lt_irrefl a
theorem lt_tr {a b c : List UInt8} (h : a < b) (k : b < c) : a < c := List.lt_trans h k
theorem lt_tri (a b : List UInt8) (h : ¬ a < b) (hn : a ≠ b) : b < a := by
  by_cases hb : b < a
  · exact hb
  · exact absurd (List.le_antisymm (List.not_lt.1 hb) (List.not_lt.1 h)) hn

theorem getK_mem {l : Nms} {k : List UInt8} {i : Int} (h : getK l k = some i) : (k, i) ∈ l := by
  unfold getK at h
  cases hf : l.find? (fun p => p.1 == k) with
  | none => rw [hf] at h; cases h
  | some p =>
    rw [hf] at h
    have h1 := List.mem_of_find?_eq_some hf
    have h2 := List.find?_some hf
    simp at h h2
    rw [← h2, ← h]; exact h1
theorem OkK.inj {l : Nms} (h : OkK l) {k : List UInt8} {i j : Int} (hi : (k, i) ∈ l) (hj : (k, j) ∈ l) : i = j := by
  induction l with
  | nil => cases hi
  | cons p t ih =>
    obtain ⟨h1, h2⟩ := List.pairwise_cons.1 h
    rcases List.mem_cons.1 hi with e1 | m1 <;> rcases List.mem_cons.1 hj with e2 | m2
    · rw [← e2] at e1; exact congrArg Prod.snd e1
    · have := h1 _ m2; rw [← e1] at this; exact absurd this (lt_irr _)
    · have := h1 _ m1; rw [← e2] at this; exact absurd this (lt_irr _)
    · exact ih h2 m1 m2
theorem getK_iff {l : Nms} (h : OkK l) {k : List UInt8} {i : Int} : getK l k = some i ↔ (k, i) ∈ l := by
  constructor
  · exact getK_mem
  · intro hm
    cases hg : getK l k with
    | some j => rw [h.inj hm (getK_mem hg)]
    | none =>
      unfold getK at hg
      rw [Option.map_eq_none_iff, List.find?_eq_none] at hg
      exact absurd (beq_self_eq_true _) (hg _ hm)
theorem getK_none {l : Nms} {k : List UInt8} : getK l k = none ↔ ∀ p ∈ l, p.1 ≠ k := by
  unfold getK
  rw [Option.map_eq_none_iff, List.find?_eq_none]
  simp
theorem putK_mem {l : Nms} {k : List UInt8} {i : Int} {p : List UInt8 × Int} : p ∈ putK l k i ↔ p = (k, i) ∨ p ∈ l := by
  unfold putK
  conv => rhs; rw [← List.takeWhile_append_dropWhile (p := fun p => decide (p.1 < k)) (l := l)]
  simp only [List.mem_append, List.mem_cons]
  constructor
  · rintro (h | h | h)
    · exact .inr (.inl h)
    · exact .inl h
    · exact .inr (.inr h)
  · rintro (h | h | h)
    · exact .inr (.inl h)
    · exact .inl h
    · exact .inr (.inr h)
theorem putK_ok {l : Nms} (h : OkK l) (k : List UInt8) (i : Int) (hn : getK l k = none) : OkK (putK l k i) := by
  have hne := getK_none.1 hn
  unfold putK OkK
  have e : l = l.takeWhile (fun p => decide (p.1 < k)) ++ l.dropWhile (fun p => decide (p.1 < k)) := (List.takeWhile_append_dropWhile).symm
  have h1 : ∀ p ∈ l.takeWhile (fun p => decide (p.1 < k)), p.1 < k := fun p hp => by simpa using mem_tw hp
  cases hd : l.dropWhile (fun p => decide (p.1 < k)) with
  | nil =>
    rw [List.pairwise_append]
    refine ⟨h.sublist (List.takeWhile_sublist _), List.pairwise_singleton _ _, ?_⟩
    intro p hp q hq
    simp at hq; subst hq
    exact h1 p hp
  | cons f t =>
    have hf := drop_first hd
    simp at hf
    have hfl : f ∈ l := (List.dropWhile_sublist _).subset (by rw [hd]; exact List.mem_cons_self)
    have hkf : k < f.1 := lt_tri _ _ (by simpa using hf) (hne f hfl)
    have hall := h
    unfold OkK at hall
    rw [e, hd, List.pairwise_append, List.pairwise_cons] at hall
    obtain ⟨a1, ⟨a2, a3⟩, a4⟩ := hall
    rw [List.pairwise_append, List.pairwise_cons, List.pairwise_cons]
    refine ⟨a1, ⟨?_, a2, a3⟩, ?_⟩
    · intro q hq
      rcases List.mem_cons.1 hq with rfl | hq
      · exact hkf
      · exact lt_tr hkf (a2 q hq)
    · intro p hp q hq
      rcases List.mem_cons.1 hq with rfl | hq
      · exact h1 p hp
      · exact a4 p hp q hq
theorem getK_put {l : Nms} (h : OkK l) (k : List UInt8) (i : Int) (hn : getK l k = none) (k' : List UInt8) : getK (putK l k i) k' = if k' = k then some i else getK l k' := by
  have hp := putK_ok h k i hn
  by_cases hk : k' = k
  · subst hk
    rw [if_pos rfl, getK_iff hp, putK_mem]; exact .inl rfl
  · rw [if_neg hk]
    cases hg : getK l k' with
    | some j => rw [getK_iff hp, putK_mem]; exact .inr (getK_mem hg)
    | none =>
      rw [getK_none] at hg ⊢
      intro p hp'
      rcases putK_mem.1 hp' with rfl | hp'
      · exact fun e => hk e.symm
      · exact hg p hp'
theorem putK_len (l : Nms) (k : List UInt8) (i : Int) : (putK l k i).length = l.length + 1 := by
  unfold putK
  have := congrArg List.length (List.takeWhile_append_dropWhile (p := fun p : List UInt8 × Int => decide (p.1 < k)) (l := l))
  simp only [List.length_append, List.length_cons] at *
  omega
end Go.Proofs.YtjjgadanobeamaaGreatDoor

namespace Go.Proofs.YtjjgadanobeamaaGreatDoor
set_option linter.unusedVariables false
set_option linter.unusedSimpArgs false

def sumN (nd : Int → Option NdP) (g : Option NdP → Nat) (n : Nat) : Nat := ((List.range n).map (fun j : Nat => g (nd (j : Int)))).sum
theorem sumN_succ (nd : Int → Option NdP) (g : Option NdP → Nat) (n : Nat) : sumN nd g (n + 1) = sumN nd g n + g (nd (n : Int)) := by
  simp [sumN, List.range_succ]
theorem sumN_congr {nd nd' : Int → Option NdP} {g g' : Option NdP → Nat} {n : Nat} (h : ∀ j : Nat, j < n → g (nd (j : Int)) = g' (nd' (j : Int))) : sumN nd g n = sumN nd' g' n := by
  induction n with
  | zero => rfl
  | succ n ih => rw [sumN_succ, sumN_succ, ih (fun j hj => h j (by omega)), h n (by omega)]
theorem sumN_upd (nd : Int → Option NdP) (g : Option NdP → Nat) (o : Option NdP) (i : Int) : ∀ n : Nat, 0 ≤ i → i < n → sumN (updN nd i o) g n + g (nd i) = sumN nd g n + g o
  | 0, h0, h => by omega
  | n + 1, h0, h => by
    rw [sumN_succ, sumN_succ]
    by_cases e : i = (n : Int)
    · subst e
      rw [updN_same]
      have : sumN (updN nd (n : Int) o) g n = sumN nd g n := sumN_congr (fun j hj => by rw [updN_other _ _ (by omega)])
      omega
    · have := sumN_upd nd g o i n h0 (by omega)
      rw [updN_other _ _ (fun e' => e e'.symm)]
      omega
def gOne : Option NdP → Nat := fun o => if o.isSome then 1 else 0
def gSize : Option NdP → Nat := fun o => match o with | some n => sizeD n.data | none => 0
def gLink (i : Int) : Option NdP → Nat := fun o => match o with | some n => n.names.countP (fun p => p.2 == i) | none => 0

structure OkNd (T : FsP) (i : Int) (n : NdP) : Prop where
  low : 1 ≤ i
  high : i ≤ T.next
  sorted : OkK n.names
  names : ∀ p ∈ n.names, okN (strB p.1) = true ∧ p.2 ≠ 1 ∧ ∃ m, T.nd p.2 = some m ∧ (m.v.kind = 6 → m.par = i)
  file : n.v.kind ≠ 6 → n.names = []
  data : OkD n.data
  plain : n.v.kind ≠ 1 → n.data = []
  inside : ∀ p ∈ n.data, endP p ≤ n.v.size
  size : 0 ≤ n.v.size ∧ n.v.size ≤ 1099511627776
  par : n.v.kind = 6 → i ≠ 1 → ∃ d, T.nd n.par = some d ∧ d.v.kind = 6 ∧ ∃ k, (k, i) ∈ d.names
  links : n.v.links = (sumN T.nd (gLink i) (T.next + 1).toNat : Nat) + (if i = 1 then 1 else 0)
  most : n.v.links ≤ T.clock + 1
  change : 0 ≤ n.v.change ∧ n.v.change ≤ T.clock
  mode : 0 ≤ n.v.mode ∧ n.v.mode ≤ 4095
  user : 0 ≤ n.v.user ∧ n.v.user ≤ 2147483647
  group : 0 ≤ n.v.group ∧ n.v.group ≤ 2147483647
  time : -9223372036854775808 ≤ n.v.time ∧ n.v.time ≤ 9223372036854775807
  kind : n.v.kind = 1 ∨ n.v.kind = 3 ∨ n.v.kind = 4 ∨ n.v.kind = 5 ∨ n.v.kind = 6 ∨ n.v.kind = 7
  dev : 0 ≤ n.v.major ∧ n.v.major ≤ 1048575 ∧ 0 ≤ n.v.minor ∧ n.v.minor ≤ 1048575
  tgt : n.v.tgt.size ≤ 1024
  one : n.v.kind = 6 → n.v.links = 1
  few : (n.names.length : Int) ≤ T.clock
structure OkT (T : FsP) : Prop where
  root : ∃ d, T.nd 1 = some d ∧ d.v.kind = 6 ∧ d.par = 1
  node : ∀ i n, T.nd i = some n → OkNd T i n
  next : 1 ≤ T.next ∧ T.next ≤ T.clock + 1
  clock : 0 ≤ T.clock
  quota : 0 ≤ T.quota ∧ T.quota ≤ 9223372036854775807
  used : T.used = (sumN T.nd gSize (T.next + 1).toNat : Nat)
  room : T.used ≤ T.quota
  cnt : T.cnt = sumN T.nd gOne (T.next + 1).toNat
  most : T.cnt ≤ 1000
  rank : ∃ r : Int → Nat, ∀ i n, T.nd i = some n → n.v.kind = 6 → i ≠ 1 → r n.par < r i

def placeE (T : FsP) (dir : Int) (part : List UInt8) : Int :=
  match T.nd dir with
  | none => 10
  | some d => if d.v.kind = 6 then (if okN (strB part) = true then 0 else 9) else 12
def namesP (T : FsP) (dir : Int) : Nms := match T.nd dir with | some d => d.names | none => []
def askK : Option Int → Int × Int
  | some i => (i, 0)
  | none => (0, 10)
def findP (T : FsP) (dir : Int) (part : List UInt8) : Int × Int :=
  if placeE T dir part = 0 then askK (getK (namesP T dir) part) else (0, placeE T dir part)
def touch (c : Int) (n : NdP) : NdP := { n with v := { n.v with time := c, change := c } }
def freshN (n : NodeV) (c dir : Int) : NdP := { v := { n with links := 1, change := c }, names := [], par := if n.kind = 6 then dir else 0, data := [] }
def makeT (T : FsP) (dir : Int) (d : NdP) (part : List UInt8) (n : NodeV) : FsP :=
  { T with clock := T.clock + 1, next := T.next + 1, cnt := T.cnt + 1, nd := updN (updN T.nd dir (some { touch (T.clock + 1) d with names := putK d.names part (T.next + 1) })) (T.next + 1) (some (freshN n (T.clock + 1) dir)) }
def makeP (T : FsP) (dir : Int) (part : List UInt8) (n : NodeV) : FsP × Int × Int :=
  match T.nd dir with
  | none => (T, 0, 10)
  | some d =>
    if d.v.kind = 6 then
      if okN (strB part) = true then
        if mayB n = true then
          if (getK d.names part).isSome then (T, 0, 11) else if 1000 ≤ T.cnt then (T, 0, 14) else (makeT T dir d part n, T.next + 1, 0)
        else (T, 0, 1)
      else (T, 0, 9)
    else (T, 0, 12)
end Go.Proofs.YtjjgadanobeamaaGreatDoor

namespace Go.Proofs.YtjjgadanobeamaaGreatDoor
set_option linter.unusedVariables false
set_option linter.unusedSimpArgs false

theorem sumN_all0 {nd : Int → Option NdP} {g : Option NdP → Nat} {n : Nat} (h : ∀ j : Nat, j < n → g (nd (j : Int)) = 0) : sumN nd g n = 0 := by
  induction n with
  | zero => rfl
  | succ n ih => rw [sumN_succ, ih (fun j hj => h j (by omega)), h n (by omega)]
theorem putK_count (l : Nms) (k : List UInt8) (i : Int) (q : List UInt8 × Int → Bool) : (putK l k i).countP q = l.countP q + (if q (k, i) then 1 else 0) := by
  unfold putK
  conv => rhs; rw [← List.takeWhile_append_dropWhile (p := fun p : List UInt8 × Int => decide (p.1 < k)) (l := l)]
  rw [List.countP_append, List.countP_append, List.countP_cons]
  omega
theorem gLink_some (i : Int) (n : NdP) : gLink i (some n) = n.names.countP (fun p => p.2 == i) := rfl
theorem gLink_zero {T : FsP} (h : OkT T) (i : Int) (hi : T.nd i = none) (N : Nat) : sumN T.nd (gLink i) N = 0 := by
  refine sumN_all0 (fun j hj => ?_)
  cases hn : T.nd (j : Int) with
  | none => rfl
  | some n =>
    rw [gLink_some, List.countP_eq_zero]
    intro p hp
    obtain ⟨m, hm, _⟩ := ((h.node _ n hn).names p hp).2.2
    simp
    intro e
    rw [e, hi] at hm
    cases hm

theorem OkNd.step {T T' : FsP} {j : Int} {m : NdP} (h : OkNd T j m) (hnext : T.next ≤ T'.next) (hclock : T.clock ≤ T'.clock)
    (hex : ∀ p ∈ m.names, ∀ a, T.nd p.2 = some a → ∃ a', T'.nd p.2 = some a' ∧ a'.v.kind = a.v.kind ∧ (a.v.kind = 6 → a'.par = a.par))
    (hpar : ∀ d, T.nd m.par = some d → d.v.kind = 6 → (∃ k, (k, j) ∈ d.names) → ∃ d', T'.nd m.par = some d' ∧ d'.v.kind = 6 ∧ ∃ k, (k, j) ∈ d'.names)
    (hlinks : sumN T'.nd (gLink j) (T'.next + 1).toNat = sumN T.nd (gLink j) (T.next + 1).toNat) : OkNd T' j m where
  low := h.low
  high := by have := h.high; omega
  sorted := h.sorted
  names := fun p hp => by
    obtain ⟨h1, h2, a, h3, h4⟩ := h.names p hp
    obtain ⟨a', e1, e2, e3⟩ := hex p hp a h3
    exact ⟨h1, h2, a', e1, fun hk => by rw [e2] at hk; rw [e3 hk]; exact h4 hk⟩
  file := h.file
  data := h.data
  plain := h.plain
  inside := h.inside
  size := h.size
  par := fun hk hj => by
    obtain ⟨d, h1, h2, h3⟩ := h.par hk hj
    exact hpar d h1 h2 h3
  links := by rw [hlinks]; exact h.links
  most := by have := h.most; omega
  change := by have := h.change; omega
  mode := h.mode
  user := h.user
  group := h.group
  time := h.time
  kind := h.kind
  dev := h.dev
  tgt := h.tgt
  one := h.one
  few := by have := h.few; omega

theorem makeT_ok {T : FsP} (h : OkT T) {dir : Int} {d : NdP} {part : List UInt8} {n : NodeV} (hd : T.nd dir = some d) (hk : d.v.kind = 6) (hp : okN (strB part) = true) (hm : mayB n = true) (hn : getK d.names part = none) (hc : T.cnt < 1000)
    (ht : -9223372036854775808 ≤ n.time ∧ n.time ≤ 9223372036854775807) (hclk : T.clock + 1 ≤ 9223372036854775807) : OkT (makeT T dir d part n) := by
  have od := h.node dir d hd
  have hN := h.next
  have hC := h.clock
  have hi0 : T.nd (T.next + 1) = none := by
    cases e : T.nd (T.next + 1) with
    | none => rfl
    | some x => have := (h.node _ x e).high; omega
  have hdi : dir ≠ T.next + 1 := by have := od.high; omega
  obtain ⟨c, hcd⟩ : ∃ c, c = T.clock + 1 := ⟨_, rfl⟩
  obtain ⟨i, hid⟩ : ∃ i, i = T.next + 1 := ⟨_, rfl⟩
  obtain ⟨d', hdd⟩ : ∃ d', d' = ({ touch c d with names := putK d.names part i } : NdP) := ⟨_, rfl⟩
  obtain ⟨f, hfd⟩ : ∃ f, f = freshN n c dir := ⟨_, rfl⟩
  have hT : makeT T dir d part n = { T with clock := c, next := i, cnt := T.cnt + 1, nd := updN (updN T.nd dir (some d')) i (some f) } := by
    unfold makeT; rw [hdd, hfd, hid, hcd]
  rw [hT]
  rw [← hid] at hdi hi0
  have d1 : d'.v.kind = 6 := by rw [hdd]; exact hk
  have d2 : d'.par = d.par := by rw [hdd]; rfl
  have d3 : d'.names = putK d.names part i := by rw [hdd]
  have nI : ∀ g : Option NdP → Nat, updN (updN T.nd dir (some d')) i (some f) i = some f := fun _ => updN_same _ _ _
  have nD : updN (updN T.nd dir (some d')) i (some f) dir = some d' := by rw [updN_other _ _ hdi, updN_same]
  have nO : ∀ x, x ≠ i → x ≠ dir → updN (updN T.nd dir (some d')) i (some f) x = T.nd x := fun x h1 h2 => by rw [updN_other _ _ h1, updN_other _ _ h2]
  have hex : ∀ x a, T.nd x = some a → ∃ a', updN (updN T.nd dir (some d')) i (some f) x = some a' ∧ a'.v.kind = a.v.kind ∧ (a.v.kind = 6 → a'.par = a.par) ∧ (∀ p ∈ a.names, p ∈ a'.names) := by
    intro x a hx
    have hxi : x ≠ i := fun e => by rw [e, hi0] at hx; cases hx
    by_cases hxd : x = dir
    · subst hxd
      rw [hd] at hx; cases hx
      exact ⟨d', nD, by rw [d1, hk], fun _ => d2, fun p hp => by rw [d3]; exact putK_mem.2 (.inr hp)⟩
    · exact ⟨a, by rw [nO x hxi hxd]; exact hx, rfl, fun _ => rfl, fun p hp => hp⟩
  have hNat : (i + 1).toNat = (T.next + 1).toNat + 1 := by omega
  have hcast : (((T.next + 1).toNat : Nat) : Int) = i := by omega
  have hsum : ∀ g : Option NdP → Nat, sumN (updN (updN T.nd dir (some d')) i (some f)) g (i + 1).toNat + g (some d) = sumN T.nd g (T.next + 1).toNat + g (some d') + g (some f) := by
    intro g
    rw [hNat, sumN_succ, hcast, updN_same]
    have e1 : sumN (updN (updN T.nd dir (some d')) i (some f)) g (T.next + 1).toNat = sumN (updN T.nd dir (some d')) g (T.next + 1).toNat := sumN_congr (fun j hj => by rw [updN_other _ _ (by omega)])
    have e2 := sumN_upd T.nd g (some d') dir (T.next + 1).toNat (by have := od.low; omega) (by have := od.high; omega)
    rw [hd] at e2
    omega
  have hf0 : f.names = [] := by rw [hfd]; rfl
  have hlink : ∀ x, sumN (updN (updN T.nd dir (some d')) i (some f)) (gLink x) (i + 1).toNat = sumN T.nd (gLink x) (T.next + 1).toNat + (if i = x then 1 else 0) := by
    intro x
    have := hsum (gLink x)
    rw [gLink_some, gLink_some, gLink_some, hf0, d3, putK_count] at this
    simp only [beq_iff_eq, List.countP_nil] at this
    omega
  have hstep : ∀ x a, T.nd x = some a → ∀ T' : FsP, T' = { T with clock := c, next := i, cnt := T.cnt + 1, nd := updN (updN T.nd dir (some d')) i (some f) } → OkNd T' x a := by
    intro x a hx T' hT'
    subst hT'
    have ox := h.node x a hx
    refine ox.step (by simp only; omega) (by simp only; omega) ?_ ?_ ?_
    · intro p _ b hb
      obtain ⟨b', e1, e2, e3, _⟩ := hex p.2 b hb
      exact ⟨b', e1, e2, e3⟩
    · rintro b hb hbk ⟨k, hkm⟩
      obtain ⟨b', e1, e2, e3, e4⟩ := hex _ b hb
      exact ⟨b', e1, by rw [e2]; exact hbk, k, e4 _ hkm⟩
    · rw [hlink, if_neg (by have := ox.high; omega)]; rfl
  have hmb := hm
  unfold mayB at hmb
  simp only [Bool.and_eq_true, decide_eq_true_eq, Bool.or_eq_true, beq_iff_eq] at hmb
  refine ⟨?_, ?_, ?_, ?_, ?_, ?_, ?_, ?_, ?_, ?_⟩
  · obtain ⟨r, hr, hr6, hrp⟩ := h.root
    obtain ⟨a', e1, e2, e3, _⟩ := hex 1 r hr
    exact ⟨a', e1, by rw [e2]; exact hr6, by rw [e3 hr6]; exact hrp⟩
  · intro x a hx
    by_cases hxi : x = i
    · subst hxi
      have hx' : some f = some a := by rw [← hx]; exact (updN_same _ _ _).symm
      cases hx'
      have fk : f.v.kind = n.kind := by rw [hfd]; rfl
      refine ⟨by omega, Int.le_refl _, by rw [hf0]; exact List.Pairwise.nil, (fun p hp => by rw [hf0] at hp; cases hp), fun _ => hf0, ?_, ?_, ?_, ?_, ?_, ?_, ?_, ?_, ?_, ?_, ?_, ?_, ?_, ?_, ?_, ?_, by rw [hf0]; show (0 : Int) ≤ c; omega⟩
      · rw [hfd]; exact OkD.nil
      · intro _; rw [hfd]; rfl
      · intro p hp; rw [hfd] at hp; cases hp
      · rw [hfd]; show 0 ≤ n.size ∧ n.size ≤ _; omega
      · intro hk6 _
        have hpd : f.par = dir := by rw [hfd]; unfold freshN; simp only; rw [if_pos (by rw [← fk]; exact hk6)]
        refine ⟨d', by rw [hpd]; exact nD, d1, part, by rw [d3]; exact putK_mem.2 (.inl rfl)⟩
      · rw [hlink, gLink_zero h _ hi0, if_pos rfl, if_neg (by omega), hfd]; rfl
      · rw [hfd]; show (1 : Int) ≤ c + 1; omega
      · rw [hfd]; show 0 ≤ c ∧ c ≤ c; omega
      · rw [hfd]; show 0 ≤ n.mode ∧ n.mode ≤ _; omega
      · rw [hfd]; show 0 ≤ n.user ∧ n.user ≤ _; omega
      · rw [hfd]; show 0 ≤ n.group ∧ n.group ≤ _; omega
      · rw [hfd]; exact ht
      · rw [fk]; omega
      · rw [hfd]
        show 0 ≤ n.major ∧ n.major ≤ _ ∧ 0 ≤ n.minor ∧ n.minor ≤ _
        have := hmb.1.1.1.1.2
        split at this <;> simp at this <;> omega
      · rw [hfd]
        show n.tgt.size ≤ 1024
        have := hmb.1.1.1.1.1.2
        split at this
        · simp at this; exact this.1.2
        · have e : n.tgt.toList.length = n.tgt.size := by rw [ByteArray.toList_eq]; rfl
          rw [List.isEmpty_iff] at this
          rw [this] at e
          simp at e
          omega
      · intro _; rw [hfd]; rfl
    · by_cases hxd : x = dir
      · subst hxd
        have hx' : some d' = some a := by rw [← hx]; exact nD.symm
        cases hx'
        have o := hstep x d hd _ rfl
        refine ⟨o.low, o.high, ?_, ?_, (fun e => absurd d1 e), ?_, (fun _ => ?_), ?_, ?_, ?_, ?_, ?_, ?_, ?_, ?_, ?_, ?_, ?_, ?_, ?_, ?_, ?_⟩
        · rw [d3]; exact putK_ok od.sorted _ _ hn
        · intro p hpm
          rw [d3] at hpm
          rcases putK_mem.1 hpm with rfl | hpm
          · refine ⟨hp, by omega, f, updN_same _ _ _, ?_⟩
            intro hk6
            rw [hfd] at hk6 ⊢
            unfold freshN at hk6 ⊢
            simp only at hk6 ⊢
            rw [if_pos hk6]
          · exact o.names p hpm
        · rw [hdd]; exact o.data
        · rw [hdd]; exact o.plain (by rw [hk]; omega)
        · rw [hdd]; exact o.inside
        · rw [hdd]; exact o.size
        · intro _ hx1
          rw [d2]
          exact o.par hk hx1
        · have e0 : d'.v.links = d.v.links := by rw [hdd]; rfl
          rw [e0]; exact o.links
        · rw [hdd]; exact o.most
        · rw [hdd]; show 0 ≤ c ∧ c ≤ c; omega
        · rw [hdd]; exact o.mode
        · rw [hdd]; exact o.user
        · rw [hdd]; exact o.group
        · rw [hdd]; show -9223372036854775808 ≤ c ∧ c ≤ _; omega
        · rw [hdd]; exact o.kind
        · rw [hdd]; exact o.dev
        · rw [hdd]; exact o.tgt
        · rw [hdd]; exact o.one
        · rw [d3, putK_len]; have := od.few; show ((d.names.length + 1 : Nat) : Int) ≤ c; omega
      · exact hstep x a (by rw [← hx]; exact (nO x hxi hxd).symm) _ rfl
  · show 1 ≤ i ∧ i ≤ c + 1; omega
  · show 0 ≤ c; omega
  · exact h.quota
  · have := hsum gSize
    have e1 : gSize (some d') = gSize (some d) := by rw [hdd]; rfl
    have e2 : gSize (some f) = 0 := by rw [hfd]; rfl
    have hu := h.used
    show T.used = (sumN (updN (updN T.nd dir (some d')) i (some f)) gSize (i + 1).toNat : Nat)
    omega
  · exact h.room
  · have := hsum gOne
    have hu := h.cnt
    show T.cnt + 1 = sumN (updN (updN T.nd dir (some d')) i (some f)) gOne (i + 1).toNat
    have e1 : gOne (some d') = 1 := rfl
    have e2 : gOne (some f) = 1 := rfl
    have e3 : gOne (some d) = 1 := rfl
    omega
  · show T.cnt + 1 ≤ 1000; omega
  · obtain ⟨r, hr⟩ := h.rank
    refine ⟨fun x => if x = i then r dir + 1 else r x, ?_⟩
    intro x a hx hk6 hx1
    by_cases hxi : x = i
    · subst hxi
      have hx' : some f = some a := by rw [← hx]; exact (updN_same _ _ _).symm
      cases hx'
      have hpd : f.par = dir := by rw [hfd] at hk6 ⊢; unfold freshN at hk6 ⊢; simp only at hk6 ⊢; rw [if_pos hk6]
      simp only [if_true]
      rw [hpd, if_neg hdi]; omega
    · have key : ∃ b, T.nd x = some b ∧ b.v.kind = 6 ∧ b.par = a.par := by
        by_cases hxd : x = dir
        · subst hxd
          have hx' : some d' = some a := by rw [← hx]; exact nD.symm
          cases hx'
          exact ⟨d, hd, hk, d2.symm⟩
        · exact ⟨a, by rw [← hx]; exact (nO x hxi hxd).symm, hk6, rfl⟩
      obtain ⟨b, hb, hb6, hbp⟩ := key
      have := hr x b hb hb6 hx1
      obtain ⟨q, hq, _⟩ := (h.node x b hb).par hb6 hx1
      simp only
      rw [← hbp, if_neg hxi, if_neg (fun e => by rw [e, hi0] at hq; cases hq)]
      exact this
end Go.Proofs.YtjjgadanobeamaaGreatDoor

namespace Go.Proofs.YtjjgadanobeamaaGreatDoor
set_option linter.unusedVariables false
set_option linter.unusedSimpArgs false

end Go.Proofs.YtjjgadanobeamaaGreatDoor

namespace Go.Proofs.YtjjgadanobeamaaGreatDoor
set_option linter.unusedVariables false
set_option linter.unusedSimpArgs false

end Go.Proofs.YtjjgadanobeamaaGreatDoor

namespace Go.Proofs.YtjjgadanobeamaaGreatDoor
set_option linter.unusedVariables false
set_option linter.unusedSimpArgs false

end Go.Proofs.YtjjgadanobeamaaGreatDoor

namespace Go.Proofs.YtjjgadanobeamaaGreatDoor
open Go.RowKit
open Go.Maps (Keyed)
set_option linter.unusedVariables false
set_option linter.unusedSimpArgs false
set_option maxRecDepth 20000

/-! ### maps of nodes, and of names -/
def ptrR : Rdr := fun v => match v with
  | .pointer none => some (.nil, [])
  | .pointer (some a) => if a.off = 0 ∧ a.spot = none then some (.lit (.int .i64 a.block), []) else none
  | _ => none
def ptrV (o : Option Nat) : Value := .pointer (o.map fun b => ⟨b, 0, none⟩)
theorem ptrR_mk (b : Nat) : ptrR (.pointer (some ⟨b, 0, none⟩)) = some (.lit (.int .i64 b), []) := by simp [ptrR]
theorem ptrR_inv {v : Value} {b : Nat} {ps : List MemPlace} (h : ptrR v = some (.lit (.int .i64 b), ps)) : v = .pointer (some ⟨b, 0, none⟩) := by
  unfold ptrR at h
  split at h
  · cases h
  · rename_i a
    split at h
    · rename_i h2
      simp at h
      obtain ⟨x, o, s⟩ := a
      simp at h h2
      obtain ⟨rfl, rfl⟩ := h2
      have : x = b := by omega
      rw [this]
    · cases h
  · cases h
theorem ptrR_nil {v : Value} {ps : List MemPlace} (h : ptrR v = some (.nil, ps)) : v = .pointer none := by
  unfold ptrR at h
  split at h
  · rfl
  · split at h <;> cases h
  · cases h
def ndF (B : Int → Option Nat) : Lit → Option Dt
  | .int .i64 k => (B k).map fun b => .lit (.int .i64 b)
  | _ => none
def nmF (l : Nms) : Lit → Option Dt
  | .string s => (getK l s).map fun i => .lit (.int .i64 i)
  | _ => none
theorem ndF_upd (B : Int → Option Nat) (k : Int) (b : Nat) : updF (ndF B) (.int .i64 k) (.lit (.int .i64 b)) = ndF (fun j => if j = k then some b else B j) := by
  funext l
  unfold updF
  by_cases h : l.sameKey (.int .i64 k) = true
  · have := WideAt.sameKey_eq h
    subst this
    rw [if_pos h]
    simp [ndF]
  · rw [if_neg h]
    cases l with
    | int q n =>
      cases q <;> try rfl
      have : n ≠ k := fun e => h (by rw [e]; exact WideAt.sameKey_self trivial)
      simp [ndF, this]
    | _ => rfl
theorem nmF_put {l : Nms} (h : OkK l) (k : List UInt8) (i : Int) (hn : getK l k = none) : updF (nmF l) (.string k) (.lit (.int .i64 i)) = nmF (putK l k i) := by
  funext x
  unfold updF
  by_cases hx : x.sameKey (.string k) = true
  · have := WideAt.sameKey_eq hx
    subst this
    rw [if_pos hx]
    simp [nmF, getK_put h k i hn]
  · rw [if_neg hx]
    cases x with
    | string s =>
      have : s ≠ k := fun e => hx (by rw [e]; exact WideAt.sameKey_self trivial)
      simp [nmF, getK_put h k i hn, this]
    | _ => rfl
theorem nmF_nil : nmF [] = fun _ => none := by
  funext x
  cases x <;> rfl

theorem law_int : Keyed Tryz.prog 3 := Maps.int_keyed Tryz.underlying3
theorem law_str : Keyed Tryz.prog 9 := Maps.string_keyed Tryz.underlying9
theorem zeroPtr (w : World) : (zeroValue 43).run Tryz.prog w = .ok (.pointer none) w := by kernel_rfl
theorem zeroInt (w : World) : (zeroValue 3).run Tryz.prog w = .ok (.int .i64 0) w := by kernel_rfl
def NodesAt (w : World) (mb : Nat) (B : Int → Option Nat) (c : Nat) : Prop := MapF w Tryz.prog 3 ptrR mb (ndF B) c
def NamesAt (w : World) (mb : Nat) (l : Nms) : Prop := MapF w Tryz.prog 9 (plainElem Tryz.prog 3) mb (nmF l) l.length
theorem i64_wf {k : Int} (h : -9223372036854775808 ≤ k ∧ k ≤ 9223372036854775807) : (Lit.int .i64 k).wf = true := WalkArith.wf_i64 h
theorem nodes_ok {w : World} {mb : Nat} {B : Int → Option Nat} {c : Nat} (h : NodesAt w mb B c) (k : Int) (hk : -9223372036854775808 ≤ k ∧ k ≤ 9223372036854775807) :
    ∀ W, W.heap[mb]? = w.heap[mb]? → (Instr.lookup 49 (.map (some mb)) (.int .i64 k) true).run Tryz.prog W = .ok (.tuple #[ptrV (B k), .bool (B k).isSome]) W := by
  intro W hW
  have hm : NodesAt W mb B c := MapF.heap h hW
  obtain ⟨v, ps, hr, hv⟩ := MapF.look_ok hm law_int Tryz.underlying49 (zeroPtr W) (zd := .nil) (zp := []) rfl (Maps.keyOf_int_mk Tryz.underlying3 (i64_wf hk))
  rw [hr]
  cases hB : B k with
  | some b =>
    simp [ndF, hB] at hv
    rw [ptrR_inv hv]
    simp [ndF, hB, ptrV]
  | none =>
    simp [ndF, hB] at hv
    rw [ptrR_nil hv]
    simp [ndF, hB, ptrV]
theorem names_ok {w : World} {mb : Nat} {l : Nms} (h : NamesAt w mb l) (s : ByteArray) (hs : s.size ≤ maxLen) :
    ∀ W, W.heap[mb]? = w.heap[mb]? → (Instr.lookup 44 (.map (some mb)) (.string s) true).run Tryz.prog W = .ok (.tuple #[.int .i64 ((getK l s.data.toList).getD 0), .bool (getK l s.data.toList).isSome]) W := by
  intro W hW
  have hm : NamesAt W mb l := MapF.heap h hW
  obtain ⟨v, ps, hr, hv⟩ := MapF.look_ok hm law_str Tryz.underlying44 (zeroInt W) (plainElem_int Tryz.underlying3 (by decide)) (WideMaps.keyOf_string_mk Tryz.underlying9 hs)
  rw [hr]
  obtain ⟨a, rfl, ha, _⟩ := plainElem_int_inv Tryz.underlying3 hv
  cases hB : getK l s.data.toList with
  | some b =>
    simp [nmF, hB] at ha
    simp [nmF, hB, ha]
  | none =>
    simp [nmF, hB] at ha
    simp [nmF, hB, ha]
end Go.Proofs.YtjjgadanobeamaaGreatDoor

namespace Go.Proofs.YtjjgadanobeamaaGreatDoor
open Go.RowKit
open Go.Maps (Keyed)
set_option linter.unusedVariables false
set_option linter.unusedSimpArgs false
set_option maxRecDepth 20000

def ndC (n : NdP) (m : Option Nat) (a : Option Addr) (c : Nat) : List Value := nvC n.v ++ [.map m, .int .i64 n.par, .slice a n.data.length c]
abbrev FpQ := Fp × (Option Addr × Nat)
def fcells (qs : List FpQ) : List Value := qs.flatMap fun q => [.int .i64 q.1.1, .slice q.2.1 q.1.2.length q.2.2]
inductive Lab where
  | no
  | fs
  | tab
  | nd (i : Int)
  | nm (i : Int)
  | row (i : Int)
  | byt (i : Int)
structure DatSt (L : Nat → Lab) (i : Int) (w : World) (a : Option Addr) (l c : Nat) (qs : List FpQ) : Prop where
  len : l = qs.length
  own : w.ownsRow 0 69 2 (.slice a l c) l (fcells qs)
  lab : ∀ k, (Value.slice a l c).ownBlock = some k → L k = .row i
  each : ∀ q ∈ qs, w.ownsRow 0 5 1 (.slice q.2.1 q.1.2.length q.2.2) q.1.2.length (bc q.1.2)
  labs : ∀ q ∈ qs, ∀ k, (Value.slice q.2.1 q.1.2.length q.2.2).ownBlock = some k → L k = .byt i
  apart : qs.Pairwise (fun p q => ∀ k, (Value.slice p.2.1 p.1.2.length p.2.2).ownBlock = some k → (Value.slice q.2.1 q.1.2.length q.2.2).ownBlock ≠ some k)
structure NdSt (L : Nat → Lab) (i : Int) (w : World) (b : Nat) (n : NdP) (m : Option Nat) (a : Option Addr) (c : Nat) (qs : List FpQ) : Prop where
  obj : w.heap[b]? = some (.cells (ndC n m a c).toArray 48 (0, 0))
  lab : L b = .nd i
  dir : n.v.kind = 6 → ∃ mb, m = some mb ∧ L mb = .nm i ∧ NamesAt w mb n.names
  plain : n.v.kind ≠ 6 → m = none
  dat : DatSt L i w a n.data.length c qs
  data : qs.map Prod.fst = n.data
def fsC (mb : Nat) (T : FsP) : List Value := [.map (some mb), .int .i64 T.next, .int .i64 T.quota, .int .i64 T.used, .int .i64 T.clock]
structure FsIn (L : Nat → Lab) (B : Int → Option Nat) (mb : Nat) (S : Nat → Prop) (w : World) (f : Nat) (T : FsP) : Prop where
  ok : OkT T
  obj : w.heap[f]? = some (.cells (fsC mb T).toArray 51 (0, 0))
  labf : L f = .fs
  labm : L mb = .tab
  tab : NodesAt w mb B T.cnt
  dom : ∀ i, (B i).isSome = (T.nd i).isSome
  node : ∀ i n b, T.nd i = some n → B i = some b → ∃ m a c qs, NdSt L i w b n m a c qs
  own : ∀ k, (∀ x, L k = x → x ≠ .no) → S k ∧ k < w.heap.size
def FsSt (S : Nat → Prop) (w : World) (f : Nat) (T : FsP) : Prop := ∃ L B mb, FsIn L B mb S w f T

theorem DatSt.kept {L : Nat → Lab} {i : Int} {w w' : World} {a : Option Addr} {l c : Nat} {qs : List FpQ} {K : Nat → Prop} (h : DatSt L i w a l c qs) (hk : Kept K w w') (hr : ∀ k, L k = .row i → ¬ K k) (hb : ∀ k, L k = .byt i → ¬ K k) : DatSt L i w' a l c qs :=
  ⟨h.len, hk.row h.own (fun k e => hr k (h.lab k e)), h.lab, fun q hq => hk.row (h.each q hq) (fun k e => hb k (h.labs q hq k e)), h.labs, h.apart⟩
theorem NdSt.kept {L : Nat → Lab} {i : Int} {w w' : World} {b : Nat} {n : NdP} {m : Option Nat} {a : Option Addr} {c : Nat} {qs : List FpQ} {K : Nat → Prop} (h : NdSt L i w b n m a c qs) (hk : Kept K w w')
    (h1 : ∀ k, L k = .nd i → ¬ K k) (h2 : ∀ k, L k = .nm i → ¬ K k) (h3 : ∀ k, L k = .row i → ¬ K k) (h4 : ∀ k, L k = .byt i → ¬ K k) : NdSt L i w' b n m a c qs where
  obj := hk.obj h.obj (h1 b h.lab)
  lab := h.lab
  dir := fun hd => by
    obtain ⟨mb, e1, e2, e3⟩ := h.dir hd
    exact ⟨mb, e1, e2, MapF.kept e3 hk (h2 mb e2)⟩
  plain := h.plain
  dat := h.dat.kept hk h3 h4
  data := h.data
theorem FsIn.kept {L : Nat → Lab} {B : Int → Option Nat} {mb : Nat} {S : Nat → Prop} {w w' : World} {f : Nat} {T : FsP} {K : Nat → Prop} (h : FsIn L B mb S w f T) (hk : Kept K w w') (hs : ∀ k, S k → ¬ K k) : FsIn L B mb S w' f T := by
  have key : ∀ k x, L k = x → x ≠ .no → ¬ K k := fun k x e hx => hs k (h.own k (fun y ey => by rw [← ey, e]; exact hx)).1
  refine ⟨h.ok, hk.obj h.obj (key f .fs h.labf (by simp)), h.labf, h.labm, MapF.kept h.tab hk (key mb .tab h.labm (by simp)), h.dom, ?_, fun k hk' => ⟨(h.own k hk').1, Nat.lt_of_lt_of_le (h.own k hk').2 hk.size⟩⟩
  intro i n b hn hb
  obtain ⟨m, a, c, qs, hq⟩ := h.node i n b hn hb
  exact ⟨m, a, c, qs, hq.kept hk (fun k e => key k _ e (by simp)) (fun k e => key k _ e (by simp)) (fun k e => key k _ e (by simp)) (fun k e => key k _ e (by simp))⟩
theorem FsSt.kept {S : Nat → Prop} {w w' : World} {f : Nat} {T : FsP} {K : Nat → Prop} (h : FsSt S w f T) (hk : Kept K w w') (hs : ∀ k, S k → ¬ K k) : FsSt S w' f T := by
  obtain ⟨L, B, mb, h⟩ := h
  exact ⟨L, B, mb, h.kept hk hs⟩
theorem FsSt.keptNo {S : Nat → Prop} {w w' : World} {f : Nat} {T : FsP} (h : FsSt S w f T) (hk : Kept NoB w w') : FsSt S w' f T := h.kept hk (fun _ _ e => e)
def Grow (S : Nat → Prop) (w w' : World) : Nat → Prop := fun k => S k ∨ (w.heap.size ≤ k ∧ k < w'.heap.size)

theorem FsIn.cells {L : Nat → Lab} {B : Int → Option Nat} {mb : Nat} {S : Nat → Prop} {w : World} {f : Nat} {T : FsP} (h : FsIn L B mb S w f T) :
    w.cell? ⟨f, 0, none⟩ = some (.map (some mb)) ∧ w.cell? ⟨f, 1, none⟩ = some (.int .i64 T.next) ∧ w.cell? ⟨f, 2, none⟩ = some (.int .i64 T.quota) ∧ w.cell? ⟨f, 3, none⟩ = some (.int .i64 T.used) ∧ w.cell? ⟨f, 4, none⟩ = some (.int .i64 T.clock) := by
  have h0 := h.obj
  exact ⟨by rw [obj_cell h0]; rfl, by rw [obj_cell h0]; rfl, by rw [obj_cell h0]; rfl, by rw [obj_cell h0]; rfl, by rw [obj_cell h0]; rfl⟩
theorem FsIn.keptNo {L : Nat → Lab} {B : Int → Option Nat} {mb : Nat} {S : Nat → Prop} {w w' : World} {f : Nat} {T : FsP} (h : FsIn L B mb S w f T) (hk : Kept NoB w w') : FsIn L B mb S w' f T := h.kept hk (fun _ _ e => e)

/-! ### what only reads -/
end Go.Proofs.YtjjgadanobeamaaGreatDoor

namespace Go.Proofs.YtjjgadanobeamaaGreatDoor
open Go.RowKit
set_option linter.unusedVariables false
set_option linter.unusedSimpArgs false
set_option maxRecDepth 20000

set_option maxHeartbeats 2000000 in
theorem search_after (n : Nat) (cb : Array Value) (p : Nat → Bool) (w : World) (hn : n ≤ 1099511627776) (hmono : ∀ a b, a ≤ b → b < n → p a = true → p b = true)
    (hf : ∀ W i, Kept NoB w W → i < n → Calls Tryz.prog 48 (#[.int .i64 (i : Int)] ++ cb) W fun e w' => e = .returned (.bool (p i)) ∧ Kept NoB W w') :
    Calls Tryz.prog 35 #[.int .i64 (n : Int), .func (.func 48) #[] cb] w fun e w' => ∃ i : Nat, e = .returned (.int .i64 (i : Int)) ∧ i ≤ n ∧ (∀ k, k < i → p k = false) ∧ (∀ k, i ≤ k → k < n → p k = true) ∧ Kept NoB w w' := by
  have HF := Lib.hid hf; have HM := Lib.hid hmono
  clear hf hmono
  go_enter Tryz.func35, Tryz.ntmps35
  go_wp2
  go_loopw [5, 6, 7, 11] (fun v5 v6 _v7 _v11 wr => ∃ i j : Nat, v5 = .int .i64 (i : Int) ∧ v6 = .int .i64 (j : Int) ∧ i ≤ j ∧ j ≤ n ∧ Hid ((∀ k, k < i → p k = false) ∧ (∀ k, j ≤ k → k < n → p k = true) ∧ Kept NoB w wr)) (fun v5 v6 _ _ _ => (intOf v6).toNat - (intOf v5).toNat)
  case atStart => exact ⟨0, n, rfl, rfl, by omega, by omega, Lib.hid ⟨fun k hk => by omega, fun k h1 h2 => by omega, Kept.refl _ _⟩⟩
  case round =>
    obtain ⟨i, j, rfl, rfl, hij, hjn, HS⟩ := hrel
    by_cases hlt : (i : Int) < (j : Int)
    · obtain ⟨h, hh⟩ : ∃ h : Nat, h = (i + j) / 2 := ⟨_, rfl⟩
      have hh1 : i ≤ h := by omega
      have hh2 : h < j := by omega
      have hh3 : ((i : Int) + (j : Int)) / 2 = (h : Int) := by omega
      have HH := Lib.hid hh3
      clear hh hh3
      go_upto_region 4 with fail
      rw [HH.out]
      have HC := Lib.hid (HF.out wr h HS.out.2.2 (by omega))
      obtain ⟨q, hq⟩ : ∃ q, q = p h := ⟨_, rfl⟩
      rw [← hq] at HC
      have HQ := Lib.hid hq
      clear hq
      cases q
      · go_wp2_with (go_at_call 48; fail)
        refine HC.out.mono ?_
        rintro e w2 ⟨rfl, hk2⟩
        have HK := Lib.hid (HS.out.2.2.trans hk2)
        clear hk2
        go_wp2
        go_roundw
        case rel => exact ⟨h + 1, j, by go_num, rfl, by omega, hjn, Lib.hid ⟨(fun k hk => by
          cases e : p k with
          | false => rfl
          | true =>
            have := HM.out k h (by omega) (by omega) e
            rw [← HQ.out] at this
            cases this), HS.out.2.1, HK.out⟩⟩
        case measure => simp [intOf]; omega
      · go_wp2_with (go_at_call 48; fail)
        refine HC.out.mono ?_
        rintro e w2 ⟨rfl, hk2⟩
        have HK := Lib.hid (HS.out.2.2.trans hk2)
        clear hk2
        go_wp2
        go_roundw
        case rel => exact ⟨i, h, rfl, by go_num, hh1, by omega, Lib.hid ⟨HS.out.1, fun k h1 h2 => HM.out h k h1 h2 HQ.out.symm, HK.out⟩⟩
        case measure => simp [intOf]; omega
    · have hij2 : j = i := by omega
      go_wp2
      go_ret
      exact ⟨i, rfl, by omega, HS.out.1, fun k h1 h2 => HS.out.2.1 k (by omega) h2, HS.out.2.2⟩
end Go.Proofs.YtjjgadanobeamaaGreatDoor
