/-
  A tree of files on paper: what always holds of it; its calls.
-/
import Derived.Test.YtilndmmjdbhmgaaTrP
import Derived.Test.YtilndmmjdbhmgaaOkP
namespace Go.Proofs.Ytilndmmjdbhmgaa
set_option linter.unusedVariables false
set_option linter.unusedSimpArgs false

/-- The sum of a number of each node. -/
def sumN (nd : Int → Option NdP) (g : Option NdP → Nat) (n : Nat) : Nat := ((List.range n).map (fun j : Nat => g (nd (j : Int)))).sum
theorem sumN_succ (nd : Int → Option NdP) (g : Option NdP → Nat) (n : Nat) : sumN nd g (n + 1) = sumN nd g n + g (nd (n : Int)) := by
  simp [sumN, List.range_succ]
theorem sumN_congr {nd nd' : Int → Option NdP} {g g' : Option NdP → Nat} {n : Nat} (h : ∀ j : Nat, j < n → g (nd (j : Int)) = g' (nd' (j : Int))) : sumN nd g n = sumN nd' g' n := by
  induction n with
  | zero => rfl
  | succ n ih => rw [sumN_succ, sumN_succ, ih (fun j hj => h j (by omega)), h n (by omega)]
theorem sumN_le {nd : Int → Option NdP} {g : Option NdP → Nat} {n : Nat} (i : Nat) (hi : i < n) : g (nd (i : Int)) ≤ sumN nd g n := by
  induction n with
  | zero => omega
  | succ n ih =>
    rw [sumN_succ]
    rcases Nat.lt_or_ge i n with h | h
    · have := ih h; omega
    · have e : i = n := by omega
      subst e; omega
theorem sumN_upd (nd : Int → Option NdP) (g : Option NdP → Nat) (o : Option NdP) (i : Int) : ∀ n : Nat, 0 ≤ i → i < n → sumN (updN nd i o) g n + g (nd i) = sumN nd g n + g o
  | 0, h0, h => by omega
  | n + 1, h0, h => by
    rw [sumN_succ, sumN_succ]
    by_cases e : i = (n : Int)
    · subst e
      rw [updN_same]
      have : sumN (updN nd (n : Int) o) g n = sumN nd g n := sumN_congr (fun j hj => by rw [updN_other _ _ (by omega)])
      omega
    · have := sumN_upd nd g o i n h0 (by omega)
      rw [updN_other _ _ (fun e' => e e'.symm)]
      omega
theorem sumN_zero {nd : Int → Option NdP} {g : Option NdP → Nat} {n : Nat} (h : sumN nd g n = 0) (i : Nat) (hi : i < n) : g (nd (i : Int)) = 0 := by
  have := @sumN_le nd g n i hi
  omega

def gOne : Option NdP → Nat := fun o => if o.isSome then 1 else 0
def gSize : Option NdP → Nat := fun o => match o with | some n => sizeD n.data | none => 0
def gLink (i : Int) : Option NdP → Nat := fun o => match o with | some n => n.names.countP (fun p => p.2 == i) | none => 0

/-- What holds of a node. -/
structure OkNd (T : FsP) (i : Int) (n : NdP) : Prop where
  low : 1 ≤ i
  high : i ≤ T.next
  sorted : OkK n.names
  names : ∀ p ∈ n.names, okN (strB p.1) = true ∧ p.2 ≠ 1 ∧ ∃ m, T.nd p.2 = some m ∧ (m.v.kind = 6 → m.par = i)
  file : n.v.kind ≠ 6 → n.names = []
  data : OkD n.data
  plain : n.v.kind ≠ 1 → n.data = []
  inside : ∀ p ∈ n.data, endP p ≤ n.v.size
  size : 0 ≤ n.v.size ∧ n.v.size ≤ 1099511627776
  par : n.v.kind = 6 → i ≠ 1 → ∃ d, T.nd n.par = some d ∧ d.v.kind = 6 ∧ ∃ k, (k, i) ∈ d.names
  links : n.v.links = (sumN T.nd (gLink i) (T.next + 1).toNat : Nat) + (if i = 1 then 1 else 0)
  most : n.v.links ≤ T.clock + 1
  change : 0 ≤ n.v.change ∧ n.v.change ≤ T.clock
  mode : 0 ≤ n.v.mode ∧ n.v.mode ≤ 4095
  user : 0 ≤ n.v.user ∧ n.v.user ≤ 2147483647
  group : 0 ≤ n.v.group ∧ n.v.group ≤ 2147483647
  time : -9223372036854775808 ≤ n.v.time ∧ n.v.time ≤ 9223372036854775807
  kind : n.v.kind = 1 ∨ n.v.kind = 3 ∨ n.v.kind = 4 ∨ n.v.kind = 5 ∨ n.v.kind = 6 ∨ n.v.kind = 7
  dev : 0 ≤ n.v.major ∧ n.v.major ≤ 1048575 ∧ 0 ≤ n.v.minor ∧ n.v.minor ≤ 1048575
  tgt : n.v.tgt.size ≤ 1024
  one : n.v.kind = 6 → n.v.links = 1
  few : (n.names.length : Int) ≤ T.clock
/-- What always holds of a tree. -/
structure OkT (T : FsP) : Prop where
  root : ∃ d, T.nd 1 = some d ∧ d.v.kind = 6 ∧ d.par = 1
  node : ∀ i n, T.nd i = some n → OkNd T i n
  next : 1 ≤ T.next ∧ T.next ≤ T.clock + 1
  clock : 0 ≤ T.clock
  quota : 0 ≤ T.quota ∧ T.quota ≤ 9223372036854775807
  used : T.used = (sumN T.nd gSize (T.next + 1).toNat : Nat)
  room : T.used ≤ T.quota
  cnt : T.cnt = sumN T.nd gOne (T.next + 1).toNat
  most : T.cnt ≤ 1000
  rank : ∃ r : Int → Nat, ∀ i n, T.nd i = some n → n.v.kind = 6 → i ≠ 1 → r n.par < r i

/-- The errors of a directory and a part. -/
def placeE (T : FsP) (dir : Int) (part : List UInt8) : Int :=
  match T.nd dir with
  | none => 10
  | some d => if d.v.kind = 6 then (if okN (strB part) = true then 0 else 9) else 12
def namesP (T : FsP) (dir : Int) : Nms := match T.nd dir with | some d => d.names | none => []
def askK : Option Int → Int × Int
  | some i => (i, 0)
  | none => (0, 10)
def findP (T : FsP) (dir : Int) (part : List UInt8) : Int × Int :=
  if placeE T dir part = 0 then askK (getK (namesP T dir) part) else (0, placeE T dir part)
/-- Marks of a change: of a directory that has other names now. -/
def touch (c : Int) (n : NdP) : NdP := { n with v := { n.v with time := c, change := c } }
def setChange (c : Int) (n : NdP) : NdP := { n with v := { n.v with change := c } }
/-- A node that is made. -/
def freshN (n : NodeV) (c dir : Int) : NdP := { v := { n with links := 1, change := c }, names := [], par := if n.kind = 6 then dir else 0, data := [] }
def makeT (T : FsP) (dir : Int) (d : NdP) (part : List UInt8) (n : NodeV) : FsP :=
  { T with clock := T.clock + 1, next := T.next + 1, cnt := T.cnt + 1, nd := updN (updN T.nd dir (some { touch (T.clock + 1) d with names := putK d.names part (T.next + 1) })) (T.next + 1) (some (freshN n (T.clock + 1) dir)) }
def makeP (T : FsP) (dir : Int) (part : List UInt8) (n : NodeV) : FsP × Int × Int :=
  match T.nd dir with
  | none => (T, 0, 10)
  | some d =>
    if d.v.kind = 6 then
      if okN (strB part) = true then
        if mayB n = true then
          if (getK d.names part).isSome then (T, 0, 11) else if 1000 ≤ T.cnt then (T, 0, 14) else (makeT T dir d part n, T.next + 1, 0)
        else (T, 0, 1)
      else (T, 0, 9)
    else (T, 0, 12)
end Go.Proofs.Ytilndmmjdbhmgaa
