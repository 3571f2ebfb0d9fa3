/-
  A tree of files on paper: making a node keeps what always holds.
  A tree of files on paper: a second name, and one taken away, keep what always holds.
  A tree of files on paper: one node that turns, and a name that is moved, keep what always holds.
  A tree of files on paper: a name that is moved keeps what always holds.
  A tree of files in memory: its nodes, their names, what was written of them; the blocks of each bear a mark of their own.
-/
import Derived.Test.YtjjgadanobeamaaGreatDoorMt2
import Derived.OwnWalk
namespace Go.Proofs.YtjjgadanobeamaaGreatDoor
set_option linter.unusedVariables false
set_option linter.unusedSimpArgs false

theorem sumN_all0 {nd : Int → Option NdP} {g : Option NdP → Nat} {n : Nat} (h : ∀ j : Nat, j < n → g (nd (j : Int)) = 0) : sumN nd g n = 0 := by
  induction n with
  | zero => rfl
  | succ n ih => rw [sumN_succ, ih (fun j hj => h j (by omega)), h n (by omega)]
theorem putK_count (l : Nms) (k : List UInt8) (i : Int) (q : List UInt8 × Int → Bool) : (putK l k i).countP q = l.countP q + (if q (k, i) then 1 else 0) := by
  unfold putK
  conv => rhs; rw [← List.takeWhile_append_dropWhile (p := fun p : List UInt8 × Int => decide (p.1 < k)) (l := l)]
  rw [List.countP_append, List.countP_append, List.countP_cons]
  omega
theorem gLink_some (i : Int) (n : NdP) : gLink i (some n) = n.names.countP (fun p => p.2 == i) := rfl
theorem gLink_zero {T : FsP} (h : OkT T) (i : Int) (hi : T.nd i = none) (N : Nat) : sumN T.nd (gLink i) N = 0 := by
  refine sumN_all0 (fun j hj => ?_)
  cases hn : T.nd (j : Int) with
  | none => rfl
  | some n =>
    rw [gLink_some, List.countP_eq_zero]
    intro p hp
    obtain ⟨m, hm, _⟩ := ((h.node _ n hn).names p hp).2.2
    simp
    intro e
    rw [e, hi] at hm
    cases hm

theorem OkNd.step {T T' : FsP} {j : Int} {m : NdP} (h : OkNd T j m) (hnext : T.next ≤ T'.next) (hclock : T.clock ≤ T'.clock)
    (hex : ∀ p ∈ m.names, ∀ a, T.nd p.2 = some a → ∃ a', T'.nd p.2 = some a' ∧ a'.v.kind = a.v.kind ∧ (a.v.kind = 6 → a'.par = a.par))
    (hpar : ∀ d, T.nd m.par = some d → d.v.kind = 6 → (∃ k, (k, j) ∈ d.names) → ∃ d', T'.nd m.par = some d' ∧ d'.v.kind = 6 ∧ ∃ k, (k, j) ∈ d'.names)
    (hlinks : sumN T'.nd (gLink j) (T'.next + 1).toNat = sumN T.nd (gLink j) (T.next + 1).toNat) : OkNd T' j m where
  low := h.low
  high := by have := h.high; omega
  sorted := h.sorted
  names := fun p hp => by
    obtain ⟨h1, h2, a, h3, h4⟩ := h.names p hp
    obtain ⟨a', e1, e2, e3⟩ := hex p hp a h3
    exact ⟨h1, h2, a', e1, fun hk => by rw [e2] at hk; rw [e3 hk]; exact h4 hk⟩
  file := h.file
  data := h.data
  plain := h.plain
  inside := h.inside
  size := h.size
  par := fun hk hj => by
    obtain ⟨d, h1, h2, h3⟩ := h.par hk hj
    exact hpar d h1 h2 h3
  links := by rw [hlinks]; exact h.links
  most := by have := h.most; omega
  change := by have := h.change; omega
  mode := h.mode
  user := h.user
  group := h.group
  time := h.time
  kind := h.kind
  dev := h.dev
  tgt := h.tgt
  one := h.one
  few := by have := h.few; omega

theorem makeT_ok {T : FsP} (h : OkT T) {dir : Int} {d : NdP} {part : List UInt8} {n : NodeV} (hd : T.nd dir = some d) (hk : d.v.kind = 6) (hp : okN (strB part) = true) (hm : mayB n = true) (hn : getK d.names part = none) (hc : T.cnt < 1000)
    (ht : -9223372036854775808 ≤ n.time ∧ n.time ≤ 9223372036854775807) (hclk : T.clock + 1 ≤ 9223372036854775807) : OkT (makeT T dir d part n) := by
  have od := h.node dir d hd
  have hN := h.next
  have hC := h.clock
  have hi0 : T.nd (T.next + 1) = none := by
    cases e : T.nd (T.next + 1) with
    | none => rfl
    | some x => have := (h.node _ x e).high; omega
  have hdi : dir ≠ T.next + 1 := by have := od.high; omega
  obtain ⟨c, hcd⟩ : ∃ c, c = T.clock + 1 := ⟨_, rfl⟩
  obtain ⟨i, hid⟩ : ∃ i, i = T.next + 1 := ⟨_, rfl⟩
  obtain ⟨d', hdd⟩ : ∃ d', d' = ({ touch c d with names := putK d.names part i } : NdP) := ⟨_, rfl⟩
  obtain ⟨f, hfd⟩ : ∃ f, f = freshN n c dir := ⟨_, rfl⟩
  have hT : makeT T dir d part n = { T with clock := c, next := i, cnt := T.cnt + 1, nd := updN (updN T.nd dir (some d')) i (some f) } := by
    unfold makeT; rw [hdd, hfd, hid, hcd]
  rw [hT]
  rw [← hid] at hdi hi0
  have d1 : d'.v.kind = 6 := by rw [hdd]; exact hk
  have d2 : d'.par = d.par := by rw [hdd]; rfl
  have d3 : d'.names = putK d.names part i := by rw [hdd]
  have nI : ∀ g : Option NdP → Nat, updN (updN T.nd dir (some d')) i (some f) i = some f := fun _ => updN_same _ _ _
  have nD : updN (updN T.nd dir (some d')) i (some f) dir = some d' := by rw [updN_other _ _ hdi, updN_same]
  have nO : ∀ x, x ≠ i → x ≠ dir → updN (updN T.nd dir (some d')) i (some f) x = T.nd x := fun x h1 h2 => by rw [updN_other _ _ h1, updN_other _ _ h2]
  have hex : ∀ x a, T.nd x = some a → ∃ a', updN (updN T.nd dir (some d')) i (some f) x = some a' ∧ a'.v.kind = a.v.kind ∧ (a.v.kind = 6 → a'.par = a.par) ∧ (∀ p ∈ a.names, p ∈ a'.names) := by
    intro x a hx
    have hxi : x ≠ i := fun e => by rw [e, hi0] at hx; cases hx
    by_cases hxd : x = dir
    · subst hxd
      rw [hd] at hx; cases hx
      exact ⟨d', nD, by rw [d1, hk], fun _ => d2, fun p hp => by rw [d3]; exact putK_mem.2 (.inr hp)⟩
    · exact ⟨a, by rw [nO x hxi hxd]; exact hx, rfl, fun _ => rfl, fun p hp => hp⟩
  have hNat : (i + 1).toNat = (T.next + 1).toNat + 1 := by omega
  have hcast : (((T.next + 1).toNat : Nat) : Int) = i := by omega
  have hsum : ∀ g : Option NdP → Nat, sumN (updN (updN T.nd dir (some d')) i (some f)) g (i + 1).toNat + g (some d) = sumN T.nd g (T.next + 1).toNat + g (some d') + g (some f) := by
    intro g
    rw [hNat, sumN_succ, hcast, updN_same]
    have e1 : sumN (updN (updN T.nd dir (some d')) i (some f)) g (T.next + 1).toNat = sumN (updN T.nd dir (some d')) g (T.next + 1).toNat := sumN_congr (fun j hj => by rw [updN_other _ _ (by omega)])
    have e2 := sumN_upd T.nd g (some d') dir (T.next + 1).toNat (by have := od.low; omega) (by have := od.high; omega)
    rw [hd] at e2
    omega
  have hf0 : f.names = [] := by rw [hfd]; rfl
  have hlink : ∀ x, sumN (updN (updN T.nd dir (some d')) i (some f)) (gLink x) (i + 1).toNat = sumN T.nd (gLink x) (T.next + 1).toNat + (if i = x then 1 else 0) := by
    intro x
    have := hsum (gLink x)
    rw [gLink_some, gLink_some, gLink_some, hf0, d3, putK_count] at this
    simp only [beq_iff_eq, List.countP_nil] at this
    omega
  have hstep : ∀ x a, T.nd x = some a → ∀ T' : FsP, T' = { T with clock := c, next := i, cnt := T.cnt + 1, nd := updN (updN T.nd dir (some d')) i (some f) } → OkNd T' x a := by
    intro x a hx T' hT'
    subst hT'
    have ox := h.node x a hx
    refine ox.step (by simp only; omega) (by simp only; omega) ?_ ?_ ?_
    · intro p _ b hb
      obtain ⟨b', e1, e2, e3, _⟩ := hex p.2 b hb
      exact ⟨b', e1, e2, e3⟩
    · rintro b hb hbk ⟨k, hkm⟩
      obtain ⟨b', e1, e2, e3, e4⟩ := hex _ b hb
      exact ⟨b', e1, by rw [e2]; exact hbk, k, e4 _ hkm⟩
    · rw [hlink, if_neg (by have := ox.high; omega)]; rfl
  have hmb := hm
  unfold mayB at hmb
  simp only [Bool.and_eq_true, decide_eq_true_eq, Bool.or_eq_true, beq_iff_eq] at hmb
  refine ⟨?_, ?_, ?_, ?_, ?_, ?_, ?_, ?_, ?_, ?_⟩
  · obtain ⟨r, hr, hr6, hrp⟩ := h.root
    obtain ⟨a', e1, e2, e3, _⟩ := hex 1 r hr
    exact ⟨a', e1, by rw [e2]; exact hr6, by rw [e3 hr6]; exact hrp⟩
  · intro x a hx
    by_cases hxi : x = i
    · subst hxi
      have hx' : some f = some a := by rw [← hx]; exact (updN_same _ _ _).symm
      cases hx'
      have fk : f.v.kind = n.kind := by rw [hfd]; rfl
      refine ⟨by omega, Int.le_refl _, by rw [hf0]; exact List.Pairwise.nil, (fun p hp => by rw [hf0] at hp; cases hp), fun _ => hf0, ?_, ?_, ?_, ?_, ?_, ?_, ?_, ?_, ?_, ?_, ?_, ?_, ?_, ?_, ?_, ?_, by rw [hf0]; show (0 : Int) ≤ c; omega⟩
      · rw [hfd]; exact OkD.nil
      · intro _; rw [hfd]; rfl
      · intro p hp; rw [hfd] at hp; cases hp
      · rw [hfd]; show 0 ≤ n.size ∧ n.size ≤ _; omega
      · intro hk6 _
        have hpd : f.par = dir := by rw [hfd]; unfold freshN; simp only; rw [if_pos (by rw [← fk]; exact hk6)]
        refine ⟨d', by rw [hpd]; exact nD, d1, part, by rw [d3]; exact putK_mem.2 (.inl rfl)⟩
      · rw [hlink, gLink_zero h _ hi0, if_pos rfl, if_neg (by omega), hfd]; rfl
      · rw [hfd]; show (1 : Int) ≤ c + 1; omega
      · rw [hfd]; show 0 ≤ c ∧ c ≤ c; omega
      · rw [hfd]; show 0 ≤ n.mode ∧ n.mode ≤ _; omega
      · rw [hfd]; show 0 ≤ n.user ∧ n.user ≤ _; omega
      · rw [hfd]; show 0 ≤ n.group ∧ n.group ≤ _; omega
      · rw [hfd]; exact ht
      · rw [fk]; omega
      · rw [hfd]
        show 0 ≤ n.major ∧ n.major ≤ _ ∧ 0 ≤ n.minor ∧ n.minor ≤ _
        have := hmb.1.1.1.1.2
        split at this <;> simp at this <;> omega
      · rw [hfd]
        show n.tgt.size ≤ 1024
        have := hmb.1.1.1.1.1.2
        split at this
        · simp at this; exact this.1.2
        · have e : n.tgt.toList.length = n.tgt.size := by rw [ByteArray.toList_eq]; rfl
          rw [List.isEmpty_iff] at this
          rw [this] at e
          simp at e
          omega
      · intro _; rw [hfd]; rfl
    · by_cases hxd : x = dir
      · subst hxd
        have hx' : some d' = some a := by rw [← hx]; exact nD.symm
        cases hx'
        have o := hstep x d hd _ rfl
        refine ⟨o.low, o.high, ?_, ?_, (fun e => absurd d1 e), ?_, (fun _ => ?_), ?_, ?_, ?_, ?_, ?_, ?_, ?_, ?_, ?_, ?_, ?_, ?_, ?_, ?_, ?_⟩
        · rw [d3]; exact putK_ok od.sorted _ _ hn
        · intro p hpm
          rw [d3] at hpm
          rcases putK_mem.1 hpm with rfl | hpm
          · refine ⟨hp, by omega, f, updN_same _ _ _, ?_⟩
            intro hk6
            rw [hfd] at hk6 ⊢
            unfold freshN at hk6 ⊢
            simp only at hk6 ⊢
            rw [if_pos hk6]
          · exact o.names p hpm
        · rw [hdd]; exact o.data
        · rw [hdd]; exact o.plain (by rw [hk]; omega)
        · rw [hdd]; exact o.inside
        · rw [hdd]; exact o.size
        · intro _ hx1
          rw [d2]
          exact o.par hk hx1
        · have e0 : d'.v.links = d.v.links := by rw [hdd]; rfl
          rw [e0]; exact o.links
        · rw [hdd]; exact o.most
        · rw [hdd]; show 0 ≤ c ∧ c ≤ c; omega
        · rw [hdd]; exact o.mode
        · rw [hdd]; exact o.user
        · rw [hdd]; exact o.group
        · rw [hdd]; show -9223372036854775808 ≤ c ∧ c ≤ _; omega
        · rw [hdd]; exact o.kind
        · rw [hdd]; exact o.dev
        · rw [hdd]; exact o.tgt
        · rw [hdd]; exact o.one
        · rw [d3, putK_len]; have := od.few; show ((d.names.length + 1 : Nat) : Int) ≤ c; omega
      · exact hstep x a (by rw [← hx]; exact (nO x hxi hxd).symm) _ rfl
  · show 1 ≤ i ∧ i ≤ c + 1; omega
  · show 0 ≤ c; omega
  · exact h.quota
  · have := hsum gSize
    have e1 : gSize (some d') = gSize (some d) := by rw [hdd]; rfl
    have e2 : gSize (some f) = 0 := by rw [hfd]; rfl
    have hu := h.used
    show T.used = (sumN (updN (updN T.nd dir (some d')) i (some f)) gSize (i + 1).toNat : Nat)
    omega
  · exact h.room
  · have := hsum gOne
    have hu := h.cnt
    show T.cnt + 1 = sumN (updN (updN T.nd dir (some d')) i (some f)) gOne (i + 1).toNat
    have e1 : gOne (some d') = 1 := rfl
    have e2 : gOne (some f) = 1 := rfl
    have e3 : gOne (some d) = 1 := rfl
    omega
  · show T.cnt + 1 ≤ 1000; omega
  · obtain ⟨r, hr⟩ := h.rank
    refine ⟨fun x => if x = i then r dir + 1 else r x, ?_⟩
    intro x a hx hk6 hx1
    by_cases hxi : x = i
    · subst hxi
      have hx' : some f = some a := by rw [← hx]; exact (updN_same _ _ _).symm
      cases hx'
      have hpd : f.par = dir := by rw [hfd] at hk6 ⊢; unfold freshN at hk6 ⊢; simp only at hk6 ⊢; rw [if_pos hk6]
      simp only [if_true]
      rw [hpd, if_neg hdi]; omega
    · have key : ∃ b, T.nd x = some b ∧ b.v.kind = 6 ∧ b.par = a.par := by
        by_cases hxd : x = dir
        · subst hxd
          have hx' : some d' = some a := by rw [← hx]; exact nD.symm
          cases hx'
          exact ⟨d, hd, hk, d2.symm⟩
        · exact ⟨a, by rw [← hx]; exact (nO x hxi hxd).symm, hk6, rfl⟩
      obtain ⟨b, hb, hb6, hbp⟩ := key
      have := hr x b hb hb6 hx1
      obtain ⟨q, hq, _⟩ := (h.node x b hb).par hb6 hx1
      simp only
      rw [← hbp, if_neg hxi, if_neg (fun e => by rw [e, hi0] at hq; cases hq)]
      exact this
end Go.Proofs.YtjjgadanobeamaaGreatDoor

namespace Go.Proofs.YtjjgadanobeamaaGreatDoor
set_option linter.unusedVariables false
set_option linter.unusedSimpArgs false

def linked (c k : Int) (m : NdP) : NdP := { m with v := { m.v with links := m.v.links + k, change := c } }
def named (c : Int) (d : NdP) (l : Nms) : NdP := { touch c d with names := l }
def linkT (T : FsP) (dir : Int) (d : NdP) (part : List UInt8) (ino : Int) (m : NdP) : FsP :=
  { T with clock := T.clock + 1, nd := updN (updN T.nd dir (some (named (T.clock + 1) d (putK d.names part ino)))) ino (some (linked (T.clock + 1) 1 m)) }
def linkP (T : FsP) (dir : Int) (part : List UInt8) (ino : Int) : FsP × Int :=
  match T.nd ino with
  | none => (T, 10)
  | some m =>
    match T.nd dir with
    | none => (T, 10)
    | some d =>
      if d.v.kind = 6 then
        if okN (strB part) = true then
          if m.v.kind = 6 then (T, 13) else if (getK d.names part).isSome then (T, 11) else (linkT T dir d part ino m, 0)
        else (T, 9)
      else (T, 12)
theorem two_ok {T : FsP} (h : OkT T) {dir ino : Int} {d m : NdP} {l : Nms} {o : Option NdP} {s : Int} {used' : Int} {cnt' : Nat} (hd : T.nd dir = some d) (hk : d.v.kind = 6) (hm : T.nd ino = some m) (hne : dir ≠ ino) (hi1 : ino ≠ 1)
    (hl : OkK l) (hlm : ∀ p ∈ l, okN (strB p.1) = true ∧ p.2 ≠ 1 ∧ ((p ∈ d.names) ∨ (p.2 = ino ∧ m.v.kind ≠ 6)) ∧ (o = none → p.2 ≠ ino))
    (hdm : ∀ k x, (k, x) ∈ d.names → x ≠ ino → (k, x) ∈ l) (hdi : m.v.kind = 6 → o ≠ none → ∀ k, (k, ino) ∈ d.names → (k, ino) ∈ l)
    (hlink : ∀ x, ((l.countP (fun p => p.2 == x) : Nat) : Int) = d.names.countP (fun p => p.2 == x) + (if ino = x then s else 0))
    (ho : o = none ∨ o = some (linked (T.clock + 1) s m)) (hs : -1 ≤ s ∧ s ≤ 1) (hmn : m.names = [] ∨ o ≠ none)
    (h0 : o = none → m.v.links + s = 0) (hone : m.v.kind = 6 → o ≠ none → m.v.links + s = 1) (hlen : l.length ≤ d.names.length + 1)
    (hused : used' + (gSize (some m) : Nat) = T.used + (gSize o : Nat)) (hcnt : cnt' + gOne (some m) = T.cnt + gOne o)
    (hclk : T.clock + 1 ≤ 9223372036854775807) :
    OkT { T with clock := T.clock + 1, used := used', cnt := cnt', nd := updN (updN T.nd dir (some (named (T.clock + 1) d l))) ino o } := by
  have od := h.node dir d hd
  have om := h.node ino m hm
  have hN := h.next
  have hC := h.clock
  obtain ⟨c, hcd⟩ : ∃ c, c = T.clock + 1 := ⟨_, rfl⟩
  rw [← hcd] at ho ⊢
  obtain ⟨d', hdd⟩ : ∃ d', d' = named c d l := ⟨_, rfl⟩
  rw [← hdd]
  have d1 : d'.v.kind = 6 := by rw [hdd]; exact hk
  have d2 : d'.par = d.par := by rw [hdd]; rfl
  have d3 : d'.names = l := by rw [hdd]; rfl
  have nI : updN (updN T.nd dir (some d')) ino o ino = o := updN_same _ _ _
  have nD : updN (updN T.nd dir (some d')) ino o dir = some d' := by rw [updN_other _ _ hne, updN_same]
  have nO : ∀ x, x ≠ ino → x ≠ dir → updN (updN T.nd dir (some d')) ino o x = T.nd x := fun x h1 h2 => by rw [updN_other _ _ h1, updN_other _ _ h2]
  have hsum : ∀ g : Option NdP → Nat, sumN (updN (updN T.nd dir (some d')) ino o) g (T.next + 1).toNat + g (some d) + g (some m) = sumN T.nd g (T.next + 1).toNat + g (some d') + g o := by
    intro g
    have e1 := sumN_upd (updN T.nd dir (some d')) g o ino (T.next + 1).toNat (by have := om.low; omega) (by have := om.high; omega)
    have e2 := sumN_upd T.nd g (some d') dir (T.next + 1).toNat (by have := od.low; omega) (by have := od.high; omega)
    rw [updN_other _ _ (fun e => hne e.symm), hm] at e1
    rw [hd] at e2
    omega
  have hom : ∀ x, gLink x o = gLink x (some m) ∨ (o = none ∧ m.names = []) := by
    intro x
    rcases ho with e | e
    · exact .inr ⟨e, by rcases hmn with h1 | h1; exact h1; exact absurd e h1⟩
    · left; rw [e]; rfl
  have hlk : ∀ x, ((sumN (updN (updN T.nd dir (some d')) ino o) (gLink x) (T.next + 1).toNat : Nat) : Int) = (sumN T.nd (gLink x) (T.next + 1).toNat : Nat) + (if ino = x then s else 0) := by
    intro x
    have e1 := hsum (gLink x)
    have e2 := hlink x
    rw [gLink_some, gLink_some, gLink_some, d3] at e1
    rcases hom x with e | ⟨e, e'⟩
    · rw [e, gLink_some] at e1; omega
    · have e3 : gLink x o = 0 := by rw [e]; rfl
      rw [e3, e', List.countP_nil] at e1
      omega
  have lm := om.links
  rw [if_neg hi1] at lm
  -- where one is gone no name leads to it
  have hgone : o = none → ∀ x a, T.nd x = some a → x ≠ dir → ∀ p ∈ a.names, p.2 ≠ ino := by
    intro ho0 x a hx hxd p hp hpe
    have e1 := hlk ino
    rw [if_pos rfl] at e1
    have e2 := h0 ho0
    have e3 : sumN (updN (updN T.nd dir (some d')) ino o) (gLink ino) (T.next + 1).toNat = 0 := by omega
    have ox := h.node x a hx
    have e4 := sumN_zero e3 x.toNat (by have := ox.low; have := ox.high; omega)
    have e5 : ((x.toNat : Nat) : Int) = x := by have := ox.low; omega
    rw [e5] at e4
    have hxi : x ≠ ino := by
      intro e
      subst e
      rw [hm] at hx; cases hx
      rcases hmn with h1 | h1
      · rw [h1] at hp; cases hp
      · exact h1 ho0
    rw [nO x hxi hxd, hx, gLink_some, List.countP_eq_zero] at e4
    exact absurd (by simpa using hpe) (e4 p hp)
  have hex : ∀ x a, T.nd x = some a → (x = ino → o ≠ none) → ∃ a', updN (updN T.nd dir (some d')) ino o x = some a' ∧ a'.v.kind = a.v.kind ∧ (a.v.kind = 6 → a'.par = a.par) := by
    intro x a hx hxo
    by_cases hxi : x = ino
    · subst hxi
      rw [hm] at hx; cases hx
      rcases ho with e | e
      · exact absurd e (hxo rfl)
      · exact ⟨linked c s m, by rw [nI, e], rfl, fun _ => rfl⟩
    · by_cases hxd : x = dir
      · subst hxd
        rw [hd] at hx; cases hx
        exact ⟨d', nD, by rw [d1, hk], fun _ => d2⟩
      · exact ⟨a, by rw [nO x hxi hxd]; exact hx, rfl, fun _ => rfl⟩
  have hpr : ∀ x b, T.nd x = some b → b.v.kind = 6 → ∀ j a, T.nd j = some a → a.v.kind = 6 → (j = ino → o ≠ none) → (∃ k, (k, j) ∈ b.names) → ∃ b', updN (updN T.nd dir (some d')) ino o x = some b' ∧ b'.v.kind = 6 ∧ ∃ k, (k, j) ∈ b'.names := by
    rintro x b hx hb6 j a hj ha6 hjo ⟨k, hkm⟩
    by_cases hxi : x = ino
    · subst hxi
      rw [hm] at hx; cases hx
      rcases ho with e | e
      · rcases hmn with h1 | h1
        · rw [h1] at hkm; cases hkm
        · exact absurd e h1
      · exact ⟨linked c s m, by rw [nI, e], hb6, k, hkm⟩
    · by_cases hxd : x = dir
      · subst hxd
        rw [hd] at hx; cases hx
        refine ⟨d', nD, d1, k, ?_⟩
        rw [d3]
        by_cases hji : j = ino
        · subst hji
          rw [hm] at hj; cases hj
          exact hdi ha6 (hjo rfl) k hkm
        · exact hdm k j hkm hji
      · exact ⟨b, by rw [nO x hxi hxd]; exact hx, hb6, k, hkm⟩
  have hstep : ∀ x a, T.nd x = some a → x ≠ ino → x ≠ dir → OkNd { T with clock := c, used := used', cnt := cnt', nd := updN (updN T.nd dir (some d')) ino o } x a := by
    intro x a hx hxi hxd
    have ox := h.node x a hx
    refine ⟨ox.low, ox.high, ox.sorted, ?_, ox.file, ox.data, ox.plain, ox.inside, ox.size, ?_, ?_, ?_, ?_, ox.mode, ox.user, ox.group, ox.time, ox.kind, ox.dev, ox.tgt, ox.one, by have := ox.few; show (a.names.length : Int) ≤ c; omega⟩
    · intro p hp
      obtain ⟨h1, h2, b, h3, h4⟩ := ox.names p hp
      obtain ⟨b', e1, e2, e3⟩ := hex p.2 b h3 (fun e e' => hgone e' x a hx hxd p hp e)
      exact ⟨h1, h2, b', e1, fun hk' => by rw [e2] at hk'; rw [e3 hk']; exact h4 hk'⟩
    · intro hk' hx1
      obtain ⟨b, h1, h2, h3⟩ := ox.par hk' hx1
      exact hpr a.par b h1 h2 x a hx hk' (fun e => absurd e hxi) h3
    · have := hlk x
      rw [if_neg (fun e => hxi e.symm)] at this
      have e2 := ox.links
      show a.v.links = (sumN (updN (updN T.nd dir (some d')) ino o) (gLink x) (T.next + 1).toNat : Nat) + _
      rw [this]; simpa using e2
    · have := ox.most; show a.v.links ≤ c + 1; omega
    · have := ox.change; show 0 ≤ a.v.change ∧ a.v.change ≤ c; omega
  refine ⟨?_, ?_, ?_, ?_, ?_, ?_, ?_, ?_, ?_, ?_⟩
  · obtain ⟨r, hr, hr6, hrp⟩ := h.root
    obtain ⟨a', e1, e2, e3⟩ := hex 1 r hr (fun e => absurd e.symm hi1)
    exact ⟨a', e1, by rw [e2]; exact hr6, by rw [e3 hr6]; exact hrp⟩
  · intro x a hx
    by_cases hxi : x = ino
    · subst hxi
      have hx' : o = some a := by rw [← hx]; exact nI.symm
      rcases ho with e | e
      · rw [e] at hx'; cases hx'
      · rw [e] at hx'; cases hx'
        have hon : o ≠ none := by rw [e]; simp
        refine ⟨om.low, om.high, om.sorted, ?_, om.file, om.data, om.plain, om.inside, om.size, ?_, ?_, ?_, ?_, om.mode, om.user, om.group, om.time, om.kind, om.dev, om.tgt, fun hk' => by have := hone hk' hon; show m.v.links + s = 1; omega, by have := om.few; show (m.names.length : Int) ≤ c; omega⟩
        · intro p hp
          obtain ⟨h1, h2, b, h3, h4⟩ := om.names p hp
          obtain ⟨b', e1, e2, e3⟩ := hex p.2 b h3 (fun _ => hon)
          exact ⟨h1, h2, b', e1, fun hk' => by rw [e2] at hk'; rw [e3 hk']; exact h4 hk'⟩
        · intro hk' hx1
          obtain ⟨b, h1, h2, h3⟩ := om.par hk' hx1
          exact hpr m.par b h1 h2 x m hm hk' (fun _ => hon) h3
        · have := hlk x
          rw [if_pos rfl] at this
          show m.v.links + s = (sumN (updN (updN T.nd dir (some d')) x o) (gLink x) (T.next + 1).toNat : Nat) + _
          rw [this, if_neg hi1]; omega
        · have := om.most; show m.v.links + s ≤ c + 1; omega
        · show 0 ≤ c ∧ c ≤ c; omega
    · by_cases hxd : x = dir
      · subst hxd
        have hx' : some d' = some a := by rw [← hx]; exact nD.symm
        cases hx'
        refine ⟨od.low, od.high, by rw [d3]; exact hl, ?_, (fun e => absurd d1 e), by rw [hdd]; exact od.data, (fun _ => by rw [hdd]; exact od.plain (by rw [hk]; omega)), by rw [hdd]; exact od.inside, by rw [hdd]; exact od.size, ?_, ?_, ?_, ?_, by rw [hdd]; exact od.mode, by rw [hdd]; exact od.user, by rw [hdd]; exact od.group, ?_, by rw [hdd]; exact od.kind, by rw [hdd]; exact od.dev, by rw [hdd]; exact od.tgt, by rw [hdd]; exact od.one, by rw [d3]; have := od.few; show (l.length : Int) ≤ c; omega⟩
        · intro p hp
          rw [d3] at hp
          obtain ⟨h1, h2, h3, h5⟩ := hlm p hp
          refine ⟨h1, h2, ?_⟩
          rcases h3 with h3 | ⟨h3, h4⟩
          · obtain ⟨_, _, b, e1, e2⟩ := od.names p h3
            obtain ⟨b', e3, e4, e5⟩ := hex p.2 b e1 (fun e e' => h5 e' e)
            exact ⟨b', e3, fun hk' => by rw [e4] at hk'; rw [e5 hk']; exact e2 hk'⟩
          · obtain ⟨b', e3, e4, e5⟩ := hex p.2 m (by rw [h3]; exact hm) (fun e e' => h5 e' e)
            exact ⟨b', e3, fun hk' => by rw [e4] at hk'; exact absurd hk' h4⟩
        · intro _ hx1
          obtain ⟨b, h1, h2, h3⟩ := od.par hk hx1
          rw [d2]
          exact hpr d.par b h1 h2 x d hd hk (fun e => absurd e hxi) h3
        · have := hlk x
          rw [if_neg (fun e => hxi e.symm)] at this
          have e2 := od.links
          have e0 : d'.v.links = d.v.links := by rw [hdd]; rfl
          rw [e0]
          show d.v.links = (sumN (updN (updN T.nd x (some d')) ino o) (gLink x) (T.next + 1).toNat : Nat) + _
          rw [this]; simpa using e2
        · rw [hdd]; have := od.most; show d.v.links ≤ c + 1; omega
        · rw [hdd]; show 0 ≤ c ∧ c ≤ c; omega
        · rw [hdd]; show -9223372036854775808 ≤ c ∧ c ≤ _; omega
      · exact hstep x a (by rw [← hx]; exact (nO x hxi hxd).symm) hxi hxd
  · show 1 ≤ T.next ∧ T.next ≤ c + 1; omega
  · show 0 ≤ c; omega
  · exact h.quota
  · have e1 := hsum gSize
    have e2 : gSize (some d') = gSize (some d) := by rw [hdd]; rfl
    have e3 := h.used
    show used' = (sumN (updN (updN T.nd dir (some d')) ino o) gSize (T.next + 1).toNat : Nat)
    omega
  · have e1 := h.room
    show used' ≤ T.quota
    have e4 : gSize o ≤ gSize (some m) := by
      rcases ho with e | e
      · rw [e]; exact Nat.zero_le _
      · rw [e]; exact Nat.le_refl _
    omega
  · have e1 := hsum gOne
    have e3 := h.cnt
    show cnt' = sumN (updN (updN T.nd dir (some d')) ino o) gOne (T.next + 1).toNat
    have e2 : gOne (some d') = gOne (some d) := rfl
    omega
  · have e1 := h.most
    show cnt' ≤ 1000
    have e4 : gOne o ≤ gOne (some m) := by
      rcases ho with e | e
      · rw [e]; exact Nat.zero_le _
      · rw [e]; exact Nat.le_refl _
    omega
  · obtain ⟨r, hr⟩ := h.rank
    refine ⟨r, ?_⟩
    intro x a hx hk6 hx1
    by_cases hxi : x = ino
    · subst hxi
      have hx' : o = some a := by rw [← hx]; exact nI.symm
      rcases ho with e | e
      · rw [e] at hx'; cases hx'
      · rw [e] at hx'; cases hx'
        exact hr x m hm hk6 hx1
    · by_cases hxd : x = dir
      · subst hxd
        have hx' : some d' = some a := by rw [← hx]; exact nD.symm
        cases hx'
        rw [d2]
        exact hr x d hd hk hx1
      · exact hr x a (by rw [← hx]; exact (nO x hxi hxd).symm) hk6 hx1
theorem linkT_ok {T : FsP} (h : OkT T) {dir ino : Int} {d m : NdP} {part : List UInt8} (hd : T.nd dir = some d) (hk : d.v.kind = 6) (hp : okN (strB part) = true) (hm : T.nd ino = some m) (hmk : m.v.kind ≠ 6) (hn : getK d.names part = none)
    (hclk : T.clock + 1 ≤ 9223372036854775807) : OkT (linkT T dir d part ino m) := by
  have hne : dir ≠ ino := fun e => by rw [e, hm] at hd; cases hd; exact hmk hk
  have hi1 : ino ≠ 1 := fun e => by
    obtain ⟨r, hr, hr6, _⟩ := h.root
    rw [e, hr] at hm; cases hm; exact hmk hr6
  have od := h.node dir d hd
  refine two_ok h (s := 1) hd hk hm hne hi1 (putK_ok od.sorted part ino hn) ?_ (fun k x hkx _ => putK_mem.2 (.inr hkx)) (fun e => absurd e hmk) ?_ (.inr rfl) (by omega) (.inr (by simp)) (fun e => by cases e) (fun e => absurd e hmk) (by rw [putK_len]; omega) ?_ ?_ hclk
  · intro p hp'
    rcases putK_mem.1 hp' with rfl | hp'
    · exact ⟨hp, hi1, .inr ⟨rfl, hmk⟩, fun e => by cases e⟩
    · obtain ⟨h1, h2, _⟩ := od.names p hp'
      exact ⟨h1, h2, .inl hp', fun e => by cases e⟩
  · intro x
    rw [putK_count]
    simp only [beq_iff_eq]
    split <;> simp
  · rfl
  · rfl
end Go.Proofs.YtjjgadanobeamaaGreatDoor

namespace Go.Proofs.YtjjgadanobeamaaGreatDoor
set_option linter.unusedVariables false
set_option linter.unusedSimpArgs false

theorem same_ok {T : FsP} (h : OkT T) {i : Int} {n n' : NdP} {used' : Int} (hn : T.nd i = some n) (h1 : n'.names = n.names) (h2 : n'.par = n.par) (h3 : n'.v.kind = n.v.kind) (h4 : n'.v.links = n.v.links)
    (h5 : OkD n'.data) (h6 : n'.v.kind ≠ 1 → n'.data = []) (h7 : ∀ p ∈ n'.data, endP p ≤ n'.v.size) (h8 : 0 ≤ n'.v.size ∧ n'.v.size ≤ 1099511627776) (h9 : n'.v.change = T.clock + 1)
    (h10 : 0 ≤ n'.v.mode ∧ n'.v.mode ≤ 4095) (h11 : 0 ≤ n'.v.user ∧ n'.v.user ≤ 2147483647) (h12 : 0 ≤ n'.v.group ∧ n'.v.group ≤ 2147483647) (h13 : -9223372036854775808 ≤ n'.v.time ∧ n'.v.time ≤ 9223372036854775807)
    (h14 : n'.v.major = n.v.major ∧ n'.v.minor = n.v.minor ∧ n'.v.tgt = n.v.tgt) (h15 : used' + (sizeD n.data : Nat) = T.used + (sizeD n'.data : Nat)) (h16 : used' ≤ T.quota) :
    OkT { T with clock := T.clock + 1, used := used', nd := updN T.nd i (some n') } := by
  have on := h.node i n hn
  have hN := h.next
  have hC := h.clock
  have hsum : ∀ g : Option NdP → Nat, sumN (updN T.nd i (some n')) g (T.next + 1).toNat + g (some n) = sumN T.nd g (T.next + 1).toNat + g (some n') := by
    intro g
    have e2 := sumN_upd T.nd g (some n') i (T.next + 1).toNat (by have := on.low; omega) (by have := on.high; omega)
    rw [hn] at e2
    exact e2
  have hlk : ∀ x, sumN (updN T.nd i (some n')) (gLink x) (T.next + 1).toNat = sumN T.nd (gLink x) (T.next + 1).toNat := by
    intro x
    have := hsum (gLink x)
    rw [gLink_some, gLink_some, h1] at this
    omega
  have hex : ∀ x a, T.nd x = some a → ∃ a', updN T.nd i (some n') x = some a' ∧ a'.v.kind = a.v.kind ∧ a'.par = a.par ∧ a'.names = a.names := by
    intro x a hx
    by_cases hxi : x = i
    · subst hxi
      rw [hn] at hx; cases hx
      exact ⟨n', updN_same _ _ _, h3, h2, h1⟩
    · exact ⟨a, by rw [updN_other _ _ hxi]; exact hx, rfl, rfl, rfl⟩
  have hstep : ∀ x a, T.nd x = some a → OkNd { T with clock := T.clock + 1, used := used', nd := updN T.nd i (some n') } x a := by
    intro x a hx
    refine (h.node x a hx).step (Int.le_refl _) (by simp only; omega) ?_ ?_ (hlk x)
    · intro p _ b hb
      obtain ⟨b', e1, e2, e3, _⟩ := hex p.2 b hb
      exact ⟨b', e1, e2, fun _ => e3⟩
    · rintro b hb hbk ⟨k, hkm⟩
      obtain ⟨b', e1, e2, e3, e4⟩ := hex _ b hb
      exact ⟨b', e1, by rw [e2]; exact hbk, k, by rw [e4]; exact hkm⟩
  refine ⟨?_, ?_, ⟨hN.1, by show T.next ≤ T.clock + 1 + 1; omega⟩, by show 0 ≤ T.clock + 1; omega, h.quota, ?_, h16, ?_, h.most, ?_⟩
  · obtain ⟨r, hr, hr6, hrp⟩ := h.root
    obtain ⟨a', e1, e2, e3, _⟩ := hex 1 r hr
    exact ⟨a', e1, by rw [e2]; exact hr6, by rw [e3]; exact hrp⟩
  · intro x a hx
    by_cases hxi : x = i
    · subst hxi
      have hx' : some n' = some a := by rw [← hx]; exact (updN_same _ _ _).symm
      cases hx'
      have o := hstep x n hn
      refine ⟨o.low, o.high, by rw [h1]; exact o.sorted, by rw [h1]; exact o.names, (fun e => by rw [h1]; exact o.file (by rw [← h3]; exact e)), h5, h6, h7, h8, ?_, by rw [h4]; exact o.links, by rw [h4]; exact o.most, by rw [h9]; show 0 ≤ T.clock + 1 ∧ T.clock + 1 ≤ T.clock + 1; omega, h10, h11, h12, h13, by rw [h3]; exact o.kind, by rw [h14.1, h14.2.1]; exact o.dev, by rw [h14.2.2]; exact o.tgt, ?_, by rw [h1]; exact o.few⟩
      · intro hk hx1
        rw [h2]
        exact o.par (by rw [← h3]; exact hk) hx1
      · intro hk
        rw [h4]; exact o.one (by rw [← h3]; exact hk)
    · exact hstep x a (by rw [← hx]; exact (updN_other _ _ hxi).symm)
  · have e1 := hsum gSize
    have e3 := h.used
    show used' = (sumN (updN T.nd i (some n')) gSize (T.next + 1).toNat : Nat)
    have e4 : gSize (some n) = sizeD n.data := rfl
    have e5 : gSize (some n') = sizeD n'.data := rfl
    omega
  · have e1 := hsum gOne
    have e3 := h.cnt
    show T.cnt = sumN (updN T.nd i (some n')) gOne (T.next + 1).toNat
    have e4 : gOne (some n) = 1 := rfl
    have e5 : gOne (some n') = 1 := rfl
    omega
  · obtain ⟨r, hr⟩ := h.rank
    refine ⟨r, ?_⟩
    intro x a hx hk6 hx1
    by_cases hxi : x = i
    · subst hxi
      have hx' : some n' = some a := by rw [← hx]; exact (updN_same _ _ _).symm
      cases hx'
      rw [h2]
      exact hr x n hn (by rw [← h3]; exact hk6) hx1
    · exact hr x a (by rw [← hx]; exact (updN_other _ _ hxi).symm) hk6 hx1

end Go.Proofs.YtjjgadanobeamaaGreatDoor

namespace Go.Proofs.YtjjgadanobeamaaGreatDoor
set_option linter.unusedVariables false
set_option linter.unusedSimpArgs false

end Go.Proofs.YtjjgadanobeamaaGreatDoor

namespace Go.Proofs.YtjjgadanobeamaaGreatDoor
open Go.RowKit
open Go.Maps (Keyed)
set_option linter.unusedVariables false
set_option linter.unusedSimpArgs false
set_option maxRecDepth 20000

/-! ### maps of nodes, and of names -/
def ptrR : Rdr := fun v => match v with
  | .pointer none => some (.nil, [])
  | .pointer (some a) => if a.off = 0 ∧ a.spot = none then some (.lit (.int .i64 a.block), []) else none
  | _ => none
def ptrV (o : Option Nat) : Value := .pointer (o.map fun b => ⟨b, 0, none⟩)
theorem ptrR_mk (b : Nat) : ptrR (.pointer (some ⟨b, 0, none⟩)) = some (.lit (.int .i64 b), []) := by simp [ptrR]
theorem ptrR_inv {v : Value} {b : Nat} {ps : List MemPlace} (h : ptrR v = some (.lit (.int .i64 b), ps)) : v = .pointer (some ⟨b, 0, none⟩) := by
  unfold ptrR at h
  split at h
  · cases h
  · rename_i a
    split at h
    · rename_i h2
      simp at h
      obtain ⟨x, o, s⟩ := a
      simp at h h2
      obtain ⟨rfl, rfl⟩ := h2
      have : x = b := by omega
      rw [this]
    · cases h
  · cases h
theorem ptrR_nil {v : Value} {ps : List MemPlace} (h : ptrR v = some (.nil, ps)) : v = .pointer none := by
  unfold ptrR at h
  split at h
  · rfl
  · split at h <;> cases h
  · cases h
def ndF (B : Int → Option Nat) : Lit → Option Dt
  | .int .i64 k => (B k).map fun b => .lit (.int .i64 b)
  | _ => none
def nmF (l : Nms) : Lit → Option Dt
  | .string s => (getK l s).map fun i => .lit (.int .i64 i)
  | _ => none
theorem ndF_upd (B : Int → Option Nat) (k : Int) (b : Nat) : updF (ndF B) (.int .i64 k) (.lit (.int .i64 b)) = ndF (fun j => if j = k then some b else B j) := by
  funext l
  unfold updF
  by_cases h : l.sameKey (.int .i64 k) = true
  · have := WideAt.sameKey_eq h
    subst this
    rw [if_pos h]
    simp [ndF]
  · rw [if_neg h]
    cases l with
    | int q n =>
      cases q <;> try rfl
      have : n ≠ k := fun e => h (by rw [e]; exact WideAt.sameKey_self trivial)
      simp [ndF, this]
    | _ => rfl
theorem nmF_put {l : Nms} (h : OkK l) (k : List UInt8) (i : Int) (hn : getK l k = none) : updF (nmF l) (.string k) (.lit (.int .i64 i)) = nmF (putK l k i) := by
  funext x
  unfold updF
  by_cases hx : x.sameKey (.string k) = true
  · have := WideAt.sameKey_eq hx
    subst this
    rw [if_pos hx]
    simp [nmF, getK_put h k i hn]
  · rw [if_neg hx]
    cases x with
    | string s =>
      have : s ≠ k := fun e => hx (by rw [e]; exact WideAt.sameKey_self trivial)
      simp [nmF, getK_put h k i hn, this]
    | _ => rfl
theorem nmF_nil : nmF [] = fun _ => none := by
  funext x
  cases x <;> rfl

theorem law_int : Keyed Tryz.prog 3 := Maps.int_keyed Tryz.underlying3
theorem law_str : Keyed Tryz.prog 9 := Maps.string_keyed Tryz.underlying9
theorem zeroPtr (w : World) : (zeroValue 43).run Tryz.prog w = .ok (.pointer none) w := by kernel_rfl
theorem zeroInt (w : World) : (zeroValue 3).run Tryz.prog w = .ok (.int .i64 0) w := by kernel_rfl
def NodesAt (w : World) (mb : Nat) (B : Int → Option Nat) (c : Nat) : Prop := MapF w Tryz.prog 3 ptrR mb (ndF B) c
def NamesAt (w : World) (mb : Nat) (l : Nms) : Prop := MapF w Tryz.prog 9 (plainElem Tryz.prog 3) mb (nmF l) l.length
theorem i64_wf {k : Int} (h : -9223372036854775808 ≤ k ∧ k ≤ 9223372036854775807) : (Lit.int .i64 k).wf = true := WalkArith.wf_i64 h
theorem nodes_ok {w : World} {mb : Nat} {B : Int → Option Nat} {c : Nat} (h : NodesAt w mb B c) (k : Int) (hk : -9223372036854775808 ≤ k ∧ k ≤ 9223372036854775807) :
    ∀ W, W.heap[mb]? = w.heap[mb]? → (Instr.lookup 49 (.map (some mb)) (.int .i64 k) true).run Tryz.prog W = .ok (.tuple #[ptrV (B k), .bool (B k).isSome]) W := by
  intro W hW
  have hm : NodesAt W mb B c := MapF.heap h hW
  obtain ⟨v, ps, hr, hv⟩ := MapF.look_ok hm law_int Tryz.underlying49 (zeroPtr W) (zd := .nil) (zp := []) rfl (Maps.keyOf_int_mk Tryz.underlying3 (i64_wf hk))
  rw [hr]
  cases hB : B k with
  | some b =>
    simp [ndF, hB] at hv
    rw [ptrR_inv hv]
    simp [ndF, hB, ptrV]
  | none =>
    simp [ndF, hB] at hv
    rw [ptrR_nil hv]
    simp [ndF, hB, ptrV]
theorem names_ok {w : World} {mb : Nat} {l : Nms} (h : NamesAt w mb l) (s : ByteArray) (hs : s.size ≤ maxLen) :
    ∀ W, W.heap[mb]? = w.heap[mb]? → (Instr.lookup 44 (.map (some mb)) (.string s) true).run Tryz.prog W = .ok (.tuple #[.int .i64 ((getK l s.data.toList).getD 0), .bool (getK l s.data.toList).isSome]) W := by
  intro W hW
  have hm : NamesAt W mb l := MapF.heap h hW
  obtain ⟨v, ps, hr, hv⟩ := MapF.look_ok hm law_str Tryz.underlying44 (zeroInt W) (plainElem_int Tryz.underlying3 (by decide)) (WideMaps.keyOf_string_mk Tryz.underlying9 hs)
  rw [hr]
  obtain ⟨a, rfl, ha, _⟩ := plainElem_int_inv Tryz.underlying3 hv
  cases hB : getK l s.data.toList with
  | some b =>
    simp [nmF, hB] at ha
    simp [nmF, hB, ha]
  | none =>
    simp [nmF, hB] at ha
    simp [nmF, hB, ha]
end Go.Proofs.YtjjgadanobeamaaGreatDoor
