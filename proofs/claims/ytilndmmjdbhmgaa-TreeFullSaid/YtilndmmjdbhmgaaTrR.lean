/-
  A tree of files on paper: making a node keeps what always holds.
-/
import Derived.Test.YtilndmmjdbhmgaaTrQ
namespace Go.Proofs.Ytilndmmjdbhmgaa
set_option linter.unusedVariables false
set_option linter.unusedSimpArgs false

theorem sumN_all0 {nd : Int → Option NdP} {g : Option NdP → Nat} {n : Nat} (h : ∀ j : Nat, j < n → g (nd (j : Int)) = 0) : sumN nd g n = 0 := by
  induction n with
  | zero => rfl
  | succ n ih => rw [sumN_succ, ih (fun j hj => h j (by omega)), h n (by omega)]
theorem putK_count (l : Nms) (k : List UInt8) (i : Int) (q : List UInt8 × Int → Bool) : (putK l k i).countP q = l.countP q + (if q (k, i) then 1 else 0) := by
  unfold putK
  conv => rhs; rw [← List.takeWhile_append_dropWhile (p := fun p : List UInt8 × Int => decide (p.1 < k)) (l := l)]
  rw [List.countP_append, List.countP_append, List.countP_cons]
  omega
theorem delK_count {l : Nms} (h : OkK l) {k : List UInt8} {i : Int} (hg : getK l k = some i) (q : List UInt8 × Int → Bool) : (delK l k).countP q + (if q (k, i) then 1 else 0) = l.countP q := by
  have hm := getK_mem hg
  clear hg
  induction l with
  | nil => cases hm
  | cons p t ih =>
    obtain ⟨h1, h2⟩ := List.pairwise_cons.1 h
    unfold delK
    rw [List.filter_cons]
    by_cases hp : p.1 = k
    · have hr : t.filter (fun p => p.1 != k) = t := by
        rw [List.filter_eq_self]
        intro q hq
        have := h1 q hq
        rw [hp] at this
        simp
        intro e
        rw [e] at this
        exact lt_irr _ this
      have hpe : p = (k, i) := by
        rcases List.mem_cons.1 hm with e | hm'
        · exact e.symm
        · have := h1 _ hm'
          rw [hp] at this
          exact absurd this (lt_irr _)
      rw [if_neg (by simp [hp]), hr, List.countP_cons, hpe]
    · rcases List.mem_cons.1 hm with e | hm
      · exact absurd (congrArg Prod.fst e).symm hp
      · rw [if_pos (by simpa using hp), List.countP_cons, List.countP_cons]
        have := ih h2 hm
        unfold delK at this
        omega
theorem gLink_some (i : Int) (n : NdP) : gLink i (some n) = n.names.countP (fun p => p.2 == i) := rfl
theorem gLink_zero {T : FsP} (h : OkT T) (i : Int) (hi : T.nd i = none) (N : Nat) : sumN T.nd (gLink i) N = 0 := by
  refine sumN_all0 (fun j hj => ?_)
  cases hn : T.nd (j : Int) with
  | none => rfl
  | some n =>
    rw [gLink_some, List.countP_eq_zero]
    intro p hp
    obtain ⟨m, hm, _⟩ := ((h.node _ n hn).names p hp).2.2
    simp
    intro e
    rw [e, hi] at hm
    cases hm

/-- What holds of a node goes on while others change. -/
theorem OkNd.step {T T' : FsP} {j : Int} {m : NdP} (h : OkNd T j m) (hnext : T.next ≤ T'.next) (hclock : T.clock ≤ T'.clock)
    (hex : ∀ p ∈ m.names, ∀ a, T.nd p.2 = some a → ∃ a', T'.nd p.2 = some a' ∧ a'.v.kind = a.v.kind ∧ (a.v.kind = 6 → a'.par = a.par))
    (hpar : ∀ d, T.nd m.par = some d → d.v.kind = 6 → (∃ k, (k, j) ∈ d.names) → ∃ d', T'.nd m.par = some d' ∧ d'.v.kind = 6 ∧ ∃ k, (k, j) ∈ d'.names)
    (hlinks : sumN T'.nd (gLink j) (T'.next + 1).toNat = sumN T.nd (gLink j) (T.next + 1).toNat) : OkNd T' j m where
  low := h.low
  high := by have := h.high; omega
  sorted := h.sorted
  names := fun p hp => by
    obtain ⟨h1, h2, a, h3, h4⟩ := h.names p hp
    obtain ⟨a', e1, e2, e3⟩ := hex p hp a h3
    exact ⟨h1, h2, a', e1, fun hk => by rw [e2] at hk; rw [e3 hk]; exact h4 hk⟩
  file := h.file
  data := h.data
  plain := h.plain
  inside := h.inside
  size := h.size
  par := fun hk hj => by
    obtain ⟨d, h1, h2, h3⟩ := h.par hk hj
    exact hpar d h1 h2 h3
  links := by rw [hlinks]; exact h.links
  most := by have := h.most; omega
  change := by have := h.change; omega
  mode := h.mode
  user := h.user
  group := h.group
  time := h.time
  kind := h.kind
  dev := h.dev
  tgt := h.tgt
  one := h.one
  few := by have := h.few; omega

theorem makeT_ok {T : FsP} (h : OkT T) {dir : Int} {d : NdP} {part : List UInt8} {n : NodeV} (hd : T.nd dir = some d) (hk : d.v.kind = 6) (hp : okN (strB part) = true) (hm : mayB n = true) (hn : getK d.names part = none) (hc : T.cnt < 1000)
    (ht : -9223372036854775808 ≤ n.time ∧ n.time ≤ 9223372036854775807) (hclk : T.clock + 1 ≤ 9223372036854775807) : OkT (makeT T dir d part n) := by
  have od := h.node dir d hd
  have hN := h.next
  have hC := h.clock
  have hi0 : T.nd (T.next + 1) = none := by
    cases e : T.nd (T.next + 1) with
    | none => rfl
    | some x => have := (h.node _ x e).high; omega
  have hdi : dir ≠ T.next + 1 := by have := od.high; omega
  obtain ⟨c, hcd⟩ : ∃ c, c = T.clock + 1 := ⟨_, rfl⟩
  obtain ⟨i, hid⟩ : ∃ i, i = T.next + 1 := ⟨_, rfl⟩
  obtain ⟨d', hdd⟩ : ∃ d', d' = ({ touch c d with names := putK d.names part i } : NdP) := ⟨_, rfl⟩
  obtain ⟨f, hfd⟩ : ∃ f, f = freshN n c dir := ⟨_, rfl⟩
  have hT : makeT T dir d part n = { T with clock := c, next := i, cnt := T.cnt + 1, nd := updN (updN T.nd dir (some d')) i (some f) } := by
    unfold makeT; rw [hdd, hfd, hid, hcd]
  rw [hT]
  rw [← hid] at hdi hi0
  have d1 : d'.v.kind = 6 := by rw [hdd]; exact hk
  have d2 : d'.par = d.par := by rw [hdd]; rfl
  have d3 : d'.names = putK d.names part i := by rw [hdd]
  have nI : ∀ g : Option NdP → Nat, updN (updN T.nd dir (some d')) i (some f) i = some f := fun _ => updN_same _ _ _
  have nD : updN (updN T.nd dir (some d')) i (some f) dir = some d' := by rw [updN_other _ _ hdi, updN_same]
  have nO : ∀ x, x ≠ i → x ≠ dir → updN (updN T.nd dir (some d')) i (some f) x = T.nd x := fun x h1 h2 => by rw [updN_other _ _ h1, updN_other _ _ h2]
  have hex : ∀ x a, T.nd x = some a → ∃ a', updN (updN T.nd dir (some d')) i (some f) x = some a' ∧ a'.v.kind = a.v.kind ∧ (a.v.kind = 6 → a'.par = a.par) ∧ (∀ p ∈ a.names, p ∈ a'.names) := by
    intro x a hx
    have hxi : x ≠ i := fun e => by rw [e, hi0] at hx; cases hx
    by_cases hxd : x = dir
    · subst hxd
      rw [hd] at hx; cases hx
      exact ⟨d', nD, by rw [d1, hk], fun _ => d2, fun p hp => by rw [d3]; exact putK_mem.2 (.inr hp)⟩
    · exact ⟨a, by rw [nO x hxi hxd]; exact hx, rfl, fun _ => rfl, fun p hp => hp⟩
  have hNat : (i + 1).toNat = (T.next + 1).toNat + 1 := by omega
  have hcast : (((T.next + 1).toNat : Nat) : Int) = i := by omega
  have hsum : ∀ g : Option NdP → Nat, sumN (updN (updN T.nd dir (some d')) i (some f)) g (i + 1).toNat + g (some d) = sumN T.nd g (T.next + 1).toNat + g (some d') + g (some f) := by
    intro g
    rw [hNat, sumN_succ, hcast, updN_same]
    have e1 : sumN (updN (updN T.nd dir (some d')) i (some f)) g (T.next + 1).toNat = sumN (updN T.nd dir (some d')) g (T.next + 1).toNat := sumN_congr (fun j hj => by rw [updN_other _ _ (by omega)])
    have e2 := sumN_upd T.nd g (some d') dir (T.next + 1).toNat (by have := od.low; omega) (by have := od.high; omega)
    rw [hd] at e2
    omega
  have hf0 : f.names = [] := by rw [hfd]; rfl
  have hlink : ∀ x, sumN (updN (updN T.nd dir (some d')) i (some f)) (gLink x) (i + 1).toNat = sumN T.nd (gLink x) (T.next + 1).toNat + (if i = x then 1 else 0) := by
    intro x
    have := hsum (gLink x)
    rw [gLink_some, gLink_some, gLink_some, hf0, d3, putK_count] at this
    simp only [beq_iff_eq, List.countP_nil] at this
    omega
  have hstep : ∀ x a, T.nd x = some a → ∀ T' : FsP, T' = { T with clock := c, next := i, cnt := T.cnt + 1, nd := updN (updN T.nd dir (some d')) i (some f) } → OkNd T' x a := by
    intro x a hx T' hT'
    subst hT'
    have ox := h.node x a hx
    refine ox.step (by simp only; omega) (by simp only; omega) ?_ ?_ ?_
    · intro p _ b hb
      obtain ⟨b', e1, e2, e3, _⟩ := hex p.2 b hb
      exact ⟨b', e1, e2, e3⟩
    · rintro b hb hbk ⟨k, hkm⟩
      obtain ⟨b', e1, e2, e3, e4⟩ := hex _ b hb
      exact ⟨b', e1, by rw [e2]; exact hbk, k, e4 _ hkm⟩
    · rw [hlink, if_neg (by have := ox.high; omega)]; rfl
  have hmb := hm
  unfold mayB at hmb
  simp only [Bool.and_eq_true, decide_eq_true_eq, Bool.or_eq_true, beq_iff_eq] at hmb
  refine ⟨?_, ?_, ?_, ?_, ?_, ?_, ?_, ?_, ?_, ?_⟩
  · obtain ⟨r, hr, hr6, hrp⟩ := h.root
    obtain ⟨a', e1, e2, e3, _⟩ := hex 1 r hr
    exact ⟨a', e1, by rw [e2]; exact hr6, by rw [e3 hr6]; exact hrp⟩
  · intro x a hx
    by_cases hxi : x = i
    · subst hxi
      have hx' : some f = some a := by rw [← hx]; exact (updN_same _ _ _).symm
      cases hx'
      have fk : f.v.kind = n.kind := by rw [hfd]; rfl
      refine ⟨by omega, Int.le_refl _, by rw [hf0]; exact List.Pairwise.nil, (fun p hp => by rw [hf0] at hp; cases hp), fun _ => hf0, ?_, ?_, ?_, ?_, ?_, ?_, ?_, ?_, ?_, ?_, ?_, ?_, ?_, ?_, ?_, ?_, by rw [hf0]; show (0 : Int) ≤ c; omega⟩
      · rw [hfd]; exact OkD.nil
      · intro _; rw [hfd]; rfl
      · intro p hp; rw [hfd] at hp; cases hp
      · rw [hfd]; show 0 ≤ n.size ∧ n.size ≤ _; omega
      · intro hk6 _
        have hpd : f.par = dir := by rw [hfd]; unfold freshN; simp only; rw [if_pos (by rw [← fk]; exact hk6)]
        refine ⟨d', by rw [hpd]; exact nD, d1, part, by rw [d3]; exact putK_mem.2 (.inl rfl)⟩
      · rw [hlink, gLink_zero h _ hi0, if_pos rfl, if_neg (by omega), hfd]; rfl
      · rw [hfd]; show (1 : Int) ≤ c + 1; omega
      · rw [hfd]; show 0 ≤ c ∧ c ≤ c; omega
      · rw [hfd]; show 0 ≤ n.mode ∧ n.mode ≤ _; omega
      · rw [hfd]; show 0 ≤ n.user ∧ n.user ≤ _; omega
      · rw [hfd]; show 0 ≤ n.group ∧ n.group ≤ _; omega
      · rw [hfd]; exact ht
      · rw [fk]; omega
      · rw [hfd]
        show 0 ≤ n.major ∧ n.major ≤ _ ∧ 0 ≤ n.minor ∧ n.minor ≤ _
        have := hmb.1.1.1.1.2
        split at this <;> simp at this <;> omega
      · rw [hfd]
        show n.tgt.size ≤ 1024
        have := hmb.1.1.1.1.1.2
        split at this
        · simp at this; exact this.1.2
        · have e : n.tgt.toList.length = n.tgt.size := by rw [ByteArray.toList_eq]; rfl
          rw [List.isEmpty_iff] at this
          rw [this] at e
          simp at e
          omega
      · intro _; rw [hfd]; rfl
    · by_cases hxd : x = dir
      · subst hxd
        have hx' : some d' = some a := by rw [← hx]; exact nD.symm
        cases hx'
        have o := hstep x d hd _ rfl
        refine ⟨o.low, o.high, ?_, ?_, (fun e => absurd d1 e), ?_, (fun _ => ?_), ?_, ?_, ?_, ?_, ?_, ?_, ?_, ?_, ?_, ?_, ?_, ?_, ?_, ?_, ?_⟩
        · rw [d3]; exact putK_ok od.sorted _ _ hn
        · intro p hpm
          rw [d3] at hpm
          rcases putK_mem.1 hpm with rfl | hpm
          · refine ⟨hp, by omega, f, updN_same _ _ _, ?_⟩
            intro hk6
            rw [hfd] at hk6 ⊢
            unfold freshN at hk6 ⊢
            simp only at hk6 ⊢
            rw [if_pos hk6]
          · exact o.names p hpm
        · rw [hdd]; exact o.data
        · rw [hdd]; exact o.plain (by rw [hk]; omega)
        · rw [hdd]; exact o.inside
        · rw [hdd]; exact o.size
        · intro _ hx1
          rw [d2]
          exact o.par hk hx1
        · have e0 : d'.v.links = d.v.links := by rw [hdd]; rfl
          rw [e0]; exact o.links
        · rw [hdd]; exact o.most
        · rw [hdd]; show 0 ≤ c ∧ c ≤ c; omega
        · rw [hdd]; exact o.mode
        · rw [hdd]; exact o.user
        · rw [hdd]; exact o.group
        · rw [hdd]; show -9223372036854775808 ≤ c ∧ c ≤ _; omega
        · rw [hdd]; exact o.kind
        · rw [hdd]; exact o.dev
        · rw [hdd]; exact o.tgt
        · rw [hdd]; exact o.one
        · rw [d3, putK_len]; have := od.few; show ((d.names.length + 1 : Nat) : Int) ≤ c; omega
      · exact hstep x a (by rw [← hx]; exact (nO x hxi hxd).symm) _ rfl
  · show 1 ≤ i ∧ i ≤ c + 1; omega
  · show 0 ≤ c; omega
  · exact h.quota
  · have := hsum gSize
    have e1 : gSize (some d') = gSize (some d) := by rw [hdd]; rfl
    have e2 : gSize (some f) = 0 := by rw [hfd]; rfl
    have hu := h.used
    show T.used = (sumN (updN (updN T.nd dir (some d')) i (some f)) gSize (i + 1).toNat : Nat)
    omega
  · exact h.room
  · have := hsum gOne
    have hu := h.cnt
    show T.cnt + 1 = sumN (updN (updN T.nd dir (some d')) i (some f)) gOne (i + 1).toNat
    have e1 : gOne (some d') = 1 := rfl
    have e2 : gOne (some f) = 1 := rfl
    have e3 : gOne (some d) = 1 := rfl
    omega
  · show T.cnt + 1 ≤ 1000; omega
  · obtain ⟨r, hr⟩ := h.rank
    refine ⟨fun x => if x = i then r dir + 1 else r x, ?_⟩
    intro x a hx hk6 hx1
    by_cases hxi : x = i
    · subst hxi
      have hx' : some f = some a := by rw [← hx]; exact (updN_same _ _ _).symm
      cases hx'
      have hpd : f.par = dir := by rw [hfd] at hk6 ⊢; unfold freshN at hk6 ⊢; simp only at hk6 ⊢; rw [if_pos hk6]
      simp only [if_true]
      rw [hpd, if_neg hdi]; omega
    · have key : ∃ b, T.nd x = some b ∧ b.v.kind = 6 ∧ b.par = a.par := by
        by_cases hxd : x = dir
        · subst hxd
          have hx' : some d' = some a := by rw [← hx]; exact nD.symm
          cases hx'
          exact ⟨d, hd, hk, d2.symm⟩
        · exact ⟨a, by rw [← hx]; exact (nO x hxi hxd).symm, hk6, rfl⟩
      obtain ⟨b, hb, hb6, hbp⟩ := key
      have := hr x b hb hb6 hx1
      obtain ⟨q, hq, _⟩ := (h.node x b hb).par hb6 hx1
      simp only
      rw [← hbp, if_neg hxi, if_neg (fun e => by rw [e, hi0] at hq; cases hq)]
      exact this
end Go.Proofs.Ytilndmmjdbhmgaa
