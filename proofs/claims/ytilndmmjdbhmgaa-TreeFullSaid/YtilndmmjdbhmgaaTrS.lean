/-
  A tree of files on paper: a second name, and one taken away, keep what always holds.
-/
import Derived.Test.YtilndmmjdbhmgaaTrR
namespace Go.Proofs.Ytilndmmjdbhmgaa
set_option linter.unusedVariables false
set_option linter.unusedSimpArgs false

/-- A node with another number of names. -/
def linked (c k : Int) (m : NdP) : NdP := { m with v := { m.v with links := m.v.links + k, change := c } }
/-- A directory with other names. -/
def named (c : Int) (d : NdP) (l : Nms) : NdP := { touch c d with names := l }
def linkT (T : FsP) (dir : Int) (d : NdP) (part : List UInt8) (ino : Int) (m : NdP) : FsP :=
  { T with clock := T.clock + 1, nd := updN (updN T.nd dir (some (named (T.clock + 1) d (putK d.names part ino)))) ino (some (linked (T.clock + 1) 1 m)) }
def linkP (T : FsP) (dir : Int) (part : List UInt8) (ino : Int) : FsP × Int :=
  match T.nd ino with
  | none => (T, 10)
  | some m =>
    match T.nd dir with
    | none => (T, 10)
    | some d =>
      if d.v.kind = 6 then
        if okN (strB part) = true then
          if m.v.kind = 6 then (T, 13) else if (getK d.names part).isSome then (T, 11) else (linkT T dir d part ino m, 0)
        else (T, 9)
      else (T, 12)
def removeT (T : FsP) (dir : Int) (d : NdP) (part : List UInt8) (ino : Int) (m : NdP) : FsP :=
  if m.v.links = 1 then
    { T with clock := T.clock + 1, used := T.used - sizeD m.data, cnt := T.cnt - 1, nd := updN (updN T.nd dir (some (named (T.clock + 1) d (delK d.names part)))) ino none }
  else
    { T with clock := T.clock + 1, nd := updN (updN T.nd dir (some (named (T.clock + 1) d (delK d.names part)))) ino (some (linked (T.clock + 1) (-1) m)) }
def removeP (T : FsP) (dir : Int) (part : List UInt8) : FsP × Int :=
  match T.nd dir with
  | none => (T, 10)
  | some d =>
    if d.v.kind = 6 then
      if okN (strB part) = true then
        match getK d.names part with
        | none => (T, 10)
        | some ino =>
          match T.nd ino with
          | none => (T, 10)
          | some m => if m.names = [] then (removeT T dir d part ino m, 0) else (T, 13)
      else (T, 9)
    else (T, 12)

/-- Two nodes turn: a directory has other names, and what it names is another node, or gone. -/
theorem two_ok {T : FsP} (h : OkT T) {dir ino : Int} {d m : NdP} {l : Nms} {o : Option NdP} {s : Int} {used' : Int} {cnt' : Nat} (hd : T.nd dir = some d) (hk : d.v.kind = 6) (hm : T.nd ino = some m) (hne : dir ≠ ino) (hi1 : ino ≠ 1)
    (hl : OkK l) (hlm : ∀ p ∈ l, okN (strB p.1) = true ∧ p.2 ≠ 1 ∧ ((p ∈ d.names) ∨ (p.2 = ino ∧ m.v.kind ≠ 6)) ∧ (o = none → p.2 ≠ ino))
    (hdm : ∀ k x, (k, x) ∈ d.names → x ≠ ino → (k, x) ∈ l) (hdi : m.v.kind = 6 → o ≠ none → ∀ k, (k, ino) ∈ d.names → (k, ino) ∈ l)
    (hlink : ∀ x, ((l.countP (fun p => p.2 == x) : Nat) : Int) = d.names.countP (fun p => p.2 == x) + (if ino = x then s else 0))
    (ho : o = none ∨ o = some (linked (T.clock + 1) s m)) (hs : -1 ≤ s ∧ s ≤ 1) (hmn : m.names = [] ∨ o ≠ none)
    (h0 : o = none → m.v.links + s = 0) (hone : m.v.kind = 6 → o ≠ none → m.v.links + s = 1) (hlen : l.length ≤ d.names.length + 1)
    (hused : used' + (gSize (some m) : Nat) = T.used + (gSize o : Nat)) (hcnt : cnt' + gOne (some m) = T.cnt + gOne o)
    (hclk : T.clock + 1 ≤ 9223372036854775807) :
    OkT { T with clock := T.clock + 1, used := used', cnt := cnt', nd := updN (updN T.nd dir (some (named (T.clock + 1) d l))) ino o } := by
  have od := h.node dir d hd
  have om := h.node ino m hm
  have hN := h.next
  have hC := h.clock
  obtain ⟨c, hcd⟩ : ∃ c, c = T.clock + 1 := ⟨_, rfl⟩
  rw [← hcd] at ho ⊢
  obtain ⟨d', hdd⟩ : ∃ d', d' = named c d l := ⟨_, rfl⟩
  rw [← hdd]
  have d1 : d'.v.kind = 6 := by rw [hdd]; exact hk
  have d2 : d'.par = d.par := by rw [hdd]; rfl
  have d3 : d'.names = l := by rw [hdd]; rfl
  have nI : updN (updN T.nd dir (some d')) ino o ino = o := updN_same _ _ _
  have nD : updN (updN T.nd dir (some d')) ino o dir = some d' := by rw [updN_other _ _ hne, updN_same]
  have nO : ∀ x, x ≠ ino → x ≠ dir → updN (updN T.nd dir (some d')) ino o x = T.nd x := fun x h1 h2 => by rw [updN_other _ _ h1, updN_other _ _ h2]
  have hsum : ∀ g : Option NdP → Nat, sumN (updN (updN T.nd dir (some d')) ino o) g (T.next + 1).toNat + g (some d) + g (some m) = sumN T.nd g (T.next + 1).toNat + g (some d') + g o := by
    intro g
    have e1 := sumN_upd (updN T.nd dir (some d')) g o ino (T.next + 1).toNat (by have := om.low; omega) (by have := om.high; omega)
    have e2 := sumN_upd T.nd g (some d') dir (T.next + 1).toNat (by have := od.low; omega) (by have := od.high; omega)
    rw [updN_other _ _ (fun e => hne e.symm), hm] at e1
    rw [hd] at e2
    omega
  have hom : ∀ x, gLink x o = gLink x (some m) ∨ (o = none ∧ m.names = []) := by
    intro x
    rcases ho with e | e
    · exact .inr ⟨e, by rcases hmn with h1 | h1; exact h1; exact absurd e h1⟩
    · left; rw [e]; rfl
  have hlk : ∀ x, ((sumN (updN (updN T.nd dir (some d')) ino o) (gLink x) (T.next + 1).toNat : Nat) : Int) = (sumN T.nd (gLink x) (T.next + 1).toNat : Nat) + (if ino = x then s else 0) := by
    intro x
    have e1 := hsum (gLink x)
    have e2 := hlink x
    rw [gLink_some, gLink_some, gLink_some, d3] at e1
    rcases hom x with e | ⟨e, e'⟩
    · rw [e, gLink_some] at e1; omega
    · have e3 : gLink x o = 0 := by rw [e]; rfl
      rw [e3, e', List.countP_nil] at e1
      omega
  have lm := om.links
  rw [if_neg hi1] at lm
  -- where one is gone no name leads to it
  have hgone : o = none → ∀ x a, T.nd x = some a → x ≠ dir → ∀ p ∈ a.names, p.2 ≠ ino := by
    intro ho0 x a hx hxd p hp hpe
    have e1 := hlk ino
    rw [if_pos rfl] at e1
    have e2 := h0 ho0
    have e3 : sumN (updN (updN T.nd dir (some d')) ino o) (gLink ino) (T.next + 1).toNat = 0 := by omega
    have ox := h.node x a hx
    have e4 := sumN_zero e3 x.toNat (by have := ox.low; have := ox.high; omega)
    have e5 : ((x.toNat : Nat) : Int) = x := by have := ox.low; omega
    rw [e5] at e4
    have hxi : x ≠ ino := by
      intro e
      subst e
      rw [hm] at hx; cases hx
      rcases hmn with h1 | h1
      · rw [h1] at hp; cases hp
      · exact h1 ho0
    rw [nO x hxi hxd, hx, gLink_some, List.countP_eq_zero] at e4
    exact absurd (by simpa using hpe) (e4 p hp)
  have hex : ∀ x a, T.nd x = some a → (x = ino → o ≠ none) → ∃ a', updN (updN T.nd dir (some d')) ino o x = some a' ∧ a'.v.kind = a.v.kind ∧ (a.v.kind = 6 → a'.par = a.par) := by
    intro x a hx hxo
    by_cases hxi : x = ino
    · subst hxi
      rw [hm] at hx; cases hx
      rcases ho with e | e
      · exact absurd e (hxo rfl)
      · exact ⟨linked c s m, by rw [nI, e], rfl, fun _ => rfl⟩
    · by_cases hxd : x = dir
      · subst hxd
        rw [hd] at hx; cases hx
        exact ⟨d', nD, by rw [d1, hk], fun _ => d2⟩
      · exact ⟨a, by rw [nO x hxi hxd]; exact hx, rfl, fun _ => rfl⟩
  have hpr : ∀ x b, T.nd x = some b → b.v.kind = 6 → ∀ j a, T.nd j = some a → a.v.kind = 6 → (j = ino → o ≠ none) → (∃ k, (k, j) ∈ b.names) → ∃ b', updN (updN T.nd dir (some d')) ino o x = some b' ∧ b'.v.kind = 6 ∧ ∃ k, (k, j) ∈ b'.names := by
    rintro x b hx hb6 j a hj ha6 hjo ⟨k, hkm⟩
    by_cases hxi : x = ino
    · subst hxi
      rw [hm] at hx; cases hx
      rcases ho with e | e
      · rcases hmn with h1 | h1
        · rw [h1] at hkm; cases hkm
        · exact absurd e h1
      · exact ⟨linked c s m, by rw [nI, e], hb6, k, hkm⟩
    · by_cases hxd : x = dir
      · subst hxd
        rw [hd] at hx; cases hx
        refine ⟨d', nD, d1, k, ?_⟩
        rw [d3]
        by_cases hji : j = ino
        · subst hji
          rw [hm] at hj; cases hj
          exact hdi ha6 (hjo rfl) k hkm
        · exact hdm k j hkm hji
      · exact ⟨b, by rw [nO x hxi hxd]; exact hx, hb6, k, hkm⟩
  have hstep : ∀ x a, T.nd x = some a → x ≠ ino → x ≠ dir → OkNd { T with clock := c, used := used', cnt := cnt', nd := updN (updN T.nd dir (some d')) ino o } x a := by
    intro x a hx hxi hxd
    have ox := h.node x a hx
    refine ⟨ox.low, ox.high, ox.sorted, ?_, ox.file, ox.data, ox.plain, ox.inside, ox.size, ?_, ?_, ?_, ?_, ox.mode, ox.user, ox.group, ox.time, ox.kind, ox.dev, ox.tgt, ox.one, by have := ox.few; show (a.names.length : Int) ≤ c; omega⟩
    · intro p hp
      obtain ⟨h1, h2, b, h3, h4⟩ := ox.names p hp
      obtain ⟨b', e1, e2, e3⟩ := hex p.2 b h3 (fun e e' => hgone e' x a hx hxd p hp e)
      exact ⟨h1, h2, b', e1, fun hk' => by rw [e2] at hk'; rw [e3 hk']; exact h4 hk'⟩
    · intro hk' hx1
      obtain ⟨b, h1, h2, h3⟩ := ox.par hk' hx1
      exact hpr a.par b h1 h2 x a hx hk' (fun e => absurd e hxi) h3
    · have := hlk x
      rw [if_neg (fun e => hxi e.symm)] at this
      have e2 := ox.links
      show a.v.links = (sumN (updN (updN T.nd dir (some d')) ino o) (gLink x) (T.next + 1).toNat : Nat) + _
      rw [this]; simpa using e2
    · have := ox.most; show a.v.links ≤ c + 1; omega
    · have := ox.change; show 0 ≤ a.v.change ∧ a.v.change ≤ c; omega
  refine ⟨?_, ?_, ?_, ?_, ?_, ?_, ?_, ?_, ?_, ?_⟩
  · obtain ⟨r, hr, hr6, hrp⟩ := h.root
    obtain ⟨a', e1, e2, e3⟩ := hex 1 r hr (fun e => absurd e.symm hi1)
    exact ⟨a', e1, by rw [e2]; exact hr6, by rw [e3 hr6]; exact hrp⟩
  · intro x a hx
    by_cases hxi : x = ino
    · subst hxi
      have hx' : o = some a := by rw [← hx]; exact nI.symm
      rcases ho with e | e
      · rw [e] at hx'; cases hx'
      · rw [e] at hx'; cases hx'
        have hon : o ≠ none := by rw [e]; simp
        refine ⟨om.low, om.high, om.sorted, ?_, om.file, om.data, om.plain, om.inside, om.size, ?_, ?_, ?_, ?_, om.mode, om.user, om.group, om.time, om.kind, om.dev, om.tgt, fun hk' => by have := hone hk' hon; show m.v.links + s = 1; omega, by have := om.few; show (m.names.length : Int) ≤ c; omega⟩
        · intro p hp
          obtain ⟨h1, h2, b, h3, h4⟩ := om.names p hp
          obtain ⟨b', e1, e2, e3⟩ := hex p.2 b h3 (fun _ => hon)
          exact ⟨h1, h2, b', e1, fun hk' => by rw [e2] at hk'; rw [e3 hk']; exact h4 hk'⟩
        · intro hk' hx1
          obtain ⟨b, h1, h2, h3⟩ := om.par hk' hx1
          exact hpr m.par b h1 h2 x m hm hk' (fun _ => hon) h3
        · have := hlk x
          rw [if_pos rfl] at this
          show m.v.links + s = (sumN (updN (updN T.nd dir (some d')) x o) (gLink x) (T.next + 1).toNat : Nat) + _
          rw [this, if_neg hi1]; omega
        · have := om.most; show m.v.links + s ≤ c + 1; omega
        · show 0 ≤ c ∧ c ≤ c; omega
    · by_cases hxd : x = dir
      · subst hxd
        have hx' : some d' = some a := by rw [← hx]; exact nD.symm
        cases hx'
        refine ⟨od.low, od.high, by rw [d3]; exact hl, ?_, (fun e => absurd d1 e), by rw [hdd]; exact od.data, (fun _ => by rw [hdd]; exact od.plain (by rw [hk]; omega)), by rw [hdd]; exact od.inside, by rw [hdd]; exact od.size, ?_, ?_, ?_, ?_, by rw [hdd]; exact od.mode, by rw [hdd]; exact od.user, by rw [hdd]; exact od.group, ?_, by rw [hdd]; exact od.kind, by rw [hdd]; exact od.dev, by rw [hdd]; exact od.tgt, by rw [hdd]; exact od.one, by rw [d3]; have := od.few; show (l.length : Int) ≤ c; omega⟩
        · intro p hp
          rw [d3] at hp
          obtain ⟨h1, h2, h3, h5⟩ := hlm p hp
          refine ⟨h1, h2, ?_⟩
          rcases h3 with h3 | ⟨h3, h4⟩
          · obtain ⟨_, _, b, e1, e2⟩ := od.names p h3
            obtain ⟨b', e3, e4, e5⟩ := hex p.2 b e1 (fun e e' => h5 e' e)
            exact ⟨b', e3, fun hk' => by rw [e4] at hk'; rw [e5 hk']; exact e2 hk'⟩
          · obtain ⟨b', e3, e4, e5⟩ := hex p.2 m (by rw [h3]; exact hm) (fun e e' => h5 e' e)
            exact ⟨b', e3, fun hk' => by rw [e4] at hk'; exact absurd hk' h4⟩
        · intro _ hx1
          obtain ⟨b, h1, h2, h3⟩ := od.par hk hx1
          rw [d2]
          exact hpr d.par b h1 h2 x d hd hk (fun e => absurd e hxi) h3
        · have := hlk x
          rw [if_neg (fun e => hxi e.symm)] at this
          have e2 := od.links
          have e0 : d'.v.links = d.v.links := by rw [hdd]; rfl
          rw [e0]
          show d.v.links = (sumN (updN (updN T.nd x (some d')) ino o) (gLink x) (T.next + 1).toNat : Nat) + _
          rw [this]; simpa using e2
        · rw [hdd]; have := od.most; show d.v.links ≤ c + 1; omega
        · rw [hdd]; show 0 ≤ c ∧ c ≤ c; omega
        · rw [hdd]; show -9223372036854775808 ≤ c ∧ c ≤ _; omega
      · exact hstep x a (by rw [← hx]; exact (nO x hxi hxd).symm) hxi hxd
  · show 1 ≤ T.next ∧ T.next ≤ c + 1; omega
  · show 0 ≤ c; omega
  · exact h.quota
  · have e1 := hsum gSize
    have e2 : gSize (some d') = gSize (some d) := by rw [hdd]; rfl
    have e3 := h.used
    show used' = (sumN (updN (updN T.nd dir (some d')) ino o) gSize (T.next + 1).toNat : Nat)
    omega
  · have e1 := h.room
    show used' ≤ T.quota
    have e4 : gSize o ≤ gSize (some m) := by
      rcases ho with e | e
      · rw [e]; exact Nat.zero_le _
      · rw [e]; exact Nat.le_refl _
    omega
  · have e1 := hsum gOne
    have e3 := h.cnt
    show cnt' = sumN (updN (updN T.nd dir (some d')) ino o) gOne (T.next + 1).toNat
    have e2 : gOne (some d') = gOne (some d) := rfl
    omega
  · have e1 := h.most
    show cnt' ≤ 1000
    have e4 : gOne o ≤ gOne (some m) := by
      rcases ho with e | e
      · rw [e]; exact Nat.zero_le _
      · rw [e]; exact Nat.le_refl _
    omega
  · obtain ⟨r, hr⟩ := h.rank
    refine ⟨r, ?_⟩
    intro x a hx hk6 hx1
    by_cases hxi : x = ino
    · subst hxi
      have hx' : o = some a := by rw [← hx]; exact nI.symm
      rcases ho with e | e
      · rw [e] at hx'; cases hx'
      · rw [e] at hx'; cases hx'
        exact hr x m hm hk6 hx1
    · by_cases hxd : x = dir
      · subst hxd
        have hx' : some d' = some a := by rw [← hx]; exact nD.symm
        cases hx'
        rw [d2]
        exact hr x d hd hk hx1
      · exact hr x a (by rw [← hx]; exact (nO x hxi hxd).symm) hk6 hx1
theorem linkT_ok {T : FsP} (h : OkT T) {dir ino : Int} {d m : NdP} {part : List UInt8} (hd : T.nd dir = some d) (hk : d.v.kind = 6) (hp : okN (strB part) = true) (hm : T.nd ino = some m) (hmk : m.v.kind ≠ 6) (hn : getK d.names part = none)
    (hclk : T.clock + 1 ≤ 9223372036854775807) : OkT (linkT T dir d part ino m) := by
  have hne : dir ≠ ino := fun e => by rw [e, hm] at hd; cases hd; exact hmk hk
  have hi1 : ino ≠ 1 := fun e => by
    obtain ⟨r, hr, hr6, _⟩ := h.root
    rw [e, hr] at hm; cases hm; exact hmk hr6
  have od := h.node dir d hd
  refine two_ok h (s := 1) hd hk hm hne hi1 (putK_ok od.sorted part ino hn) ?_ (fun k x hkx _ => putK_mem.2 (.inr hkx)) (fun e => absurd e hmk) ?_ (.inr rfl) (by omega) (.inr (by simp)) (fun e => by cases e) (fun e => absurd e hmk) (by rw [putK_len]; omega) ?_ ?_ hclk
  · intro p hp'
    rcases putK_mem.1 hp' with rfl | hp'
    · exact ⟨hp, hi1, .inr ⟨rfl, hmk⟩, fun e => by cases e⟩
    · obtain ⟨h1, h2, _⟩ := od.names p hp'
      exact ⟨h1, h2, .inl hp', fun e => by cases e⟩
  · intro x
    rw [putK_count]
    simp only [beq_iff_eq]
    split <;> simp
  · rfl
  · rfl
theorem removeT_ok {T : FsP} (h : OkT T) {dir ino : Int} {d m : NdP} {part : List UInt8} (hd : T.nd dir = some d) (hk : d.v.kind = 6) (hg : getK d.names part = some ino) (hm : T.nd ino = some m) (hmn : m.names = [])
    (hclk : T.clock + 1 ≤ 9223372036854775807) : OkT (removeT T dir d part ino m) := by
  have od := h.node dir d hd
  have hmem := getK_mem hg
  have hne : dir ≠ ino := fun e => by rw [e, hm] at hd; cases hd; rw [hmn] at hmem; cases hmem
  have hi1 : ino ≠ 1 := (od.names _ hmem).2.1
  have om := h.node ino m hm
  have hcount : ∀ x, (((delK d.names part).countP (fun p => p.2 == x) : Nat) : Int) = d.names.countP (fun p => p.2 == x) + (if ino = x then -1 else 0) := by
    intro x
    have := delK_count od.sorted hg (fun p => p.2 == x)
    simp only [beq_iff_eq] at this
    split <;> rename_i hx
    · rw [if_pos hx] at this; omega
    · rw [if_neg hx] at this; omega
  -- a directory has one name alone
  have hdi : m.v.kind = 6 → m.v.links = 1 := om.one
  unfold removeT
  split
  · rename_i hl1
    refine two_ok h (s := -1) (o := none) hd hk hm hne hi1 (delK_ok od.sorted part) ?_ ?_ (fun _ e => absurd rfl e) hcount (.inl rfl) (by omega) (.inl hmn) (fun _ => by omega) (fun _ e => absurd rfl e) (by have := delK_len od.sorted hg; omega) ?_ ?_ hclk
    · intro p hp
      obtain ⟨hp1, hp2⟩ := delK_mem.1 hp
      obtain ⟨h1, h2, _⟩ := od.names p hp1
      refine ⟨h1, h2, .inl hp1, fun _ e => ?_⟩
      have e1 := delK_count od.sorted hg (fun p => p.2 == ino)
      have e2 := @sumN_le T.nd (gLink ino) (T.next + 1).toNat dir.toNat (by have := od.low; have := od.high; omega)
      have e3 : ((dir.toNat : Nat) : Int) = dir := by have := od.low; omega
      rw [e3, hd, gLink_some] at e2
      have e4 := om.links
      rw [if_neg hi1] at e4
      simp only [beq_self_eq_true, if_true] at e1
      have e5 : (delK d.names part).countP (fun p => p.2 == ino) = 0 := by omega
      rw [List.countP_eq_zero] at e5
      exact absurd (by simpa using e) (e5 p hp)
    · intro k x hkx hxi
      refine delK_mem.2 ⟨hkx, fun e => hxi ?_⟩
      simp only at e
      subst e
      exact od.sorted.inj hkx hmem
    · show T.used - (sizeD m.data : Nat) + (gSize (some m) : Nat) = T.used + ((0 : Nat) : Int)
      have e : gSize (some m) = sizeD m.data := rfl
      omega
    · have := h.cnt
      have h1 := @sumN_le T.nd gOne (T.next + 1).toNat ino.toNat (by have := om.low; have := om.high; omega)
      have h2 : ((ino.toNat : Nat) : Int) = ino := by have := om.low; omega
      rw [h2, hm] at h1
      have h3 : gOne (some m) = 1 := rfl
      have h4 : gOne none = 0 := rfl
      omega
  · rename_i hl1
    refine two_ok h (s := -1) (o := some (linked (T.clock + 1) (-1) m)) hd hk hm hne hi1 (delK_ok od.sorted part) ?_ ?_ (fun e => absurd (hdi e) hl1) hcount (.inr rfl) (by omega) (.inr (by simp)) (fun e => by cases e) (fun e => absurd (hdi e) hl1) (by have := delK_len od.sorted hg; omega) ?_ ?_ hclk
    · intro p hp
      obtain ⟨hp1, hp2⟩ := delK_mem.1 hp
      obtain ⟨h1, h2, _⟩ := od.names p hp1
      exact ⟨h1, h2, .inl hp1, fun e => by cases e⟩
    · intro k x hkx hxi
      refine delK_mem.2 ⟨hkx, fun e => hxi ?_⟩
      simp only at e
      subst e
      exact od.sorted.inj hkx hmem
    · rfl
    · rfl
end Go.Proofs.Ytilndmmjdbhmgaa
