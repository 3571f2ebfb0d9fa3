/-
  A tree of files on paper: a name that is moved keeps what always holds.
-/
import Derived.Test.YtilndmmjdbhmgaaTrU
namespace Go.Proofs.Ytilndmmjdbhmgaa
set_option linter.unusedVariables false
set_option linter.unusedSimpArgs false

theorem moveT_ok {T : FsP} (h : OkT T) {dir dst ino : Int} {d e m : NdP} {part asn : List UInt8} (hd : T.nd dir = some d) (hk : d.v.kind = 6) (he : T.nd dst = some e) (hek : e.v.kind = 6) (hp : okN (strB asn) = true) (hg : getK d.names part = some ino) (ha : getK e.names asn = none)
    (hm : T.nd ino = some m) (hup : m.v.kind = 6 → ¬ Up T ino dst) (hclk : T.clock + 1 ≤ 9223372036854775807) : OkT (moveT T dir d part dst e asn ino m) := by
  have od := h.node dir d hd
  have oe := h.node dst e he
  have om := h.node ino m hm
  have hN := h.next
  have hC := h.clock
  have hmem := getK_mem hg
  have hi1 : ino ≠ 1 := (od.names _ hmem).2.1
  obtain ⟨r, hr⟩ := h.rank
  -- a child lies deeper
  have hdeep : ∀ x a, T.nd x = some a → ∀ y, (∃ k, (k, y) ∈ a.names) → ∀ b, T.nd y = some b → b.v.kind = 6 → r x < r y := by
    rintro x a hx y ⟨k, hky⟩ b hb hb6
    obtain ⟨_, h2, b', h3, h4⟩ := (h.node x a hx).names _ hky
    simp only at h2 h3
    rw [hb] at h3; cases h3
    have := hr y b hb hb6 h2
    rw [h4 hb6] at this
    exact this
  have hdn : dir ≠ ino := fun q => by
    subst q
    rw [hd] at hm; cases hm
    exact Nat.lt_irrefl _ (hdeep dir d hd dir ⟨part, hmem⟩ d hd hk)
  have htn : dst ≠ ino := fun q => by
    subst q
    rw [he] at hm; cases hm
    exact hup hek Up.self
  obtain ⟨c, hcd⟩ : ∃ c, c = T.clock + 1 := ⟨_, rfl⟩
  obtain ⟨d1, hd1⟩ : ∃ d1, d1 = named c d (delK d.names part) := ⟨_, rfl⟩
  obtain ⟨e1, he1⟩ : ∃ e1, e1 = (if dst = dir then named c d (putK (delK d.names part) asn ino) else named c e (putK e.names asn ino)) := ⟨_, rfl⟩
  obtain ⟨m1, hm1⟩ : ∃ m1, m1 = moved c dst m := ⟨_, rfl⟩
  obtain ⟨nd, hnd⟩ : ∃ nd, nd = updN (updN (updN T.nd dir (some d1)) dst (some e1)) ino (some m1) := ⟨_, rfl⟩
  have hT : moveT T dir d part dst e asn ino m = { T with clock := c, nd := nd } := by
    unfold moveT cutN; rw [hnd, hd1, he1, hm1, hcd]
  rw [hT]
  have nI : nd ino = some m1 := by rw [hnd, updN_same]
  have nT : nd dst = some e1 := by rw [hnd, updN_other _ _ htn, updN_same]
  have nD : dst ≠ dir → nd dir = some d1 := fun q => by rw [hnd, updN_other _ _ hdn, updN_other _ _ (fun q' => q q'.symm), updN_same]
  have nO : ∀ x, x ≠ ino → x ≠ dst → x ≠ dir → nd x = T.nd x := fun x q1 q2 q3 => by rw [hnd, updN_other _ _ q1, updN_other _ _ q2, updN_other _ _ q3]
  have hdelok := delK_ok od.sorted part
  have hasn : dst = dir → getK (delK d.names part) asn = none := fun q => by
    rw [getK_del od.sorted]
    subst q
    rw [hd] at he; cases he
    rw [ha]; split <;> rfl
  have ev : e1.v.kind = 6 ∧ e1.par = e.par ∧ e1.data = e.data ∧ OkK e1.names ∧ (∀ p, p ∈ e1.names ↔ p = (asn, ino) ∨ (p ∈ e.names ∧ (dst = dir → p.1 ≠ part))) := by
    rw [he1]
    split
    · rename_i q
      have q' := q
      subst q'
      rw [hd] at he; cases he
      refine ⟨hk, rfl, rfl, putK_ok hdelok asn ino (hasn q), fun p => ?_⟩
      show p ∈ putK (delK d.names part) asn ino ↔ _
      rw [putK_mem, delK_mem]
      simp
    · rename_i q
      refine ⟨hek, rfl, rfl, putK_ok oe.sorted asn ino ha, fun p => ?_⟩
      show p ∈ putK e.names asn ino ↔ _
      rw [putK_mem]
      simp [q]
  obtain ⟨ev1, ev2, ev3, ev4, ev5⟩ := ev
  have m1k : m1.v.kind = m.v.kind := by rw [hm1]; rfl
  have m1n : m1.names = m.names := by rw [hm1]; rfl
  -- each node goes on, with the same kind; its names but the one
  have hex : ∀ x a, T.nd x = some a → ∃ a', nd x = some a' ∧ a'.v.kind = a.v.kind ∧ a'.data = a.data ∧ (x ≠ ino → a'.par = a.par) ∧ (∀ k y, (k, y) ∈ a.names → ¬ (x = dir ∧ k = part) → (k, y) ∈ a'.names) := by
    intro x a hx
    by_cases q1 : x = ino
    · subst q1
      rw [hm] at hx; cases hx
      exact ⟨m1, nI, m1k, by rw [hm1]; rfl, fun q => absurd rfl q, fun k y hky _ => by rw [m1n]; exact hky⟩
    · by_cases q2 : x = dst
      · subst q2
        rw [he] at hx; cases hx
        exact ⟨e1, nT, by rw [ev1, hek], ev3, fun _ => ev2, fun k y hky hno => (ev5 _).2 (.inr ⟨hky, fun q q' => hno ⟨q, q'⟩⟩)⟩
      · by_cases q3 : x = dir
        · subst q3
          rw [hd] at hx; cases hx
          refine ⟨d1, nD (fun q => q2 q.symm), by rw [hd1]; rfl, by rw [hd1]; rfl, fun _ => by rw [hd1]; rfl, fun k y hky hno => ?_⟩
          rw [hd1]
          exact delK_mem.2 ⟨hky, fun q => hno ⟨rfl, q⟩⟩
        · exact ⟨a, by rw [nO x q1 q2 q3]; exact hx, rfl, rfl, fun _ => rfl, fun k y hky _ => hky⟩
  -- .. and back
  have hback : ∀ x a', nd x = some a' → ∃ a, T.nd x = some a ∧ a'.v.kind = a.v.kind ∧ (∀ k y, (k, y) ∈ a'.names → (x = dst ∧ k = asn ∧ y = ino) ∨ ((k, y) ∈ a.names ∧ ¬ (x = dir ∧ k = part))) := by
    intro x a' hx
    by_cases q1 : x = ino
    · subst q1
      rw [nI] at hx; cases hx
      exact ⟨m, hm, m1k, fun k y hky => .inr ⟨by rw [← m1n]; exact hky, fun q => hdn q.1.symm⟩⟩
    · by_cases q2 : x = dst
      · subst q2
        rw [nT] at hx; cases hx
        refine ⟨e, he, by rw [ev1, hek], fun k y hky => ?_⟩
        rcases (ev5 _).1 hky with q | ⟨q, q'⟩
        · cases q; exact .inl ⟨rfl, rfl, rfl⟩
        · exact .inr ⟨q, fun z => q' z.1 z.2⟩
      · by_cases q3 : x = dir
        · subst q3
          rw [nD (fun q => q2 q.symm)] at hx; cases hx
          refine ⟨d, hd, by rw [hd1]; rfl, fun k y hky => ?_⟩
          rw [hd1] at hky
          obtain ⟨z1, z2⟩ := delK_mem.1 hky
          exact .inr ⟨z1, fun z => z2 z.2⟩
        · rw [nO x q1 q2 q3] at hx
          exact ⟨a', hx, rfl, fun k y hky => .inr ⟨hky, fun z => q3 z.1⟩⟩
  have hsum : ∀ g : Option NdP → Nat, (∀ a b : NdP, a.names = b.names → a.data = b.data → g (some a) = g (some b)) → g (some d1) + g (some e1) + (if dst = dir then 0 else 0) = g (some d1) + g (some e1) ∧
      (if dst = dir then sumN nd g (T.next + 1).toNat + g (some d) = sumN T.nd g (T.next + 1).toNat + g (some e1) else sumN nd g (T.next + 1).toNat + g (some d) + g (some e) = sumN T.nd g (T.next + 1).toNat + g (some d1) + g (some e1)) := by
    intro g hgg
    refine ⟨by split <;> rfl, ?_⟩
    have s1 := sumN_upd T.nd g (some d1) dir (T.next + 1).toNat (by have := od.low; omega) (by have := od.high; omega)
    have s2 := sumN_upd (updN T.nd dir (some d1)) g (some e1) dst (T.next + 1).toNat (by have := oe.low; omega) (by have := oe.high; omega)
    have s3 := sumN_upd (updN (updN T.nd dir (some d1)) dst (some e1)) g (some m1) ino (T.next + 1).toNat (by have := om.low; omega) (by have := om.high; omega)
    rw [← hnd] at s3
    rw [updN_other _ _ (fun q => htn q.symm), updN_other _ _ (fun q => hdn q.symm), hm, hgg m1 m m1n (by rw [hm1]; rfl)] at s3
    rw [hd] at s1
    split
    · rename_i q
      rw [q, updN_same] at s2
      rw [q] at s3
      omega
    · rename_i q
      rw [updN_other _ _ q, he] at s2
      omega
  have hlk : ∀ x, sumN nd (gLink x) (T.next + 1).toNat = sumN T.nd (gLink x) (T.next + 1).toNat := by
    intro x
    have s := (hsum (gLink x) (fun a b q _ => by rw [gLink_some, gLink_some, q])).2
    have c1 := delK_count od.sorted hg (fun p => p.2 == x)
    split at s
    · rename_i q
      have q' := q
      subst q'
      rw [hd] at he; cases he
      have c2 := putK_count (delK d.names part) asn ino (fun p => p.2 == x)
      rw [gLink_some, gLink_some, he1, if_pos rfl] at s
      simp only [named, touch] at s
      simp only at c1 c2
      omega
    · rename_i q
      have c2 := putK_count e.names asn ino (fun p => p.2 == x)
      rw [gLink_some, gLink_some, gLink_some, gLink_some, he1, if_neg q, hd1] at s
      simp only [named, touch] at s
      simp only at c1 c2
      omega
  -- a directory has one name
  have hone : m.v.kind = 6 → ∀ x a k, T.nd x = some a → (k, ino) ∈ a.names → x = dir ∧ k = part := by
    intro hm6 x a k hx hkx
    obtain ⟨_, _, b, z1, z2⟩ := od.names _ hmem
    simp only at z1
    rw [hm] at z1; cases z1
    obtain ⟨_, _, b, z3, z4⟩ := (h.node x a hx).names _ hkx
    simp only at z3
    rw [hm] at z3; cases z3
    have hxd : x = dir := by rw [← z4 hm6, ← z2 hm6]
    refine ⟨hxd, ?_⟩
    subst hxd
    rw [hd] at hx; cases hx
    have l1 := om.links
    have l2 := om.one hm6
    rw [if_neg hi1] at l1
    have l3 := @sumN_le T.nd (gLink ino) (T.next + 1).toNat x.toNat (by have := od.low; have := od.high; omega)
    have l4 : ((x.toNat : Nat) : Int) = x := by have := od.low; omega
    rw [l4, hd, gLink_some] at l3
    have c1 := delK_count od.sorted hg (fun p => p.2 == ino)
    simp only [beq_self_eq_true, if_true] at c1
    have c2 : (delK d.names part).countP (fun p => p.2 == ino) = 0 := by omega
    rw [List.countP_eq_zero] at c2
    by_cases hkp : k = part
    · exact hkp
    · exact absurd (by simp) (c2 (k, ino) (delK_mem.2 ⟨hkx, hkp⟩))
  have hother : ∀ x a, T.nd x = some a → ∀ a', nd x = some a' → a'.v.links = a.v.links := by
    intro x a hx a' hx'
    by_cases q1 : x = ino
    · subst q1
      rw [hm] at hx; cases hx
      rw [nI] at hx'; cases hx'
      rw [hm1]; rfl
    · by_cases q2 : x = dst
      · subst q2
        rw [he] at hx; cases hx
        rw [nT] at hx'; cases hx'
        rw [he1]
        split
        · rename_i q; subst q; rw [hd] at he; cases he; rfl
        · rfl
      · by_cases q3 : x = dir
        · subst q3
          rw [hd] at hx; cases hx
          rw [nD (fun q => q2 q.symm)] at hx'; cases hx'
          rw [hd1]; rfl
        · rw [nO x q1 q2 q3, hx] at hx'; cases hx'; rfl
  -- what of a node doesn't hang on names
  have hv : ∀ x a, T.nd x = some a → ∀ a', nd x = some a' → a'.v.size = a.v.size ∧ a'.v.mode = a.v.mode ∧ a'.v.user = a.v.user ∧ a'.v.group = a.v.group ∧ (a'.v.time = a.v.time ∨ a'.v.time = c) ∧ a'.v.major = a.v.major ∧ a'.v.minor = a.v.minor ∧ a'.v.tgt = a.v.tgt ∧ (a'.v.change = a.v.change ∨ a'.v.change = c) ∧ OkK a'.names := by
    intro x a hx a' hx'
    by_cases q1 : x = ino
    · subst q1
      rw [hm] at hx; cases hx
      rw [nI] at hx'; cases hx'
      refine ⟨?_, ?_, ?_, ?_, .inl ?_, ?_, ?_, ?_, .inr ?_, by rw [m1n]; exact om.sorted⟩ <;> (rw [hm1]; rfl)
    · by_cases q2 : x = dst
      · subst q2
        rw [he] at hx; cases hx
        rw [nT] at hx'; cases hx'
        have : e1 = named c e e1.names := by
          rw [he1]
          split
          · rename_i q; subst q; rw [hd] at he; cases he; rfl
          · rfl
        refine ⟨?_, ?_, ?_, ?_, .inr ?_, ?_, ?_, ?_, .inr ?_, ev4⟩ <;> (rw [this]; rfl)
      · by_cases q3 : x = dir
        · subst q3
          rw [hd] at hx; cases hx
          rw [nD (fun q => q2 q.symm)] at hx'; cases hx'
          refine ⟨?_, ?_, ?_, ?_, .inr ?_, ?_, ?_, ?_, .inr ?_, by rw [hd1]; exact hdelok⟩ <;> (rw [hd1]; rfl)
        · rw [nO x q1 q2 q3, hx] at hx'; cases hx'
          exact ⟨rfl, rfl, rfl, rfl, .inl rfl, rfl, rfl, rfl, .inl rfl, (h.node x a hx).sorted⟩
  have hfew : ∀ x a, T.nd x = some a → ∀ a', nd x = some a' → a'.names.length ≤ a.names.length + 1 := by
    intro x a hx a' hx'
    have hdl := delK_len od.sorted hg
    by_cases q1 : x = ino
    · subst q1
      rw [hm] at hx; cases hx
      rw [nI] at hx'; cases hx'
      rw [m1n]; omega
    · by_cases q2 : x = dst
      · subst q2
        rw [he] at hx; cases hx
        rw [nT] at hx'; cases hx'
        rw [he1]
        split
        · rename_i q; subst q; rw [hd] at he; cases he
          show (putK _ _ _).length ≤ _
          rw [putK_len]; omega
        · show (putK _ _ _).length ≤ _
          rw [putK_len]; omega
      · by_cases q3 : x = dir
        · subst q3
          rw [hd] at hx; cases hx
          rw [nD (fun q => q2 q.symm)] at hx'; cases hx'
          rw [hd1]
          show (delK _ _).length ≤ _
          omega
        · rw [nO x q1 q2 q3, hx] at hx'; cases hx'; omega
  refine ⟨?_, ?_, ⟨hN.1, by show T.next ≤ c + 1; omega⟩, by show 0 ≤ c; omega, h.quota, ?_, h.room, ?_, h.most, ?_⟩
  · obtain ⟨a, z1, z2, z3⟩ := h.root
    obtain ⟨a', q1, q2, _, q3, _⟩ := hex 1 a z1
    exact ⟨a', q1, by rw [q2]; exact z2, by rw [q3 (fun q => hi1 q.symm)]; exact z3⟩
  · intro x a' hx'
    obtain ⟨a, hx, hkk, hnm⟩ := hback x a' hx'
    have ox := h.node x a hx
    obtain ⟨a'', q1, q2, q3, q4, q5⟩ := hex x a hx
    have q1' : nd x = some a' := hx'
    rw [q1] at q1'; cases q1'
    obtain ⟨v1, v2, v3, v4, v5, v6, v7, v8, v9, v10⟩ := hv x a hx a' q1
    have vl := hother x a hx a' q1
    refine ⟨ox.low, ox.high, v10, ?_, ?_, by rw [q3]; exact ox.data, (fun z => by rw [q3]; exact ox.plain (by rw [← q2]; exact z)), (by rw [q3, v1]; exact ox.inside), by rw [v1]; exact ox.size, ?_, ?_, ?_, ?_, by rw [v2]; exact ox.mode, by rw [v3]; exact ox.user, by rw [v4]; exact ox.group, ?_, by rw [q2]; exact ox.kind, by rw [v6, v7]; exact ox.dev, by rw [v8]; exact ox.tgt, ?_, ?_⟩
    · intro p hp'
      rcases hnm p.1 p.2 hp' with ⟨z1, z2, z3⟩ | ⟨z1, z2⟩
      · rw [z2, z3]
        refine ⟨hp, hi1, m1, nI, fun hm6 => ?_⟩
        rw [z1, hm1]
        unfold moved
        simp only
        rw [if_pos (by rw [← m1k]; exact hm6)]
      · obtain ⟨w1, w2, b, w3, w4⟩ := ox.names p z1
        obtain ⟨b', u1, u2, _, u3, _⟩ := hex p.2 b w3
        refine ⟨w1, w2, b', u1, fun hb6 => ?_⟩
        rw [u2] at hb6
        by_cases hpi : p.2 = ino
        · rw [hpi] at w3
          rw [hm] at w3; cases w3
          have := hone hb6 x a p.1 hx (by rw [← hpi]; exact z1)
          exact absurd this z2
        · rw [u3 hpi]; exact w4 hb6
    · intro hk6
      have hne : a.v.kind ≠ 6 := by rw [← q2]; exact hk6
      have h0 := ox.file hne
      rw [List.eq_nil_iff_forall_not_mem]
      intro p hp'
      rcases hnm p.1 p.2 hp' with ⟨z1, _⟩ | ⟨z1, _⟩
      · rw [z1, he] at hx; cases hx; exact hne hek
      · rw [h0] at z1; cases z1
    · intro hk6 hx1
      by_cases hxi : x = ino
      · subst hxi
        rw [nI] at q1; cases q1
        have hm6 : m.v.kind = 6 := by rw [← m1k]; exact hk6
        refine ⟨e1, ?_, ev1, asn, (ev5 _).2 (.inl rfl)⟩
        rw [hm1]
        unfold moved
        simp only
        rw [if_pos hm6]
        exact nT
      · obtain ⟨b, w1, w2, k, w3⟩ := ox.par (by rw [← q2]; exact hk6) hx1
        rw [q4 hxi]
        obtain ⟨b', u1, u2, _, _, u3⟩ := hex _ b w1
        refine ⟨b', u1, by rw [u2]; exact w2, k, u3 k x w3 ?_⟩
        rintro ⟨s1, s2⟩
        rw [s1, hd] at w1; cases w1
        rw [s2] at w3
        exact hxi (od.sorted.inj w3 hmem)
    · show a'.v.links = (sumN nd (gLink x) (T.next + 1).toNat : Nat) + _
      rw [hlk, vl]; exact ox.links
    · rw [vl]; have := ox.most; show a.v.links ≤ c + 1; omega
    · have := ox.change
      show 0 ≤ a'.v.change ∧ a'.v.change ≤ c
      rcases v9 with v9 | v9 <;> rw [v9] <;> omega
    · rcases v5 with v5 | v5 <;> rw [v5]
      · exact ox.time
      · omega
    · intro hk6
      rw [vl]; exact ox.one (by rw [← q2]; exact hk6)
    · have := hfew x a hx a' q1
      have := ox.few
      show (a'.names.length : Int) ≤ c; omega
  · have s := (hsum gSize (fun a b _ q => by show sizeD a.data = sizeD b.data; rw [q])).2
    have hu := h.used
    show T.used = (sumN nd gSize (T.next + 1).toNat : Nat)
    have g1 : gSize (some d1) = gSize (some d) := by rw [hd1]; rfl
    have g2 : gSize (some e1) = gSize (some e) := by show sizeD e1.data = sizeD e.data; rw [ev3]
    split at s
    · rename_i q; subst q; rw [hd] at he; cases he; omega
    · omega
  · have s := (hsum gOne (fun a b _ q => rfl)).2
    have hu := h.cnt
    show T.cnt = sumN nd gOne (T.next + 1).toNat
    have g1 : gOne (some d1) = gOne (some d) := rfl
    have g2 : gOne (some e1) = gOne (some e) := rfl
    have g3 : gOne (some e1) = gOne (some d) := rfl
    split at s <;> omega
  · -- all below what was moved lies deeper now
    classical
    refine ⟨fun x => if m.v.kind = 6 ∧ Up T ino x then r x + r dst + 1 else r x, ?_⟩
    intro x a' hx' hk6 hx1
    obtain ⟨a, hx, hkk, hnm⟩ := hback x a' hx'
    obtain ⟨a'', q1, q2, q3, q4, q5⟩ := hex x a hx
    have q1' : nd x = some a' := hx'
    rw [q1] at q1'; cases q1'
    have ha6 : a.v.kind = 6 := by rw [← q2]; exact hk6
    have hrx := hr x a hx ha6 hx1
    simp only
    by_cases hxi : x = ino
    · subst hxi
      rw [nI] at q1; cases q1
      have hm6 : m.v.kind = 6 := by rw [← m1k]; exact hk6
      have hpar : m1.par = dst := by rw [hm1]; unfold moved; simp only; rw [if_pos hm6]
      rw [hpar, if_neg (fun z => hup hm6 z.2), if_pos ⟨hm6, Up.self⟩]
      omega
    · rw [q4 hxi]
      by_cases hu : m.v.kind = 6 ∧ Up T ino x
      · have hu2 : Up T ino a.par := by
          cases hu.2 with
          | self => exact absurd rfl hxi
          | step _ n w1 w2 w3 w4 => rw [hx] at w1; cases w1; exact w4
        rw [if_pos hu, if_pos ⟨hu.1, hu2⟩]; omega
      · have hu2 : ¬ (m.v.kind = 6 ∧ Up T ino a.par) := fun z => hu ⟨z.1, Up.step x a hx ha6 hx1 z.2⟩
        rw [if_neg hu, if_neg hu2]; exact hrx
end Go.Proofs.Ytilndmmjdbhmgaa
