/-
  One file with some names, on paper: names given and taken away.
-/
import Derived.Test.YtilndmmjdbhmgaaAwake13
namespace Go.Proofs.Ytilndmmjdbhmgaa
set_option linter.unusedVariables false
set_option linter.unusedSimpArgs false
set_option maxRecDepth 20000

/-- File 2 has the names left, and no other node is there but the root. -/
structure Ln (T : FsP) (left : List (List UInt8)) (len : Nat) : Prop where
  root : ∃ d, T.nd 1 = some d ∧ d.v.kind = 6 ∧ OkK d.names ∧ ∀ s, getK d.names s = if s ∈ left then some 2 else none
  file : left ≠ [] → ∃ m, T.nd 2 = some m ∧ m.v.kind = 1 ∧ m.v.links = left.length ∧ sizeD m.data = len ∧ m.names = []
  gone : left = [] → T.nd 2 = none
  used : T.used = if left = [] then 0 else (len : Int)
  next : T.next = 2
  cnt : T.cnt ≤ 2
theorem ln_find {T : FsP} {left : List (List UInt8)} {len : Nat} (h : Ln T left len) {s : List UInt8} (hs : s ∈ left) (ho : okN (strB s) = true) : findP T 1 s = (2, 0) := by
  obtain ⟨d, h1, h2, h3, h4⟩ := h.root
  unfold findP namesP placeE
  simp only [h1]
  rw [if_pos h2, if_pos ho, if_pos rfl, h4 s, if_pos hs]
  rfl
theorem ln_stat {T : FsP} {left : List (List UInt8)} {len : Nat} (h : Ln T left len) (hl : left ≠ []) : (statP T 2).2 = 0 ∧ (statP T 2).1.links = left.length := by
  obtain ⟨m, h1, h2, h3, _⟩ := h.file hl
  unfold statP
  rw [h1]
  exact ⟨rfl, h3⟩
theorem ln_link {T : FsP} {left : List (List UInt8)} {len : Nat} (h : Ln T left len) (hl : left ≠ []) {s : List UInt8} (hs : s ∉ left) (ho : okN (strB s) = true) : ∃ T', linkP T 1 s 2 = (T', 0) ∧ Ln T' (left ++ [s]) len ∧ T'.clock = T.clock + 1 := by
  obtain ⟨d, h1, h2, h3, h4⟩ := h.root
  obtain ⟨m, m1, m2, m3, m4, m5⟩ := h.file hl
  have hg : getK d.names s = none := by rw [h4 s, if_neg hs]
  have he : linkP T 1 s 2 = (linkT T 1 d s 2 m, 0) := by
    rw [linkP_yes m1 h1 h2 ho, if_neg (by rw [m2]; decide), if_neg (by rw [hg]; decide)]
  refine ⟨_, he, ⟨⟨named (T.clock + 1) d (putK d.names s 2), ?_, h2, putK_ok h3 s 2 hg, fun x => ?_⟩, fun _ => ⟨linked (T.clock + 1) 1 m, ?_, m2, ?_, m4, m5⟩, fun e => by simp at e, ?_, h.next, h.cnt⟩, rfl⟩
  · show updN (updN T.nd 1 (some (named (T.clock + 1) d (putK d.names s 2)))) 2 (some (linked (T.clock + 1) 1 m)) 1 = _
    rw [updN_other _ _ (by decide), updN_same]
  · show getK (putK d.names s 2) x = _
    rw [getK_put h3 s 2 hg, h4 x]
    by_cases e : x = s
    · rw [if_pos e, if_pos (by simp [e])]
    · rw [if_neg e]
      by_cases e2 : x ∈ left
      · rw [if_pos e2, if_pos (by simp [e2])]
      · rw [if_neg e2, if_neg (by simp [e, e2])]
  · show updN (updN T.nd 1 (some (named (T.clock + 1) d (putK d.names s 2)))) 2 (some (linked (T.clock + 1) 1 m)) 2 = _
    rw [updN_same]
  · show m.v.links + 1 = _
    rw [m3]; simp
  · show T.used = _
    rw [h.used, if_neg hl, if_neg (by simp)]
theorem ln_remove {T : FsP} {A B : List (List UInt8)} {s : List UInt8} {len : Nat} (h : Ln T (A ++ s :: B) len) (hd : (A ++ s :: B).Nodup) (ho : okN (strB s) = true) : ∃ T', removeP T 1 s = (T', 0) ∧ Ln T' (A ++ B) len ∧ T'.clock = T.clock + 1 := by
  obtain ⟨d, h1, h2, h3, h4⟩ := h.root
  obtain ⟨m, m1, m2, m3, m4, m5⟩ := h.file (by simp)
  have hg : getK d.names s = some 2 := by rw [h4 s, if_pos (by simp)]
  have he : removeP T 1 s = (removeT T 1 d s 2 m, 0) := by
    rw [removeP_yes h1 h2 ho hg m1, if_pos m5]
  have hnd : s ∉ A ∧ s ∉ B := by
    rw [List.nodup_append] at hd
    obtain ⟨q1, q2, q3⟩ := hd
    rw [List.nodup_cons] at q2
    exact ⟨fun e => q3 s e s (by simp) rfl, q2.1⟩
  have hnames : ∀ x, getK (delK d.names s) x = if x ∈ A ++ B then some 2 else none := fun x => by
    rw [getK_del h3, h4 x]
    by_cases e : x = s
    · rw [if_pos e, e, if_neg (by simp [hnd.1, hnd.2])]
    · rw [if_neg e]
      by_cases e2 : x ∈ A ++ B
      · rw [if_pos e2, if_pos (by simp at e2 ⊢; rcases e2 with q | q; exact .inl q; exact .inr (.inr q))]
      · rw [if_neg e2, if_neg (by simp at e2 ⊢; exact ⟨e2.1, e, e2.2⟩)]
  refine ⟨_, he, ?_, ?_⟩
  · by_cases hl : m.v.links = 1
    · have hab : A ++ B = [] := by
        rw [m3] at hl
        have : (A ++ B).length = 0 := by
          simp only [List.length_append, List.length_cons] at hl ⊢
          push_cast at hl
          omega
        exact List.length_eq_zero_iff.1 this
      unfold removeT
      rw [if_pos hl]
      refine ⟨⟨named (T.clock + 1) d (delK d.names s), ?_, h2, delK_ok h3 s, hnames⟩, fun e => absurd hab e, fun _ => ?_, ?_, h.next, by have := h.cnt; show T.cnt - 1 ≤ 2; omega⟩
      · show updN (updN T.nd 1 (some (named (T.clock + 1) d (delK d.names s)))) 2 none 1 = _
        rw [updN_other _ _ (by decide), updN_same]
      · show updN (updN T.nd 1 (some (named (T.clock + 1) d (delK d.names s)))) 2 none 2 = _
        rw [updN_same]
      · show T.used - (sizeD m.data : Nat) = _
        have hu := h.used
        rw [if_neg (by simp)] at hu
        rw [hu, m4, if_pos hab]; exact Int.sub_self _
    · have hab : A ++ B ≠ [] := fun e => hl (by
        rw [m3]
        have : (A ++ B).length = 0 := by rw [e]; rfl
        simp only [List.length_append, List.length_cons] at this ⊢
        push_cast; omega)
      unfold removeT
      rw [if_neg hl]
      refine ⟨⟨named (T.clock + 1) d (delK d.names s), ?_, h2, delK_ok h3 s, hnames⟩, fun _ => ⟨linked (T.clock + 1) (-1) m, ?_, m2, ?_, m4, m5⟩, fun e => absurd e hab, ?_, h.next, h.cnt⟩
      · show updN (updN T.nd 1 (some (named (T.clock + 1) d (delK d.names s)))) 2 (some (linked (T.clock + 1) (-1) m)) 1 = _
        rw [updN_other _ _ (by decide), updN_same]
      · show updN (updN T.nd 1 (some (named (T.clock + 1) d (delK d.names s)))) 2 (some (linked (T.clock + 1) (-1) m)) 2 = _
        rw [updN_same]
      · show m.v.links + -1 = _
        rw [m3]; simp; omega
      · show T.used = _
        have hu := h.used
        rw [if_neg (by simp)] at hu
        rw [hu, if_neg hab]
  · unfold removeT
    split <;> rfl
def ln0 : FsP := (makeP (newT 1000) 1 [110, 48] fileV).1
theorem ln0_make : (makeP (newT 1000) 1 [110, 48] fileV).2 = (2, 0) := by kernel_rfl
theorem ln0_nd2 : ln0.nd 2 = some (freshN fileV 1 1) := by kernel_rfl
theorem ln0_nd1 : ∃ d, ln0.nd 1 = some d ∧ d.v.kind = 6 ∧ d.names = [([110, 48], 2)] := ⟨{ touch 1 rootN with names := [([110, 48], 2)] }, by kernel_rfl, rfl, rfl⟩
theorem ln0_num : ln0.next = 2 ∧ ln0.cnt = 2 ∧ ln0.clock = 1 ∧ ln0.used = 0 ∧ ln0.quota = 1000 := ⟨by kernel_rfl, by kernel_rfl, by kernel_rfl, by kernel_rfl, by kernel_rfl⟩
theorem ln_fit (b : List UInt8) (hb : b.length ≤ 100) : fitP ln0 (freshN fileV 1 1) 0 b = (b.length, b.length) := by
  unfold fitP
  rw [ln0_num.2.2.2.2, ln0_num.2.2.2.1]
  show fitB (isD []) b.length 0 1000 = _
  rw [fitB_gap (isD []) b.length b.length 0 1000 (Nat.le_refl _) (by omega) (fun i hi => rfl), Nat.sub_self]
  simp [fitB]
theorem ln_start (b : List UInt8) (hb : b.length ≤ 100) : (writeP ln0 2 0 b).2 = 0 ∧ Ln (writeP ln0 2 0 b).1 [[110, 48]] b.length ∧ (writeP ln0 2 0 b).1.clock ≤ 2 ∧ (∀ n, ln0.nd 2 = some n → PutOk n.data 0 (b.take (fitP ln0 n 0 b).1)) := by
  obtain ⟨d, d1, d2, d3⟩ := ln0_nd1
  obtain ⟨n1, n2, n3, n4, n5⟩ := ln0_num
  have hf := ln_fit b hb
  have hw : writeP ln0 2 0 b = (if b.length = 0 then ln0 else writeT ln0 2 (freshN fileV 1 1) 0 b b.length, 0) := by
    rw [writeP_yes ln0_nd2 rfl, if_neg (by omega), hf]
    simp only [List.take_length]
    rw [if_neg (Nat.lt_irrefl _)]
  have hget : ∀ s, getK d.names s = if s ∈ [[(110 : UInt8), 48]] then some 2 else none := fun s => by
    rw [d3]
    by_cases e : s = [110, 48]
    · rw [if_pos (by simp [e]), e]; rfl
    · rw [if_neg (by simp [e])]
      have : ([(([110, 48] : List UInt8), (2 : Int))].find? (fun p => p.1 == s)) = none := by
        rw [List.find?_eq_none]
        intro p hp
        simp at hp
        subst hp
        simpa using fun q => e q.symm
      unfold getK
      rw [this]; rfl
  have hok : OkK d.names := by rw [d3]; exact List.pairwise_singleton _ _
  rw [hw]
  refine ⟨rfl, ?_, ?_, fun n hn => ?_⟩
  · by_cases h0 : b.length = 0
    · simp only [if_pos h0]
      refine ⟨⟨d, d1, d2, hok, hget⟩, fun _ => ⟨_, ln0_nd2, rfl, rfl, by rw [h0]; rfl, rfl⟩, fun e => by simp at e, ?_, n1, by omega⟩
      rw [n4, if_neg (by simp), h0]; rfl
    · simp only [if_neg h0]
      refine ⟨⟨d, ?_, d2, hok, hget⟩, fun _ => ⟨wrN (freshN fileV 1 1) (ln0.clock + 1) 0 b, ?_, rfl, rfl, ?_, rfl⟩, fun e => by simp at e, ?_, n1, by show ln0.cnt ≤ 2; omega⟩
      · show updN ln0.nd 2 (some (wrN (freshN fileV 1 1) (ln0.clock + 1) 0 b)) 1 = _
        rw [updN_other _ _ (by decide)]; exact d1
      · show updN ln0.nd 2 (some (wrN (freshN fileV 1 1) (ln0.clock + 1) 0 b)) 2 = _
        rw [updN_same]
      · show sizeD (putP [] 0 b) = _
        show sizeD [(0, b)] = _
        simp [sizeD]
      · show ln0.used + (b.length : Int) = _
        rw [n4, if_neg (by simp)]; omega
  · by_cases h0 : b.length = 0
    · simp only [if_pos h0]; omega
    · simp only [if_neg h0]
      show ln0.clock + 1 ≤ 2
      omega
  · rw [ln0_nd2] at hn
    cases hn
    exact putOk_free rfl
end Go.Proofs.Ytilndmmjdbhmgaa
