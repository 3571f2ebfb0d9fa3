/-
  A region that draws its order: what its operations yield, each by a predicate that lasts; so many orders are one.
-/
import Derived.Test.YtffoigacpnlkgaaBase
import Derived.Deep.RegionHeld3
namespace Go.Proofs.Ytffoigacpnlkgaa
open Go.RowKit
set_option linter.unusedVariables false

section
variable {P : Program} {ops : Array Oper} {Q : Exit → Act → World → Prop} {md : Region.Mode} {S : World → Prop}

theorem put_comm (a : Act) (s t : Nat) (u v : Value) (h : s ≠ t) : (a.put (some s) u).put (some t) v = (a.put (some t) v).put (some s) u := by
  simp only [Act.put]
  rw [Array.setIfInBounds_comm _ _ h]
theorem put_put (a : Act) (s : Nat) (u v : Value) : (a.put (some s) u).put (some s) v = a.put (some s) v := by
  simp only [Act.put, Array.setIfInBounds_setIfInBounds]

/-- The values of some operations in their slots. -/
def puts (sl : Nat → Nat) (vs : Nat → Value) : List Nat → Act → Act
  | [], a => a
  | i :: W, a => puts sl vs W (a.put (some (sl i)) (vs i))
theorem puts_out {sl : Nat → Nat} {vs : Nat → Value} {s : Nat} {v : Value} : ∀ (W : List Nat) (a : Act), (∀ j ∈ W, sl j ≠ s) → (puts sl vs W a).put (some s) v = puts sl vs W (a.put (some s) v)
  | [], a, _ => rfl
  | i :: W, a, h => by
    unfold puts
    rw [puts_out W _ (fun j hj => h j (List.mem_cons_of_mem _ hj)), put_comm _ _ _ _ _ (h i List.mem_cons_self)]
theorem puts_congr {sl : Nat → Nat} {vs vs' : Nat → Value} : ∀ (W : List Nat) (a : Act), (∀ j ∈ W, vs j = vs' j) → puts sl vs W a = puts sl vs' W a
  | [], a, _ => rfl
  | i :: W, a, h => by
    unfold puts
    rw [h i List.mem_cons_self, puts_congr W _ (fun j hj => h j (List.mem_cons_of_mem _ hj))]
def updv (vs : Nat → Value) (i : Nat) (v : Value) : Nat → Value := fun j => if j = i then v else vs j
theorem puts_upd {sl : Nat → Nat} {vs : Nat → Value} {i : Nat} {v : Value} : ∀ (W : List Nat) (a : Act), (W.map sl).Nodup → i ∈ W → (puts sl vs W a).put (some (sl i)) v = puts sl (updv vs i v) W a
  | [], a, _, h => by cases h
  | j :: W, a, hn, h => by
    rw [List.map_cons, List.nodup_cons] at hn
    unfold puts
    by_cases e : j = i
    · subst e
      have hne : ∀ k ∈ W, sl k ≠ sl j := fun k hk he => hn.1 (he ▸ List.mem_map_of_mem hk)
      rw [puts_out W _ hne, put_put]
      rw [show updv vs j v j = v by unfold updv; rw [if_pos rfl]]
      exact puts_congr W _ (fun k hk => by unfold updv; rw [if_neg (fun he => hne k hk (by rw [he]))])
    · have hi : i ∈ W := by rcases List.mem_cons.1 h with h | h; exact absurd h.symm e; exact h
      rw [show updv vs i v j = vs j by unfold updv; rw [if_neg e]]
      exact puts_upd W _ hn.2 hi

theorem set_true (l : Array Bool) (i j : Nat) (h : (l.setIfInBounds i true).getD j false = true) : j = i ∨ l.getD j false = true := by
  by_cases e : j = i
  · exact .inl e
  · right
    simp only [Array.getD_eq_getD_getElem?, Array.getElem?_setIfInBounds_ne (Ne.symm e)] at h ⊢
    exact h
theorem getD_tf (l : Array Bool) (j : Nat) (hj : j < l.size) : l.getD j true = l.getD j false := by simp [Array.getD, hj]

/-- Those that have come up hold what they are to hold; whichever comes up next does so, too. -/
theorem wpAnyH_vals (sl : Nat → Nat) (a0 : Act) (W : List Nat) (V : Nat → Value → World → Prop) (R : World → World → Prop)
    (hV : ∀ i v w w', V i v w → R w w' → V i v w') (hS : ∀ w w', S w → R w w' → S w') (hn : (W.map sl).Nodup) (hW : ∀ i ∈ W, i < ops.size)
    (hd : ∀ i ∈ W, ∀ o : Oper, ops[i]? = some o → o.dst = some (sl i)) (hb : ∀ (i : Nat) (o : Oper), ops[i]? = some o → ∀ e ∈ o.after, e.on < i)
    (hstep : ∀ i ∈ W, ∀ o : Oper, ops[i]? = some o → ∀ (vs : Nat → Value) (w : World), S w → (∀ e ∈ o.after, Region.binds md e = true → e.on ∈ W → V e.on (vs e.on) w) →
      ∀ K' : Act → World → Prop, Shut (∀ v w', R w w' → V i v w' → K' ((puts sl vs W a0).put o.dst v) w') → if Region.wanted o (yielded ops (puts sl vs W a0).tmps) = true then Oper.wp P o (puts sl vs W a0) w K' Q else K' ((puts sl vs W a0).put o.dst undef) w)
    (hend : ∀ (vs : Nat → Value) (w : World), S w → (∀ i ∈ W, V i (vs i) w) → Q .normal (puts sl vs W a0) w) :
    ∀ (fuel : Nat) (listed : Array Bool) (vs : Nat → Value) (w : World), listed.size = ops.size → listed.count false ≤ fuel → S w →
      (∀ i, i < ops.size → i ∉ W → listed.getD i false = true) → (∀ i ∈ W, listed.getD i false = true → V i (vs i) w) → wpAnyH P md ops Q S fuel listed (puts sl vs W a0) w := by
  have hnil : ∀ (listed : Array Bool), listed.size = ops.size → Region.ready md ops listed = [] → ∀ i, i < ops.size → listed.getD i false = true := by
    intro listed hsz hr i
    induction i using Nat.strongRecOn with
    | _ i ih =>
      intro hi
      cases hc : listed.getD i false with
      | true => rfl
      | false =>
        have : i ∈ Region.ready md ops listed := mem_ready.2 ⟨by rw [getD_tf _ _ (by omega)]; exact hc, ops[i], by simp [hi], fun e he _ => by
          have := hb i ops[i] (by simp [hi]) e he
          exact ih e.on this (by omega)⟩
        rw [hr] at this; cases this
  intro fuel
  induction fuel with
  | zero =>
    intro listed vs w hsz hf hSw hout hin
    have hall : ∀ i, i < ops.size → listed.getD i false = true := by
      intro i hi
      cases hc : listed.getD i false with
      | true => rfl
      | false =>
        have hm : false ∈ listed := by
          have : listed[i]'(by omega) = false := by simpa [Array.getD, show i < listed.size by omega] using hc
          rw [← this]; exact Array.getElem_mem _
        have := Array.count_pos_iff.2 hm
        omega
    refine ⟨?_, hend vs w hSw (fun i hi => hin i hi ?_)⟩
    · apply List.eq_nil_iff_forall_not_mem.2
      intro i hi
      obtain ⟨h1, o, ho, _⟩ := mem_ready.1 hi
      have hi' : i < ops.size := (Array.getElem?_eq_some_iff.1 ho).1
      rw [getD_tf _ _ (by omega), hall i hi'] at h1
      cases h1
    · exact hall i (hW i hi)
  | succ fuel ih =>
    intro listed vs w hsz hf hSw hout hin
    refine ⟨fun hr => hend vs w hSw (fun i hi => ?_), fun i hi => ?_⟩
    · exact hin i hi (hnil listed hsz hr i (hW i hi))
    · obtain ⟨h1, o, ho, hdeps⟩ := mem_ready.1 hi
      have hi' : i < ops.size := (Array.getElem?_eq_some_iff.1 ho).1
      have hiW : i ∈ W := by
        by_cases h : i ∈ W
        · exact h
        · have := hout i hi' h
          rw [getD_tf _ _ (by omega), this] at h1
          cases h1
      refine wpOp_step ho (fun K' hK => hstep i hiW o ho vs w hSw (fun e he hbd hW => hin _ hW (hdeps e he hbd)) K' (fun v w' hR hVi => hK _ _ ⟨hS _ _ hSw hR, ?_⟩))
      rw [hd i hiW o ho, puts_upd W a0 hn hiW]
      refine ih _ _ _ (by simp [hsz]) ?_ (hS _ _ hSw hR) ?_ ?_
      · have hil : i < listed.size := by omega
        have hc : listed[i] = false := by simpa [Array.getD, hil] using h1
        have e : listed.setIfInBounds i true = listed.set i true hil := by simp [Array.setIfInBounds, hil]
        rw [e, Array.count_set]
        have : 0 < listed.count false := Array.count_pos_iff.2 (by rw [← hc]; exact Array.getElem_mem _)
        simp [hc]
        omega
      · intro j hj hjW
        have := hout j hj hjW
        by_cases e : i = j
        · subst e; exact absurd hiW hjW
        · simp only [Array.getD_eq_getD_getElem?, Array.getElem?_setIfInBounds_ne e] at this ⊢
          exact this
      · intro j hjW hj
        by_cases e : j = i
        · subst e; unfold updv; rw [if_pos rfl]; exact hVi
        · unfold updv; rw [if_neg e]
          exact hV _ _ _ _ (hin j hjW ((set_true _ _ _ hj).resolve_left e)) hR
theorem put_self (a : Act) (s : Nat) : a.put (some s) (a.tmps.getD s undef) = a := by
  obtain ⟨t, d⟩ := a
  simp only [Act.put]
  congr 1
  apply Array.ext_getElem?
  intro i
  by_cases e : s = i
  · subst e
    by_cases h : s < t.size
    · simp [Array.getD, h]
    · rw [Array.setIfInBounds_eq_of_size_le (by omega)]
  · rw [Array.getElem?_setIfInBounds_ne e]
theorem puts_self (sl : Nat → Nat) (a : Act) : ∀ W : List Nat, puts sl (fun i => a.tmps.getD (sl i) undef) W a = a
  | [] => rfl
  | i :: W => by unfold puts; rw [put_self]; exact puts_self sl a W

/-- What is asked of the operations, for the kernel to reckon. -/
def chkV (md : Region.Mode) (ops : Array Oper) (sl : Nat → Nat) (W : List Nat) (D : Nat → List Nat) : Bool :=
  (List.range ops.size).all (fun i => match ops[i]? with | some o => o.after.all (fun e => decide (e.on < i)) | none => false) &&
  W.all (fun i => match ops[i]? with | some o => o.dst == some (sl i) && (D i).all (fun d => W.contains d && o.after.any (fun e => Region.binds md e && e.on == d)) | none => false) && decide (W.map sl).Nodup
def chkL (ops : Array Oper) (W : List Nat) (listed : Array Bool) (fuel : Nat) : Bool :=
  decide (listed.size = ops.size) && decide (listed.count false ≤ fuel) && (List.range ops.size).all (fun i => W.contains i || listed.getD i false) && W.all (fun i => !listed.getD i false)

theorem wpAnyH_put (sl : Nat → Nat) (W : List Nat) (D : Nat → List Nat) (V : Nat → Value → World → Prop) (R : World → World → Prop)
    (hV : ∀ i v w w', V i v w → R w w' → V i v w') (hS : ∀ w w', S w → R w w' → S w') {fuel : Nat} {listed : Array Bool} {a0 : Act} {w0 : World} (hS0 : S w0)
    (hc : chkV md ops sl W D = true) (hl : chkL ops W listed fuel = true)
    (hstep : ∀ i ∈ W, ∀ (vs : Nat → Value) (w : World), S w → (∀ d ∈ D i, V d (vs d) w) →
      ∃ o, ops[i]? = some o ∧ ∀ K' : Act → World → Prop, Shut (∀ v w', R w w' → V i v w' → K' ((puts sl vs W a0).put o.dst v) w') → if Region.wanted o (yielded ops (puts sl vs W a0).tmps) = true then Oper.wp P o (puts sl vs W a0) w K' Q else K' ((puts sl vs W a0).put o.dst undef) w)
    (hend : ∀ (vs : Nat → Value) (w : World), S w → (∀ i ∈ W, V i (vs i) w) → Q .normal (puts sl vs W a0) w) : wpAnyH P md ops Q S fuel listed a0 w0 := by
  unfold chkV at hc
  unfold chkL at hl
  simp only [Bool.and_eq_true, decide_eq_true_eq, List.all_eq_true] at hc hl
  obtain ⟨⟨hc1, hc2⟩, hc3⟩ := hc
  obtain ⟨⟨⟨hl1, hl2⟩, hl3⟩, hl4⟩ := hl
  have hw : ∀ i ∈ W, ∃ o, ops[i]? = some o ∧ o.dst = some (sl i) ∧ ∀ d ∈ D i, d ∈ W ∧ ∃ e ∈ o.after, Region.binds md e = true ∧ e.on = d := by
    intro i hi
    have := hc2 i hi
    cases ho : ops[i]? with
    | none => rw [ho] at this; cases this
    | some o =>
      rw [ho] at this
      simp only [Bool.and_eq_true, List.all_eq_true, beq_iff_eq, Array.any_eq_true', List.contains_iff_mem] at this
      exact ⟨o, rfl, this.1, this.2⟩
  have key := wpAnyH_vals (P := P) (ops := ops) (Q := Q) (md := md) (S := S) sl a0 W V R hV hS hc3
    (fun i hi => by obtain ⟨o, ho, _⟩ := hw i hi; exact (Array.getElem?_eq_some_iff.1 ho).1)
    (fun i hi o ho => by obtain ⟨o', ho', h1, _⟩ := hw i hi; rw [ho] at ho'; cases ho'; exact h1)
    (fun i o ho e he => by
      have hi : i < ops.size := (Array.getElem?_eq_some_iff.1 ho).1
      have := hc1 i (List.mem_range.2 hi)
      rw [ho] at this
      simp only [Array.all_eq_true'] at this
      exact of_decide_eq_true (this e he))
    (fun i hi o ho vs w hs hd => by
      obtain ⟨o', ho', h1, h2⟩ := hw i hi
      rw [ho] at ho'; cases ho'
      obtain ⟨o'', ho'', h3⟩ := hstep i hi vs w hs (fun d hd' => by
        obtain ⟨hdW, e, he, hb, rfl⟩ := h2 d hd'
        exact hd e he hb hdW)
      rw [ho] at ho''; cases ho''
      exact h3)
    hend fuel listed (fun i => a0.tmps.getD (sl i) undef) w0 hl1 hl2 hS0
    (fun i hi hn => by
      have := hl3 i (List.mem_range.2 hi)
      simp only [Bool.or_eq_true, List.contains_iff_mem] at this
      exact this.resolve_left hn)
    (fun i hi h => by have := hl4 i hi; rw [h] at this; cases this)
  rwa [puts_self] at key
end
end Go.Proofs.Ytffoigacpnlkgaa
