/-
  A tree of files in memory: which file; bytes written.
-/
import Derived.Test.YtilndmmjdbhmgaaFsN
import Derived.Test.YtilndmmjdbhmgaaFsL
import Derived.Test.YtilndmmjdbhmgaaFsG
import Derived.Test.YtilndmmjdbhmgaaWrP
namespace Go.Proofs.Ytilndmmjdbhmgaa
open Go.RowKit
set_option linter.unusedVariables false
set_option linter.unusedSimpArgs false
set_option maxRecDepth 20000

def fileE (T : FsP) (i : Int) : Int := match T.nd i with | none => 10 | some n => if n.v.kind = 1 then 0 else 13
set_option maxHeartbeats 1000000 in
theorem file_in {L : Nat → Lab} {B : Int → Option Nat} {mb : Nat} {S : Nat → Prop} {w : World} {f : Nat} {T : FsP} (h : FsIn L B mb S w f T) (i : Int) (hi : -9223372036854775808 ≤ i ∧ i ≤ 9223372036854775807) :
    Calls Try.prog 44 #[.pointer (some ⟨f, 0, none⟩), .int .i64 i] w fun e w' =>
      e = .returned (.tuple #[ptrV (if fileE T i = 0 then B i else none), .int .i64 (fileE T i)]) ∧ Kept NoB w w' := by
  obtain ⟨c0, c1, c2, c3, c4⟩ := h.cells
  have HT := Lib.hid h.tab
  cases hn : T.nd i with
  | none =>
    have hB := h.gone hn
    have hp : fileE T i = 10 := by unfold fileE; rw [hn]
    rw [hp]
    clear h hp hn
    go_enter Try.func44, Try.ntmps44
    go_wp2_with (at_lookup; refine wpList_nodes_ok rfl _ _ rfl HT.out rfl rfl hi ?_; rw [hB, ptrV_none])
    go_ret2
    exact ⟨rfl, Kept.refl _ _⟩
  | some n =>
    obtain ⟨b, m, a, c, qs, hB, hN⟩ := h.at hn
    have k0 := hN.cell 0
    have hp : fileE T i = if n.v.kind = 1 then 0 else 13 := by unfold fileE; rw [hn]
    rw [hp, hB]
    simp [ndC, nvC] at k0
    obtain ⟨kd, hkd⟩ : ∃ kd, kd = n.v.kind := ⟨_, rfl⟩
    rw [← hkd] at k0 ⊢
    clear h hp hn hN hkd
    go_enter Try.func44, Try.ntmps44
    by_cases h6 : kd = 1
    · subst h6
      go_wp2_with (at_lookup; refine wpList_nodes_ok rfl _ _ rfl HT.out rfl rfl hi ?_; rw [hB, ptrV_some])
      go_ret2
      exact ⟨rfl, Kept.refl _ _⟩
    · have h6' : (kd == 1) = false := by simpa using h6
      rw [if_neg h6]
      go_wp2_with (at_lookup; refine wpList_nodes_ok rfl _ _ rfl HT.out rfl rfl hi ?_; rw [hB, ptrV_some])
      go_ret2
      exact ⟨rfl, Kept.refl _ _⟩

/-- Pieces, and their bytes, in rows of their own. -/
structure DatO (w : World) (a : Option Addr) (c : Nat) (qs : List FpQ) : Prop where
  own : w.ownsRow 0 61 2 (.slice a qs.length c) qs.length (fcells qs)
  each : ∀ q ∈ qs, w.ownsRow 0 5 1 (.slice q.2.1 q.1.2.length q.2.2) q.1.2.length (bc q.1.2)
  apart : qs.Pairwise (fun p q => ∀ k, (Value.slice p.2.1 p.1.2.length p.2.2).ownBlock = some k → (Value.slice q.2.1 q.1.2.length q.2.2).ownBlock ≠ some k)
/-- The blocks of some pieces' bytes. -/
def BytB (qs : List FpQ) : Nat → Prop := fun k => ∃ q ∈ qs, (Value.slice q.2.1 q.1.2.length q.2.2).ownBlock = some k
/-- What comes of put. -/
def PutP (w : World) (D : Nat) (cs : Array Value) (a : Option Addr) (c : Nat) (qs : List FpQ) (k : Int) (bs : List UInt8) (e : Ending) (w' : World) : Prop :=
  e = .returned (.tuple #[]) ∧ ∃ (a' : Option Addr) (c' : Nat) (qs' : List FpQ), qs'.map Prod.fst = putP (qs.map Prod.fst) k bs ∧ w'.heap[D]? = some (.cells (cs.setIfInBounds 13 (.slice a' qs'.length c')) 71 (0, 0)) ∧ DatO w' a' c' qs' ∧
    (∀ j, (Value.slice a' qs'.length c').ownBlock = some j → (Value.slice a qs.length c).ownBlock = some j ∨ w.heap.size ≤ j) ∧ (∀ j, BytB qs' j → BytB qs j ∨ w.heap.size ≤ j) ∧
    Kept (fun j => j = D ∨ (Value.slice a qs.length c).ownBlock = some j ∨ BytB qs j) w w'
/-- Bytes bs are put into pieces l at k. -/
def PutOk (l : List Fp) (k : Int) (bs : List UInt8) : Prop :=
  ∀ (D : Nat) (cs : Array Value) (a : Option Addr) (c : Nat) (qs : List FpQ) (ab : Option Addr) (cb : Nat) (w : World), qs.map Prod.fst = l → w.heap[D]? = some (.cells cs 71 (0, 0)) → cs[13]? = some (.slice a qs.length c) → DatO w a c qs → OkD l →
    (∀ j, BytB qs j → j ≠ D ∧ ∀ x, ab = some x → x.block ≠ j) → (∀ x, ab = some x → x.block ≠ D ∧ (Value.slice a qs.length c).ownBlock ≠ some x.block) → 0 ≤ k → bs ≠ [] → k + (bs.length : Int) ≤ 1099511627776 → Reads w ab (nb bs) → qs.length ≤ 1099511627776 →
    Calls Try.prog 47 #[.pointer (some ⟨D, 13, none⟩), .int .i64 k, .slice ab bs.length cb] w (PutP w D cs a c qs k bs)
theorem row_byt {w : World} {a : Option Addr} {c : Nat} {qs : List FpQ} (hd : DatO w a c qs) {j : Nat} (hj : BytB qs j) : (Value.slice a qs.length c).ownBlock ≠ some j := fun e => by
  obtain ⟨y, hy1, hy2⟩ := hj
  have h8 := hd.each y hy1
  rcases hd.own.2 with ⟨q1, q2⟩ | ⟨g, cc, cur, q1, _, q2, _⟩
  · rw [q1] at e; cases e
  · rw [q1] at e
    have e2 : g = j := by injection e
    exact row2_ne h8 (by rw [e2] at q2; exact q2) (by decide) j hy2 rfl
theorem bytes_rd {w : World} {a : Option Addr} {c : Nat} {qs : List FpQ} (h : DatO w a c qs) : RdD w a (qs.map Prod.fst) := by
  have hst : DatSt (fun k => if (Value.slice a qs.length c).ownBlock = some k then Lab.row 0 else Lab.byt 0) 0 w a qs.length c qs :=
    ⟨rfl, h.own, fun k hk => if_pos hk, h.each, fun q hq k hk => if_neg (row_byt h ⟨q, hq, hk⟩), h.apart⟩
  exact hst.rd
theorem putOk_free {l : List Fp} {k : Int} {bs : List UInt8} (hfree : touchP l k (k + bs.length) = []) : PutOk l k bs := by
  intro D cs a c qs ab cb w hl hD h13 hd hok hx hy hk hb hkb hrb hlen
  subst hl
  refine (put_free D cs a c qs k bs ab cb w hD h13 hd.own (bytes_rd hd) hok hk hb hkb hfree hrb hlen (by omega)).mono ?_
  rintro e w' ⟨rfl, a', c', q, hq, h1, h2, h3, h4, h5, h6, h7⟩
  have hA := ahead_le (qs.map Prod.fst) k
  obtain ⟨A, hAe⟩ : ∃ A, A = (aheadP (qs.map Prod.fst) k).length := ⟨_, rfl⟩
  rw [← hAe] at h2 hA
  have hlq : (qs.take A ++ q :: qs.drop A).length = qs.length + 1 := by simp at hA ⊢; omega
  have hpm : ∀ x, x ∈ qs.take A ++ q :: qs.drop A → x = q ∨ x ∈ qs := fun x hx => by
    simp only [List.mem_append, List.mem_cons] at hx
    rcases hx with hx | hx | hx
    · exact .inr (List.mem_of_mem_take hx)
    · exact .inl hx
    · exact .inr (List.mem_of_mem_drop hx)
  have hold : ∀ j, BytB qs j → j < w.heap.size := fun j ⟨q, hq, hj⟩ => ((hd.each q hq).lt j hj).2
  have hbk : ∀ j, BytB qs j → ¬ OrB (OneB D) (OwnB (.slice a qs.length c)) j := fun j hj e => by
    rcases e with e | e
    · exact (hx j hj).1 e
    · exact row_byt hd hj e
  have hq2 : q.1.2.length = bs.length := by rw [hq]
  refine ⟨rfl, a', c', qs.take A ++ q :: qs.drop A, ?_, ?_, ⟨?_, ?_, ?_⟩, ?_, ?_, ?_⟩
  · have hs := split3 (qs.map Prod.fst) k (k + bs.length)
    rw [hfree, List.nil_append] at hs
    unfold putP
    rw [hfree, join_none, List.map_append, List.map_cons, hq]
    have h8 : (qs.map Prod.fst).take A = aheadP (qs.map Prod.fst) k := by
      conv => lhs; rw [hs]
      rw [hAe, List.take_left']
      rfl
    have h9 : (qs.map Prod.fst).drop A = behindP (qs.map Prod.fst) k (k + bs.length) := by
      conv => lhs; rw [hs]
      rw [hAe, List.drop_left']
      rfl
    rw [List.map_take, List.map_drop, h8, h9]
  · rw [hlq]; exact h1
  · rw [hlq]; exact h2
  · intro x hx2
    rcases hpm x hx2 with rfl | hx3
    · rw [hq2]
      have : x.1.2 = bs := by rw [hq]
      rw [this]; exact h3
    · exact h7.row (hd.each x hx3) (fun j hj => hbk j ⟨x, hx3, hj⟩)
  · have hqf : ∀ x ∈ qs, ∀ j, (Value.slice x.2.1 x.1.2.length x.2.2).ownBlock = some j → (Value.slice q.2.1 q.1.2.length q.2.2).ownBlock ≠ some j := fun x hx2 j hj e => by
      rw [hq2] at e
      have h8 := h4 j e
      have h9 := hold j ⟨x, hx2, hj⟩
      omega
    rw [List.pairwise_append]
    refine ⟨hd.apart.sublist (List.take_sublist _ _), ?_, ?_⟩
    · rw [List.pairwise_cons]
      refine ⟨fun x hx2 j hj e => hqf x (List.mem_of_mem_drop hx2) j e hj, hd.apart.sublist (List.drop_sublist _ _)⟩
    · intro x hx2 y hy2 j hj
      rw [List.mem_cons] at hy2
      rcases hy2 with rfl | hy2
      · exact hqf x (List.mem_of_mem_take hx2) j hj
      · have h8 := hd.apart
        rw [← List.take_append_drop A qs, List.pairwise_append] at h8
        exact h8.2.2 x hx2 y hy2 j hj
  · intro j hj
    rw [hlq] at hj
    exact h5 j hj
  · rintro j ⟨x, hx2, hj⟩
    rcases hpm x hx2 with rfl | hx3
    · rw [hq2] at hj; exact .inr (h4 j hj)
    · exact .inl ⟨x, hx3, hj⟩
  · exact h7.mono (fun j _ e => by
      rcases e with e | e
      · exact .inl e
      · exact .inr (.inl e))
end Go.Proofs.Ytilndmmjdbhmgaa
