/-
  What both sides of a map tell, one way each.
-/
import Derived.Test.YtbambcondcikbaaDoorRMapF
import Derived.Test.YtbambcondcikbaaDoorTameW
import Derived.Test.YtbambcondcikbaaDoorSpEmp
namespace Go.Proofs.YtbambcondcikbaaDoor
open Go.RowKit
set_option linter.unusedVariables false
set_option linter.unusedSimpArgs false

def encX (size : Int) (l : List Pc) : List UInt8 := if okS size l then mapB size l else []
def denX (size : Int) (l : List Pc) : List UInt8 := if okS size l && decide (size ≤ 1048576) then denS size.toNat l else []
def decX (size : Int) (L : List UInt8) : List Pc := match decS size L with | none => [] | some l => l
def decE (size : Int) (L : List UInt8) : Int := match decS size L with | none => 18 | some _ => 0
/-- A row of bytes that is told. -/
structure TellB (w w' : World) (a : Option Addr) (n c : Nat) (X : List UInt8) : Prop where
  rd : Reads w' a (nb X)
  len : n = X.length
  nil : a = none → c = 0
  kept : Kept NoB w w'
theorem enc2_any (size : Int) (ao : Option Addr) (n cap : Nat) (l : List Pc) (w : World) (h0 : -9223372036854775808 ≤ size) (h1 : size ≤ 9223372036854775807) (hn : n = l.length) (hr : RdP w w.heap.size ao l) (hi : IntP l) (hc : n ≤ cap) (hcm : cap ≤ maxLen) (hsum : sumS l ≤ 1000000) (htab : Pow10 w) :
    Calls Tryd.prog 13 #[.int .i64 size, .slice ao n cap] w fun e w' => ∃ a m c, e = .returned (.tuple #[.slice a m c, .bool (okS size l)]) ∧ TellB w w' a m c (encX size l) := by
  refine (spenc_any size ao n cap l w h0 h1 hn hr hi hc hcm hsum htab).mono ?_
  rintro e w' (⟨hok, rfl, hk⟩ | ⟨a, c, hok, rfl, hB⟩)
  · refine ⟨none, 0, 0, by rw [hok], ?_, by rw [encX, hok]; rfl, fun _ => rfl, hk⟩
    rw [encX, hok]
    exact ⟨fun _ => rfl, fun x hx => by cases hx⟩
  · refine ⟨a, _, c, by rw [hok], ?_, by rw [encX, hok]; rfl, hB.cap.2.2, hB.kept⟩
    rw [encX, hok]
    exact hB.reads
theorem map2_any (size : Int) (ao : Option Addr) (n cap : Nat) (l : List Pc) (w : World) (h0 : -9223372036854775808 ≤ size) (h1 : size ≤ 9223372036854775807) (hn : n = l.length) (hr : RdP w w.heap.size ao l) (hi : IntP l) (hc : n ≤ cap) (hcm : cap ≤ maxLen) (hsum : sumS l ≤ 1000000) :
    Calls Tryd.prog 21 #[.int .i64 size, .slice ao n cap] w fun e w' => e = .returned (.tuple #[.string (strB (encX size l)), .bool (okS size l)]) ∧ Kept NoB w w' := by
  refine (rmap_any size ao n cap l w h0 h1 hn hr hi hc hcm hsum).mono ?_
  rintro e w' ⟨⟨hok, rfl⟩ | ⟨hok, rfl⟩, hk⟩
  · exact ⟨by rw [encX, hok]; rfl, hk⟩
  · exact ⟨by rw [encX, hok]; rfl, hk⟩
theorem den2_any (size : Int) (ao : Option Addr) (n cap : Nat) (l : List Pc) (w : World) (h0 : -9223372036854775808 ≤ size) (h1 : size ≤ 9223372036854775807) (hn : n = l.length) (hr : RdP w w.heap.size ao l) (hi : IntP l) (hc : n ≤ cap) (hcm : cap ≤ maxLen) :
    Calls Tryd.prog 14 #[.int .i64 size, .slice ao n cap] w fun e w' => ∃ a m c, e = .returned (.tuple #[.slice a m c, .bool (okS size l && decide (size ≤ 1048576))]) ∧ TellB w w' a m c (denX size l) := by
  refine (dense_any size ao n cap l w h0 h1 hn hr hi hc hcm).mono ?_
  rintro e w' (⟨hok, rfl, hk⟩ | ⟨g, N, hok, hN, rfl, hg, hf, hk⟩)
  · refine ⟨none, 0, 0, by rw [hok], ?_, by rw [denX, hok]; rfl, fun _ => rfl, hk⟩
    rw [denX, hok]
    exact ⟨fun _ => rfl, fun x hx => by cases hx⟩
  · have hd : denX size l = denS N l := by rw [denX, hok, hN]; rfl
    have hok2 : okS (N : Int) l = true := by rw [hN, Bool.and_eq_true] at hok; exact hok.1
    have hlen : (denS N l).length = N := by
      refine denS_len N l (fun p hp => ?_)
      simp only [okS, Bool.and_eq_true, decide_eq_true_eq] at hok2
      have := okG_each (N : Int) l 0 (by omega) hok2.2 p hp
      omega
    refine ⟨some ⟨g, 0, none⟩, N, N, by rw [hok], ?_, by rw [hd, hlen], (fun h => by cases h), hk⟩
    rw [hd]
    refine ⟨(fun h => by cases h), fun x hx i hi => ?_⟩
    cases hx
    have hc2 := cell_of_row w' g i _ 5 (0, 0) hg
    rw [addr_add, Nat.zero_add, hc2]
    rw [nb_len] at hi
    simp [bc, nb, List.getD, hi]
theorem rden2_any (size : Int) (ao : Option Addr) (n cap : Nat) (l : List Pc) (w : World) (h0 : -9223372036854775808 ≤ size) (h1 : size ≤ 9223372036854775807) (hn : n = l.length) (hr : RdP w w.heap.size ao l) (hi : IntP l) (hc : n ≤ cap) (hcm : cap ≤ maxLen) :
    Calls Tryd.prog 24 #[.int .i64 size, .slice ao n cap] w fun e w' => e = .returned (.tuple #[.string (strB (denX size l)), .bool (okS size l && decide (size ≤ 1048576))]) ∧ Kept NoB w w' := by
  refine (rdense_any size ao n cap l w h0 h1 hn hr hi hc hcm).mono ?_
  rintro e w' ⟨⟨hok, rfl⟩ | ⟨hok, rfl⟩, hk⟩
  · exact ⟨by rw [denX, hok]; rfl, hk⟩
  · exact ⟨by rw [denX, hok]; rfl, hk⟩
/-- Pieces that are told. -/
structure TellP (w w' : World) (a : Option Addr) (n : Nat) (l : List Pc) : Prop where
  rd : RdP w' w'.heap.size a l
  len : n = l.length
  kept : Kept NoB w w'
theorem dec_sum {size : Int} {L : List UInt8} {l : List Pc} (h : decS size L = some l) : l.length ≤ 1000 := by
  unfold decS at h
  split at h
  · cases h
  · split at h
    · rename_i h2
      simp only [Option.some.injEq] at h
      subst h
      rw [Bool.and_eq_true] at h2
      have := h2.1
      simp only [okS, Bool.and_eq_true, decide_eq_true_eq] at this
      exact this.1.2
    · cases h
theorem decX_len (size : Int) (L : List UInt8) : (decX size L).length ≤ 1000 := by
  unfold decX
  split
  · exact Nat.zero_le _
  · rename_i l h; exact dec_sum h
theorem decR_tell {w : World} {size : Int} {L : List UInt8} {e : Ending} {w' : World} (h : DecR w size L e w') : ∃ a n c, e = .returned (.tuple #[.slice a n c, .int .i64 (decE size L)]) ∧ TellP w w' a n (decX size L) := by
  rcases h with ⟨hd, rfl, hk⟩ | ⟨qs, a, c, hd, rfl, hP⟩
  · have e1 : decE size L = 18 := by rw [decE, hd]
    have e2 : decX size L = [] := by rw [decX, hd]
    exact ⟨none, 0, 0, by rw [e1], by rw [e2]; exact rdp_nil w', by rw [e2]; rfl, hk⟩
  · have e1 : decE size L = 0 := by rw [decE, hd]
    have e2 : decX size L = qs.map Prod.fst := by rw [decX, hd]
    exact ⟨a, qs.length, c, by rw [e1], by rw [e2]; exact hP.reads, by rw [e2, List.length_map], hP.kept⟩
theorem dec_empty (size : Int) : decS size [] = none := rfl
theorem dec2_any (size : Int) (ao : Option Addr) (n cap : Nat) (L : List UInt8) (w : World) (h0 : -9223372036854775808 ≤ size) (h1 : size ≤ 9223372036854775807) (hn : n = L.length) (hr : Reads w ao (nb L)) (hz : ao = none → cap = 0) (hc : n ≤ cap) (hm : cap ≤ maxLen) (hn2 : n ≤ 1000000) (htab : Pow10 w) (herr : ErrVars w) :
    Calls Tryd.prog 18 #[.int .i64 size, .slice ao n cap] w fun e w' => ∃ a m c, e = .returned (.tuple #[.slice a m c, .int .i64 (decE size L)]) ∧ TellP w w' a m (decX size L) := by
  cases ao with
  | none =>
    have hc0 := hz rfl
    have hn0 : n = 0 := by omega
    have hL : L = [] := List.eq_nil_of_length_eq_zero (by omega)
    subst hc0 hL hn0
    refine (spdec_nil size w).mono ?_
    rintro e w' ⟨rfl, hk⟩
    exact decR_tell (.inl ⟨dec_empty size, rfl, hk⟩)
  | some x =>
    by_cases hn0 : n = 0
    · have hL : L = [] := List.eq_nil_of_length_eq_zero (by omega)
      subst hL hn0
      refine (spdec_emp size x cap w (by unfold maxLen at hm; omega)).mono ?_
      rintro e w' ⟨rfl, hk⟩
      exact decR_tell (.inl ⟨dec_empty size, rfl, hk⟩)
    · obtain ⟨g, o, he, _⟩ := hr.at (by rw [nb_len]; omega)
      cases he
      refine (spdec_any size g o n cap L w h0 h1 hn hr hc hm hn2 htab herr).mono ?_
      intro e w' h
      exact decR_tell h
theorem rdec2_any (size : Int) (L : List UInt8) (w : World) (h0 : -9223372036854775808 ≤ size) (h1 : size ≤ 9223372036854775807) (hl : L.length ≤ 1000000) :
    Calls Tryd.prog 25 #[.int .i64 size, .string (strB L)] w fun e w' => ∃ a m c, e = .returned (.tuple #[.slice a m c, .int .i64 (decE size L)]) ∧ TellP w w' a m (decX size L) := by
  refine (rreadmap_any size L w h0 h1 hl).mono ?_
  intro e w' h
  exact decR_tell h
end Go.Proofs.YtbambcondcikbaaDoor
