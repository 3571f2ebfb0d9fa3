/-
  num.Digits, num.Number; the document's Digits (a seat without num's fields).
-/
import Derived.Test.YtbambcondcikbaaDoorDigN
import Derived.Shelf.Strconv.AtoiAll
namespace Go.Proofs.YtbambcondcikbaaDoor
open Go.RowKit Go.Lib
set_option linter.unusedVariables false
set_option linter.unusedSimpArgs false

theorem Kept.grow {w : World} (k : Nat) (os : Array Obj) : Kept NoB w (Sort.grow (w.drewN k) os) :=
  ⟨rfl, rfl, rfl, by simp [Sort.grow, World.drewN], fun i hi _ => by
    show (w.heap ++ os)[i]? = w.heap[i]?
    rw [Array.getElem?_append_left hi]⟩
theorem Pow10.keptNo {w w' : World} (h : Pow10 w) (hk : Kept NoB w w') : Pow10 w' := by
  unfold Pow10 Lib.TabIs World.var? at h ⊢
  cases hg : Program.globalNamed Tryd.prog "internal/strconv.uint64pow10" with
  | none => rw [hg] at h; cases h
  | some g =>
    rw [hg] at h
    simp only [Option.bind_some] at h ⊢
    cases hh : w.heap[g]? with
    | none => rw [hh] at h; cases h
    | some o =>
      have hlt : g < w.heap.size := (Array.getElem?_eq_some_iff.1 hh).1
      rw [hk.block g hlt (fun h => h)]
      exact h
theorem digits_any (n : Int) (h0 : -9223372036854775808 ≤ n) (h1 : n ≤ 9223372036854775807) (w : World) (htab : Pow10 w) :
    Calls Tryd.prog 9 #[.int .i64 n] w fun e w' => e = .returned (.string ⟨(Lib.itoa n).toArray⟩) ∧ Kept NoB w w' := by
  have HI := Lib.hid (itoa_any n h0 h1 w htab)
  clear htab
  generalize (⟨(Lib.itoa n).toArray⟩ : ByteArray) = s at HI ⊢
  go_enter Tryd.func9, Tryd.ntmps9
  go_wp2_with fail
  refine HI.out.mono ?_
  rintro e w1 ⟨rfl, k, os, rfl⟩
  have hk := Kept.grow (w := w) k os
  generalize Sort.grow (w.drewN k) os = w2 at hk ⊢
  go_wp2
  go_ret
  exact ⟨rfl, hk⟩

theorem dec_lit (k : Nat) (hk : k < 10) : (⟨#[48, 49, 50, 51, 52, 53, 54, 55, 56, 57]⟩ : ByteArray).extract k (k + 1) = ⟨([UInt8.ofNat (48 + k)]).toArray⟩ := by
  have hc : k = 0 ∨ k = 1 ∨ k = 2 ∨ k = 3 ∨ k = 4 ∨ k = 5 ∨ k = 6 ∨ k = 7 ∨ k = 8 ∨ k = 9 := by omega
  rcases hc with rfl | rfl | rfl | rfl | rfl | rfl | rfl | rfl | rfl | rfl <;> decide +kernel
theorem itoa_parts (n : Int) (h0 : -9223372036854775808 ≤ n) (h1 : n ≤ 9223372036854775807) :
    (n < 0 ∧ ∃ U : Nat, n = -(U : Int) ∧ 1 ≤ U ∧ U ≤ 9223372036854775808 ∧ itoa n = [45] ++ decDigits U) ∨ (¬ n < 0 ∧ ∃ U : Nat, n = (U : Int) ∧ U ≤ 9223372036854775807 ∧ itoa n = [] ++ decDigits U) := by
  by_cases h : n < 0
  · refine .inl ⟨h, n.natAbs, by omega, by omega, by omega, ?_⟩
    conv => lhs; rw [show n = -((n.natAbs : Nat) : Int) by omega]
    exact itoa_neg _ (by omega)
  · refine .inr ⟨h, n.toNat, by omega, by omega, ?_⟩
    conv => lhs; rw [show n = ((n.toNat : Nat) : Int) by omega]
    exact itoa_nonneg _

set_option maxRecDepth 20000 in
set_option maxHeartbeats 2000000 in
theorem rDigits_any (n : Int) (w : World) (h0 : -9223372036854775808 ≤ n) (h1 : n ≤ 9223372036854775807) :
    Calls Tryd.prog 10 #[.int .i64 n] w fun e w' => e = .returned (.string ⟨(itoa n).toArray⟩) ∧ w = w' := by
  have hcat : ∀ (a b : List UInt8), (⟨a.toArray⟩ : ByteArray) ++ ⟨b.toArray⟩ = ⟨(a ++ b).toArray⟩ := ByteArray.mk_append_mk
  have Cat := Lib.hid hcat
  clear hcat
  have hstep : ∀ (sg : List UInt8) (U u : Nat) (l : List UInt8), decDigits U = decDigits u ++ l → ¬ u < 10 → decDigits U = decDigits (u / 10) ++ (UInt8.ofNat (48 + u % 10) :: l) := by
    intro sg U u l h hu
    rw [h, decDigits_ge hu, List.append_assoc]; rfl
  have HStep := Lib.hid hstep
  clear hstep
  obtain ⟨R, hR⟩ : ∃ R, R = (⟨(itoa n).toArray⟩ : ByteArray) := ⟨_, rfl⟩
  rw [← hR]
  have hmain2 : ∀ (U u : Nat) (l : List UInt8), U ≤ 9223372036854775808 → decDigits U = decDigits u ++ l → l.length ≤ 25 := by
    intro U u l hU h
    have h2 := decDigits_len 19 U (by decide) (by omega)
    rw [h, List.length_append] at h2
    omega
  have Main := Lib.hid hmain2
  clear hmain2
  rcases itoa_parts n h0 h1 with ⟨hneg, U, rfl, hU1, hU2, hit⟩ | ⟨hneg, U, rfl, hU2, hit⟩
  all_goals
    rw [hit, ← Cat.out] at hR
    have HIt := Lib.hid hR
    clear hit h0 h1 hR
    first
      | have hw1 : IntKind.u64.wrap (-(U : Int)) = 18446744073709551616 - (U : Int) := by rw [IntKind.wrap_u64]; omega
      | have hw1 : IntKind.u64.wrap (U : Int) = (U : Int) := by rw [IntKind.wrap_u64]; omega
    have hw2 : IntKind.u64.wrap (-(18446744073709551616 - (U : Int))) = (U : Int) := by rw [IntKind.wrap_u64]; omega
    go_enter Tryd.func10, Tryd.ntmps10
    go_wp2
    go_loopw [3, 4, 6] (fun v3 v4 v6 wr => ∃ (u : Nat) (l : List UInt8), v3 = .int .u64 (u : Int) ∧ v4 = .string ⟨l.toArray⟩ ∧ Hid (decDigits U = decDigits u ++ l) ∧ u ≤ U ∧ w = wr) (fun v3 _ _ _ => (RowKit.intOf v3).toNat)
    case atStart => exact ⟨U, [], rfl, rfl, by rw [List.append_nil]; rfl, Nat.le_refl _, rfl⟩
    case round =>
      obtain ⟨u, l, rfl, rfl, HE, huU, rfl⟩ := hrel
      have hll := Main.out U u l (by omega) HE.out
      have hzl : (⟨l.toArray⟩ : ByteArray).size ≤ 25 := hll
      by_cases h9 : 9 < u
      · have hk10 : u % 10 < 10 := by omega
        have hlit := dec_lit (u % 10) hk10
        have hcat := Cat.out [UInt8.ofNat (48 + u % 10)] l
        have hz1 : (⟨([UInt8.ofNat (48 + u % 10)]).toArray⟩ : ByteArray).size = 1 := rfl
        have HS := Lib.hid (HStep.out [] U u l HE.out (by omega))
        obtain ⟨k, hk⟩ : ∃ k, k = u % 10 := ⟨_, rfl⟩
        rw [← hk] at hlit hcat hz1 hk10 HS
        have hrem : (u : Int) % 10 = (k : Int) := by omega
        obtain ⟨u2, hu2⟩ : ∃ u2, u2 = u / 10 := ⟨_, rfl⟩
        have hdiv : (u : Int) / 10 = (u2 : Int) := by omega
        rw [← hu2] at HS
        have hu3 : u2 < u := by omega
        have hgt : (9 : Int) < (u : Int) := by omega
        have HCat := Lib.hid hcat
        clear hk hcat hu2
        generalize (⟨([UInt8.ofNat (48 + k)]).toArray⟩ : ByteArray) = t1 at hlit hz1 HCat
        have HL := Lib.hid hll
        generalize hst : (⟨l.toArray⟩ : ByteArray) = st at hzl HCat ⊢
        clear hst
        go_wp2
        go_roundw
        case rel => exact ⟨u2, UInt8.ofNat (48 + k) :: l, by first | rfl | go_num, by rw [HCat.out]; rfl, HS.out, by omega, trivial⟩
        case measure => simp [RowKit.intOf]; omega
      · have hu10 : u < 10 := by omega
        have hlit := dec_lit u hu10
        have hgt : ¬ (9 : Int) < (u : Int) := by omega
        have hz1 : (⟨([UInt8.ofNat (48 + u)]).toArray⟩ : ByteArray).size = 1 := rfl
        have hfin := HIt.out
        rw [HE.out, decDigits_lt hu10, ← Cat.out] at hfin
        have HFin := Lib.hid hfin
        clear hfin
        generalize (⟨([UInt8.ofNat (48 + u)]).toArray⟩ : ByteArray) = t1 at hlit hz1 HFin
        generalize hst : (⟨l.toArray⟩ : ByteArray) = st at hzl HFin ⊢
        clear hst
        have hu64 : (u : Int) ≤ 9 := by omega
        go_wp2
        go_ret
        have hf := HFin.out
        refine ⟨?_, rfl⟩
        rw [hf, ← ByteArray.append_assoc]
        rfl

/-- The two errors of strconv are there. -/
def ErrVars (w : World) : Prop := ∀ g, (g = Tryd.laysAtoi_ren.g 15 ∨ g = Tryd.laysAtoi_ren.g 16) → ∃ ev, w.cell? ⟨g, 0, none⟩ = some ev ∧ (ev = .nilIface ∨ ∃ te pe, ev = .iface te pe)
theorem ErrVars.keptNo {w w' : World} (h : ErrVars w) (hk : Kept NoB w w') : ErrVars w' := fun g hg => by
  obtain ⟨ev, h1, h2⟩ := h g hg
  exact ⟨ev, hk.cell h1, h2⟩
theorem kept_bytes {w w' : World} {T : TypeId} (h : w' = w ∨ ∃ t, w' = Lib.bytesWorld w T t) : Kept NoB w w' := by
  rcases h with rfl | ⟨t, rfl⟩
  · exact Kept.refl _ _
  · exact (Kept.refl NoB w).ofBelow (Lib.bytesWorld_below _ _ _)
theorem atoi_fn : Tryd.laysAtoi_ren.f 172 = 31 := rfl
/-- strconv.Atoi, of a text of up to a thousand bytes. -/
theorem atoi_any (s : ByteArray) (w : World) (hs : s.size ≤ 1000) (herr : ErrVars w) :
    Calls Tryd.prog 31 #[.string s] w fun e w' => (∃ v ev, e = .returned (.tuple #[.int .i64 v, ev]) ∧ ((ev = .nilIface ∧ atoiAll s.data.toList = .ok v) ∨ ((∃ te pe, ev = .iface te pe) ∧ ∀ v, atoiAll s.data.toList ≠ .ok v))) ∧ Kept NoB w w' := by
  rw [← atoi_fn]
  cases ha : atoiAll s.data.toList with
  | ok v =>
    refine (Any.strconv_Atoi_ok Tryd.laysAtoi s (by omega) v ha w).mono ?_
    rintro e w' ⟨rfl, hw⟩
    exact ⟨⟨v, _, rfl, .inl ⟨rfl, rfl⟩⟩, kept_bytes hw⟩
  | range =>
    obtain ⟨ev, h1, h2⟩ := herr _ (.inr rfl)
    refine (Any.strconv_Atoi_range Tryd.laysAtoi s (by omega) ha ev w h1 h2).mono ?_
    rintro e w' ⟨N, rfl, _, _, hb⟩
    exact ⟨⟨_, _, rfl, .inr ⟨⟨_, _, rfl⟩, fun v h => by cases h⟩⟩, (Kept.refl NoB w).ofBelow hb⟩
  | _ =>
    obtain ⟨ev, h1, h2⟩ := herr _ (.inl rfl)
    refine (Any.strconv_Atoi_syntax Tryd.laysAtoi s (by omega) ha ev w h1 h2).mono ?_
    rintro e w' ⟨N, rfl, _, _, hb⟩
    exact ⟨⟨_, _, rfl, .inr ⟨⟨_, _, rfl⟩, fun v h => by cases h⟩⟩, (Kept.refl NoB w).ofBelow hb⟩

set_option maxHeartbeats 1000000 in
theorem number_any (s : ByteArray) (w : World) (hs : s.size ≤ 1000) (htab : Pow10 w) (herr : ErrVars w) :
    Calls Tryd.prog 11 #[.string s] w fun e w' => e = .returned (.tuple #[.int .i64 (numL s.data.toList).1, .bool (numL s.data.toList).2]) ∧ Kept NoB w w' := by
  have HA := Lib.hid (atoi_any s w hs herr)
  have HT := Lib.hid htab
  clear herr htab hs
  go_enter Tryd.func11, Tryd.ntmps11
  go_wp2_with fail
  refine HA.out.mono ?_
  rintro e w1 ⟨⟨v, ev, rfl, hc⟩, hk1⟩
  have HK1 := Lib.hid hk1
  clear hk1 HA
  rcases hc with ⟨rfl, ha⟩ | ⟨⟨te, pe, rfl⟩, ha⟩
  · obtain ⟨h0, h1⟩ := atoiAll_bounds ha
    have hn : numL s.data.toList = if itoa v = s.data.toList then (v, true) else (0, false) := by unfold numL; rw [ha]
    have HD := Lib.hid (digits_any v h0 h1 w1 (HT.out.keptNo HK1.out))
    have HN := Lib.hid hn
    clear ha hn
    go_wp2_with fail
    refine HD.out.mono ?_
    rintro e w2 ⟨rfl, hk2⟩
    have HK2 := Lib.hid (HK1.out.trans hk2)
    clear hk2 HD
    by_cases heq : itoa v = s.data.toList
    · have hn := HN.out
      rw [if_pos heq] at hn
      have hse : (⟨(itoa v).toArray⟩ : ByteArray) = s := by rw [heq]
      have HN2 := Lib.hid hn
      clear hn heq HN
      rw [hse]
      clear hse
      go_wp2
      go_ret2
      exact ⟨by rw [HN2.out]; rfl, HK2.out⟩
    · have hn := HN.out
      rw [if_neg heq] at hn
      have hse : ((⟨(itoa v).toArray⟩ : ByteArray).toList == s.toList) = false := by
        apply beq_eq_false_iff_ne.2
        intro e
        apply heq
        rw [ByteArray.toList_eq, ByteArray.toList_eq] at e
        exact e
      have HN2 := Lib.hid hn
      clear hn heq HN
      generalize (⟨(itoa v).toArray⟩ : ByteArray) = t at hse ⊢
      go_wp2
      go_ret2
      exact ⟨by rw [HN2.out]; rfl, HK2.out⟩
  · have hn : numL s.data.toList = (0, false) := by
      unfold numL
      cases hx : atoiAll s.data.toList with
      | ok v => exact absurd hx (ha v)
      | _ => rfl
    have HN := Lib.hid hn
    clear hn ha
    go_wp2
    go_ret2
    exact ⟨by rw [HN.out]; rfl, HK1.out⟩
end Go.Proofs.YtbambcondcikbaaDoor
