/-
  The library's stable sort at leaves: a short range put in order, a leaf after the other.
-/
import Derived.Test.YtokdlmpnokmniaaSortF
namespace Go.Proofs.Ytokdlmpnokmniaa
open Go.RowKit
set_option linter.unusedVariables false
set_option linter.unusedSimpArgs false

/-- The places rise. -/
def Inc (X : List Lf) : Prop := X.Pairwise (fun x y => x.1 < y.1)

theorem ins_nil (G n c a : Nat) (w : World) (ha : a ≤ n) (hn : n ≤ 1000) :
    Calls Try.prog 50 #[.slice (some ⟨G, 0, none⟩) n c, .int .i64 (a : Int), .int .i64 (a : Int), .func (.func 43) #[] #[]] w fun e w' => e = .returned (.tuple #[]) ∧ w = w' := by
  have e1 := i64_succ a (a + 1) rfl (by omega)
  go_enter Try.func50, Try.ntmps50
  go_wp2
  go_loopw [8, 9] (fun v8 _v9 wr => v8 = .int .i64 ((a : Int) + 1) ∧ w = wr) (fun _ _ _ => 0)
  case atStart => exact ⟨by first | rfl | (rw [e1]; rfl), rfl⟩
  case round =>
    obtain ⟨rfl, rfl⟩ := hrel
    go_wp2
    go_end0
    exact ⟨rfl, rfl⟩

set_option maxRecDepth 20000 in
set_option maxHeartbeats 2000000 in
theorem ins_calls (G n c a b : Nat) (p X q : List Lf) (w : World) (h : SrtSt G n c w w (p ++ (X ++ q))) (ha : p.length = a) (hb : a + X.length = b) (hX1 : 1 ≤ X.length) (hI : Inc X) (hn : n ≤ 1000) :
    Calls Try.prog 50 #[.slice (some ⟨G, 0, none⟩) n c, .int .i64 (a : Int), .int .i64 (b : Int), .func (.func 43) #[] #[]] w fun e w' => e = .returned (.tuple #[]) ∧ ∃ S, SrtP S X ∧ SrtSt G n c w w' (p ++ (S ++ q)) := by
  have hlen := h.len
  have hbn : b ≤ n := by simp at hlen; omega
  obtain ⟨x0, X0, hX0⟩ : ∃ x0 X0, X = [x0] ++ X0 := by
    cases X with
    | nil => simp at hX1
    | cons x r => exact ⟨x, r, rfl⟩
  obtain ⟨a1, ha1⟩ : ∃ a1, a + 1 = a1 := ⟨_, rfl⟩
  have e1 := i64_succ a a1 ha1 (by omega)
  have hab : a1 ≤ b := by omega
  have HS0 := Lib.hid h; have HA := Lib.hid ha; have HB := Lib.hid hb; have HI := Lib.hid hI; have HX0 := Lib.hid hX0; have HA1 := Lib.hid ha1
  clear h ha hb hI hX0 hX1 hlen ha1
  go_enter Try.func50, Try.ntmps50
  go_wp2
  go_loopw [8, 9] (fun v8 _v9 wr => ∃ (i : Nat) (Y S Z : List Lf), v8 = .int .i64 (i : Int) ∧ a1 ≤ i ∧ i ≤ b ∧ Hid (X = Y ++ Z) ∧ Hid (a + Y.length = i) ∧ Hid (SrtP S Y) ∧ Hid (SrtSt G n c w wr (p ++ (S ++ (Z ++ q))))) (fun v8 _ _ => b - (intOf v8).toNat)
  case atStart =>
    refine ⟨a1, [x0], [x0], X0, by first | rfl | (rw [← HA1.out]; rfl), by omega, hab, HX0, Lib.hid (by have := HA1.out; simpa using this), Lib.hid ⟨List.Perm.refl _, by simp⟩, Lib.hid ?_⟩
    have := HS0.out
    rw [HX0.out, List.append_assoc] at this
    exact this
  case round =>
    clear e1
    obtain ⟨i, Y, S, Z, rfl, hai, hib, HYZ, HYl, HSP, HS⟩ := hrel
    by_cases hlt : (i : Int) < b
    · have hz : 0 < Z.length := by
        have := HB.out; have h2 := HYl.out
        rw [HYZ.out, List.length_append] at this
        omega
      obtain ⟨x, Z2, rfl⟩ : ∃ x Z2, Z = x :: Z2 := by
        cases Z with
        | nil => simp at hz
        | cons x r => exact ⟨x, r, rfl⟩
      have hpl : ∀ u ∈ S, u.1 < x.1 := by
        intro u hu
        have hi := HI.out
        unfold Inc at hi
        rw [HYZ.out] at hi
        exact (List.pairwise_append.1 hi).2.2 u (HSP.out.perm.mem_iff.1 hu) x List.mem_cons_self
      have HPl := Lib.hid hpl
      have hSl := HSP.out.len
      have HSl := Lib.hid (show a + S.length = i by rw [hSl]; exact HYl.out)
      clear hz hpl hSl
      have hstart : SrtSt G n c w wr (p ++ (S ++ (x :: ([] ++ (Z2 ++ q))))) := by simpa using HS.out
      have HSt := Lib.hid hstart
      clear hstart HS
      go_wp2
      go_loopw [9] (fun v9 wr => ∃ (j : Nat) (S1 S2 : List Lf), v9 = .int .i64 (j : Int) ∧ a ≤ j ∧ j ≤ i ∧ Hid (S = S1 ++ S2) ∧ Hid (a + S1.length = j) ∧ Hid (∀ u ∈ S2, Bef x u) ∧ Hid (SrtSt G n c w wr (p ++ (S1 ++ (x :: (S2 ++ (Z2 ++ q))))))) (fun v9 _ => (intOf v9).toNat - a)
      case atStart => exact ⟨i, S, [], rfl, by have := HA1.out; omega, by omega, Lib.hid (by simp), HSl, Lib.hid (fun u hu => by cases hu), HSt⟩
      case round =>
        clear HSt
        obtain ⟨j, S1, S2, rfl, haj, hji, HSS, HS1, HBf, HS⟩ := hrel
        have hout : (∀ u ∈ S1, Bef u x) → ∀ w', SrtSt G n c w w' (p ++ (S1 ++ (x :: (S2 ++ (Z2 ++ q))))) →
            X = (Y ++ [x]) ++ Z2 ∧ a + (Y ++ [x]).length = i + 1 ∧ SrtP (S1 ++ x :: S2) (Y ++ [x]) ∧ SrtSt G n c w w' (p ++ ((S1 ++ x :: S2) ++ (Z2 ++ q))) := by
          intro h1 w' hs
          have hp := HSP.out
          rw [HSS.out] at hp
          refine ⟨by rw [HYZ.out]; simp, by rw [List.length_append, List.length_singleton]; have := HYl.out; omega, ⟨?_, ins_srt hp.srt h1 HBf.out⟩, by simpa [List.append_assoc] using hs⟩
          exact List.perm_middle.trans ((List.Perm.cons x hp.perm).trans (List.perm_append_singleton x Y).symm)
        have HOut := Lib.hid hout
        clear hout
        by_cases hja : a < j
        · obtain ⟨t, ht⟩ : ∃ t, t + 1 = j := ⟨j - 1, by omega⟩
          obtain ⟨S3, hS3⟩ := snoc_of S1 (t - a) (by have := HS1.out; omega)
          obtain ⟨y, hy⟩ : ∃ y, y = S1.getD (t - a) (0, 0) := ⟨_, rfl⟩
          rw [← hy] at hS3
          subst hS3
          have hrow : SrtSt G n c w wr ((p ++ S3) ++ y :: ([] ++ x :: (S2 ++ (Z2 ++ q)))) := by
            have := HS.out
            simpa [List.append_assoc] using this
          have hcl : a + S3.length = t := by have := HS1.out; simp at this; omega
          obtain ⟨b5, b6, hst, d0, d1, d2, d3, hfr, _, hdn⟩ := hrow.two (s := t) (t := j) (by simp only [List.length_append, HA.out]; omega) (by simpa using ht)
          have hcy := HPl.out y (by rw [HSS.out]; simp)
          obtain ⟨k, hk, hless⟩ := cmp_two x y
          have HLs := Lib.hid hless; have HK := Lib.hid hk; have HCY := Lib.hid hcy; have HT := Lib.hid ht; have HCl := Lib.hid hcl; have HTw := Lib.hid (hrow.two (s := t) (t := j) (by simp only [List.length_append, HA.out]; omega) (by simpa using ht))
          have HRw := Lib.hid hrow
          clear hdn
          obtain ⟨x1, x2⟩ := x
          obtain ⟨y1, y2⟩ := y
          simp only at HLs
          have b1 := i64_pred j t ht (by omega)
          have b2 : (j : Int) < n := by omega
          have b3 : (t : Int) < n := by omega
          have c5 : decide ((a : Int) < (j : Int)) = true := decide_eq_true (by omega)
          have c5n : decide (a < j) = true := decide_eq_true hja
          have hk0 : Kept NoB wr wr := Kept.refl _ _
          have D0 : ∀ W : World, Kept NoB wr W → W.cell? ⟨G, j * 2, none⟩ = some (.int .i64 x1) := fun W hk => hk.cell d2
          have D1 : ∀ W : World, Kept NoB wr W → W.cell? ⟨G, j * 2 + 1, none⟩ = some (.int .i64 x2) := fun W hk => hk.cell d3
          have D2 : ∀ W : World, Kept NoB wr W → W.cell? ⟨G, t * 2, none⟩ = some (.int .i64 y1) := fun W hk => hk.cell d0
          have D3 : ∀ W : World, Kept NoB wr W → W.cell? ⟨G, t * 2 + 1, none⟩ = some (.int .i64 y2) := fun W hk => hk.cell d1
          clear hless hk hy hcy hst d0 d1 d2 d3 hfr hrow hcl ht HS
          by_cases hc : x2 < y2
          · have hd : decide (k < 0) = true := by rw [HK.out]; exact decide_eq_true hc
            go_upto_region 4 with fail
            go_region_held3 (fun W => Kept NoB wr W) (first | assumption | exact Kept.drew (Kept.refl _ _) | exact Kept.drew (by assumption) | exact Kept.trans (by assumption) hkn)
              (first
                | (go_at_call 43; ((with_reducible refine (HLs.out _).mono ?_); rintro e wn ⟨rfl, hkn⟩)))
            have hkw : Kept NoB wr wn := by assumption
            have hrn := HRw.out.then hkw (fun _ h => h)
            obtain ⟨_, _, hst, d0, d1, d2, d3, hfr, _, hdn⟩ := hrn.two (s := t) (t := j) (by simp only [List.length_append, HA.out]; have := HCl.out; omega) (by simpa using HT.out)
            have HF := Lib.hid hdn
            have f0 := hfr (j * 2)
            have f1 := hfr (j * 2 + 1)
            have f2 := hfr (t * 2)
            have f3 := hfr (t * 2 + 1)
            have hst2 : ¬ j = t := by omega
            clear hkw hkn D0 D1 D2 D3 hk0 hrn hdn hfr hst c5 c5n hd HTw HRw
            go_upto_region 6 with fail
            go_region
            have HF2 : Hid (SrtSt G n c w _ _) := Lib.hid (HF.out.then (Kept.drew (Kept.refl NoB _)) (fun _ h => h))
            clear HF d0 d1 d2 d3 f0 f1 f2 f3
            go_wp2
            go_roundw
            case rel =>
              refine ⟨t, S3, (y1, y2) :: S2, by go_num, by have := HCl.out; omega, by have := HT.out; omega, Lib.hid (by rw [HSS.out]; simp), HCl, Lib.hid ?_, Lib.hid ?_⟩
              · intro u hu
                rcases List.mem_cons.1 hu with rfl | hu
                · exact .inl hc
                · exact HBf.out u hu
              · have := HF2.out
                simpa [List.append_assoc] using this
            case measure => have := HT.out; simp [intOf]; omega
          · have hd : decide (k < 0) = false := by rw [HK.out]; exact decide_eq_false hc
            go_upto_region 4 with fail
            go_region_held3 (fun W => Kept NoB wr W) (first | assumption | exact Kept.drew (Kept.refl _ _) | exact Kept.drew (by assumption) | exact Kept.trans (by assumption) hkn)
              (first
                | (go_at_call 43; ((with_reducible refine (HLs.out _).mono ?_); rintro e wn ⟨rfl, hkn⟩)))
            have hkw : Kept NoB wr wn := by assumption
            have hrn := HRw.out.then hkw (fun _ h => h)
            have hb1 : ∀ u ∈ S3 ++ [(y1, y2)], Bef u (x1, x2) := by
              have hsr := HSP.out.srt
              rw [HSS.out] at hsr
              have hyx : Bef (y1, y2) (x1, x2) := by have := HCY.out; unfold Bef; simp only at this ⊢; omega
              have h3 := (List.pairwise_append.1 (List.pairwise_append.1 hsr).1).2.2
              intro u hu
              rcases List.mem_append.1 hu with hu | hu
              · exact (h3 u hu (y1, y2) (List.mem_singleton.2 rfl)).trans hyx
              · rw [List.mem_singleton.1 hu]; exact hyx
            have ho := HOut.out hb1 wn (by simpa [List.append_assoc] using hrn)
            have HO := Lib.hid ho
            have hnd : ¬ k < 0 := of_decide_eq_false hd
            clear hkw hkn D0 D1 D2 D3 hk0 hrn ho hb1 HTw HRw
            go_wp2
            go_roundw
            case rel => exact ⟨i + 1, _, _, _, by go_num, by omega, by omega, Lib.hid HO.out.1, Lib.hid HO.out.2.1, Lib.hid HO.out.2.2.1, Lib.hid HO.out.2.2.2⟩
            case measure => simp [intOf]; omega
        · have hS1 : S1 = [] := List.eq_nil_of_length_eq_zero (by have := HS1.out; omega)
          have hja2 : j = a := by omega
          have ho := HOut.out (by rw [hS1]; intro u hu; cases hu) wr HS.out
          have HO := Lib.hid ho
          clear ho hS1 HS
          subst hja2
          have c5 : decide ((j : Int) < (j : Int)) = false := decide_eq_false (by omega)
          have c5n : decide (j < j) = false := decide_eq_false (by omega)
          go_upto_region 4 with fail
          go_quiet (fail)
          have HO2 := Lib.hid (HO.out.2.2.2.then ((Kept.refl NoB wr).drewN nq) (fun _ h => h))
          go_wp2
          go_roundw
          case rel => exact ⟨i + 1, _, _, _, by go_num, by omega, by omega, Lib.hid HO.out.1, Lib.hid HO.out.2.1, Lib.hid HO.out.2.2.1, HO2⟩
          case measure => simp [intOf]; omega
    · have hib2 : i = b := by omega
      subst hib2
      have hz : Z = [] := by
        have := HB.out; have h2 := HYl.out
        rw [HYZ.out, List.length_append] at this
        exact List.eq_nil_of_length_eq_zero (by omega)
      subst hz
      have hxy : X = Y := by rw [HYZ.out]; simp
      go_wp2
      go_end0
      exact ⟨rfl, S, HSP.out, by simpa using HS.out⟩
end Go.Proofs.Ytokdlmpnokmniaa
