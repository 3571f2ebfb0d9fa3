/-
  The library's stable sort at leaves: a whole row.
-/
import Derived.Test.YtokdlmpnokmniaaSortG
namespace Go.Proofs.Ytokdlmpnokmniaa
open Go.RowKit
set_option linter.unusedVariables false
set_option linter.unusedSimpArgs false

/-- Ranges of K leaves each, one behind the other, each in order. -/
inductive Full (K : Nat) : List Lf → List Lf → Prop
  | nil : Full K [] []
  | snoc {S X T B : List Lf} : Full K S X → B.length = K → SrtP T B → Full K (S ++ T) (X ++ B)
/-- The same, the last one of fewer. -/
inductive Bl (K : Nat) : List Lf → List Lf → Prop
  | last {S X : List Lf} : X.length < K → SrtP S X → Bl K S X
  | cons {S X T B : List Lf} : B.length = K → SrtP T B → Bl K S X → Bl K (T ++ S) (B ++ X)
theorem Full.then {K : Nat} {S X S' X' : List Lf} (h : Full K S X) (k : Bl K S' X') : Bl K (S ++ S') (X ++ X') := by
  induction h generalizing S' X' with
  | nil => exact k
  | snoc h hl hs ih =>
    rw [List.append_assoc, List.append_assoc]
    exact ih (Bl.cons hl hs k)
theorem Full.len {K : Nat} {S X : List Lf} (h : Full K S X) : S.length = X.length := by
  induction h with
  | nil => rfl
  | snoc h hl hs ih => rw [List.length_append, List.length_append, ih, hs.len]
theorem Bl.len {K : Nat} {S X : List Lf} (h : Bl K S X) : S.length = X.length := by
  induction h with
  | last h hs => exact hs.len
  | cons hl hs h ih => rw [List.length_append, List.length_append, ih, hs.len]
theorem Bl.one {K : Nat} {S X : List Lf} (h : Bl K S X) (hl : X.length ≤ K) : SrtP S X := by
  cases h with
  | last h hs => exact hs
  | @cons S X T B h1 hs h =>
    have : X.length = 0 := by rw [List.length_append] at hl; omega
    have hx := List.eq_nil_of_length_eq_zero this
    have h2 := h.len
    rw [this] at h2
    have hs2 := List.eq_nil_of_length_eq_zero h2
    rw [hx, hs2, List.append_nil, List.append_nil]
    exact hs
theorem Bl.first {K : Nat} {S X : List Lf} (h : Bl K S X) (hl : K ≤ X.length) : ∃ T B S' X', S = T ++ S' ∧ X = B ++ X' ∧ B.length = K ∧ SrtP T B ∧ Bl K S' X' := by
  cases h with
  | last h hs => omega
  | @cons S X T B h1 hs h => exact ⟨T, B, S, X, rfl, rfl, h1, hs, h⟩
theorem inc_cross {X A B C : List Lf} {P : List Lf} (h : Inc X) (e : X = P ++ (A ++ (B ++ C))) {S T : List Lf} (hs : SrtP S A) (ht : SrtP T B) : Cross S T := by
  unfold Inc at h
  rw [e] at h
  have h2 := (List.pairwise_append.1 (List.pairwise_append.1 h).2.1).2.2
  intro x hx y hy
  exact h2 x (hs.perm.mem_iff.1 hx) y (List.mem_append_left _ (ht.perm.mem_iff.1 hy))
theorem inc_part {X A B P : List Lf} (h : Inc X) (e : X = P ++ (A ++ B)) : Inc A := by
  unfold Inc at h
  rw [e] at h
  exact (List.pairwise_append.1 (List.pairwise_append.1 h).2.1).1

theorem ins_any (G n c a b : Nat) (p X q : List Lf) (w : World) (h : SrtSt G n c w w (p ++ (X ++ q))) (ha : p.length = a) (hb : a + X.length = b) (hI : Inc X) (hn : n ≤ 1000) :
    Calls Try.prog 50 #[.slice (some ⟨G, 0, none⟩) n c, .int .i64 (a : Int), .int .i64 (b : Int), .func (.func 43) #[] #[]] w fun e w' => e = .returned (.tuple #[]) ∧ ∃ S, SrtP S X ∧ SrtSt G n c w w' (p ++ (S ++ q)) := by
  by_cases hx : 1 ≤ X.length
  · exact ins_calls G n c a b p X q w h ha hb hx hI hn
  · have hx0 := List.eq_nil_of_length_eq_zero (show X.length = 0 by omega)
    subst hx0
    have hab : b = a := by simpa using hb.symm
    subst hab
    have hl := h.len
    refine (ins_nil G n c b w (by simp at hl; omega) hn).mono ?_
    rintro e w' ⟨rfl, rfl⟩
    exact ⟨rfl, [], ⟨List.Perm.refl _, List.Pairwise.nil⟩, h⟩

set_option maxRecDepth 20000 in
set_option maxHeartbeats 2000000 in
theorem stable_calls (G n c : Nat) (X : List Lf) (w : World) (h : SrtSt G n c w w X) (hI : Inc X) (hn : n ≤ 1000) :
    Calls Try.prog 47 #[.slice (some ⟨G, 0, none⟩) n c, .int .i64 (n : Int), .func (.func 43) #[] #[]] w fun e w' => e = .returned (.tuple #[]) ∧ ∃ S, SrtP S X ∧ SrtSt G n c w w' S := by
  have HS0 := Lib.hid h; have HI := Lib.hid hI; have HL := Lib.hid h.len
  clear h hI
  go_enter Try.func47, Try.ntmps47
  go_wp2
  go_loopw [7, 8] (fun v7 v8 wr => ∃ (a b : Nat) (X1 X2 S1 : List Lf), v7 = .int .i64 (a : Int) ∧ v8 = .int .i64 (b : Int) ∧ a + 20 = b ∧ a ≤ n ∧ Hid (X = X1 ++ X2) ∧ Hid (X1.length = a) ∧ Hid (Full 20 S1 X1) ∧ Hid (SrtSt G n c w wr (S1 ++ X2))) (fun _ v8 _ => n + 20 - (intOf v8).toNat)
  case atStart => exact ⟨0, 20, [], X, [], rfl, rfl, rfl, by omega, Lib.hid rfl, Lib.hid rfl, Lib.hid .nil, HS0⟩
  case round =>
    obtain ⟨a, b, X1, X2, S1, rfl, rfl, hab, han, HX, HX1, HF, HS⟩ := hrel
    have hx2 : X2.length + a = n := by have := HL.out; rw [HX.out, List.length_append] at this; have := HX1.out; omega
    by_cases hlt : (b : Int) ≤ n
    · obtain ⟨B, Z, rfl, hB, hZ⟩ := split_at X2 20 X2.length rfl (by omega)
      have hr := ins_calls G n c a b S1 B Z wr HS.out.start (by rw [HF.out.len]; exact HX1.out) (by omega) (by omega) (inc_part HI.out HX.out) hn
      have HR := Lib.hid hr
      obtain ⟨b2, hb2⟩ : ∃ b2, b + 20 = b2 := ⟨_, rfl⟩
      have e1 : IntKind.i64.wrap ((b : Int) + 20) = (b2 : Int) := by rw [IntWalk.i64_in _ (by omega)]; omega
      have HBl := Lib.hid hB
      clear hr hB hZ hx2
      go_wp2_with fail
      refine HR.out.mono ?_
      rintro e w1 ⟨rfl, S, hsp, hs⟩
      have HSp := Lib.hid hsp; have HSn := Lib.hid hs
      clear hsp hs
      go_wp2
      go_roundw
      case rel =>
        refine ⟨b, b2, X1 ++ B, Z, S1 ++ S, rfl, by go_num, hb2, by omega, Lib.hid (by rw [HX.out]; simp), Lib.hid (by rw [List.length_append, HX1.out, HBl.out]; exact hab), Lib.hid (Full.snoc HF.out HBl.out HSp.out), Lib.hid ?_⟩
        have := HS.out.from HSn.out
        simpa [List.append_assoc] using this
      case measure => simp [intOf]; omega
    · have hr := ins_any G n c a n S1 X2 [] wr (by simpa using HS.out.start) (by rw [HF.out.len]; exact HX1.out) (by omega) (inc_part HI.out (show X = X1 ++ (X2 ++ []) by simpa using HX.out)) hn
      have HR := Lib.hid hr
      have HX2 := Lib.hid hx2
      clear hr hx2
      go_wp2_with fail
      refine HR.out.mono ?_
      rintro e w1 ⟨rfl, S2, hsp, hs⟩
      have hbl : Bl 20 (S1 ++ S2) X := by
        rw [HX.out]
        exact HF.out.then (.last (by have := HX2.out; omega) hsp)
      have hs1 : SrtSt G n c w w1 (S1 ++ S2) := by
        have := HS.out.from hs
        simpa using this
      have HBl := Lib.hid hbl; have HS1 := Lib.hid hs1
      clear hsp hs hbl hs1 HX HX1 HF HS HR HX2 HS0 hab han hlt
      go_wp2
      go_loopw [6, 7, 8, 9] (fun v6 _v7 _v8 _v9 wr => ∃ (K : Nat) (S : List Lf), v6 = .int .i64 (K : Int) ∧ 20 ≤ K ∧ K ≤ 2 * n + 20 ∧ Hid (Bl K S X) ∧ Hid (SrtSt G n c w wr S)) (fun v6 _ _ _ _ => n - (intOf v6).toNat)
      case atStart => exact ⟨20, _, rfl, by omega, by omega, HBl, HS1⟩
      case round =>
        clear HBl HS1
        obtain ⟨K, S, rfl, hK, hKn, HBl, HS⟩ := hrel
        by_cases hlt : (K : Int) < n
        · obtain ⟨K2, hK2⟩ : ∃ K2, K2 = 2 * K := ⟨_, rfl⟩
          have e1 : IntKind.i64.wrap (2 * (K : Int)) = (K2 : Int) := by rw [IntWalk.i64_in _ (by omega)]; omega
          have HK2 := Lib.hid hK2
          clear hK2
          go_wp2
          go_loopw [7, 8] (fun v7 v8 wr => ∃ (a b : Nat) (X1 X2 S1 S2 : List Lf), v7 = .int .i64 (a : Int) ∧ v8 = .int .i64 (b : Int) ∧ a + K2 = b ∧ a ≤ n ∧ Hid (X = X1 ++ X2) ∧ Hid (X1.length = a) ∧ Hid (Full K2 S1 X1) ∧ Hid (Bl K S2 X2) ∧ Hid (SrtSt G n c w wr (S1 ++ S2))) (fun _ v8 _ => n + K2 - (intOf v8).toNat)
          case atStart => exact ⟨0, K2, [], X, [], S, rfl, rfl, by omega, by omega, Lib.hid rfl, Lib.hid rfl, Lib.hid .nil, HBl, HS⟩
          case round =>
            clear e1
            obtain ⟨a, b, X1, X2, S1, S2, rfl, rfl, hab, han, HX, HX1, HF, HB, HS⟩ := hrel
            have hx2 : X2.length + a = n := by have := HL.out; rw [HX.out, List.length_append] at this; have := HX1.out; omega
            by_cases hlt2 : (b : Int) ≤ n
            · obtain ⟨T1, B1, S3, X3, rfl, rfl, hb1, hs1, hbl1⟩ := HB.out.first (by have := HK2.out; omega)
              rw [List.length_append, hb1] at hx2
              obtain ⟨T2, B2, S4, X4, rfl, rfl, hb2, hs2, hbl2⟩ := hbl1.first (by have := HK2.out; omega)
              rw [List.length_append, hb2] at hx2
              have hcr : Cross T1 T2 := inc_cross HI.out HX.out hs1 hs2
              obtain ⟨m, hm⟩ : ∃ m, a + K = m := ⟨_, rfl⟩
              have hr := sym_calls (b - a) G n c a m b S1 T1 T2 S4 wr (Nat.le_refl _) (by simpa [List.append_assoc] using HS.out.start) (by rw [HF.out.len]; exact HX1.out) (by rw [hs1.len, hb1]; exact hm) (by rw [hs2.len, hb2]; have := HK2.out; omega) (by rw [hs1.len, hb1]; omega) (by rw [hs2.len, hb2]; omega) hs1.srt hs2.srt hcr hn
              have HR := Lib.hid hr
              have e2 := i64_add a K m hm (by omega)
              obtain ⟨b2, hb2'⟩ : ∃ b2, b + K2 = b2 := ⟨_, rfl⟩
              have e3 := i64_add b K2 b2 hb2' (by have := HK2.out; omega)
              have e4 : IntKind.i64.wrap (2 * (K : Int)) = (K2 : Int) := by rw [IntWalk.i64_in _ (by omega)]; have := HK2.out; omega
              have HB1 := Lib.hid hb1; have HB2 := Lib.hid hb2; have HP1 := Lib.hid hs1; have HP2 := Lib.hid hs2; have HBl2 := Lib.hid hbl2; have HX2 := Lib.hid hx2
              have hbn : b ≤ n := by omega
              clear hr hcr hb1 hb2 hs1 hs2 hbl1 hbl2 hx2 hm
              go_wp2_with fail
              refine HR.out.mono ?_
              rintro e w2 ⟨rfl, T, hsp, hs⟩
              have HSp := Lib.hid hsp; have HSn := Lib.hid hs
              clear hsp hs
              go_wp2
              go_roundw
              case rel =>
                refine ⟨b, b2, X1 ++ (B1 ++ B2), X4, S1 ++ T, S4, rfl, by go_num, hb2', hbn, Lib.hid (by rw [HX.out]; simp [List.append_assoc]), Lib.hid (by simp only [List.length_append, HX1.out, HB1.out, HB2.out]; have := HK2.out; omega), Lib.hid (Full.snoc HF.out (by rw [List.length_append, HB1.out, HB2.out]; have := HK2.out; omega) ⟨HSp.out.perm.trans (HP1.out.perm.append HP2.out.perm), HSp.out.srt⟩), HBl2, Lib.hid ?_⟩
                have := HS.out.from HSn.out
                simpa [List.append_assoc] using this
              case measure => have := HK2.out; simp [intOf]; omega
            · have hend : ∀ T w', SrtP T X2 → SrtSt G n c w w' (S1 ++ T) → Bl K2 (S1 ++ T) X ∧ SrtSt G n c w w' (S1 ++ T) := by
                intro T w' h1 h2
                refine ⟨?_, h2⟩
                rw [HX.out]
                exact HF.out.then (.last (by omega) h1)
              have HEnd := Lib.hid hend
              have e4 : IntKind.i64.wrap ((K : Int) * 2) = (K2 : Int) := by rw [IntWalk.i64_in _ (by omega)]; have := HK2.out; omega
              obtain ⟨m, hm⟩ : ∃ m, a + K = m := ⟨_, rfl⟩
              have e2 := i64_add a K m hm (by omega)
              have HX2 := Lib.hid hx2; have HM := Lib.hid hm
              clear hend hx2 hm
              by_cases hmn : (m : Int) < n
              · obtain ⟨T1, B1, S3, X3, rfl, rfl, hb1, hs1, hbl1⟩ := HB.out.first (by have := HX2.out; have := HM.out; omega)
                have hx2 := HX2.out
                rw [List.length_append, hb1] at hx2
                have hs2 := hbl1.one (by have := HK2.out; omega)
                have hcr : Cross T1 S3 := inc_cross HI.out (show _ = _ ++ (B1 ++ (X3 ++ [])) by simpa using HX.out) hs1 hs2
                have hr := sym_calls (n - a) G n c a m n S1 T1 S3 [] wr (Nat.le_refl _) (by simpa [List.append_assoc] using HS.out.start) (by rw [HF.out.len]; exact HX1.out) (by rw [hs1.len, hb1]; exact HM.out) (by rw [hs2.len]; have := HM.out; omega) (by rw [hs1.len, hb1]; omega) (by rw [hs2.len]; have := HM.out; omega) hs1.srt hs2.srt hcr hn
                have HR := Lib.hid hr; have HP1 := Lib.hid hs1; have HP2 := Lib.hid hs2
                clear hr hcr hb1 hs1 hbl1 hx2 hs2
                go_wp2_with fail
                refine HR.out.mono ?_
                rintro e w2 ⟨rfl, T, hsp, hs⟩
                have ho := HEnd.out T w2 ⟨hsp.perm.trans (HP1.out.perm.append HP2.out.perm), hsp.srt⟩ (by simpa using HS.out.from hs)
                have HO := Lib.hid ho
                clear hsp hs ho
                go_wp2
                go_roundw
                case rel => exact ⟨K2, _, by go_num, by have := HK2.out; omega, by have := HK2.out; omega, Lib.hid HO.out.1, Lib.hid HO.out.2⟩
                case measure => have := HK2.out; simp [intOf]; omega
              · have hs2 := HB.out.one (by have := HX2.out; have := HM.out; omega)
                have ho := HEnd.out S2 wr hs2 HS.out
                have HO := Lib.hid ho
                clear hs2 ho
                go_wp2
                go_roundw
                case rel => exact ⟨K2, _, by go_num, by have := HK2.out; omega, by have := HK2.out; omega, Lib.hid HO.out.1, Lib.hid HO.out.2⟩
                case measure => have := HK2.out; simp [intOf]; omega
        · have hone := HBl.out.one (by have := HL.out; omega)
          have HOne := Lib.hid hone
          clear hone
          go_wp2
          go_end0
          exact ⟨rfl, S, HOne.out, HS.out⟩
end Go.Proofs.Ytokdlmpnokmniaa
