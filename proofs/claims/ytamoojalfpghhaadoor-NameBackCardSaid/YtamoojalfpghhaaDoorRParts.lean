/-
  The document's Parts.
-/
import Derived.Test.YtamoojalfpghhaaDoorSlash
namespace Go.Proofs.YtamoojalfpghhaaDoor
open Go.RowKit Go.Shelf
set_option linter.unusedVariables false
set_option linter.unusedSimpArgs false

theorem pieces_mem_len : ∀ (l p : List UInt8), p ∈ pieces l → p.length ≤ l.length
  | [], p, h => by simp [pieces] at h; subst h; simp
  | b :: r, p, h => by
    have ih := pieces_mem_len r
    unfold pieces at h
    split at h
    · rcases List.mem_cons.1 h with rfl | h
      · simp
      · have := ih p h; simp; omega
    · split at h
      · simp at h; subst h; simp
      · rename_i q qs hq
        rw [hq] at ih
        rcases List.mem_cons.1 h with rfl | h
        · have := ih q (by simp); simp; omega
        · have := ih p (by simp [h]); simp; omega
theorem keep_mem_len (l p : List UInt8) (h : p ∈ keepP (pieces l)) : p.length ≤ l.length := pieces_mem_len l p (List.mem_filter.1 h).1
theorem keep_len (l : List UInt8) : (keepP (pieces l)).length ≤ l.length + 1 := Nat.le_trans (List.length_filter_le _ _) (pieces_len l)
theorem pieces_has : ∀ (l : List UInt8), (0 : UInt8) ∈ l → ∃ p ∈ pieces l, (0 : UInt8) ∈ p
  | [], h => by cases h
  | b :: r, h => by
    unfold pieces
    by_cases hb : b = 47
    · rw [if_pos hb]
      rcases List.mem_cons.1 h with h | h
      · rw [hb] at h; cases h
      · obtain ⟨p, h1, h2⟩ := pieces_has r h
        exact ⟨p, by simp [h1], h2⟩
    · rw [if_neg hb]
      rcases List.mem_cons.1 h with h | h
      · cases pieces r with
        | nil => exact ⟨[b], by simp, by simp [h]⟩
        | cons q qs => exact ⟨b :: q, by simp, by simp [h]⟩
      · obtain ⟨p, h1, h2⟩ := pieces_has r h
        cases hp : pieces r with
        | nil => rw [hp] at h1; cases h1
        | cons q qs =>
          rw [hp] at h1
          rcases List.mem_cons.1 h1 with rfl | h1
          · exact ⟨b :: p, by simp, by simp [h2]⟩
          · exact ⟨p, by simp [h1], h2⟩
theorem okP_zero (p : List UInt8) (h : (0 : UInt8) ∈ p) : okP p = false := by
  have hb : (strB p).data.toList.any badB = true := List.any_eq_true.2 ⟨0, h, rfl⟩
  rw [okP, okN, indexAny_bad, hb]; simp
theorem nought_bad (l : List UInt8) (h : noughtL l = true) : (keepP (pieces l)).all okP = false := by
  obtain ⟨b, h1, h2⟩ := List.any_eq_true.1 h
  have hb : b = 0 := by simpa using h2
  subst hb
  obtain ⟨p, hp, h0⟩ := pieces_has l h1
  rw [List.all_eq_false]
  refine ⟨p, List.mem_filter.2 ⟨hp, ?_⟩, by rw [okP_zero p h0]; simp⟩
  have a1 : p.isEmpty = false := by cases p with | nil => cases h0 | cons _ _ => rfl
  have a2 : (p == [46]) = false := by
    have : p ≠ [46] := by rintro rfl; simp at h0
    simpa using this
  rw [skipP, a1, a2]; rfl

/-- What the document's Parts tells. -/
def RPartsP (w : World) (l : List UInt8) (e : Ending) (w' : World) : Prop :=
  (partsOf l = none ∧ e = .returned (.tuple #[.slice none 0 0, .int .i64 9]) ∧ Kept NoB w w') ∨
  (∃ ps a c, partsOf l = some ps ∧ e = .returned (.tuple #[.slice a ps.length c, .int .i64 0]) ∧ StrSt w w' a ps.length c ps)
theorem RPartsP.no {w w' : World} {l : List UInt8} {e : Ending} (h : partsOf l = none) (he : e = .returned (.tuple #[.slice none 0 0, .int .i64 9])) (hk : Kept NoB w w') : RPartsP w l e w' := .inl ⟨h, he, hk⟩
theorem parts_none {l : List UInt8} (h : (keepP (pieces l)).all okP = false) : partsOf l = none := by
  unfold partsOf
  split
  · rfl
  · rw [h]; rfl
theorem parts_some {l : List UInt8} (h1 : ¬ (l = [] ∨ 4096 < l.length ∨ l.head? = some 47)) (h : (keepP (pieces l)).all okP = true) : partsOf l = some (keepP (pieces l)) := by
  unfold partsOf
  rw [if_neg h1, h]; rfl

set_option maxRecDepth 20000 in
set_option maxHeartbeats 4000000 in
theorem rparts_any (S : ByteArray) (w : World) (hs : S.size ≤ 1000000) :
    Calls Tryd.prog 10 #[.string S] w (RPartsP w S.data.toList) := by
  have hl : S.toList = S.data.toList := Lib.toList_data S
  have hlen : S.data.toList.length = S.size := by rw [Array.length_toList]; rfl
  by_cases h1 : S.toList = []
  · have HF : Hid (partsOf S.data.toList = none) := Lib.hid (by rw [← hl, h1]; rfl)
    have h1e : S.toList.isEmpty = true := by rw [h1]; rfl
    clear hl hlen
    go_enter Tryd.func10, Tryd.ntmps10
    go_wp2
    go_ret2
    exact RPartsP.no HF.out rfl (Kept.refl _ _)
  · have h1e : S.toList.isEmpty = false := by simpa using h1
    by_cases h2 : (4096 : Int) < (S.size : Int)
    · have HF : Hid (partsOf S.data.toList = none) := Lib.hid (by unfold partsOf; rw [if_pos (.inr (.inl (by omega)))])
      clear hl hlen
      go_enter Tryd.func10, Tryd.ntmps10
      go_wp2
      go_ret2
      exact RPartsP.no HF.out rfl (Kept.refl _ _)
    · have h0 : 0 < S.size := by
        rcases Nat.eq_zero_or_pos S.size with h | h
        · exact absurd (by rw [hl]; exact List.length_eq_zero_iff.1 (by omega)) h1
        · exact h
      have hd := drop_step S 0 h0
      rw [List.drop_zero] at hd
      have h4 : (0 : Int) < (S.size : Int) := by omega
      by_cases h3 : (S[0]'h0) = 47
      · have HF : Hid (partsOf S.data.toList = none) := Lib.hid (by unfold partsOf; rw [if_pos (.inr (.inr (by rw [hd, h3]; rfl)))])
        have hb1 : (((S[0]'h0).toNat : Int) == 47) = true := by rw [h3]; rfl
        clear hl hlen hd h3
        go_enter Tryd.func10, Tryd.ntmps10
        go_wp2
        go_ret2
        exact RPartsP.no HF.out rfl (Kept.refl _ _)
      · have hb1 : (((S[0]'h0).toNat : Int) == 47) = false := by rw [show (47 : Int) = ((47 : Nat) : Int) from rfl, toNat_eq _ 47 (by decide)]; simpa using h3
        have HG : Hid (¬ (S.data.toList = [] ∨ 4096 < S.data.toList.length ∨ S.data.toList.head? = some 47)) := Lib.hid (by
          rintro (h | h | h)
          · exact h1 (by rw [hl]; exact h)
          · omega
          · rw [hd] at h; simp at h; exact h3 h)
        have HN := Lib.hid (fun W => nought_any S W hs)
        have HSl := Lib.hid (fun W => slashes_any S W hs)
        obtain ⟨l, hle⟩ : ∃ l, l = S.data.toList := ⟨_, rfl⟩
        rw [← hle] at HG HN HSl hlen ⊢
        obtain ⟨b, hb⟩ : ∃ b, b = noughtL l := ⟨_, rfl⟩
        rw [← hb] at HN
        have HB := Lib.hid hb
        have HLen := Lib.hid hlen
        clear hl hd h3 hle hb hlen
        go_enter Tryd.func10, Tryd.ntmps10
        go_wp2_with fail
        refine (HN.out _).mono ?_
        rintro e w1 ⟨rfl, hw1⟩
        rw [hw1]
        clear hw1
        cases b with
        | true =>
          have HF : Hid (partsOf l = none) := Lib.hid (parts_none (nought_bad l HB.out.symm))
          go_wp2
          go_ret2
          exact RPartsP.no HF.out rfl (Kept.refl _ _)
        | false =>
          go_wp2_with fail
          refine (HSl.out _).mono ?_
          rintro e w2 ⟨a, c, rfl, hst⟩
          have HSt := Lib.hid hst
          have hkl := keep_len l
          have HP : Hid (∀ p ∈ keepP (pieces l), p.length ≤ l.length) := Lib.hid (keep_mem_len l)
          obtain ⟨K, hK⟩ : ∃ K, K = keepP (pieces l) := ⟨_, rfl⟩
          rw [← hK] at HSt hkl HP ⊢
          obtain ⟨n, hn⟩ : ∃ n, n = K.length := ⟨_, rfl⟩
          rw [← hn] at HSt hkl ⊢
          rw [HLen.out] at hkl
          have HK := Lib.hid hK; have HNn := Lib.hid hn
          obtain ⟨R, hR⟩ : ∃ R, R = K.all okP := ⟨_, rfl⟩
          have HR := Lib.hid hR
          clear hst hK hn hR
          go_wp2
          go_loopw [5] (fun v5 wr => ∃ i : Nat, v5 = .int .i64 (i : Int) ∧ i ≤ n ∧ Hid ((K.drop i).all okP = R) ∧ wr = w2) (fun v5 _ => n - (intOf v5).toNat)
          case atStart => exact ⟨0, rfl, by omega, HR.out.symm, rfl⟩
          case round =>
            obtain ⟨i, rfl, hi, HX, rfl⟩ := hrel
            by_cases hlt : (i : Int) < (n : Int)
            · obtain ⟨g, off, rfl, hg, hc⟩ := HSt.out.reads i (by have := HNn.out; omega)
              have hx := HX.out
              rw [drop_getDs K i (by have := HNn.out; omega), List.all_cons] at hx
              have hpl : (K.getD i []).length ≤ l.length := HP.out _ (by
                have hik : i < K.length := by have := HNn.out; omega
                have : K.getD i [] = K[i] := by simp [List.getD, hik]
                rw [this]; exact List.getElem_mem hik)
              obtain ⟨p, hp⟩ : ∃ p, p = K.getD i [] := ⟨_, rfl⟩
              rw [← hp] at hc hx hpl
              have HO := Lib.hid (fun W => rnameOk_any (strB p) W (by rw [strB_size]; have := HLen.out; omega))
              obtain ⟨o, ho⟩ : ∃ o, o = okN (strB p) := ⟨_, rfl⟩
              rw [show okP p = o from ho.symm] at hx
              rw [← ho] at HO
              have HX2 := Lib.hid hx
              obtain ⟨X, hX⟩ : ∃ X, X = strB p := ⟨_, rfl⟩
              rw [← hX] at hc HO
              clear hx hp ho hX hg hpl
              go_wp2_with fail
              refine (HO.out _).mono ?_
              rintro e w3 ⟨rfl, hw3⟩
              rw [hw3]
              clear hw3
              cases o with
              | true =>
                have HX3 : Hid ((K.drop (i + 1)).all okP = R) := Lib.hid (by rw [← HX2.out]; rfl)
                go_wp2
                go_roundw
                case rel => exact ⟨i + 1, by go_num, by omega, HX3, trivial⟩
                case measure => simp [intOf]; omega
              | false =>
                have HF : Hid (partsOf l = none) := Lib.hid (parts_none (by rw [← HK.out, ← HR.out, ← HX2.out]; rfl))
                go_wp2
                go_ret2
                exact RPartsP.no HF.out rfl HSt.out.kept
            · have HF : Hid (partsOf l = some K) := Lib.hid (by
                rw [HK.out]
                refine parts_some HG.out ?_
                rw [← HK.out, ← HR.out, ← HX.out, List.drop_of_length_le (by have := HNn.out; omega)]; rfl)
              go_wp2
              go_ret2
              refine .inr ⟨K, a, c, HF.out, by rw [← HNn.out]; rfl, by rw [← HNn.out]; exact HSt.out⟩
