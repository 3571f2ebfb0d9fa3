/-
  Bounds of what a map tells; nil; sparse.Decode.
-/
import Derived.Test.YtbambcondcikbaaDoorPieces
namespace Go.Proofs.YtbambcondcikbaaDoor
open Go.RowKit
set_option linter.unusedVariables false
set_option linter.unusedSimpArgs false

def In64 (x : Int) : Prop := -9223372036854775808 ≤ x ∧ x ≤ 9223372036854775807
theorem numL_64 (l : List UInt8) : In64 (numL l).1 := by
  unfold numL
  cases h : Lib.atoiAll l with
  | ok v =>
    simp only
    split
    · exact Lib.atoiAll_bounds h
    · exact ⟨by decide, by decide⟩
  | _ => exact (show In64 0 from ⟨by decide, by decide⟩)
theorem line_64 {b r : List UInt8} {x : Int} (h : lineS b = some (x, r)) : In64 x ∧ r.length ≤ b.length := by
  unfold lineS at h
  split at h
  · cases h
  · split at h
    · cases h
    · simp only [Option.some.injEq, Prod.mk.injEq] at h
      obtain ⟨rfl, rfl⟩ := h
      exact ⟨numL_64 _, by rw [List.length_drop]; omega⟩
theorem spans_64 : ∀ (k : Nat) (b r : List UInt8) (sp : List (Int × Int)), spansR k b = some (sp, r) → ∀ s ∈ sp, In64 s.1
  | 0, b, r, sp, h, s, hs => by simp [spansR] at h; rw [h.1] at hs; cases hs
  | k + 1, b, r, sp, h, s, hs => by
    unfold spansR at h
    split at h
    · cases h
    · rename_i x b1 h1
      split at h
      · cases h
      · rename_i y b2 h2
        split at h
        · cases h
        · rename_i l r2 h3
          simp only [Option.some.injEq, Prod.mk.injEq] at h
          obtain ⟨rfl, rfl⟩ := h
          rcases List.mem_cons.1 hs with e | e
          · subst e; exact (line_64 h1).1
          · exact spans_64 k _ _ _ h3 s e
theorem cuts_64 : ∀ (sp : List (Int × Int)) (d : List UInt8) (l : List Pc), cutsR sp d = some l → (∀ s ∈ sp, In64 s.1) → (∀ p ∈ l, In64 p.1) ∧ sumS l ≤ d.length
  | [], d, l, h, _ => by simp [cutsR] at h; subst h; exact ⟨(fun p hp => by cases hp), by simp [sumS]⟩
  | s :: sp, d, l, h, hs => by
    have ht : ∀ t ∈ sp, In64 t.1 := fun t ht => hs t (List.mem_cons_of_mem _ ht)
    unfold cutsR at h
    split at h
    · exact cuts_64 sp d l h ht
    · split at h
      · cases h
      · rename_i h0 h1
        split at h
        · cases h
        · rename_i l2 h2
          simp only [Option.some.injEq] at h
          subst h
          obtain ⟨a, b⟩ := cuts_64 sp _ l2 h2 ht
          refine ⟨fun p hp => ?_, ?_⟩
          · rcases List.mem_cons.1 hp with e | e
            · subst e; exact hs s List.mem_cons_self
            · exact a p e
          · have e : sumS ((s.1, d.take s.2.toNat) :: l2) = (d.take s.2.toNat).length + sumS l2 := by simp [sumS]
            rw [e, List.length_take]
            rw [List.length_drop] at b
            omega
theorem pieces_64 {b : List UInt8} {l : List Pc} (h : piecesS b = some l) : IntP l ∧ sumS l ≤ b.length := by
  unfold piecesS at h
  split at h
  · cases h
  · split at h
    · cases h
    · split at h
      · cases h
      · rename_i n r h1 hx sp r2 h2
        unfold cutsP at h
        split at h
        · split at h
          · simp only [Option.some.injEq] at h; subst h; exact ⟨(fun p hp => by cases hp), by simp [sumS]⟩
          · cases h
        · obtain ⟨a, c⟩ := cuts_64 _ _ _ h (spans_64 _ _ _ _ h2)
          exact ⟨fun p hp => a p hp, by rw [List.length_drop] at c; omega⟩

/-- What Decode tells. -/
def decS (size : Int) (b : List UInt8) : Option (List Pc) := match piecesS b with | none => none | some l => if okS size l && mapB size l == b then some l else none
theorem dec_yes (size : Int) (l : List Pc) (h : okS size l = true) : decS size (mapB size l) = some l := by
  unfold decS
  rw [pieces_yes size l h]
  simp [h]
/-- What Decode gives back. -/
def DecR (w : World) (size : Int) (L : List UInt8) (e : Ending) (w' : World) : Prop :=
  (decS size L = none ∧ e = .returned (.tuple #[.slice none 0 0, .int .i64 18]) ∧ Kept NoB w w') ∨
    ∃ (qs : List PcQ) (a : Option Addr) (c : Nat), decS size L = some (qs.map Prod.fst) ∧ e = .returned (.tuple #[.slice a qs.length c, .int .i64 0]) ∧ PcSt w w' a qs.length c qs
set_option maxRecDepth 20000 in
set_option maxHeartbeats 4000000 in
theorem spdec_any (size : Int) (g o n cap : Nat) (L : List UInt8) (w : World) (h0 : -9223372036854775808 ≤ size) (h1 : size ≤ 9223372036854775807) (hn : n = L.length) (hr : Reads w (some ⟨g, o, none⟩) (nb L)) (hc : n ≤ cap) (hm : cap ≤ maxLen) (hn2 : n ≤ 1000000) (htab : Pow10 w) (herr : ErrVars w) :
    Calls Tryd.prog 18 #[.int .i64 size, .slice (some ⟨g, o, none⟩) n cap] w (DecR w size L) := by
  have HP := Lib.hid (pieces_any g o n cap L w hn hr hc hm hn2 htab herr)
  have HT := Lib.hid htab; have HR := Lib.hid hr; have HN := Lib.hid hn
  clear hn hr htab herr hm hc
  go_enter Tryd.func18, Tryd.ntmps18
  go_wp2_with fail
  with_reducible refine HP.out.mono ?_
  rintro e w1 (⟨hl, rfl, hk1⟩ | ⟨qs, a, c, hl, rfl, hP⟩)
  · have HD : Hid (decS size L = none) := Lib.hid (by unfold decS; rw [hl])
    have HK1 := Lib.hid hk1
    clear hl hk1
    go_wp2
    go_ret2
    exact .inl ⟨HD.out, rfl, HK1.out⟩
  · obtain ⟨hi, hs⟩ := pieces_64 hl
    have hcap := hP.cap
    have hE := spenc_any size a qs.length c (qs.map Prod.fst) w1 h0 h1 (by simp) hP.reads hi hcap.1 hcap.2 (by have := HN.out; omega) (HT.out.keptNo hP.kept)
    have HDS : Hid (decS size L = if okS size (qs.map Prod.fst) && mapB size (qs.map Prod.fst) == L then some (qs.map Prod.fst) else none) := Lib.hid (by unfold decS; rw [hl])
    obtain ⟨l, hll⟩ : ∃ l, l = qs.map Prod.fst := ⟨_, rfl⟩
    rw [← hll] at hE HDS
    obtain ⟨m, hm⟩ : ∃ m, m = qs.length := ⟨_, rfl⟩
    rw [← hm] at hE hP ⊢
    have HE := Lib.hid hE; have HPc := Lib.hid hP; have HLl := Lib.hid hll; have HMm := Lib.hid hm
    clear hE hP hll hm hl hi hs hcap
    go_wp2_with fail
    with_reducible refine HE.out.mono ?_
    rintro e w2 (⟨hok, rfl, hk2⟩ | ⟨a2, c2, hok, rfl, hB⟩)
    · have HD : Hid (decS size L = none) := Lib.hid (by rw [HDS.out, hok]; rfl)
      have HK2 := Lib.hid (HPc.out.kept.trans hk2)
      clear hok hk2
      go_wp2
      go_ret2
      exact .inl ⟨HD.out, rfl, HK2.out⟩
    · have hcv1 := conv_reads (cap := c2) hB.reads (by rw [nb_len]) (own_nil hB.own)
      have hcv2 := conv_reads (n := n) (cap := cap) (HR.out.keptNo (HPc.out.kept.trans hB.kept)) (by rw [nb_len]; exact HN.out) (fun h => by cases h)
      have HQ := Lib.hid (Tryd.bytes_Equal _ _ _ _ w2 hcv1 hcv2)
      rw [bytesOf_nb, bytesOf_nb] at HQ
      have HD : Hid (decS size L = if mapB size l == L then some l else none) := Lib.hid (by rw [HDS.out, hok]; rfl)
      have HP2 := Lib.hid (HPc.out.on hB.kept)
      obtain ⟨M, hM⟩ : ∃ M, M = mapB size l := ⟨_, rfl⟩
      rw [← hM] at HD HQ ⊢
      obtain ⟨q, hq⟩ : ∃ q, q = (M == L) := ⟨_, rfl⟩
      rw [← hq] at HD HQ
      clear hok hB hcv1 hcv2 hM hq
      cases q with
      | true =>
        have HD2 : Hid (decS size L = some l) := Lib.hid (by rw [HD.out]; rfl)
        go_wp2_with fail
        with_reducible refine HQ.out.mono ?_
        rintro e w3 ⟨rfl, rfl⟩
        go_wp2
        go_ret2
        exact .inr ⟨qs, a, c, by rw [HD2.out, HLl.out], (by first | rfl | (rw [HMm.out]; rfl)), by rw [← HMm.out]; exact HP2.out⟩
      | false =>
        have HD2 : Hid (decS size L = none) := Lib.hid (by rw [HD.out]; rfl)
        go_wp2_with fail
        with_reducible refine HQ.out.mono ?_
        rintro e w3 ⟨rfl, rfl⟩
        go_wp2
        go_ret2
        exact .inl ⟨HD2.out, rfl, HP2.out.kept⟩
end Go.Proofs.YtbambcondcikbaaDoor
