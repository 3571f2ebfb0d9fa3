/-
  extract.placeOf: the way to where an entry goes.
  extract: a directory, a name, another node is put where it goes.
-/
import Derived.Test.YtgbakogihkdddaaGreatDoorMx17
import Derived.BigRegion
import Derived.Deep.RegionHeld3
namespace Go.Proofs.YtgbakogihkdddaaGreatDoor
open Go.RowKit
set_option linter.unusedVariables false
set_option linter.unusedSimpArgs false
set_option maxRecDepth 20000

theorem RdS.keptX {S : Nat → Prop} {w w' : World} {B : Nat} {ao : Option Addr} {ps : List (List UInt8)} (h : RdS w B ao ps) (hk : Kept S w w') (hs : ∀ x, ao = some x → ¬ S x.block) : RdS w' B ao ps := by
  intro i hi
  obtain ⟨g, off, h1, h2, h3⟩ := h i hi
  exact ⟨g, off, h1, h2, (World.cell?_of_block (hk.block _ (World.block_lt_of_cell? w _ h3) (hs ⟨g, off, none⟩ h1))).trans h3⟩
/-- What placeOf tells, as cells. -/
def plA (f : Nat) : Option SpotV → List Value
  | some P => spC (some f) P
  | none => spC none noSpot
theorem plA_size (f : Nat) (o : Option SpotV) : (plA f o).length = 6 := by cases o <;> rfl
theorem plA_one (f : Nat) (o : Option SpotV) : (plA f o).toArray.all (·.oneCell') = true := by cases o <;> exact sp_one _ _
theorem wayP_cons (T : FsP) (dir : Int) (p : List UInt8) (r : List (List UInt8)) : wayP T dir (p :: r) =
    if (findP T dir p).2 = 0 then wayP T (findP T dir p).1 r
    else if (findP T dir p).2 = 10 then
      (if (makeP T dir p wayN).2.2 = 0 then wayP (makeP T dir p wayN).1 (makeP T dir p wayN).2.1 r else ((makeP T dir p wayN).1, 0, (makeP T dir p wayN).2.2))
    else (T, 0, (findP T dir p).2) := rfl
theorem find_okI {T : FsP} (hT : OkT T) (hc : T.clock ≤ 4611686018427387904) (dir : Int) (p : List UInt8) : okI (findP T dir p).1 := by
  by_cases h : (findP T dir p).2 = 0
  · obtain ⟨n, _, h1, h2⟩ := find_nd hT (dir := dir) (part := p) (i := (findP T dir p).1) (by rw [← h])
    have := hT.next
    exact ⟨by omega, by omega⟩
  · have : (findP T dir p).1 = 0 := by
      unfold findP at h ⊢
      split
      · rename_i h1
        rw [if_pos h1] at h
        cases hg : getK (namesP T dir) p with
        | none => rfl
        | some j => rw [hg] at h; exact absurd rfl h
      · rfl
    rw [this]
    exact ⟨by omega, by omega⟩
theorem make_okI {T : FsP} (hT : OkT T) (hc : T.clock ≤ 4611686018427387904) (dir : Int) (p : List UInt8) (v : NodeV) : okI (makeP T dir p v).2.1 := by
  have := hT.next
  unfold makeP
  repeat' split
  all_goals first | exact ⟨by dsimp only; omega, by dsimp only; omega⟩ | exact ⟨by omega, by omega⟩
theorem drop_getDl (l : List (List UInt8)) (i : Nat) (h : i < l.length) : l.drop i = l.getD i [] :: l.drop (i + 1) := by
  rw [List.drop_eq_getElem_cons h]; simp [List.getD, h]

theorem Turn.own {S : Nat → Prop} {w w1 W W' : World} {f : Nat} {T : FsP} (h : Turn S w1 W f T) (hk1 : Kept NoB w w1) {b : Nat} (hb : w.heap.size ≤ b) (hb1 : b < w1.heap.size) (hS : ¬ S b) (hk : Kept (OneB b) W W') : Turn S w W' f T :=
  ⟨(h.1.kept hk (fun k e e' => by
      have e' : k = b := e'
      subst e'
      rcases e with e | e
      · exact hS e
      · have := e.1; omega)).mono (fun k e => by
      have q1 := hk1.size
      have q2 := hk.size
      rcases e with e | e
      · exact .inl e
      · exact .inr ⟨by omega, by omega⟩),
    keep_onS ((hk1.mono (fun k _ e => e.elim)).trans h.2) hk (fun i hi e => by have e : i = b := e; omega)⟩
set_option maxHeartbeats 8000000 in
theorem placeOf_any {S : Nat → Prop} {w : World} {f : Nat} {T : FsP} (h : FsSt S w f T) (hlow : ∀ k, S k → k < w.heap.size) (dir : Int) (hdir : okI dir) (pre : List (List UInt8)) (last : List UInt8) (ao : Option Addr) (c B n : Nat) (hr : RdS w B ao (pre ++ [last])) (hn : n = pre.length + 1) (hc : n ≤ c)
    (hl : ∀ p ∈ pre ++ [last], p.length ≤ 255) (hln : n ≤ 4097) (hS : ∀ x, ao = some x → ¬ S x.block) (hclk : T.clock + 5000 ≤ 4611686018427387904) :
    Calls Tryz.prog 34 #[.pointer (some ⟨f, 0, none⟩), .int .i64 dir, .slice ao n c] w fun e w' =>
      e = .returned (.tuple #[.agg (plA f (spotP T dir pre last).2.1).toArray, .int .i64 (spotP T dir pre last).2.2]) ∧ (∀ P, (spotP T dir pre last).2.1 = some P → OkS (spotP T dir pre last).1 P) ∧ Turn S w w' f (spotP T dir pre last).1 := by
  obtain ⟨X, hX⟩ : ∃ X, X = spotP T dir pre last := ⟨_, rfl⟩
  rw [← hX]
  have HX := Lib.hid hX
  obtain ⟨m, hm⟩ : ∃ m, m = pre.length := ⟨_, rfl⟩
  rw [← hm] at hn
  subst hn
  obtain ⟨w1, hw1⟩ : ∃ w1, w1 = w.alloc (.cells #[.pointer none, .int .i64 0, .string { data := #[] }, .int .i64 0, .bool false, .bool false] 81) := ⟨_, rfl⟩
  have hk1 : Kept NoB w w1 := by rw [hw1]; exact (Kept.refl NoB w).alloc _
  have hres : w1.heap[w.heap.size]? = some (.cells #[.pointer none, .int .i64 0, .string { data := #[] }, .int .i64 0, .bool false, .bool false] 81 (0, 0)) := by rw [hw1]; exact heap_alloc_new _ _
  have HT1 := Lib.hid (Turn.nil (h.keptNo hk1))
  have HR := Lib.hid hr; have HM := Lib.hid hm; have HL := Lib.hid hl; have HW := Lib.hid hw1; have HK := Lib.hid hk1; have HRes := Lib.hid hres
  have hgl : w.heap.size < w1.heap.size := obj_lt hres
  have HLow := Lib.hid hlow; have HS := Lib.hid hS
  have HGl := Lib.hid hgl
  -- the answer's block is not the tree's
  have HRk : Hid (∀ W, Kept S w1 W → W.heap[w.heap.size]? = some (.cells #[.pointer none, .int .i64 0, .string { data := #[] }, .int .i64 0, .bool false, .bool false] 81 (0, 0))) := Lib.hid (fun W hW => hW.obj hres (fun e => by have := hlow _ e; omega))
  have HRd : Hid (∀ W, Kept S w1 W → RdS W B ao (pre ++ [last])) := Lib.hid (fun W hW => (hr.keptNo hk1).keptX hW hS)
  have HZ := Lib.hid (sp_one none noSpot)
  have hcb : c ≤ 4611686018427387904 ∨ True := .inr trivial
  clear hX hm h hr hl hw1 hk1 hres hlow hS hgl hcb
  go_enter Tryz.func34, Tryz.ntmps34
  go_upto_region 1 with fail
  rw [← HW.out]
  have q1 : IntKind.i64.wrap (((m + 1 : Nat) : Int) - 1) = (m : Int) := by rw [IntKind.wrap_i64]; omega
  have q2 : ((m + 1 : Nat) : Int) - 1 = (m : Int) := by omega
  go_upto_region 3 with fail
  go_loopw [1, 10, 11, 12, 24] (fun v1 v10 v11 v12 v24 wr => ∃ (i : Nat) (d : Int) (Ti : FsP), v1 = .int .i64 d ∧ v24 = .int .i64 (i : Int) ∧ i ≤ m ∧ okI d ∧ Hid (Turn S w1 wr f Ti) ∧ Hid (wayP T dir pre = wayP Ti d (pre.drop i)) ∧ Hid (Tame i T Ti)) (fun _ _ _ _ v24 _ => m - (intOf v24).toNat)
  case atStart => exact ⟨0, dir, T, rfl, rfl, by omega, hdir, HT1, Lib.hid rfl, Lib.hid (Tame.refl T)⟩
  case round =>
    obtain ⟨i, d, Ti, rfl, rfl, hi, hd, HT, HQ, HTm⟩ := hrel
    have hck : Ti.clock + 1 ≤ 4611686018427387904 := by have := HTm.out.2.2; omega
    have hck0 : Ti.clock ≤ 4611686018427387904 := by omega
    by_cases hlt : (i : Int) < m
    · have him : i < pre.length := by have := HM.out; omega
      obtain ⟨g, off, rfl, hg, hc0⟩ := HRd.out wr HT.out.2 i (by simp; omega)
      obtain ⟨p, hpe⟩ : ∃ p, p = pre.getD i [] := ⟨_, rfl⟩
      have hpa : (pre ++ [last]).getD i [] = p := by rw [hpe]; simp [List.getD, List.getElem?_append_left him]
      rw [hpa] at hc0
      have hpl : p.length ≤ 255 := HL.out p (by rw [hpe]; simp [List.getD, him])
      have hdr := drop_getDl pre i him
      rw [← hpe] at hdr
      have hq := HQ.out
      rw [hdr, wayP_cons] at hq
      have HFd : Hid (Calls Tryz.prog 14 #[.pointer (some ⟨f, 0, none⟩), .int .i64 d, .string (strB p)] wr fun e w' => e = .returned (.tuple #[.int .i64 (findP Ti d p).1, .int .i64 (findP Ti d p).2]) ∧ Kept NoB wr w') := Lib.hid (find_any HT.out.1 d hd p (by omega))
      have HMk : Hid (∀ W, Kept NoB wr W → Calls Tryz.prog 10 #[.pointer (some ⟨f, 0, none⟩), .int .i64 d, .string (strB p), .agg #[.int .i64 6, .int .i64 493, .int .i64 0, .int .i64 0, .int .i64 0, .string { data := #[] }, .int .i64 0, .int .i64 0, .int .i64 0, .int .i64 0, .int .i64 0]] W fun e w' =>
          e = .returned (.tuple #[.int .i64 (makeP Ti d p wayN).2.1, .int .i64 (makeP Ti d p wayN).2.2]) ∧ Turn S w1 w' f (makeP Ti d p wayN).1) := Lib.hid (fun W hW =>
        (make_any (HT.out.1.keptNo hW) d hd p (by omega) wayN (by decide) hck).mono fun e w' ⟨e1, e2⟩ => ⟨e1, HT.out.next hW e2⟩)
      have HOf := Lib.hid (find_okI HT.out.ok hck0 d p)
      have HOm := Lib.hid (make_okI HT.out.ok hck0 d p wayN)
      have HTk := Lib.hid ((HTm.out.trans (tame_make Ti d p wayN)))
      obtain ⟨F1, hF1⟩ : ∃ x, x = (findP Ti d p).1 := ⟨_, rfl⟩
      obtain ⟨F2, hF2⟩ : ∃ x, x = (findP Ti d p).2 := ⟨_, rfl⟩
      obtain ⟨M0, hM0⟩ : ∃ x, x = (makeP Ti d p wayN).1 := ⟨_, rfl⟩
      obtain ⟨M1, hM1⟩ : ∃ x, x = (makeP Ti d p wayN).2.1 := ⟨_, rfl⟩
      obtain ⟨M2, hM2⟩ : ∃ x, x = (makeP Ti d p wayN).2.2 := ⟨_, rfl⟩
      rw [← hF1, ← hF2, ← hM0, ← hM1, ← hM2] at hq
      rw [← hF1, ← hF2] at HFd
      rw [← hF1] at HOf
      rw [← hM0, ← hM1, ← hM2] at HMk
      rw [← hM1] at HOm
      rw [← hM0] at HTk
      have HQ2 := Lib.hid hq
      obtain ⟨P, hP⟩ : ∃ P, P = strB p := ⟨_, rfl⟩
      rw [← hP] at hc0 HFd HMk
      clear hpe hpa hpl hdr hq hF1 hF2 hM0 hM1 hM2 hP HQ hg
      go_upto_region 6 with (go_at_call 14; refine HFd.out.mono ?_; rintro e w2 ⟨rfl, hk2⟩)
      have HK2 := Lib.hid hk2
      clear hk2 HFd
      by_cases h0 : F2 = 0
      · subst h0
        have HQ3 : Hid (wayP T dir pre = wayP Ti F1 (pre.drop (i + 1))) := Lib.hid (by rw [HQ2.out, if_pos rfl])
        have hof := HOf.out
        clear HQ2 HOf HMk HOm HTk
        go_wp2
        go_roundw
        case rel => exact ⟨i + 1, F1, Ti, rfl, by go_num, by omega, hof, Lib.hid (HT.out.kept HK2.out), HQ3, Lib.hid (HTm.out.mono (by omega))⟩
        case measure => simp [intOf]; omega
      by_cases h10 : F2 = 10
      · subst h10
        have HQ3 : Hid (wayP T dir pre = if M2 = 0 then wayP M0 M1 (pre.drop (i + 1)) else (M0, 0, M2)) := Lib.hid (by rw [HQ2.out, if_neg (by decide), if_pos rfl])
        clear HQ2 h0 HOf
        go_upto_region 8 with (go_at_call 10; refine (HMk.out _ HK2.out).mono ?_; rintro e w3 ⟨rfl, ht3⟩)
        have HT3 := Lib.hid ht3
        clear ht3 HMk HK2
        by_cases hm0 : M2 = 0
        · subst hm0
          have HQ4 : Hid (wayP T dir pre = wayP M0 M1 (pre.drop (i + 1))) := Lib.hid (by rw [HQ3.out, if_pos rfl])
          have hom := HOm.out
          clear HQ3 HOm
          go_wp2
          go_roundw
          case rel => exact ⟨i + 1, M1, M0, rfl, by go_num, by omega, hom, HT3, HQ4, HTk⟩
          case measure => simp [intOf]; omega
        · have hm2 : (M2 != 0) = true := by simpa using hm0
          have HXe : Hid (X = (M0, none, M2)) := Lib.hid (by
            rw [HX.out]; unfold spotP
            rw [HQ3.out, if_neg hm0, if_neg (by exact hm0)])
          have hr3 := HRk.out _ HT3.out.2
          clear hm0 HQ3
          go_wp2_with (refine wpList_store_row rfl 81 (.tmp 6) (.tmp 47) rfl w.heap.size (spC none noSpot).toArray rfl rfl _ _ hr3 infoPl rfl HZ.out ?_)
          refine bodyPost_ret (results_cell_tmp rfl _ _ w.heap.size 81 (spC none noSpot).toArray (0, 0) _ rfl (setRow_heap _ _ _ _ _ _ hr3) Tryz.underlying81 rfl infoPl) rfl ?_
          refine ⟨by rw [HXe.out]; rfl, ?_⟩
          rw [HXe.out]
          refine ⟨(fun P h => by cases h), ?_⟩
          exact HT3.out.own HK.out (Nat.le_refl _) HGl.out (fun e => by have := HLow.out _ e; omega) (Kept.setRow (S := OneB w.heap.size) (Kept.refl _ _) (.inl rfl) _)
      · have h02 : (F2 != 0) = true := by simpa using h0
        have h12 : (F2 == 10) = false := by simpa using h10
        have HQ3 : Hid (wayP T dir pre = (Ti, 0, F2)) := Lib.hid (by rw [HQ2.out, if_neg h0, if_neg h10])
        have HXe : Hid (X = (Ti, none, F2)) := Lib.hid (by
          rw [HX.out]; unfold spotP
          rw [HQ3.out, if_neg (by exact h0)])
        have HT3 := Lib.hid (HT.out.kept HK2.out)
        have hr3 := HRk.out _ HT3.out.2
        clear h0 h10 HQ2 HQ3 HOf HMk HOm HTk
        go_wp2_with (refine wpList_store_row rfl 81 (.tmp 6) (.tmp 47) rfl w.heap.size (spC none noSpot).toArray rfl rfl _ _ hr3 infoPl rfl HZ.out ?_)
        refine bodyPost_ret (results_cell_tmp rfl _ _ w.heap.size 81 (spC none noSpot).toArray (0, 0) _ rfl (setRow_heap _ _ _ _ _ _ hr3) Tryz.underlying81 rfl infoPl) rfl ?_
        refine ⟨by rw [HXe.out]; rfl, ?_⟩
        rw [HXe.out]
        refine ⟨(fun P h => by cases h), ?_⟩
        exact HT3.out.own HK.out (Nat.le_refl _) HGl.out (fun e => by have := HLow.out _ e; omega) (Kept.setRow (S := OneB w.heap.size) (Kept.refl _ _) (.inl rfl) _)
    · have him : i = m := by omega
      subst him
      have HXe : Hid (X = (Ti, spotAt Ti d last)) := Lib.hid (by
        rw [HX.out]; unfold spotP
        have hq := HQ.out
        rw [HM.out, List.drop_length] at hq
        rw [show wayP T dir pre = (Ti, d, 0) from hq]
        rfl)
      clear HQ hlt
      obtain ⟨g, off, rfl, hg, hc0⟩ := HRd.out wr HT.out.2 i (by simp; have := HM.out; omega)
      have hpa : (pre ++ [last]).getD i [] = last := by rw [HM.out]; simp [List.getD]
      rw [hpa] at hc0
      have hpl : last.length ≤ 255 := HL.out last (by simp)
      have HPl := Lib.hid hpl
      obtain ⟨P, hP⟩ : ∃ P, P = strB last := ⟨_, rfl⟩
      rw [← hP] at hc0
      obtain ⟨w2, hw2⟩ : ∃ w2, w2 = wr.alloc (.cells #[.pointer (some ⟨f, 0, none⟩), .int .i64 d, .string P, .int .i64 0, .bool false, .bool false] 81) := ⟨_, rfl⟩
      have hk2 : Kept NoB wr w2 := by rw [hw2]; exact (Kept.refl NoB wr).alloc _
      have ob2 : w2.heap[wr.heap.size]? = some (.cells (spC (some f) ⟨d, last, 0, false, false⟩).toArray 81 (0, 0)) := by rw [hw2, hP]; exact heap_alloc_new _ _
      obtain ⟨b, hb⟩ : ∃ b, b = wr.heap.size := ⟨_, rfl⟩
      rw [← hb] at ob2
      have hbw : b < w2.heap.size := obj_lt ob2
      have d2 : w2.cell? ⟨b, 2, none⟩ = some (.string P) := by rw [obj_cell ob2, hP]; rfl
      have HFd : Hid (Calls Tryz.prog 14 #[.pointer (some ⟨f, 0, none⟩), .int .i64 d, .string P] w2 fun e w' => e = .returned (.tuple #[.int .i64 (findP Ti d last).1, .int .i64 (findP Ti d last).2]) ∧ Kept NoB w2 w') := Lib.hid (by
        rw [hP]; exact find_any (HT.out.1.keptNo hk2) d hd last (by omega))
      have HOf := Lib.hid (find_okI HT.out.ok hck0 d last)
      have HNd : Hid ((findP Ti d last).2 = 0 → (statP Ti (findP Ti d last).1).2 = 0) := Lib.hid (fun h0 => by
        obtain ⟨n, hn, _, _⟩ := find_nd HT.out.ok (dir := d) (part := last) (i := (findP Ti d last).1) (by rw [← h0])
        unfold statP; rw [hn])
      have hXs : spotAt Ti d last = if (findP Ti d last).2 = 10 then (some ⟨d, last, 0, false, false⟩, 0) else if (findP Ti d last).2 = 0 then (some ⟨d, last, (findP Ti d last).1, true, decide ((statP Ti (findP Ti d last).1).1.kind = 6)⟩, 0) else (none, (findP Ti d last).2) := rfl
      obtain ⟨F1, hF1⟩ : ∃ x, x = (findP Ti d last).1 := ⟨_, rfl⟩
      obtain ⟨F2, hF2⟩ : ∃ x, x = (findP Ti d last).2 := ⟨_, rfl⟩
      rw [← hF1, ← hF2] at HFd HNd hXs
      rw [← hF1] at HOf
      rw [hXs] at HXe
      have HW2 := Lib.hid hw2; have HK2 := Lib.hid hk2; have HB2 := Lib.hid ob2; have HPe := Lib.hid hP
      have HBw := Lib.hid (⟨hb, hbw⟩ : _ ∧ _)
      clear hw2 hk2 ob2 hP hpa hpl hXs hF1 hF2 hg hbw
      go_upto_region 13 with fail
      rw [← HW2.out, ← hb]
      clear hb
      go_upto_region 14 with (go_at_call 14; refine HFd.out.mono ?_; rintro e w3 ⟨rfl, hk3⟩)
      have HB3 := Lib.hid (hk3.obj HB2.out id)
      have HT3 := Lib.hid (HT.out.kept (HK2.out.trans hk3))
      have HK3 := Lib.hid hk3
      have hr3 := HRk.out _ HT3.out.2
      clear hk3 HFd d2
      have HS0 : Hid (¬ S w.heap.size) := Lib.hid (fun e => by have := HLow.out _ e; omega)
      by_cases h10 : F2 = 10
      · subst h10
        have HX2 : Hid (X = (Ti, some ⟨d, last, 0, false, false⟩, 0)) := Lib.hid (by rw [HXe.out, if_pos rfl])
        have HZ2 := Lib.hid (sp_one (some f) ⟨d, last, 0, false, false⟩)
        clear HXe
        go_wp2_with (first | (refine wpList_load_row rfl 81 (.tmp 13) rfl b rfl 81 (spC (some f) ⟨d, last, 0, false, false⟩).toArray (0, 0) _ HB3.out Tryz.underlying81 rfl infoPl ?_) | (refine wpList_store_row rfl 81 (.tmp 6) (.tmp 68) rfl w.heap.size (spC (some f) ⟨d, last, 0, false, false⟩).toArray rfl rfl _ _ hr3 infoPl rfl HZ2.out ?_))
        refine bodyPost_ret (results_cell_tmp rfl _ _ w.heap.size 81 (spC (some f) ⟨d, last, 0, false, false⟩).toArray (0, 0) _ rfl (setRow_heap _ _ _ _ _ _ hr3) Tryz.underlying81 rfl infoPl) rfl ?_
        refine ⟨by rw [HX2.out]; rfl, ?_⟩
        rw [HX2.out]
        refine ⟨(fun P h => by cases h; exact ⟨hd, HPl.out, ⟨show (-9223372036854775808 : Int) ≤ 0 by decide, show (0 : Int) ≤ 9223372036854775807 by decide⟩⟩), ?_⟩
        exact HT3.out.own HK.out (Nat.le_refl _) HGl.out HS0.out (Kept.setRow (S := OneB w.heap.size) (Kept.refl _ _) (.inl rfl) _)
      have h12 : (F2 == 10) = false := by simpa using h10
      by_cases h0 : F2 = 0
      rotate_left
      · have h02 : (F2 != 0) = true := by simpa using h0
        have HX2 : Hid (X = (Ti, none, F2)) := Lib.hid (by rw [HXe.out, if_neg h10, if_neg h0])
        clear HXe h0 h10
        go_wp2_with (refine wpList_store_row rfl 81 (.tmp 6) (.tmp 71) rfl w.heap.size (spC none noSpot).toArray rfl rfl _ _ hr3 infoPl rfl HZ.out ?_)
        refine bodyPost_ret (results_cell_tmp rfl _ _ w.heap.size 81 (spC none noSpot).toArray (0, 0) _ rfl (setRow_heap _ _ _ _ _ _ hr3) Tryz.underlying81 rfl infoPl) rfl ?_
        refine ⟨by rw [HX2.out]; rfl, ?_⟩
        rw [HX2.out]
        refine ⟨(fun P h => by cases h), ?_⟩
        exact HT3.out.own HK.out (Nat.le_refl _) HGl.out HS0.out (Kept.setRow (S := OneB w.heap.size) (Kept.refl _ _) (.inl rfl) _)
      subst h0
      have HX2 : Hid (X = (Ti, some ⟨d, last, F1, true, decide ((statP Ti F1).1.kind = 6)⟩, 0)) := Lib.hid (by rw [HXe.out, if_neg h10, if_pos rfl])
      have HSt := Lib.hid (stat_any HT3.out.1 F1 HOf.out)
      rw [HNd.out rfl] at HSt
      obtain ⟨v, hv⟩ : ∃ v, v = (statP Ti F1).1 := ⟨_, rfl⟩
      rw [← hv] at HX2 HSt
      have HOne := Lib.hid (nv_one v)
      have HOf2 := Lib.hid HOf.out
      clear HXe HNd HOf h10 hv
      go_upto_region 19 with (first | (go_at_call 15; refine HSt.out.mono ?_; rintro e w4 ⟨rfl, hk4⟩) | (refine wpList_store_row rfl 27 (.tmp 16) (.tmp 77) rfl w4.heap.size (nvC v).toArray rfl rfl _ _ (heap_alloc_new _ _) infoNd rfl HOne.out ?_))
      obtain ⟨w5, hw5⟩ : ∃ w5, w5 = (w4.alloc (.cells #[.int .i64 0, .int .i64 0, .int .i64 0, .int .i64 0, .int .i64 0, .string { data := #[] }, .int .i64 0, .int .i64 0, .int .i64 0, .int .i64 0, .int .i64 0] 27)).setRow w4.heap.size (nvC v).toArray := ⟨_, rfl⟩
      rw [← hw5]
      have hk5 : Kept NoB w4 w5 := by rw [hw5]; exact ((Kept.refl NoB w4).alloc _).setRow (.inr (Nat.le_refl _)) _
      have ob5 : w5.heap[w4.heap.size]? = some (.cells (nvC v).toArray 27 (0, 0)) := by rw [hw5]; exact setRow_heap _ _ _ _ _ _ (heap_alloc_new _ _)
      obtain ⟨g5, hg5⟩ : ∃ g, g = w4.heap.size := ⟨_, rfl⟩
      obtain ⟨vk, hvk⟩ : ∃ k, k = v.kind := ⟨_, rfl⟩
      rw [← hg5] at ob5 ⊢
      have k0 : w5.cell? ⟨g5, 0, none⟩ = some (.int .i64 vk) := by rw [obj_cell ob5, hvk]; rfl
      have hk35 := hk4.trans hk5
      have opl := hk35.obj HB3.out id
      have hbg : b ≠ g5 := by
        have := obj_lt HB3.out
        have := hk4.size
        omega
      have x3 : w5.cell? ⟨b, 3, none⟩ = some (.int .i64 0) := by rw [obj_cell opl]; rfl
      have x4 : w5.cell? ⟨b, 4, none⟩ = some (.bool false) := by rw [obj_cell opl]; rfl
      have x5 : w5.cell? ⟨b, 5, none⟩ = some (.bool false) := by rw [obj_cell opl]; rfl
      have g3 := obj_free opl 3
      have g4 := obj_free opl 4
      have g5f := obj_free opl 5
      have HOp := Lib.hid opl; have HK35 := Lib.hid hk35; have HVk := Lib.hid hvk
      clear hw5 hk5 ob5 hg5 hk4 hk35 opl hvk hr3
      go_region
      obtain ⟨w6, hw6⟩ : ∃ w6, w6 = (((w5.setCell ⟨b, 3, none⟩ (.int .i64 F1)).setCell ⟨b, 4, none⟩ (.bool true)).setCell ⟨b, 5, none⟩ (.bool (vk == 6))).drew := ⟨_, rfl⟩
      rw [← hw6]
      have hde : decide (v.kind = 6) = (vk == 6) := by
        rw [HVk.out]
        by_cases h : v.kind = 6 <;> simp [h]
      have ob6 : w6.heap[b]? = some (.cells (spC (some f) ⟨d, last, F1, true, vk == 6⟩).toArray 81 (0, 0)) := by
        have h0 := obj_set (obj_set (obj_set HOp.out 3 (.int .i64 F1)) 4 (.bool true)) 5 (.bool (vk == 6))
        rw [hw6]
        exact h0
      have k56 : Kept (OneB b) w5 w6 := by
        rw [hw6]
        exact (((Kept.setCell (S := OneB b) (p := ⟨b, 3, none⟩) (Kept.refl _ w5) (.inl rfl) _).setCell (p := ⟨b, 4, none⟩) (.inl rfl) _).setCell (p := ⟨b, 5, none⟩) (.inl rfl) _).drew
      have hbn : b ≠ w.heap.size := by
        have h1 := HBw.out.1
        have h2 := HGl.out
        have h3 := HT.out.2.size
        omega
      have hr5 := HRk.out _ (HT3.out.kept HK35.out).2
      have hr6 := k56.obj hr5 (fun e => hbn e.symm)
      have HX3 : Hid (X = (Ti, some ⟨d, last, F1, true, vk == 6⟩, 0)) := Lib.hid (by rw [HX2.out, hde])
      have HZ6 := Lib.hid (sp_one (some f) ⟨d, last, F1, true, vk == 6⟩)
      have hbS : ¬ S b := fun e => by
        have h0 := HLow.out _ e
        have h1 := HBw.out.1
        have h2 := HGl.out
        have h3 := HT.out.2.size
        omega
      have hTn : FsSt (Grow S w1 wr) w6 f Ti ∧ Kept S w w6 := by
        have t2 : Turn S w1 w3 f Ti := HT3.out
        have t5 : Turn S w1 w5 f Ti := t2.kept HK35.out
        refine ⟨?_, ?_⟩
        · have a1 : FsSt (Grow S w1 wr) w5 f Ti := HT.out.1.keptNo ((HK2.out.trans HK3.out).trans HK35.out)
          refine a1.kept k56 (fun k e e' => ?_)
          have e' : k = b := e'
          subst e'
          rcases e with e | e
          · exact hbS e
          · have := HBw.out.1; omega
        · refine keep_onS ((HK.out.mono (fun k _ e => e.elim)).trans t5.2) k56 (fun i2 hi2 e => ?_)
          have e : i2 = b := e
          have h1 := HBw.out.1
          have h2 := HGl.out
          have h3 := HT.out.2.size
          omega
      have hsz6 : wr.heap.size ≤ w6.heap.size := by
        have q2 := ((HK2.out.trans HK3.out).trans HK35.out).size
        have q3 := k56.size
        omega
      have HB6 := Lib.hid ob6; have HTn := Lib.hid hTn; have HSz := Lib.hid hsz6
      clear hw6 hde ob6 k56 hr5 hTn hsz6 hbS hbn k0 x3 x4 x5 g3 g4 g5f hbg
      go_wp2_with (first | (refine wpList_load_row rfl 81 (.tmp 13) rfl b rfl 81 (spC (some f) ⟨d, last, F1, true, vk == 6⟩).toArray (0, 0) _ HB6.out Tryz.underlying81 rfl infoPl ?_) | (refine wpList_store_row rfl 81 (.tmp 6) (.tmp 86) rfl w.heap.size (spC (some f) ⟨d, last, F1, true, vk == 6⟩).toArray rfl rfl _ _ hr6 infoPl rfl HZ6.out ?_))
      refine bodyPost_ret (results_cell_tmp rfl _ _ w.heap.size 81 (spC (some f) ⟨d, last, F1, true, vk == 6⟩).toArray (0, 0) _ rfl (setRow_heap _ _ _ _ _ _ hr6) Tryz.underlying81 rfl infoPl) rfl ?_
      refine ⟨by rw [HX3.out]; rfl, ?_⟩
      rw [HX3.out]
      refine ⟨(fun P h => by cases h; exact ⟨hd, HPl.out, HOf2.out⟩), ?_⟩
      refine ⟨(HTn.out.1.kept (K := OneB w.heap.size) (Kept.setRow (S := OneB w.heap.size) (Kept.refl _ _) (.inl rfl) _) (fun k e e' => ?_)).mono (fun k e => ?_), keep_onS HTn.out.2 (Kept.setRow (S := OneB w.heap.size) (Kept.refl _ _) (.inl rfl) _) (fun i2 hi2 e => by have e : i2 = w.heap.size := e; omega)⟩
      · have e' : k = w.heap.size := e'
        subst e'
        have := HGl.out
        rcases e with e | e
        · exact HS0.out e
        · have := e.1; omega
      · have q1 := HK.out.size
        have q2 := HSz.out
        have q3 := (Kept.setRow (S := OneB w.heap.size) (Kept.refl _ w6) (.inl rfl) (spC (some f) ⟨d, last, F1, true, vk == 6⟩).toArray).size
        rcases e with e | e
        · exact .inl e
        · exact .inr ⟨by omega, by omega⟩
end Go.Proofs.YtgbakogihkdddaaGreatDoor

namespace Go.Proofs.YtgbakogihkdddaaGreatDoor
open Go.RowKit
set_option linter.unusedVariables false
set_option linter.unusedSimpArgs false
set_option maxRecDepth 20000

theorem grow_low {S : Nat → Prop} {w W : World} (h : ∀ k, S k → k < w.heap.size) (hs : w.heap.size ≤ W.heap.size) : ∀ k, Grow S w W k → k < W.heap.size := fun k e => by
  rcases e with e | e
  · have := h k e; omega
  · exact e.2
/-- The place's cells, read in any later world that keeps them. -/
theorem pl_cells {w : World} {p : Nat} {f : Nat} {P : SpotV} (hp : w.heap[p]? = some (.cells (spC (some f) P).toArray 81 (0, 0))) :
    w.cell? ⟨p, 0, none⟩ = some (.pointer (some ⟨f, 0, none⟩)) ∧ w.cell? ⟨p, 1, none⟩ = some (.int .i64 P.dir) ∧ w.cell? ⟨p, 2, none⟩ = some (.string (strB P.last)) ∧ w.cell? ⟨p, 3, none⟩ = some (.int .i64 P.ino) ∧ w.cell? ⟨p, 4, none⟩ = some (.bool P.there) ∧ w.cell? ⟨p, 5, none⟩ = some (.bool P.isDir) :=
  ⟨by rw [obj_cell hp]; rfl, by rw [obj_cell hp]; rfl, by rw [obj_cell hp]; rfl, by rw [obj_cell hp]; rfl, by rw [obj_cell hp]; rfl, by rw [obj_cell hp]; rfl⟩
theorem ent_cells {w : World} {g : Nat} {E : EntV} {A B : Value} (h : w.heap[g]? = some (.cells (entC E A B).toArray 38 (0, 0))) :
    w.cell? ⟨g, 0, none⟩ = some (.int .i64 E.kind) ∧ w.cell? ⟨g, 1, none⟩ = some (.string (strB E.name)) ∧ w.cell? ⟨g, 2, none⟩ = some (.string (strB E.link)) ∧ w.cell? ⟨g, 3, none⟩ = some (.int .i64 E.mode) ∧ w.cell? ⟨g, 4, none⟩ = some (.int .i64 E.user) ∧ w.cell? ⟨g, 5, none⟩ = some (.int .i64 E.group) ∧
    w.cell? ⟨g, 6, none⟩ = some (.int .i64 E.time) ∧ w.cell? ⟨g, 7, none⟩ = some (.int .i64 E.major) ∧ w.cell? ⟨g, 8, none⟩ = some (.int .i64 E.minor) ∧ w.cell? ⟨g, 9, none⟩ = some (.int .i64 E.size) ∧ w.cell? ⟨g, 10, none⟩ = some A ∧ w.cell? ⟨g, 11, none⟩ = some B :=
  ⟨by rw [obj_cell h]; rfl, by rw [obj_cell h]; rfl, by rw [obj_cell h]; rfl, by rw [obj_cell h]; rfl, by rw [obj_cell h]; rfl, by rw [obj_cell h]; rfl, by rw [obj_cell h]; rfl, by rw [obj_cell h]; rfl, by rw [obj_cell h]; rfl, by rw [obj_cell h]; rfl, by rw [obj_cell h]; rfl, by rw [obj_cell h]; rfl⟩
theorem node_anyX (E : EntV) (P N : Value) (w : World) : Calls Tryz.prog 59 #[.agg #[.int .i64 E.kind, .string (strB E.name), .string (strB E.link), .int .i64 E.mode, .int .i64 E.user, .int .i64 E.group, .int .i64 E.time, .int .i64 E.major, .int .i64 E.minor, .int .i64 E.size, P, N]] w fun e w' => e = .returned (.agg (nvC (nodeE E)).toArray) ∧ Kept NoB w w' := node_any E P N w
set_option maxHeartbeats 4000000 in
theorem putDir_any {S : Nat → Prop} {w : World} {f p : Nat} {T : FsP} {P : SpotV} (h : FsSt S w f T) (hlow : ∀ k, S k → k < w.heap.size) (hp : w.heap[p]? = some (.cells (spC (some f) P).toArray 81 (0, 0))) (hpS : ¬ S p) (hP : OkS T P) (E : EntV) (hE : EntI E) (A B : Value) (hclk : T.clock + 5 ≤ 4611686018427387904) :
    Calls Tryz.prog 35 #[.pointer (some ⟨p, 0, none⟩), .agg (entC E A B).toArray] w fun e w' => e = .returned (.int .i64 (putDirP T P E).2) ∧ Turn S w w' f (putDirP T P E).1 := by
  obtain ⟨w1, hw1, hob, hk1⟩ := ent_boxed E A B w
  have hp1 := hk1.obj hp id
  have hplt := obj_lt hp
  obtain ⟨c0, c1, c2, c3, c4, c5⟩ := pl_cells hp1
  have hB : putDirP T P E = if P.isDir = true then setP T P.ino (nodeE E)
    else if (clearP T P).2 = 0 then ((makeP (clearP T P).1 P.dir P.last (nodeE E)).1, (makeP (clearP T P).1 P.dir P.last (nodeE E)).2.2) else clearP T P := rfl
  obtain ⟨C, hC⟩ : ∃ C, C = putDirP T P E := ⟨_, rfl⟩
  rw [← hC] at hB ⊢
  have HNode := Lib.hid (fun W => node_anyX E A B W)
  obtain ⟨x0, x1, x2, x3, x4, x5, x6, x7, x8, x9, x10, x11⟩ := ent_cells hob
  have HSet : Hid (∀ W, Kept NoB w W → Calls Tryz.prog 58 #[.pointer (some ⟨f, 0, none⟩), .int .i64 P.ino, .agg (nvC (nodeE E)).toArray] W fun e w' => e = .returned (.int .i64 (setP T P.ino (nodeE E)).2) ∧ Turn S W w' f (setP T P.ino (nodeE E)).1) := Lib.hid (fun W hW => set_any (h.keptNo hW) P.ino hP.ino (nodeE E) hE.time (by omega))
  have HCl := Lib.hid (clear_any (h.keptNo hk1) hp1 hP (by omega))
  obtain ⟨di, hdi⟩ : ∃ b, b = P.isDir := ⟨_, rfl⟩
  rw [← hdi] at hB c5
  have HB := Lib.hid hB; have HW := Lib.hid hw1; have HK := Lib.hid hk1; have HO := Lib.hid hob; have HPS := Lib.hid hpS; have HP1 := Lib.hid hp1; have HE := Lib.hid hE; have HP := Lib.hid hP
  have HLt := Lib.hid hplt; have HLow := Lib.hid hlow
  have HOl : Hid (w.heap.size < w1.heap.size) := Lib.hid (obj_lt hob)
  clear h hw1 hob hk1 hB hC hdi hp hp1 hpS hE hP hplt hlow
  have HX1 : Hid (∀ W, Kept S w1 W → W.cell? ⟨p, 0, none⟩ = some (.pointer (some ⟨f, 0, none⟩)) ∧ W.cell? ⟨p, 3, none⟩ = some (.int .i64 P.ino) ∧ W.cell? ⟨w.heap.size, 0, none⟩ = some (.int .i64 E.kind) ∧ W.cell? ⟨w.heap.size, 1, none⟩ = some (.string (strB E.name)) ∧ W.cell? ⟨w.heap.size, 2, none⟩ = some (.string (strB E.link)) ∧ W.cell? ⟨w.heap.size, 3, none⟩ = some (.int .i64 E.mode) ∧ W.cell? ⟨w.heap.size, 4, none⟩ = some (.int .i64 E.user) ∧ W.cell? ⟨w.heap.size, 5, none⟩ = some (.int .i64 E.group) ∧ W.cell? ⟨w.heap.size, 6, none⟩ = some (.int .i64 E.time) ∧ W.cell? ⟨w.heap.size, 7, none⟩ = some (.int .i64 E.major) ∧ W.cell? ⟨w.heap.size, 8, none⟩ = some (.int .i64 E.minor) ∧ W.cell? ⟨w.heap.size, 9, none⟩ = some (.int .i64 E.size) ∧ W.cell? ⟨w.heap.size, 10, none⟩ = some (A) ∧ W.cell? ⟨w.heap.size, 11, none⟩ = some (B)) := Lib.hid (fun W hW => by
    have hpl := HLt.out
    obtain ⟨y0, y1, y2, y3, y4, y5⟩ := pl_cells (hW.obj HP1.out HPS.out)
    obtain ⟨x0, x1, x2, x3, x4, x5, x6, x7, x8, x9, x10, x11⟩ := ent_cells (hW.obj HO.out (fun e => by have := HLow.out _ e; omega))
    exact ⟨y0, y3, x0, x1, x2, x3, x4, x5, x6, x7, x8, x9, x10, x11⟩)
  have HX2 : Hid (∀ W, Kept S w1 W → W.cell? ⟨p, 0, none⟩ = some (.pointer (some ⟨f, 0, none⟩)) ∧ W.cell? ⟨p, 1, none⟩ = some (.int .i64 P.dir) ∧ W.cell? ⟨p, 2, none⟩ = some (.string (strB P.last)) ∧ W.cell? ⟨w.heap.size, 0, none⟩ = some (.int .i64 E.kind) ∧ W.cell? ⟨w.heap.size, 1, none⟩ = some (.string (strB E.name)) ∧ W.cell? ⟨w.heap.size, 2, none⟩ = some (.string (strB E.link)) ∧ W.cell? ⟨w.heap.size, 3, none⟩ = some (.int .i64 E.mode) ∧ W.cell? ⟨w.heap.size, 4, none⟩ = some (.int .i64 E.user) ∧ W.cell? ⟨w.heap.size, 5, none⟩ = some (.int .i64 E.group) ∧ W.cell? ⟨w.heap.size, 6, none⟩ = some (.int .i64 E.time) ∧ W.cell? ⟨w.heap.size, 7, none⟩ = some (.int .i64 E.major) ∧ W.cell? ⟨w.heap.size, 8, none⟩ = some (.int .i64 E.minor) ∧ W.cell? ⟨w.heap.size, 9, none⟩ = some (.int .i64 E.size) ∧ W.cell? ⟨w.heap.size, 10, none⟩ = some (A) ∧ W.cell? ⟨w.heap.size, 11, none⟩ = some (B)) := Lib.hid (fun W hW => by
    have hpl := HLt.out
    obtain ⟨y0, y1, y2, y3, y4, y5⟩ := pl_cells (hW.obj HP1.out HPS.out)
    obtain ⟨x0, x1, x2, x3, x4, x5, x6, x7, x8, x9, x10, x11⟩ := ent_cells (hW.obj HO.out (fun e => by have := HLow.out _ e; omega))
    exact ⟨y0, y1, y2, x0, x1, x2, x3, x4, x5, x6, x7, x8, x9, x10, x11⟩)
  clear x0 x1 x2 x3 x4 x5 x6 x7 x8 x9 x10 x11 c0 c1 c2 c3 c4
  go_enter Tryz.func35, Tryz.ntmps35
  go_upto_region 1 with fail
  rw [← HW.out]
  cases di
  rotate_left
  · have HF : Hid (C = setP T P.ino (nodeE E)) := Lib.hid (by rw [HB.out]; rfl)
    clear HB HCl
    go_upto_region 2 with fail
    go_region_held3 (fun W => W.cell? ⟨p, 0, none⟩ = some (.pointer (some ⟨f, 0, none⟩)) ∧ W.cell? ⟨p, 3, none⟩ = some (.int .i64 P.ino) ∧ W.cell? ⟨w.heap.size, 0, none⟩ = some (.int .i64 E.kind) ∧ W.cell? ⟨w.heap.size, 1, none⟩ = some (.string (strB E.name)) ∧ W.cell? ⟨w.heap.size, 2, none⟩ = some (.string (strB E.link)) ∧ W.cell? ⟨w.heap.size, 3, none⟩ = some (.int .i64 E.mode) ∧ W.cell? ⟨w.heap.size, 4, none⟩ = some (.int .i64 E.user) ∧ W.cell? ⟨w.heap.size, 5, none⟩ = some (.int .i64 E.group) ∧ W.cell? ⟨w.heap.size, 6, none⟩ = some (.int .i64 E.time) ∧ W.cell? ⟨w.heap.size, 7, none⟩ = some (.int .i64 E.major) ∧ W.cell? ⟨w.heap.size, 8, none⟩ = some (.int .i64 E.minor) ∧ W.cell? ⟨w.heap.size, 9, none⟩ = some (.int .i64 E.size) ∧ W.cell? ⟨w.heap.size, 10, none⟩ = some (A) ∧ W.cell? ⟨w.heap.size, 11, none⟩ = some (B)) (first | exact HX1.out _ (Kept.refl _ _) | exact HX1.out _ (Kept.refl _ _).drew | exact HX1.out _ (hk2.mono (fun k _ e => e.elim)) | exact HX1.out _ ((Kept.refl _ _).drew.trans (hk2.mono (fun k _ e => e.elim))) | exact HX1.out _ (((Kept.refl _ _).drew.trans (hk2.mono (fun k _ e => e.elim))).trans ht3.2)) ((first
      | (go_at_call 59; (with_reducible refine (HNode.out _).mono ?_); rintro e w2 ⟨rfl, hk2⟩)
      | (go_at_call 58; (with_reducible refine (HSet.out _ (HK.out.drew.trans hk2)).mono ?_); rintro e w3 ⟨rfl, ht3⟩)))
    go_wp2
    go_ret
    exact ⟨by rw [HF.out]; rfl, by rw [HF.out]; exact Turn.pre ((HK.out.trans (Kept.refl _ _).drew).trans hk2) ht3⟩
  · have hB2 : C = if (clearP T P).2 = 0 then ((makeP (clearP T P).1 P.dir P.last (nodeE E)).1, (makeP (clearP T P).1 P.dir P.last (nodeE E)).2.2) else clearP T P := HB.out
    have HTc := Lib.hid (tame_clear T P)
    obtain ⟨C1, hC1⟩ : ∃ x, x = (clearP T P).1 := ⟨_, rfl⟩
    obtain ⟨C2, hC2⟩ : ∃ x, x = (clearP T P).2 := ⟨_, rfl⟩
    have hCC : clearP T P = (C1, C2) := by rw [hC1, hC2]
    rw [hCC] at hB2 HCl HTc
    dsimp only at hB2 HCl HTc
    have HB2 := Lib.hid hB2
    clear HB hB2 hC1 hC2 hCC HSet HX1
    go_upto_region 4 with (go_at_call 60; refine HCl.out.mono ?_; rintro e w3 ⟨rfl, ht3⟩)
    have HT3 := Lib.hid ht3
    clear ht3 HCl
    by_cases h0 : C2 = 0
    rotate_left
    · have h02 : (C2 != 0) = true := by simpa using h0
      have HF : Hid (C = (C1, C2)) := Lib.hid (by rw [HB2.out, if_neg h0])
      clear HB2 h0
      go_wp2
      go_ret
      exact ⟨by rw [HF.out]; rfl, by rw [HF.out]; exact Turn.pre HK.out HT3.out⟩
    subst h0
    have HF : Hid (C = ((makeP C1 P.dir P.last (nodeE E)).1, (makeP C1 P.dir P.last (nodeE E)).2.2)) := Lib.hid (by rw [HB2.out, if_pos rfl])
    clear HB2
    have HMk : Hid (∀ W, Kept NoB w3 W → Calls Tryz.prog 10 #[.pointer (some ⟨f, 0, none⟩), .int .i64 P.dir, .string (strB P.last), .agg (nvC (nodeE E)).toArray] W fun e w' => e = .returned (.tuple #[.int .i64 (makeP C1 P.dir P.last (nodeE E)).2.1, .int .i64 (makeP C1 P.dir P.last (nodeE E)).2.2]) ∧ Turn S w1 w' f (makeP C1 P.dir P.last (nodeE E)).1) := Lib.hid (fun W hW =>
      (make_any (HT3.out.1.keptNo hW) P.dir HP.out.dir P.last (by have := HP.out.last; omega) (nodeE E) HE.out.time (by have := HTc.out.2.2; omega)).mono fun e w' ⟨e1, e2⟩ => ⟨e1, HT3.out.next hW e2⟩)
    go_upto_region 6 with fail
    go_region_held3 (fun W => W.cell? ⟨p, 0, none⟩ = some (.pointer (some ⟨f, 0, none⟩)) ∧ W.cell? ⟨p, 1, none⟩ = some (.int .i64 P.dir) ∧ W.cell? ⟨p, 2, none⟩ = some (.string (strB P.last)) ∧ W.cell? ⟨w.heap.size, 0, none⟩ = some (.int .i64 E.kind) ∧ W.cell? ⟨w.heap.size, 1, none⟩ = some (.string (strB E.name)) ∧ W.cell? ⟨w.heap.size, 2, none⟩ = some (.string (strB E.link)) ∧ W.cell? ⟨w.heap.size, 3, none⟩ = some (.int .i64 E.mode) ∧ W.cell? ⟨w.heap.size, 4, none⟩ = some (.int .i64 E.user) ∧ W.cell? ⟨w.heap.size, 5, none⟩ = some (.int .i64 E.group) ∧ W.cell? ⟨w.heap.size, 6, none⟩ = some (.int .i64 E.time) ∧ W.cell? ⟨w.heap.size, 7, none⟩ = some (.int .i64 E.major) ∧ W.cell? ⟨w.heap.size, 8, none⟩ = some (.int .i64 E.minor) ∧ W.cell? ⟨w.heap.size, 9, none⟩ = some (.int .i64 E.size) ∧ W.cell? ⟨w.heap.size, 10, none⟩ = some (A) ∧ W.cell? ⟨w.heap.size, 11, none⟩ = some (B)) (first | exact HX2.out _ HT3.out.2 | exact HX2.out _ HT3.out.2.drew | exact HX2.out _ (HT3.out.2.trans (hk4.mono (fun k _ e => e.elim))) | exact HX2.out _ (HT3.out.2.drew.trans (hk4.mono (fun k _ e => e.elim))) | exact HX2.out _ ht5.2) ((first
      | (go_at_call 59; (with_reducible refine (HNode.out _).mono ?_); rintro e w4 ⟨rfl, hk4⟩)
      | (go_at_call 10; (with_reducible refine (HMk.out _ ((Kept.refl _ _).drew.trans hk4)).mono ?_); rintro e w5 ⟨rfl, ht5⟩)))
    go_wp2
    go_ret
    exact ⟨by rw [HF.out]; rfl, by rw [HF.out]; exact Turn.pre HK.out ht5⟩

set_option maxHeartbeats 4000000 in
theorem putName_any {S : Nat → Prop} {w : World} {f p : Nat} {T : FsP} {P : SpotV} (h : FsSt S w f T) (hlow : ∀ k, S k → k < w.heap.size) (hp : w.heap[p]? = some (.cells (spC (some f) P).toArray 81 (0, 0))) (hpS : ¬ S p) (hP : OkS T P) (top : Int) (htop : okI top) (link : List (List UInt8)) (ao : Option Addr) (c B : Nat) (hr : RdS w B ao link)
    (hl : ∀ q ∈ link, q.length ≤ 255) (hln : link.length ≤ 4097) (hclk : T.clock + 5 ≤ 4611686018427387904) :
    Calls Tryz.prog 36 #[.pointer (some ⟨p, 0, none⟩), .int .i64 top, .slice ao link.length c] w fun e w' => e = .returned (.int .i64 (putNameP T P top link).2) ∧ Turn S w w' f (putNameP T P top link).1 := by
  obtain ⟨c0, c1, c2, c3, c4, c5⟩ := pl_cells hp
  have hplt := obj_lt hp
  have hok := h.okT
  have hnx := hok.next
  have HDn := Lib.hid (down_any h (by omega) top htop ao c B link hr (fun q hq => by have := hl q hq; omega) (by omega))
  have hB : putNameP T P top link = if (downP T top link).2 = 0 then putNameQ T P (downP T top link).1 else (T, (downP T top link).2) := rfl
  obtain ⟨C, hC⟩ : ∃ C, C = putNameP T P top link := ⟨_, rfl⟩
  rw [← hC] at hB ⊢
  obtain ⟨D1, hD1⟩ : ∃ x, x = (downP T top link).1 := ⟨_, rfl⟩
  obtain ⟨D2, hD2⟩ : ∃ x, x = (downP T top link).2 := ⟨_, rfl⟩
  have hD1i : okI D1 := by
    rw [hD1]
    have key : ∀ (l : List (List UInt8)) (d : Int), okI d → okI (downP T d l).1 := by
      intro l
      induction l with
      | nil => intro d hd; exact hd
      | cons q r ih =>
        intro d hd
        unfold downP
        split
        · exact ih _ (find_okI hok (by omega) d q)
        · exact ⟨by dsimp only; omega, by dsimp only; omega⟩
    exact key link top htop
  rw [← hD1, ← hD2] at hB HDn
  have HSt : Hid (∀ W, Kept NoB w W → Calls Tryz.prog 15 #[.pointer (some ⟨f, 0, none⟩), .int .i64 D1] W fun e w' => e = .returned (.tuple #[.agg (nvC (statP T D1).1).toArray, .int .i64 (statP T D1).2]) ∧ Kept NoB W w') := Lib.hid (fun W hW => stat_any (h.keptNo hW) D1 hD1i)
  have HB := Lib.hid hB; have HP1 := Lib.hid hp; have HPS := Lib.hid hpS; have HP := Lib.hid hP; have H := Lib.hid h; have HLt := Lib.hid hplt; have HLow := Lib.hid hlow
  have HDi := Lib.hid hD1i
  have HX : Hid (∀ W, Kept S w W → W.cell? ⟨p, 0, none⟩ = some (.pointer (some ⟨f, 0, none⟩)) ∧ W.cell? ⟨p, 1, none⟩ = some (.int .i64 P.dir) ∧ W.cell? ⟨p, 2, none⟩ = some (.string (strB P.last)) ∧ W.cell? ⟨p, 3, none⟩ = some (.int .i64 P.ino) ∧ W.cell? ⟨p, 4, none⟩ = some (.bool P.there)) := Lib.hid (fun W hW => by
    obtain ⟨y0, y1, y2, y3, y4, y5⟩ := pl_cells (hW.obj hp hpS)
    exact ⟨y0, y1, y2, y3, y4⟩)
  clear h hlow hp hpS hP hr hl hB hC hD1 hD2 hD1i hok hnx c1 c2 c3 c4 c5 hplt
  go_enter Tryz.func36, Tryz.ntmps36
  go_upto_region 2 with (go_at_call 23; refine HDn.out.mono ?_; rintro e w2 ⟨rfl, hk2⟩)
  have HK2 := Lib.hid hk2
  clear HDn c0 hk2
  by_cases h0 : D2 = 0
  rotate_left
  · have h02 : (D2 != 0) = true := by simpa using h0
    have HF : Hid (C = (T, D2)) := Lib.hid (by rw [HB.out, if_neg h0])
    clear HB h0
    go_wp2
    go_ret
    exact ⟨by rw [HF.out]; rfl, by rw [HF.out]; exact (Turn.nil H.out).kept HK2.out⟩
  subst h0
  have hB2 : C = putNameQ T P D1 := by rw [HB.out, if_pos rfl]
  unfold putNameQ at hB2
  have HSt := Lib.hid (HSt.out w2 HK2.out)
  obtain ⟨v, hv⟩ : ∃ v, v = (statP T D1).1 := ⟨_, rfl⟩
  obtain ⟨se, hse⟩ : ∃ e, e = (statP T D1).2 := ⟨_, rfl⟩
  rw [← hv, ← hse] at hB2 HSt
  have HOne := Lib.hid (nv_one v)
  have HB2 := Lib.hid hB2
  obtain ⟨y0, y1, y2, y3, y4⟩ := HX.out w2 (HK2.out.mono (fun k _ e => e.elim))
  clear HB hB2 hv hse y1 y2 y3 y4
  go_upto_region 5 with (first | (go_at_call 15; refine HSt.out.mono ?_; rintro e w3 ⟨rfl, hk3⟩) | (refine wpList_store_row rfl 27 (.tmp 9) (.tmp 31) rfl w3.heap.size (nvC v).toArray rfl rfl _ _ (heap_alloc_new _ _) infoNd rfl HOne.out ?_))
  obtain ⟨w4, hw4⟩ : ∃ w4, w4 = (w3.alloc (.cells #[.int .i64 0, .int .i64 0, .int .i64 0, .int .i64 0, .int .i64 0, .string { data := #[] }, .int .i64 0, .int .i64 0, .int .i64 0, .int .i64 0, .int .i64 0] 27)).setRow w3.heap.size (nvC v).toArray := ⟨_, rfl⟩
  rw [← hw4]
  have hk4 : Kept NoB w3 w4 := by rw [hw4]; exact ((Kept.refl NoB w3).alloc _).setRow (.inr (Nat.le_refl _)) _
  have ob4 : w4.heap[w3.heap.size]? = some (.cells (nvC v).toArray 27 (0, 0)) := by rw [hw4]; exact setRow_heap _ _ _ _ _ _ (heap_alloc_new _ _)
  have d0 : w4.cell? ⟨w3.heap.size, 0, none⟩ = some (.int .i64 v.kind) := by rw [obj_cell ob4]; rfl
  obtain ⟨g, hg⟩ : ∃ g, g = w3.heap.size := ⟨_, rfl⟩
  obtain ⟨vk, hvk⟩ : ∃ k, k = v.kind := ⟨_, rfl⟩
  rw [← hg, ← hvk] at d0
  rw [← hg]
  have HK4 := Lib.hid ((HK2.out.trans hk3).trans hk4)
  have HVk := Lib.hid hvk
  clear hw4 hk4 ob4 hk3 hg hvk y0 HSt
  by_cases hs : se = 0
  rotate_left
  · have hs2 : (se != 0) = true := by simpa using hs
    have HF : Hid (C = (T, se)) := Lib.hid (by rw [HB2.out, if_neg hs])
    clear HB2 hs
    go_wp2
    go_ret
    exact ⟨by rw [HF.out]; rfl, by rw [HF.out]; exact (Turn.nil H.out).kept HK4.out⟩
  subst hs
  by_cases h6 : vk = 6
  · have h62 : (vk == 6) = true := by simpa using h6
    have HF : Hid (C = (T, 13)) := Lib.hid (by rw [HB2.out, if_pos rfl, if_pos (by rw [← HVk.out]; exact h6)])
    clear HB2 h6
    go_wp2
    go_ret
    exact ⟨by rw [HF.out]; rfl, by rw [HF.out]; exact (Turn.nil H.out).kept HK4.out⟩
  have h62 : (vk == 6) = false := by simpa using h6
  have HB3 : Hid (C = if P.there = true ∧ P.ino = D1 then (T, 0) else if (clearP T P).2 = 0 then linkP (clearP T P).1 P.dir P.last D1 else clearP T P) := Lib.hid (by rw [HB2.out, if_pos rfl, if_neg (by rw [← HVk.out]; exact h6)])
  clear HB2 h6 HVk
  obtain ⟨y0, y1, y2, y3, y4⟩ := HX.out w4 (HK4.out.mono (fun k _ e => e.elim))
  have HCl := Lib.hid (clear_any (H.out.keptNo HK4.out) (HK4.out.obj HP1.out id) HP.out (by omega))
  have HTc := Lib.hid (tame_clear T P)
  obtain ⟨C1, hC1⟩ : ∃ x, x = (clearP T P).1 := ⟨_, rfl⟩
  obtain ⟨C2, hC2⟩ : ∃ x, x = (clearP T P).2 := ⟨_, rfl⟩
  have hCC : clearP T P = (C1, C2) := by rw [hC1, hC2]
  rw [hCC] at HB3 HCl HTc
  dsimp only at HB3 HCl HTc
  clear hC1 hC2 hCC y0 y1 y2
  obtain ⟨th, hth⟩ : ∃ b, b = P.there := ⟨_, rfl⟩
  obtain ⟨io, hio⟩ : ∃ b, b = P.ino := ⟨_, rfl⟩
  rw [← hth] at y4
  rw [← hio] at y3
  rw [← hth, ← hio] at HB3
  clear hth hio
  by_cases hsame : th = true ∧ io = D1
  · obtain ⟨rfl, rfl⟩ := hsame
    have HF : Hid (C = (T, 0)) := Lib.hid (by rw [HB3.out, if_pos ⟨rfl, rfl⟩])
    clear HB3
    go_wp2
    go_ret
    exact ⟨by rw [HF.out]; rfl, by rw [HF.out]; exact (Turn.nil H.out).kept HK4.out⟩
  have HB4 : Hid (C = if C2 = 0 then linkP C1 P.dir P.last D1 else (C1, C2)) := Lib.hid (by rw [HB3.out, if_neg hsame])
  clear HB3
  go_upto_region 9 with fail
  cases th
  · clear hsame
    go_upto_region 12 with (go_at_call 60; refine HCl.out.mono ?_; rintro e w5 ⟨rfl, ht5⟩)
    have HT5 := Lib.hid ht5
    clear ht5 HCl y3 y4
    by_cases h0 : C2 = 0
    rotate_left
    · have h02 : (C2 != 0) = true := by simpa using h0
      have HF : Hid (C = (C1, C2)) := Lib.hid (by rw [HB4.out, if_neg h0])
      clear HB4 h0
      go_wp2
      go_ret
      exact ⟨by rw [HF.out]; rfl, by rw [HF.out]; exact Turn.pre HK4.out HT5.out⟩
    subst h0
    have HF : Hid (C = linkP C1 P.dir P.last D1) := Lib.hid (by rw [HB4.out, if_pos rfl])
    have HLk : Hid (∀ W, Kept NoB w5 W → Calls Tryz.prog 12 #[.pointer (some ⟨f, 0, none⟩), .int .i64 P.dir, .string (strB P.last), .int .i64 D1] W fun e w' => e = .returned (.int .i64 (linkP C1 P.dir P.last D1).2) ∧ Turn S w4 w' f (linkP C1 P.dir P.last D1).1) := Lib.hid (fun W hW =>
      (link_any (HT5.out.1.keptNo hW) P.dir HP.out.dir P.last (by have := HP.out.last; omega) D1 HDi.out (by have := HTc.out.2.2; omega)).mono fun e w' ⟨e1, e2⟩ => ⟨e1, HT5.out.next hW e2⟩)
    clear HB4
    have HX5 : Hid (∀ W, Kept S w4 W → W.cell? ⟨p, 0, none⟩ = some (.pointer (some ⟨f, 0, none⟩)) ∧ W.cell? ⟨p, 1, none⟩ = some (.int .i64 P.dir) ∧ W.cell? ⟨p, 2, none⟩ = some (.string (strB P.last))) := Lib.hid (fun W hW => by
      obtain ⟨z0, z1, z2, z3, z4⟩ := HX.out W ((HK4.out.mono (fun k _ e => e.elim)).trans hW)
      exact ⟨z0, z1, z2⟩)
    go_upto_region 14 with fail
    go_region_held3 (fun W => W.cell? ⟨p, 0, none⟩ = some (.pointer (some ⟨f, 0, none⟩)) ∧ W.cell? ⟨p, 1, none⟩ = some (.int .i64 P.dir) ∧ W.cell? ⟨p, 2, none⟩ = some (.string (strB P.last))) (first | exact HX5.out _ HT5.out.2 | exact HX5.out _ HT5.out.2.drew | exact HX5.out _ ht6.2) ((first
      | (go_at_call 12; (with_reducible refine (HLk.out _ (Kept.refl _ _).drew).mono ?_); rintro e w6 ⟨rfl, ht6⟩)))
    go_wp2
    go_ret
    exact ⟨by rw [HF.out]; rfl, by rw [HF.out]; exact Turn.pre HK4.out ht6⟩
  · have hio : ¬ io = D1 := fun e => hsame ⟨rfl, e⟩
    have hio2 : (io == D1) = false := by simpa using hio
    clear hsame hio
    go_upto_region 12 with (go_at_call 60; refine HCl.out.mono ?_; rintro e w5 ⟨rfl, ht5⟩)
    have HT5 := Lib.hid ht5
    clear ht5 HCl y3 y4
    by_cases h0 : C2 = 0
    rotate_left
    · have h02 : (C2 != 0) = true := by simpa using h0
      have HF : Hid (C = (C1, C2)) := Lib.hid (by rw [HB4.out, if_neg h0])
      clear HB4 h0
      go_wp2
      go_ret
      exact ⟨by rw [HF.out]; rfl, by rw [HF.out]; exact Turn.pre HK4.out HT5.out⟩
    subst h0
    have HF : Hid (C = linkP C1 P.dir P.last D1) := Lib.hid (by rw [HB4.out, if_pos rfl])
    have HLk : Hid (∀ W, Kept NoB w5 W → Calls Tryz.prog 12 #[.pointer (some ⟨f, 0, none⟩), .int .i64 P.dir, .string (strB P.last), .int .i64 D1] W fun e w' => e = .returned (.int .i64 (linkP C1 P.dir P.last D1).2) ∧ Turn S w4 w' f (linkP C1 P.dir P.last D1).1) := Lib.hid (fun W hW =>
      (link_any (HT5.out.1.keptNo hW) P.dir HP.out.dir P.last (by have := HP.out.last; omega) D1 HDi.out (by have := HTc.out.2.2; omega)).mono fun e w' ⟨e1, e2⟩ => ⟨e1, HT5.out.next hW e2⟩)
    clear HB4
    have HX5 : Hid (∀ W, Kept S w4 W → W.cell? ⟨p, 0, none⟩ = some (.pointer (some ⟨f, 0, none⟩)) ∧ W.cell? ⟨p, 1, none⟩ = some (.int .i64 P.dir) ∧ W.cell? ⟨p, 2, none⟩ = some (.string (strB P.last))) := Lib.hid (fun W hW => by
      obtain ⟨z0, z1, z2, z3, z4⟩ := HX.out W ((HK4.out.mono (fun k _ e => e.elim)).trans hW)
      exact ⟨z0, z1, z2⟩)
    go_upto_region 14 with fail
    go_region_held3 (fun W => W.cell? ⟨p, 0, none⟩ = some (.pointer (some ⟨f, 0, none⟩)) ∧ W.cell? ⟨p, 1, none⟩ = some (.int .i64 P.dir) ∧ W.cell? ⟨p, 2, none⟩ = some (.string (strB P.last))) (first | exact HX5.out _ HT5.out.2 | exact HX5.out _ HT5.out.2.drew | exact HX5.out _ ht6.2) ((first
      | (go_at_call 12; (with_reducible refine (HLk.out _ (Kept.refl _ _).drew).mono ?_); rintro e w6 ⟨rfl, ht6⟩)))
    go_wp2
    go_ret
    exact ⟨by rw [HF.out]; rfl, by rw [HF.out]; exact Turn.pre HK4.out ht6⟩
end Go.Proofs.YtgbakogihkdddaaGreatDoor
