/-
  head: a block that is written: its texts and its numbers.
-/
import Derived.Test.YtnhfbpikfkncpaaHeadD
import Derived.Lib.BufferWrite
namespace Go.Proofs.Ytnhfbpikfkncpaa
open Go.RowKit
set_option linter.unusedVariables false
set_option linter.unusedSimpArgs false

def scells (s : ByteArray) : List Value := s.data.toList.map fun b => Value.int IntKind.u8 (b.toNat : Int)
theorem scells_num {ss : List Int} (h : AllB ss) : scells (strOfNums ss) = ss.map (Value.int .u8) := by
  unfold scells
  rw [strOfNums_data, List.map_map]
  apply List.map_congr_left
  intro x hx
  have := h x hx
  simp only [Function.comp_apply]
  congr 1
  simp
  omega
/-- 'copy(dst, s)' of a string: as much of it as there is room. -/
theorem run_copy_str (w : World) (dT sT ty elem : TypeId) (g o dLen dCap : Nat) (s : ByteArray) (cur : Array Value) (t : TypeId)
    (hu : Try.prog.underlying dT = some (.slice elem)) (hs : (Try.prog.info? elem).map (·.size) = some 1) (hg : w.heap[g]? = some (.cells cur t (0, 0))) (hfit : o + Nat.min s.size dLen ≤ cur.size) :
    (Builtin.copy_ #[dT, sT] ty #[.slice (some ⟨g, o, none⟩) dLen dCap, .string s]).run Try.prog w =
      .ok (goInt (Nat.min s.size dLen)) (w.setRow g (cur.toList.take o ++ (scells s).take (Nat.min s.size dLen) ++ cur.toList.drop (o + Nat.min s.size dLen)).toArray) := by
  have hbl : (scells s).length = s.size := by unfold scells; rw [List.length_map]; rfl
  have hlen : ((scells s).take (Nat.min s.size dLen)).length = Nat.min s.size dLen := by
    rw [List.length_take, hbl]; exact Nat.min_eq_left (Nat.min_le_left _ _)
  have h1 : ∀ v ∈ (scells s).take (Nat.min s.size dLen), v.oneCell' = true := by
    intro v hv
    have := List.mem_of_mem_take hv
    simp only [scells, List.mem_map] at this
    obtain ⟨b, _, rfl⟩ := this
    rfl
  have hst := run_storeCells_at Try.prog g o t ((scells s).take (Nat.min s.size dLen)) 0 cur w hg (by rw [hlen]; simpa using hfit) h1
  rw [hlen] at hst
  simp only [Nat.add_zero] at hst
  obtain ⟨k, hk⟩ : ∃ k, k = Nat.min s.size dLen := ⟨_, rfl⟩
  rw [← hk] at hst ⊢
  have htk : List.take k (List.map (fun b : UInt8 => Value.int IntKind.u8 (b.toNat : Int)) s.data.toList) = (scells s).take k := rfl
  cases hq : Try.prog.info? elem with
  | none => simp [hq] at hs
  | some i =>
    simp [Builtin.copy_, run_underlying hu, Builtin.lenOf, Builtin.firstCells, sizeOf, typeInfo, hq]
    rw [← hk, htk, hst]
    simp [Result.andThen]

/-- A block that is written: its struct, and its bytes. -/
structure BlkW (w : World) (X g : Nat) (gn ok : Bool) (xs : List Int) : Prop where
  st : w.heap[X]? = some (.cells #[.slice (some ⟨g, 0, none⟩) 512 512, .bool gn, .bool ok] 55 (0, 0))
  by_ : w.heap[g]? = some (.cells (xs.map (Value.int .u8)).toArray 5 (0, 0))
  len : xs.length = 512
  ne : g ≠ X
theorem two_kept_set {w0 w : World} {X g : Nat} (h : Kept (TwoB X g) w0 w) (i : Nat) (v : Value) : Kept (TwoB X g) w0 (w.setCell ⟨X, i, none⟩ v) := h.setCell (p := ⟨X, i, none⟩) (.inl (.inl rfl)) v
theorem two_kept_row {w0 w : World} {X g : Nat} (h : Kept (TwoB X g) w0 w) (cs : Array Value) : Kept (TwoB X g) w0 (w.setRow g cs) :=
  ⟨h.os, h.tape, h.output, by have := h.size; simpa [World.setRow] using this, fun k hk hs => (setRow_other w g k cs (fun e => hs (.inr e))).trans (h.block k hk hs)⟩
theorem BlkW.kept {w w' : World} {X g : Nat} {gn ok : Bool} {xs : List Int} (h : BlkW w X g gn ok xs) (hk : Kept NoB w w') : BlkW w' X g gn ok xs := ⟨hk.obj h.st (fun h => h), hk.obj h.by_ (fun h => h), h.len, h.ne⟩
/-- One more step: the struct's word on it, and bytes. -/
theorem BlkW.step {w : World} {X g : Nat} {gn ok : Bool} {xs : List Int} (h : BlkW w X g gn ok xs) (ok2 : Bool) (at_ : Nat) (ys : List Int) (hf : at_ + ys.length ≤ 512) :
    BlkW ((w.setCell ⟨X, 2, none⟩ (.bool ok2)).setRow g ((xs.map (Value.int .u8)).take at_ ++ (ys.map (Value.int .u8)) ++ (xs.map (Value.int .u8)).drop (at_ + ys.length)).toArray) X g gn ok2 (splice xs at_ ys) := by
  have h1 := obj_set h.st 2 (.bool ok2)
  have h2 : (w.setCell ⟨X, 2, none⟩ (.bool ok2)).heap[g]? = some (.cells (xs.map (Value.int .u8)).toArray 5 (0, 0)) := (Below.heap_setCell _ _ _ _ h.ne).trans h.by_
  refine ⟨(setRow_other _ g X _ (fun e => h.ne e.symm)).trans h1, ?_, by rw [length_splice _ _ _ (by rw [h.len]; exact hf)]; exact h.len, h.ne⟩
  rw [setRow_heap _ g _ _ _ _ h2]
  congr 3
  simp [splice, List.map_take, List.map_drop]

set_option maxRecDepth 20000 in
set_option maxHeartbeats 4000000 in
theorem btext_any (X g at_ W : Nat) (gn ok : Bool) (xs ss : List Int) (w : World) (hB : BlkW w X g gn ok xs) (hs : AllB ss) (hf : at_ + W ≤ 512) (hW : 0 < W) (hsz : ss.length ≤ 9223372036854775807) :
    Calls Try.prog 21 #[.pointer (some ⟨X, 0, none⟩), .string (strOfNums ss), .int .i64 (at_ : Int), .int .i64 (W : Int)] w fun e w' =>
      e = .returned (.tuple #[]) ∧ BlkW w' X g gn (ok && okT ss W) (splice xs at_ (ss.take W)) ∧ Kept (TwoB X g) w w' := by
  have HB := Lib.hid hB
  have HK : Hid (AllB ss) := Lib.hid hs
  obtain ⟨L, hL⟩ : ∃ L, L = ss.length := ⟨_, rfl⟩
  have hsl : (strOfNums ss).size = L := by rw [strOfNums_size, hL]
  have HC := Lib.hid (Try.strings_Contains_one (strOfNums ss) 0)
  have hci : decide (0 ≤ Lib.indexByte (strOfNums ss).data.toList 0) = ss.contains 0 := by
    have e : (strOfNums ss).data.toList = Lib.bytesOf ss := rfl
    rw [e]
    rcases cutZ_index ss hs with ⟨h1, h2⟩ | ⟨k, h1, h2, h3⟩
    · rw [h1]
      have : ss.contains 0 = false := by
        rw [← h2]
        have ha := List.all_takeWhile (p := fun x : Int => x != 0) (l := ss)
        rw [List.all_eq_true] at ha
        cases hcn : (cutZ ss).contains 0 with
        | false => rfl
        | true =>
          have hm : (0 : Int) ∈ cutZ ss := by simpa using hcn
          have := ha 0 hm
          simp at this
      rw [this]; rfl
    · rw [h1]
      have : ss.contains 0 = true := by
        cases hcn : ss.contains 0 with
        | true => rfl
        | false =>
          have h4 := cutZ_pad ss ss.length hcn
          rw [padT, Nat.sub_self, List.replicate_zero, List.append_nil, h3] at h4
          have := congrArg List.length h4
          rw [List.length_take] at this
          omega
      rw [this]
      simp
      try omega
  rw [hci] at HC
  have hok : okT ss W = (decide (L ≤ W) && !ss.contains 0) := by rw [hL]; rfl
  obtain ⟨cz, hcz⟩ : ∃ cz, cz = ss.contains 0 := ⟨_, rfl⟩
  rw [← hcz] at HC hok
  obtain ⟨S, hS⟩ : ∃ S, S = strOfNums ss := ⟨_, rfl⟩
  rw [← hS] at hsl HC ⊢
  have HS := Lib.hid hS
  have hmin : Nat.min L W ≤ W := Nat.min_le_right _ _
  have hst := hB.step (ok && okT ss W) at_ (ss.take W) (by rw [List.length_take]; omega)
  have hcp := fun (w : World) (cur : List Value) (hg : w.heap[g]? = some (.cells cur.toArray 5 (0, 0))) (hl : cur.length = 512) => run_copy_str w 24 9 3 5 g at_ W (512 - at_) S cur.toArray 5 Try.underlying24 (by kernel_rfl) hg (by rw [hsl]; simp [hl]; omega)
  have c0 := obj_cell hB.st 0
  have c2 := obj_cell hB.st 2
  simp only [List.getElem?_toArray, List.getElem?_cons_zero, List.getElem?_cons_succ] at c0 c2
  have f2 : w.frozen? ⟨X, 2, none⟩ = false := obj_free hB.st 2
  clear hB hs hS hcz hci
  go_enter Try.func21, Try.ntmps21
  obtain ⟨nb, hnb⟩ : ∃ nb, nb = (ok && okT ss W) := ⟨_, rfl⟩
  rw [← hnb] at hst ⊢
  rw [hok] at hnb
  have HSt := Lib.hid hst
  clear hst hok
  go_upto_region 0 with fail
  go_cut [] from 8 to 25 (fun wy => wy = w.setCell ⟨X, 2, none⟩ (.bool nb))
  case first =>
    cases ok with
    | false =>
      have : nb = false := by rw [hnb]; rfl
      subst this
      clear hnb hcp
      go_wp2
      go_meet
      rfl
    | true =>
      by_cases hLW : L ≤ W
      · have hLi : (L : Int) ≤ (W : Int) := by omega
        have hd1 : decide ((L : Int) ≤ (W : Int)) = true := decide_eq_true hLi
        have hd2 : decide (L ≤ W) = true := decide_eq_true hLW
        have : nb = !cz := by rw [hnb, hd2]; rfl
        subst this
        clear hnb hcp
        go_wp2_with fail
        with_reducible refine (HC.out w).mono ?_
        rintro e w1 ⟨rfl, rfl⟩
        go_wp2
        go_meet
        rfl
      · have hLi : ¬ (L : Int) ≤ (W : Int) := by omega
        have hd1 : decide ((L : Int) ≤ (W : Int)) = false := decide_eq_false hLi
        have hd2 : decide (L ≤ W) = false := decide_eq_false hLW
        have : nb = false := by rw [hnb, hd2]; rfl
        subst this
        clear hnb hcp
        go_wp2
        go_meet
        rfl
  case rest =>
  obtain rfl := hcut
  have hB2 := HB.out
  have hrun := hcp (w.setCell ⟨X, 2, none⟩ (.bool nb)) (xs.map (Value.int .u8)) ((Below.heap_setCell _ _ _ _ hB2.ne).trans hB2.by_) (by rw [List.length_map]; exact hB2.len)
  have hd : ((w.setCell ⟨X, 2, none⟩ (.bool nb)).setRow g (((xs.map (Value.int .u8)).toArray.toList.take at_ ++ (scells S).take (Nat.min S.size W) ++ (xs.map (Value.int .u8)).toArray.toList.drop (at_ + Nat.min S.size W)).toArray)) = ((w.setCell ⟨X, 2, none⟩ (.bool nb)).setRow g ((xs.map (Value.int .u8)).take at_ ++ ((ss.take W).map (Value.int .u8)) ++ (xs.map (Value.int .u8)).drop (at_ + (ss.take W).length)).toArray) := by
    have e1 : Nat.min S.size W = (ss.take W).length := by rw [hsl, hL, List.length_take]; exact Nat.min_comm _ _
    have e2 : (scells S).take (Nat.min S.size W) = (ss.take W).map (Value.int .u8) := by
      rw [HS.out, scells_num HK.out, ← List.map_take, ← HS.out, e1, List.length_take]
      congr 1
      by_cases h : W ≤ ss.length
      · rw [Nat.min_eq_left h]
      · rw [Nat.min_eq_right (by omega), List.take_of_length_le (Nat.le_refl _), List.take_of_length_le (by omega)]
    rw [e2, e1]
  rw [hd] at hrun
  have hwf : at_ < 512 := by omega
  have HKp : Hid (Kept (TwoB X g) w ((w.setCell ⟨X, 2, none⟩ (.bool nb)).setRow g ((xs.map (Value.int .u8)).take at_ ++ ((ss.take W).map (Value.int .u8)) ++ (xs.map (Value.int .u8)).drop (at_ + (ss.take W).length)).toArray)) := Lib.hid (two_kept_row (two_kept_set (Kept.refl _ _) 2 _) _)
  generalize ((w.setCell ⟨X, 2, none⟩ (.bool nb)).setRow g ((xs.map (Value.int .u8)).take at_ ++ ((ss.take W).map (Value.int .u8)) ++ (xs.map (Value.int .u8)).drop (at_ + (ss.take W).length)).toArray) = wz at hrun HSt HKp
  have hmn : ∃ q, q = Nat.min S.size W := ⟨_, rfl⟩
  obtain ⟨q, hq⟩ := hmn
  rw [← hq] at hrun
  clear hcp hd hB2 hL hsl hmin hq hnb
  have hsub : (at_ : Int) + (W : Int) - (at_ : Int) = (W : Int) := by omega
  have hsubn : at_ + W - at_ = W := by omega
  go_wp2
  go_end0
  exact ⟨rfl, HSt.out, HKp.out⟩

set_option maxRecDepth 20000 in
set_option maxHeartbeats 4000000 in
theorem bnum_any (X g at_ W : Nat) (n : Int) (gn ok : Bool) (xs : List Int) (w : World) (hB : BlkW w X g gn ok xs) (hn : In64I n) (hf : at_ + W ≤ 512) (hW : 2 ≤ W ∧ W ≤ 12) :
    Calls Try.prog 22 #[.pointer (some ⟨X, 0, none⟩), .int .i64 n, .int .i64 (at_ : Int), .int .i64 (W : Int)] w fun e w' =>
      e = .returned (.tuple #[]) ∧ BlkW w' X g gn (ok && (fieldS n (W : Int) gn).2) (splice xs at_ (fieldS n (W : Int) gn).1) ∧ Kept (TwoB X g) w w' := by
  have HB := Lib.hid hB
  have HF := Lib.hid (field_any n (W : Int) gn w hn)
  have hle : (fieldS n (W : Int) gn).1.length ≤ W := by have := field_le n (W : Int) gn (by omega); simpa using this
  have hfull : (fieldS n (W : Int) gn).1 = [] ∨ (fieldS n (W : Int) gn).1.length = W := by
    by_cases h : (fieldS n (W : Int) gn).2 = true
    · exact .inr (by have := field_len n (W : Int) gn h (by omega); simpa using this)
    · left
      unfold fieldS at h ⊢
      split at h
      · rename_i h2; rw [if_pos h2, octS_no n _ (by simpa using h)]
      · rename_i h2; rw [if_neg h2]
        by_cases h3 : 2 ≤ (W : Int) ∧ (W : Int) ≤ 12 ∧ (if n < 0 then sh 256 n ((W : Int).toNat - 1) = -1 else sh 256 n ((W : Int).toNat - 1) = 0)
        · have e : wideS n (W : Int) = ((fld (wc8 n) ((W : Int).toNat - 1) ((W : Int).toNat - 1) false).set 0 (if n < 0 then 255 else 128), true) := if_pos h3
          rw [e] at h; simp at h
        · have e : wideS n (W : Int) = ([], false) := if_neg h3
          rw [e]
  obtain ⟨q, hq⟩ : ∃ q, q = fieldS n (W : Int) gn := ⟨_, rfl⟩
  rw [← hq] at HF hle hfull ⊢
  obtain ⟨F, fo⟩ := q
  have c1 := obj_cell hB.st 1
  simp only [List.getElem?_toArray, List.getElem?_cons_zero, List.getElem?_cons_succ] at c1
  have hle : F.length ≤ W := hle
  have hfull : F = [] ∨ F.length = W := hfull
  have HFu := Lib.hid hfull
  clear hB hq hfull
  go_enter Try.func22, Try.ntmps22
  go_wp2_with fail
  with_reducible refine HF.out.mono ?_
  rintro e w1 ⟨ao, cap, rfl, HRd, HNil, hc1, hc2, hk1⟩
  have HK1 := Lib.hid hk1
  have HB1 := Lib.hid (HB.out.kept hk1)
  have hB1 := HB1.out
  have c0 := obj_cell hB1.st 0
  have c2 := obj_cell hB1.st 2
  simp only [List.getElem?_toArray, List.getElem?_cons_zero, List.getElem?_cons_succ] at c0 c2
  have f2 : w1.frozen? ⟨X, 2, none⟩ = false := obj_free hB1.st 2
  obtain ⟨nb, hnb⟩ : ∃ nb, nb = (ok && fo) := ⟨_, rfl⟩
  have HHs := Lib.hid (hB1.step nb at_ F (by omega))
  have HMk : Hid (BlkW (w1.setCell ⟨X, 2, none⟩ (.bool nb)) X g gn nb xs) := Lib.hid ⟨obj_set hB1.st 2 (.bool nb), (Below.heap_setCell _ _ _ _ hB1.ne).trans hB1.by_, hB1.len, hB1.ne⟩
  have HNb := Lib.hid hnb
  have HKs : Hid (Kept (TwoB X g) w (w1.setCell ⟨X, 2, none⟩ (.bool nb))) := Lib.hid (two_kept_set (hk1.mono (fun _ _ h => h.elim)) 2 _)
  clear hk1 hB1
  go_upto_region 1 with fail
  go_cut [] from 20 to 29 (fun wy => wy = w1.setCell ⟨X, 2, none⟩ (.bool nb))
  case first =>
    cases ok with
    | false =>
      have : nb = false := by rw [hnb]; rfl
      subst this
      clear hnb
      go_wp2
      go_meet
      rfl
    | true =>
      have : nb = fo := by rw [hnb]; rfl
      subst this
      clear hnb
      go_wp2
      go_meet
      rfl
  case rest =>
  obtain rfl := hcut
  rcases HFu.out with hF0 | hFW
  · subst hF0
    have hrun := run_copy_none (P := Try.prog) (w1.setCell ⟨X, 2, none⟩ (.bool nb)) 24 24 3 5 (some ⟨g, at_, none⟩) ao W (512 - at_) 0 cap Try.underlying24 (by kernel_rfl) (by simp)
    have HEnd : Hid (BlkW (w1.setCell ⟨X, 2, none⟩ (.bool nb)) X g gn nb (splice xs at_ [])) := Lib.hid (by
      have e : splice xs at_ [] = xs := by simp [splice]
      rw [e]; exact HMk.out)
    have hwf : at_ < 512 := by omega
    have hsubn : at_ + W - at_ = W := by omega
    generalize (w1.setCell ⟨X, 2, none⟩ (.bool nb)) = wz at hrun HEnd HKs HMk ⊢
    have c0 : wz.cell? ⟨X, 0, none⟩ = some (.slice (some ⟨g, 0, none⟩) 512 512) := obj_cell HMk.out.st 0
    clear c1 c2 f2 hnb
    go_wp2
    go_end0
    exact ⟨rfl, by have := HEnd.out; rw [HNb.out] at this; exact this, HKs.out⟩
  · have hmn : (F.map (Value.int .u8)).length = Nat.min F.length W := by rw [List.length_map, hFW]; simp
    obtain ⟨b, off, rfl, hlt, hc⟩ := HRd.out.at (by omega)
    have hbX : b ≠ X := by
      intro e
      have h0 := hc 0 (by omega)
      rw [e, obj_cell HB1.out.st, Nat.add_zero] at h0
      match off with
      | 0 => simp at h0
      | 1 => simp at h0
      | 2 => simp at h0
      | k + 3 => simp at h0
    have hB1 := HB1.out
    have hrun := run_copy_row (P := Try.prog) (w1.setCell ⟨X, 2, none⟩ (.bool nb)) 24 24 3 5 g at_ W (512 - at_) ⟨b, off, none⟩ W cap (xs.map (Value.int .u8)).toArray 5 (F.map (Value.int .u8)) Try.underlying24 (by kernel_rfl) ((Below.heap_setCell _ _ _ _ hB1.ne).trans hB1.by_) (by rw [hmn, hFW]) (by
      intro j v hj
      have hjl : j < F.length := by have := (List.getElem?_eq_some_iff.1 hj).1; simpa using this
      rw [addr_add, World.cell?_setCell_far _ ⟨X, 2, none⟩ _ _ (fun e => hbX e.symm), hc j hjl]
      have e : (F.map (Value.int .u8))[j]? = some (Value.int .u8 (F.getD j 0)) := by simp [List.getD, List.getElem?_eq_getElem hjl]
      rw [e] at hj
      exact hj) (by simp [hB1.len]; omega) (news_one _)
    have hlF : (F.map (Value.int .u8)).length = F.length := List.length_map ..
    have HKp : Hid (Kept (TwoB X g) w ((w1.setCell ⟨X, 2, none⟩ (.bool nb)).setRow g ((xs.map (Value.int .u8)).take at_ ++ (F.map (Value.int .u8)) ++ (xs.map (Value.int .u8)).drop (at_ + F.length)).toArray)) := Lib.hid (two_kept_row HKs.out _)
    rw [hlF] at hrun
    have hwf : at_ < 512 := by omega
    have hsubn : at_ + W - at_ = W := by omega
    have HFW := Lib.hid hFW
    obtain ⟨q2, hq2⟩ : ∃ q, q = F.length := ⟨_, rfl⟩
    have hqW : q2 = W := by rw [hq2, hFW]
    rw [← hq2] at hrun hle hc1 ⊢
    clear hmn hlF hB1 hc hFW hq2 hnb c1 hlt
    subst hqW
    go_wp2
    go_end0
    refine ⟨rfl, ?_, ?_⟩
    · have := HHs.out
      rw [List.append_assoc, HNb.out, HFW.out] at this
      rw [HNb.out]
      exact this
    · have := HKp.out
      rw [List.append_assoc, HFW.out] at this
      exact this
end Go.Proofs.Ytnhfbpikfkncpaa
