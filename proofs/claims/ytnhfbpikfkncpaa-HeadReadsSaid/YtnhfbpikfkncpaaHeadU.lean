/-
  An argument that is a block; a tamed block may be; a block with one byte changed.
-/
import Derived.Test.YtnhfbpikfkncpaaHeadT
import Derived.Test.YtnhfbpikfkncpaaHeadQ
import Derived.WideShapes
namespace Go.Proofs.Ytnhfbpikfkncpaa
open Go.RowKit
set_option linter.unusedVariables false
set_option linter.unusedSimpArgs false

theorem Rd.bool {w : World} {t : TypeId} {cs : List Value} (ht : Try.prog.underlying t = some .bool) (h : Rd w t cs) : ∃ b, cs = [.bool b] := by
  obtain ⟨H, enc, base, spare, held, fuel, x, hx⟩ := h
  obtain ⟨b, h1, _⟩ := DataW.trod_bool ht hx
  exact ⟨b, h1⟩
def strL (s : ByteArray) : List Int := s.data.toList.map (fun b => (b.toNat : Int))
theorem strL_str (s : ByteArray) : strOfNums (strL s) = s := by
  unfold strL strOfNums
  rw [List.map_map]
  have e : ((fun n : Int => n.toNat.toUInt8) ∘ fun b : UInt8 => (b.toNat : Int)) = id := by funext b; simp
  first | rw [e, List.map_id] | simp
theorem strL_all (s : ByteArray) : AllB (strL s) := by
  intro x hx
  simp only [strL, List.mem_map] at hx
  obtain ⟨b, _, rfl⟩ := hx
  have := b.toNat_lt
  omega
theorem strL_len (s : ByteArray) : (strL s).length = s.size := by simp [strL]
theorem head_open {w : World} {v : Value} (h : Arg w 23 v) : ∃ h : HdP, v = hdV h ∧ HdOk h ∧ h.nm.length ≤ maxLen ∧ h.lk.length ≤ maxLen ∧ h.px.length ≤ maxLen := by
  obtain ⟨⟨base, hv⟩, hr⟩ := h
  obtain ⟨cs, rfl, hsz⟩ := Go.WideShapes.okWide_struct Try.underlying23 hv
  have hcells : (Value.agg cs).cells.toList = cs.toList := rfl
  rw [hcells] at hr
  obtain ⟨hl, hf⟩ := hr.struct Try.underlying23
  have n12 : Try.prog.cellsOf 23 = 12 := by kernel_rfl
  rw [n12] at hl
  obtain ⟨l, hcl⟩ : ∃ l, l = cs.toList := ⟨_, rfl⟩
  have hcs : cs = l.toArray := by rw [hcl]
  rw [← hcl] at hl hf
  match l, hl with
  | [c0, c1, c2, c3, c4, c5, c6, c7, c8, c9, c10, c11], _ =>
    have i1 : Try.prog.cellsOf 3 = 1 := by kernel_rfl
    have i2 : Try.prog.cellsOf 9 = 1 := by kernel_rfl
    have i3 : Try.prog.cellsOf 5 = 1 := by kernel_rfl
    have i4 : Try.prog.cellsOf 4 = 1 := by kernel_rfl
    have r0 := hf 0 _ rfl
    have r1 := hf 1 _ rfl
    have r2 := hf 2 _ rfl
    have r3 := hf 3 _ rfl
    have r4 := hf 4 _ rfl
    have r5 := hf 5 _ rfl
    have r6 := hf 6 _ rfl
    have r7 := hf 7 _ rfl
    have r8 := hf 8 _ rfl
    have r9 := hf 9 _ rfl
    have r10 := hf 10 _ rfl
    have r11 := hf 11 _ rfl
    simp [i1, i2, i3, i4] at r0 r1 r2 r3 r4 r5 r6 r7 r8 r9 r10 r11
    obtain ⟨s0, e0, z0⟩ := r0.string Try.underlying9
    obtain ⟨s1, e1, z1⟩ := r1.string Try.underlying9
    obtain ⟨s2, e2, z2⟩ := r2.string Try.underlying9
    obtain ⟨n3, e3, w3⟩ := r3.int Try.underlying5
    obtain ⟨b4, e4⟩ := r4.bool Try.underlying4
    obtain ⟨n5, e5, w5⟩ := r5.int Try.underlying3
    obtain ⟨n6, e6, w6⟩ := r6.int Try.underlying3
    obtain ⟨n7, e7, w7⟩ := r7.int Try.underlying3
    obtain ⟨n8, e8, w8⟩ := r8.int Try.underlying3
    obtain ⟨n9, e9, w9⟩ := r9.int Try.underlying3
    obtain ⟨n10, e10, w10⟩ := r10.int Try.underlying3
    obtain ⟨n11, e11, w11⟩ := r11.int Try.underlying3
    simp at e0 e1 e2 e3 e4 e5 e6 e7 e8 e9 e10 e11
    subst e0 e1 e2 e3 e4 e5 e6 e7 e8 e9 e10 e11
    subst hcs
    refine ⟨⟨strL s0, strL s1, strL s2, n3, b4, n5, n6, n7, n8, n9, n10, n11⟩, ?_, ⟨strL_all _, strL_all _, strL_all _, u8_bd w3, i64_bd w5, i64_bd w6, i64_bd w7, i64_bd w8, i64_bd w9, i64_bd w10, i64_bd w11⟩, by rw [strL_len]; exact z0, by rw [strL_len]; exact z1, by rw [strL_len]; exact z2⟩
    unfold hdV
    simp only [strL_str]

theorem cutZ_no (l : List Int) : (cutZ l).contains 0 = false := by
  unfold cutZ
  induction l with
  | nil => rfl
  | cons x r ih =>
    by_cases h : x = 0
    · subst h; rfl
    · rw [List.takeWhile_cons_of_pos (by simp [h])]
      simp only [List.contains_cons, Bool.or_eq_false_iff]
      exact ⟨by simp; omega, ih⟩
theorem txt_no (l : List Int) (n : Nat) : (txt l n).contains 0 = false := by
  have h := cutZ_no l
  cases hc : (txt l n).contains 0 with
  | false => rfl
  | true =>
    exfalso
    have h1 : (0 : Int) ∈ txt l n := by simpa using hc
    have h2 : (0 : Int) ∈ cutZ l := List.mem_of_mem_take h1
    have h3 : (cutZ l).contains 0 = true := by simpa using h2
    rw [h] at h3; cases h3
theorem txt_len (l : List Int) (n : Nat) : (txt l n).length ≤ n := by unfold txt; simp; omega
theorem txt_allB {l : List Int} (h : AllB l) (n : Nat) : AllB (txt l n) := fun x hx => cutZ_all h x (List.mem_of_mem_take hx)
theorem field_oct (n : Int) (wd K P : Nat) (g : Bool) (hK : wd = K + 1) (hP : 8 ^ K = P) (hw : 2 ≤ wd ∧ wd ≤ 12) (h0 : 0 ≤ n) (h1 : n < (P : Int)) : (fieldS n (wd : Int) g).2 = true := by
  have ho : (octS n (wd : Int)).2 = true := by
    obtain ⟨m, rfl⟩ : ∃ m : Nat, n = (m : Int) := ⟨n.toNat, by omega⟩
    have hz := sh_zero m K
    rw [hP] at hz
    have e : ((wd : Int).toNat - 1) = K := by omega
    unfold octS
    rw [e, if_pos ⟨by omega, by omega, h0, hz.2 (by omega)⟩]
  unfold fieldS
  rw [if_pos (.inl ho)]
  exact ho
theorem tame_len (h : HdP) : (tameH h).nm.length ≤ 100 ∧ (tameH h).lk.length ≤ 100 ∧ (tameH h).px.length ≤ 155 := by
  refine ⟨txt_len _ _, txt_len _ _, ?_⟩
  show (if h.gn = true then [] else txt h.px 155).length ≤ 155
  split
  · simp
  · exact txt_len _ _
theorem tame_ok {h : HdP} (k : HdOk h) : HdOk (tameH h) := by
  have m : ∀ n : Int, In64I (n % 2097152) := fun n => by unfold In64I; omega
  have M : ∀ n : Int, In64I (n % 8589934592) := fun n => by unfold In64I; omega
  refine ⟨txt_allB k.nm _, txt_allB k.lk _, ?_, k.ty, m _, m _, m _, M _, M _, m _, m _⟩
  show AllB (if h.gn = true then [] else txt h.px 155)
  split
  · exact fun x hx => by cases hx
  · exact txt_allB k.px _
theorem tame_o (h : HdP) : EncO (tameH h) := by
  have m : ∀ (n : Int) (g : Bool), (fieldS (n % 2097152) 8 g).2 = true := fun n g => field_oct _ 8 7 2097152 g rfl (by decide) (by omega) (by omega) (by omega)
  have M : ∀ (n : Int) (g : Bool), (fieldS (n % 8589934592) 12 g).2 = true := fun n g => field_oct _ 12 11 8589934592 g rfl (by decide) (by omega) (by omega) (by omega)
  refine ⟨?_, ⟨txt_len _ _, txt_no _ _⟩, ⟨txt_len _ _, txt_no _ _⟩, ⟨(tame_len h).2.2, ?_⟩, m _ _, m _ _, m _ _, M _ _, M _ _, m _ _, m _ _⟩
  · intro hg
    have hg : h.gn = true := hg
    show (if h.gn = true then [] else txt h.px 155) = []
    rw [if_pos hg]
  · show (if h.gn = true then [] else txt h.px 155).contains 0 = false
    split
    · rfl
    · exact txt_no _ _
theorem tame_sz (h : HdP) : 0 ≤ (tameH h).sz := by show 0 ≤ h.sz % 8589934592; omega

/-- One byte changed. -/
theorem seg_set (bs : List Int) (k : Nat) (v : Int) (a n : Nat) (h : k < a ∨ a + n ≤ k) : seg (bs.set k v) a n = seg bs a n := by
  unfold seg
  apply List.ext_getElem?
  intro i
  rw [List.getElem?_take, List.getElem?_take]
  split
  · rename_i hi
    rw [List.getElem?_drop, List.getElem?_drop, List.getElem?_set]
    rw [if_neg (by omega)]
  · rfl
theorem sumTo_set (bs : List Int) (k : Nat) (v : Int) (hk : k < bs.length) (hm : k < 148 ∨ 156 ≤ k) : ∀ n, sumTo (bs.set k v) n = sumTo bs n + (if k < n then v - bs.getD k 0 else 0)
  | 0 => by simp [sumTo]
  | n + 1 => by
    rw [sumTo, sumTo, sumTo_set bs k v hk hm n]
    have hw : wgt (bs.set k v) n = wgt bs n + (if k = n then v - bs.getD k 0 else 0) := by
      unfold wgt
      by_cases e : k = n
      · subst e
        rw [if_neg (by omega), if_neg (by omega), if_pos rfl]
        simp [List.getD, hk]
        omega
      · rw [if_neg e]
        split
        · simp
        · simp [List.getD, List.getElem?_set, e]
    rw [hw]
    by_cases e : k = n
    · subst e
      simp
      omega
    · by_cases h1 : k < n
      · rw [if_pos h1, if_neg e, if_pos (by omega)]; omega
      · rw [if_neg h1, if_neg e, if_neg (by omega)]; omega
theorem dec_set {h : HdP} (k : HdOk h) (o : EncO h) (j : Nat) (v : Int) (hj : j < 512) (hm : j < 148 ∨ 156 ≤ j) (hv : v ≠ (encL h).getD j 0) : (decL ((encL h).set j v)).2 = 7 ∨ ((decL ((encL h).set j v)).2 = 6 ∧ 257 ≤ j ∧ j < 265) := by
  obtain ⟨g1, g2, _⟩ := enc_good k o
  have hl := enc_len k o
  have hs : sumOk ((encL h).set j v) = false := by
    unfold sumOk at g2 ⊢
    rw [seg_set _ _ _ 148 8 (by omega)]
    simp only [Bool.and_eq_true, beq_iff_eq] at g2
    rw [g2.1, g2.2]
    unfold sumL
    rw [List.length_set, if_pos hl, if_pos hl, sumTo_set _ _ _ (by omega) hm, if_pos hj]
    simp only [Bool.true_and, beq_eq_false_iff_ne, ne_eq]
    omega
  unfold decL
  rw [List.length_set, if_pos hl]
  by_cases hr : 257 ≤ j ∧ j < 265
  · by_cases hg : magOk ((encL h).set j v) = true
    · rw [if_pos hg, if_neg (by rw [hs]; decide)]
      exact .inl rfl
    · rw [if_neg hg]
      exact .inr ⟨rfl, hr⟩
  · have hmg : magOk ((encL h).set j v) = true := by
      unfold magOk at g1 ⊢
      rw [seg_set _ _ _ 257 8 (by omega)]
      exact g1
    rw [if_pos hmg, if_neg (by rw [hs]; decide)]
    exact .inl rfl
end Go.Proofs.Ytnhfbpikfkncpaa
