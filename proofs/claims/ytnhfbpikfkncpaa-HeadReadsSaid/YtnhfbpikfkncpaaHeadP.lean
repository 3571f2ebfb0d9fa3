/-
  Blocks of entries on paper. No Go in sight.
-/
import Derived.Test.YtnhfbpikfkncpaaOctM
import Derived.Test.YtnhfbpikfkncpaaOctW
import Derived.Laws.CopyOwn
namespace Go.Proofs.Ytnhfbpikfkncpaa
open Go.RowKit
set_option linter.unusedVariables false
set_option linter.unusedSimpArgs false

def okT (s : List Int) (W : Nat) : Bool := decide (s.length ≤ W) && !s.contains 0
def padT (s : List Int) (W : Nat) : List Int := s ++ List.replicate (W - s.length) 0
def magB (g : Bool) : List Int := if g = true then [117, 115, 116, 97, 114, 32, 32, 0] else [117, 115, 116, 97, 114, 0, 48, 48]
theorem magB_len (g : Bool) : (magB g).length = 8 := by cases g <;> rfl
structure HdP where
  nm : List Int
  lk : List Int
  px : List Int
  ty : Int
  gn : Bool
  md : Int
  us : Int
  gr : Int
  sz : Int
  tm : Int
  ma : Int
  mi : Int
def hd0 : HdP := ⟨[], [], [], 0, false, 0, 0, 0, 0, 0, 0, 0⟩
def In64I (n : Int) : Prop := -9223372036854775808 ≤ n ∧ n ≤ 9223372036854775807
/-- Texts are bytes, numbers are ints. -/
structure HdOk (h : HdP) : Prop where
  nm : AllB h.nm
  lk : AllB h.lk
  px : AllB h.px
  ty : 0 ≤ h.ty ∧ h.ty ≤ 255
  md : In64I h.md
  us : In64I h.us
  gr : In64I h.gr
  sz : In64I h.sz
  tm : In64I h.tm
  ma : In64I h.ma
  mi : In64I h.mi
def encOk (h : HdP) : Bool :=
  (!h.gn || h.px.isEmpty) && okT h.nm 100 && (fieldS h.md 8 h.gn).2 && (fieldS h.us 8 h.gn).2 && (fieldS h.gr 8 h.gn).2 && (fieldS h.sz 12 h.gn).2 && (fieldS h.tm 12 h.gn).2 && okT h.lk 100 && (fieldS h.ma 8 h.gn).2 && (fieldS h.mi 8 h.gn).2 && okT h.px 155
def oneL (h : HdP) : List Int := padT h.nm 100 ++ ((fieldS h.md 8 h.gn).1 ++ ((fieldS h.us 8 h.gn).1 ++ ((fieldS h.gr 8 h.gn).1 ++ ((fieldS h.sz 12 h.gn).1 ++ (fieldS h.tm 12 h.gn).1))))
def twoL (h : HdP) : List Int := [h.ty] ++ (padT h.lk 100 ++ (magB h.gn ++ (List.replicate 64 0 ++ ((fieldS h.ma 8 h.gn).1 ++ ((fieldS h.mi 8 h.gn).1 ++ (padT h.px 155 ++ List.replicate 12 0))))))
def wgt (bs : List Int) (i : Nat) : Int := if 148 ≤ i ∧ i < 156 then 32 else bs.getD i 0
def sumTo (bs : List Int) : Nat → Int
  | 0 => 0
  | i + 1 => sumTo bs i + wgt bs i
def sumL (bs : List Int) : Int := if bs.length = 512 then sumTo bs 512 else 0
def preL (h : HdP) : List Int := oneL h ++ (List.replicate 8 0 ++ twoL h)
def sumF (h : HdP) : List Int := (octS (sumTo (preL h) 512) 7).1 ++ [32]
def encL (h : HdP) : List Int := oneL h ++ (sumF h ++ twoL h)

theorem padT_len (s : List Int) (W : Nat) (h : s.length ≤ W) : (padT s W).length = W := by simp [padT]; omega
theorem field_len (n wd : Int) (b : Bool) (h : (fieldS n wd b).2 = true) (hw : 2 ≤ wd ∧ wd ≤ 12) : (fieldS n wd b).1.length = wd.toNat := by
  have ho : (octS n wd).2 = true → (octS n wd).1.length = wd.toNat := fun h => by
    unfold octS at h ⊢
    split at h
    · rename_i h2; rw [if_pos h2]; show (fld _ _ _ _).length = _; rw [fld_len]; omega
    · cases h
  unfold fieldS at h ⊢
  split at h
  · rename_i h2; rw [if_pos h2]; exact ho h
  · rename_i h2; rw [if_neg h2]
    by_cases h3 : 2 ≤ wd ∧ wd ≤ 12 ∧ (if n < 0 then sh 256 n (wd.toNat - 1) = -1 else sh 256 n (wd.toNat - 1) = 0)
    · have e : wideS n wd = ((fld (wc8 n) (wd.toNat - 1) (wd.toNat - 1) false).set 0 (if n < 0 then 255 else 128), true) := if_pos h3
      rw [e]
      show (List.set _ _ _).length = _
      rw [List.length_set, fld_len]; omega
    · have e : wideS n wd = ([], false) := if_neg h3
      rw [e] at h; cases h
theorem field_le (n wd : Int) (b : Bool) (hw : 2 ≤ wd ∧ wd ≤ 12) : (fieldS n wd b).1.length ≤ wd.toNat := by
  by_cases h : (fieldS n wd b).2 = true
  · rw [field_len n wd b h hw]; omega
  · have : (fieldS n wd b).1 = [] := by
      unfold fieldS at h ⊢
      split at h
      · rename_i h2; rw [if_pos h2, octS_no n wd (by simpa using h)]
      · rename_i h2; rw [if_neg h2]
        by_cases h3 : 2 ≤ wd ∧ wd ≤ 12 ∧ (if n < 0 then sh 256 n (wd.toNat - 1) = -1 else sh 256 n (wd.toNat - 1) = 0)
        · have e : wideS n wd = ((fld (wc8 n) (wd.toNat - 1) (wd.toNat - 1) false).set 0 (if n < 0 then 255 else 128), true) := if_pos h3
          rw [e] at h; simp at h
        · have e : wideS n wd = ([], false) := if_neg h3
          rw [e]
    rw [this]; simp
/-- What encOk says. -/
structure EncO (h : HdP) : Prop where
  g : h.gn = true → h.px = []
  nm : h.nm.length ≤ 100 ∧ h.nm.contains 0 = false
  lk : h.lk.length ≤ 100 ∧ h.lk.contains 0 = false
  px : h.px.length ≤ 155 ∧ h.px.contains 0 = false
  md : (fieldS h.md 8 h.gn).2 = true
  us : (fieldS h.us 8 h.gn).2 = true
  gr : (fieldS h.gr 8 h.gn).2 = true
  sz : (fieldS h.sz 12 h.gn).2 = true
  tm : (fieldS h.tm 12 h.gn).2 = true
  ma : (fieldS h.ma 8 h.gn).2 = true
  mi : (fieldS h.mi 8 h.gn).2 = true
theorem okT_iff (s : List Int) (W : Nat) : okT s W = true ↔ s.length ≤ W ∧ s.contains 0 = false := by simp [okT]
theorem enc_o {h : HdP} (he : encOk h = true) : EncO h := by
  simp only [encOk, Bool.and_eq_true] at he
  obtain ⟨⟨⟨⟨⟨⟨⟨⟨⟨⟨a, b⟩, c⟩, d⟩, e⟩, f⟩, g⟩, i⟩, j⟩, k⟩, l⟩ := he
  refine ⟨?_, (okT_iff _ _).1 b, (okT_iff _ _).1 i, (okT_iff _ _).1 l, c, d, e, f, g, j, k⟩
  intro hg
  rw [hg] at a
  simpa using a
theorem o_enc {h : HdP} (o : EncO h) : encOk h = true := by
  simp only [encOk, Bool.and_eq_true]
  refine ⟨⟨⟨⟨⟨⟨⟨⟨⟨⟨?_, (okT_iff _ _).2 o.nm⟩, o.md⟩, o.us⟩, o.gr⟩, o.sz⟩, o.tm⟩, (okT_iff _ _).2 o.lk⟩, o.ma⟩, o.mi⟩, (okT_iff _ _).2 o.px⟩
  cases hg : h.gn with
  | false => rfl
  | true => rw [o.g hg]; rfl
theorem one_len {h : HdP} (o : EncO h) : (oneL h).length = 148 := by
  have h1 := padT_len h.nm 100 o.nm.1
  have h2 := field_len _ _ _ o.md (by decide)
  have h3 := field_len _ _ _ o.us (by decide)
  have h4 := field_len _ _ _ o.gr (by decide)
  have h5 := field_len _ _ _ o.sz (by decide)
  have h6 := field_len _ _ _ o.tm (by decide)
  simp only [oneL, List.length_append]
  rw [h1, h2, h3, h4, h5, h6]; rfl
theorem two_len {h : HdP} (o : EncO h) : (twoL h).length = 356 := by
  have h1 := padT_len h.lk 100 o.lk.1
  have h2 := field_len _ _ _ o.ma (by decide)
  have h3 := field_len _ _ _ o.mi (by decide)
  have h4 := padT_len h.px 155 o.px.1
  have h5 := magB_len h.gn
  simp only [twoL, List.length_append, List.length_replicate, List.length_cons, List.length_nil]
  rw [h1, h2, h3, h4, h5]; rfl
theorem pre_len8 {h : HdP} (o : EncO h) : (preL h).length = 512 := by
  simp only [preL, List.length_append, List.length_replicate]
  rw [one_len o, two_len o]
theorem sumTo_congr {a b : List Int} (n : Nat) (h : ∀ i, i < n → wgt a i = wgt b i) : sumTo a n = sumTo b n := by
  induction n with
  | zero => rfl
  | succ n ih => rw [sumTo, sumTo, ih (fun i hi => h i (by omega)), h n (by omega)]
theorem sumTo_bd {a : List Int} (ha : AllB a) : ∀ n, 0 ≤ sumTo a n ∧ sumTo a n ≤ 255 * n
  | 0 => by simp [sumTo]
  | n + 1 => by
    have := sumTo_bd ha n
    have hg := AllB.getD ha n
    rw [sumTo]
    unfold wgt
    split <;> omega
/-- The sum does not hang on its own field. -/
theorem wgt_mid (A B C D : List Int) (hA : A.length = 148) (hB : B.length = 8) (hC : C.length = 8) (i : Nat) : wgt (A ++ (B ++ D)) i = wgt (A ++ (C ++ D)) i := by
  unfold wgt
  split
  · rfl
  · by_cases h1 : i < 148
    · simp [List.getD, List.getElem?_append_left (show i < A.length by omega)]
    · have h2 : 156 ≤ i := by omega
      simp only [List.getD]
      rw [List.getElem?_append_right (by omega), List.getElem?_append_right (by omega), List.getElem?_append_right (by omega), List.getElem?_append_right (by omega), hA, hB, hC]
theorem put_next (P ys : List Int) (R W : Nat) (h : ys.length ≤ W) (hW : W ≤ R) : splice (P ++ List.replicate R 0) P.length ys = (P ++ padT ys W) ++ List.replicate (R - W) 0 := by
  unfold splice padT
  rw [List.take_left', List.drop_append, List.drop_of_length_le (by omega), show P.length + ys.length - P.length = ys.length by omega, List.drop_replicate]
  · rw [List.nil_append, show R - ys.length = (W - ys.length) + (R - W) by omega, ← List.replicate_append_replicate]
    simp
  · rfl
theorem put_field (P ys : List Int) (R W : Nat) (h : ys.length = W) (hW : W ≤ R) : splice (P ++ List.replicate R 0) P.length ys = (P ++ ys) ++ List.replicate (R - W) 0 := by
  rw [put_next P ys R W (by omega) hW]
  simp [padT, h]
theorem splice_mid (A B C D : List Int) (h : B.length = C.length) : splice (A ++ (B ++ D)) A.length C = A ++ (C ++ D) := by
  unfold splice
  rw [List.take_left', List.drop_append, List.drop_of_length_le (by omega), show A.length + C.length - A.length = B.length by omega, List.drop_left, List.nil_append]
  rfl
def seg (bs : List Int) (a n : Nat) : List Int := (bs.drop a).take n
theorem seg_skip (A R : List Int) (a n l : Nat) (h : A.length = l) (hl : l ≤ a) : seg (A ++ R) a n = seg R (a - l) n := by
  unfold seg
  rw [List.drop_append, List.drop_of_length_le (by omega), List.nil_append, h]
theorem seg_here (B R : List Int) (n : Nat) (h : B.length = n) : seg (B ++ R) 0 n = B := by
  unfold seg
  rw [List.drop_zero, ← h, List.take_left]
theorem seg_len (bs : List Int) (a n : Nat) (h : a + n ≤ bs.length) : (seg bs a n).length = n := by simp [seg]; omega
theorem seg_all {bs : List Int} (h : AllB bs) (a n : Nat) : AllB (seg bs a n) := fun x hx => h x (List.mem_of_mem_drop (List.mem_of_mem_take hx))
theorem getD_skip (A R : List Int) (a l : Nat) (h : A.length = l) (hl : l ≤ a) : (A ++ R).getD a 0 = R.getD (a - l) 0 := by
  simp only [List.getD]
  rw [List.getElem?_append_right (by omega), h]
/-- A field's text: up to its first nought. -/
def cutZ (l : List Int) : List Int := l.takeWhile (fun x => x != 0)
theorem cutZ_pad (s : List Int) (W : Nat) (h : s.contains 0 = false) : cutZ (padT s W) = s := by
  have h2 : ∀ x ∈ s, (x != 0) = true := by
    intro x hx
    simp only [bne_iff_ne, ne_eq]
    intro e
    subst e
    have : s.contains 0 = true := by simpa using hx
    rw [h] at this; cases this
  unfold cutZ padT
  rw [List.takeWhile_append_of_pos h2]
  cases hk : W - s.length with
  | zero => simp
  | succ k => simp [List.replicate_succ]
theorem cutZ_all {l : List Int} (h : AllB l) : AllB (cutZ l) := fun x hx => h x ((List.takeWhile_prefix _).subset hx)
def numsOk (bs : List Int) : Bool := (readS (seg bs 100 8)).2 && (readS (seg bs 108 8)).2 && (readS (seg bs 116 8)).2 && (readS (seg bs 124 12)).2 && (readS (seg bs 136 12)).2 && (readS (seg bs 329 8)).2 && (readS (seg bs 337 8)).2
def gnuOf (bs : List Int) : Bool := seg bs 257 8 == magB true
def decH (bs : List Int) : HdP :=
  ⟨cutZ (seg bs 0 100), cutZ (seg bs 157 100), if gnuOf bs = true then [] else cutZ (seg bs 345 155), bs.getD 156 0, gnuOf bs, (readS (seg bs 100 8)).1, (readS (seg bs 108 8)).1, (readS (seg bs 116 8)).1, (readS (seg bs 124 12)).1, (readS (seg bs 136 12)).1, (readS (seg bs 329 8)).1, (readS (seg bs 337 8)).1⟩
def magOk (bs : List Int) : Bool := seg bs 257 8 == magB false || seg bs 257 8 == magB true
def sumOk (bs : List Int) : Bool := (readS (seg bs 148 8)).2 && (readS (seg bs 148 8)).1 == sumL bs
def decL (bs : List Int) : HdP × Int :=
  if bs.length = 512 then
    if magOk bs = true then
      if sumOk bs = true then
        if numsOk bs = true ∧ 0 ≤ (readS (seg bs 124 12)).1 then (decH bs, 0) else (hd0, 6)
      else (hd0, 7)
    else (hd0, 6)
  else (hd0, 6)

/-- A blank behind an octal field is passed over. -/
theorem rdD_app : ∀ (l : List Int) (n : Nat), rdD (l ++ [32]) n = ((rdD l n).1, (rdD l n).2 ++ [32])
  | [], n => by rw [List.nil_append, rdD_no (by omega)]; rfl
  | b :: r, n => by
    by_cases hb : 48 ≤ b ∧ b ≤ 55
    · rw [List.cons_append, rdD_yes hb, rdD_yes hb, rdD_app r]
    · rw [List.cons_append, rdD_no hb, rdD_no hb]; rfl
theorem tail_app : ∀ l : List Int, tailOk (l ++ [32]) = tailOk l
  | [] => rfl
  | b :: r => by rw [List.cons_append, tailOk, tailOk, tail_app r]
theorem readS_sum (m : Int) (hm : 0 ≤ m) (h : sh 8 m 6 = 0) : readS ((octS m 7).1 ++ [32]) = (m, true) := by
  have e : (octS m 7).1 = fld (oc m) 6 6 true := by
    have : octS m 7 = (fld (oc m) 6 6 true, true) := if_pos ⟨by omega, by omega, hm, h⟩
    rw [this]
  rw [e]
  have hd0 := fld_drop m 6 0 (by omega)
  rw [List.drop_zero] at hd0
  have hoc : 48 ≤ oc m (6 - 1 - 0) ∧ oc m (6 - 1 - 0) ≤ 55 := by unfold oc; omega
  have hg : (fld (oc m) 6 6 true ++ [32]).getD 0 0 = oc m (6 - 1 - 0) := by rw [hd0]; rfl
  rw [readS_in (by rw [List.length_append, fld_len]; simp), hg, if_neg (by omega), if_neg (by omega)]
  have hr := rdD_oct m hm 6 6 (Nat.le_refl _)
  rw [Nat.sub_self, List.drop_zero, h] at hr
  have hsp : spOff (fld (oc m) 6 6 true ++ [32]) = fld (oc m) 6 6 true ++ [32] := by rw [hd0, List.cons_append]; exact spOff_no (by omega)
  unfold rdO
  rw [hsp, rdD_app]
  rw [show (0 : Int).toNat = 0 from rfl] at hr
  rw [hr]
  simp [tailOk]
  omega
theorem sum_small {a : List Int} (ha : AllB a) : 0 ≤ sumTo a 512 ∧ sh 8 (sumTo a 512) 6 = 0 := by
  have := sumTo_bd ha 512
  obtain ⟨m, hm⟩ : ∃ m : Nat, sumTo a 512 = (m : Int) := ⟨(sumTo a 512).toNat, by omega⟩
  refine ⟨this.1, ?_⟩
  rw [hm]
  exact (sh_zero m 6).2 (by
    have : m ≤ 255 * 512 := by omega
    have : (8 : Nat) ^ 6 = 262144 := by decide
    omega)
theorem allB_app {a b : List Int} (ha : AllB a) (hb : AllB b) : AllB (a ++ b) := fun x hx => by
  rcases List.mem_append.1 hx with h | h
  · exact ha x h
  · exact hb x h
theorem allB_rep (n : Nat) : AllB (List.replicate n 0) := fun x hx => by have := List.eq_of_mem_replicate hx; omega
theorem allB_pad {s : List Int} (h : AllB s) (W : Nat) : AllB (padT s W) := allB_app h (allB_rep _)
theorem allB_mag (g : Bool) : AllB (magB g) := by
  intro x hx
  cases g <;> simp [magB] at hx <;> omega
theorem octS_all (n wd : Int) : AllB (octS n wd).1 := by
  unfold octS
  split
  · exact fld_all _ (oc_lt n) _ _ _
  · exact fun x hx => by cases hx
theorem wideS_all (n wd : Int) : AllB (wideS n wd).1 := by
  by_cases h3 : 2 ≤ wd ∧ wd ≤ 12 ∧ (if n < 0 then sh 256 n (wd.toNat - 1) = -1 else sh 256 n (wd.toNat - 1) = 0)
  · have e : wideS n wd = ((fld (wc8 n) (wd.toNat - 1) (wd.toNat - 1) false).set 0 (if n < 0 then 255 else 128), true) := if_pos h3
    rw [e]
    intro x hx
    rcases List.mem_or_eq_of_mem_set hx with h | h
    · exact fld_all _ (wc8_lt n) _ _ _ x h
    · rw [h]; split <;> omega
  · have e : wideS n wd = ([], false) := if_neg h3
    rw [e]
    exact fun x hx => by cases hx
theorem fieldS_all (n wd : Int) (b : Bool) : AllB (fieldS n wd b).1 := by
  unfold fieldS
  split
  · exact octS_all n wd
  · exact wideS_all n wd
theorem one_all {h : HdP} (k : HdOk h) : AllB (oneL h) := allB_app (allB_pad k.nm _) (allB_app (fieldS_all _ _ _) (allB_app (fieldS_all _ _ _) (allB_app (fieldS_all _ _ _) (allB_app (fieldS_all _ _ _) (fieldS_all _ _ _)))))
theorem two_all {h : HdP} (k : HdOk h) : AllB (twoL h) := by
  refine allB_app ?_ (allB_app (allB_pad k.lk _) (allB_app (allB_mag _) (allB_app (allB_rep _) (allB_app (fieldS_all _ _ _) (allB_app (fieldS_all _ _ _) (allB_app (allB_pad k.px _) (allB_rep _)))))))
  intro x hx
  simp at hx; subst hx
  have := k.ty; omega
theorem pre_all {h : HdP} (k : HdOk h) : AllB (preL h) := allB_app (one_all k) (allB_app (allB_rep _) (two_all k))
theorem sumF_all (h : HdP) : AllB (sumF h) := allB_app (octS_all _ _) (fun x hx => by simp at hx; omega)
theorem enc_all {h : HdP} (k : HdOk h) : AllB (encL h) := allB_app (one_all k) (allB_app (sumF_all h) (two_all k))
theorem sumF_len {h : HdP} (k : HdOk h) : (sumF h).length = 8 := by
  obtain ⟨h1, h2⟩ := sum_small (pre_all k)
  have e : octS (sumTo (preL h) 512) 7 = (fld (oc (sumTo (preL h) 512)) 6 6 true, true) := if_pos ⟨by omega, by omega, h1, h2⟩
  rw [sumF, e, List.length_append]
  show (fld _ _ _ _).length + 1 = 8
  rw [fld_len]
theorem enc_len {h : HdP} (k : HdOk h) (o : EncO h) : (encL h).length = 512 := by
  simp only [encL, List.length_append]
  rw [one_len o, two_len o, sumF_len k]
theorem enc_sum {h : HdP} (k : HdOk h) (o : EncO h) : sumL (encL h) = sumTo (preL h) 512 := by
  rw [sumL, if_pos (enc_len k o)]
  exact sumTo_congr 512 (fun i _ => wgt_mid _ _ _ _ (one_len o) (sumF_len k) (by simp) i)
/-- What was put into a block lies where it should. -/
theorem enc_segs {h : HdP} (k : HdOk h) (o : EncO h) :
    seg (encL h) 0 100 = padT h.nm 100 ∧ seg (encL h) 100 8 = (fieldS h.md 8 h.gn).1 ∧ seg (encL h) 108 8 = (fieldS h.us 8 h.gn).1 ∧ seg (encL h) 116 8 = (fieldS h.gr 8 h.gn).1 ∧ seg (encL h) 124 12 = (fieldS h.sz 12 h.gn).1 ∧ seg (encL h) 136 12 = (fieldS h.tm 12 h.gn).1 ∧
      seg (encL h) 148 8 = sumF h ∧ (encL h).getD 156 0 = h.ty ∧ seg (encL h) 157 100 = padT h.lk 100 ∧ seg (encL h) 257 8 = magB h.gn ∧ seg (encL h) 329 8 = (fieldS h.ma 8 h.gn).1 ∧ seg (encL h) 337 8 = (fieldS h.mi 8 h.gn).1 ∧ seg (encL h) 345 155 = padT h.px 155 := by
  have h1 := padT_len h.nm 100 o.nm.1
  have h2 : (fieldS h.md 8 h.gn).1.length = 8 := field_len _ _ _ o.md (by decide)
  have h3 : (fieldS h.us 8 h.gn).1.length = 8 := field_len _ _ _ o.us (by decide)
  have h4 : (fieldS h.gr 8 h.gn).1.length = 8 := field_len _ _ _ o.gr (by decide)
  have h5 : (fieldS h.sz 12 h.gn).1.length = 12 := field_len _ _ _ o.sz (by decide)
  have h6 : (fieldS h.tm 12 h.gn).1.length = 12 := field_len _ _ _ o.tm (by decide)
  have hs := sumF_len k
  have g1 := padT_len h.lk 100 o.lk.1
  have g2 : (fieldS h.ma 8 h.gn).1.length = 8 := field_len _ _ _ o.ma (by decide)
  have g3 : (fieldS h.mi 8 h.gn).1.length = 8 := field_len _ _ _ o.mi (by decide)
  have g4 := padT_len h.px 155 o.px.1
  have g5 := magB_len h.gn
  have ho := one_len o
  have e : encL h = padT h.nm 100 ++ ((fieldS h.md 8 h.gn).1 ++ ((fieldS h.us 8 h.gn).1 ++ ((fieldS h.gr 8 h.gn).1 ++ ((fieldS h.sz 12 h.gn).1 ++ ((fieldS h.tm 12 h.gn).1 ++ (sumF h ++ twoL h)))))) := by simp [encL, oneL]
  have t : ([h.ty] : List Int).length = 1 := rfl
  have z : (List.replicate 64 (0 : Int)).length = 64 := by simp
  refine ⟨?_, ?_, ?_, ?_, ?_, ?_, ?_, ?_, ?_, ?_, ?_, ?_, ?_⟩
  · rw [e, seg_here _ _ _ h1]
  · rw [e, seg_skip _ _ _ _ 100 h1 (by omega), seg_here _ _ _ h2]
  · rw [e, seg_skip _ _ _ _ 100 h1 (by omega), seg_skip _ _ _ _ 8 h2 (by omega), seg_here _ _ _ h3]
  · rw [e, seg_skip _ _ _ _ 100 h1 (by omega), seg_skip _ _ _ _ 8 h2 (by omega), seg_skip _ _ _ _ 8 h3 (by omega), seg_here _ _ _ h4]
  · rw [e, seg_skip _ _ _ _ 100 h1 (by omega), seg_skip _ _ _ _ 8 h2 (by omega), seg_skip _ _ _ _ 8 h3 (by omega), seg_skip _ _ _ _ 8 h4 (by omega), seg_here _ _ _ h5]
  · rw [e, seg_skip _ _ _ _ 100 h1 (by omega), seg_skip _ _ _ _ 8 h2 (by omega), seg_skip _ _ _ _ 8 h3 (by omega), seg_skip _ _ _ _ 8 h4 (by omega), seg_skip _ _ _ _ 12 h5 (by omega), seg_here _ _ _ h6]
  · rw [encL, seg_skip _ _ _ _ 148 ho (by omega), seg_here _ _ _ hs]
  · rw [encL, getD_skip _ _ _ 148 ho (by omega), getD_skip _ _ _ 8 hs (by omega)]; rfl
  · rw [encL, seg_skip _ _ _ _ 148 ho (by omega), seg_skip _ _ _ _ 8 hs (by omega), twoL, seg_skip _ _ _ _ 1 t (by omega), seg_here _ _ _ g1]
  · rw [encL, seg_skip _ _ _ _ 148 ho (by omega), seg_skip _ _ _ _ 8 hs (by omega), twoL, seg_skip _ _ _ _ 1 t (by omega), seg_skip _ _ _ _ 100 g1 (by omega), seg_here _ _ _ g5]
  · rw [encL, seg_skip _ _ _ _ 148 ho (by omega), seg_skip _ _ _ _ 8 hs (by omega), twoL, seg_skip _ _ _ _ 1 t (by omega), seg_skip _ _ _ _ 100 g1 (by omega), seg_skip _ _ _ _ 8 g5 (by omega), seg_skip _ _ _ _ 64 z (by omega), seg_here _ _ _ g2]
  · rw [encL, seg_skip _ _ _ _ 148 ho (by omega), seg_skip _ _ _ _ 8 hs (by omega), twoL, seg_skip _ _ _ _ 1 t (by omega), seg_skip _ _ _ _ 100 g1 (by omega), seg_skip _ _ _ _ 8 g5 (by omega), seg_skip _ _ _ _ 64 z (by omega), seg_skip _ _ _ _ 8 g2 (by omega), seg_here _ _ _ g3]
  · rw [encL, seg_skip _ _ _ _ 148 ho (by omega), seg_skip _ _ _ _ 8 hs (by omega), twoL, seg_skip _ _ _ _ 1 t (by omega), seg_skip _ _ _ _ 100 g1 (by omega), seg_skip _ _ _ _ 8 g5 (by omega), seg_skip _ _ _ _ 64 z (by omega), seg_skip _ _ _ _ 8 g2 (by omega), seg_skip _ _ _ _ 8 g3 (by omega), seg_here _ _ _ g4]
theorem enc_good {h : HdP} (k : HdOk h) (o : EncO h) : magOk (encL h) = true ∧ sumOk (encL h) = true ∧ numsOk (encL h) = true ∧ (readS (seg (encL h) 124 12)).1 = h.sz ∧ decH (encL h) = h := by
  obtain ⟨s1, s2, s3, s4, s5, s6, s7, s8, s9, s10, s11, s12, s13⟩ := enc_segs k o
  have r1 := readS_field h.md k.md 8 h.gn o.md
  have r2 := readS_field h.us k.us 8 h.gn o.us
  have r3 := readS_field h.gr k.gr 8 h.gn o.gr
  have r4 := readS_field h.sz k.sz 12 h.gn o.sz
  have r5 := readS_field h.tm k.tm 12 h.gn o.tm
  have r6 := readS_field h.ma k.ma 8 h.gn o.ma
  have r7 := readS_field h.mi k.mi 8 h.gn o.mi
  obtain ⟨m1, m2⟩ := sum_small (pre_all k)
  have r8 : readS (sumF h) = (sumTo (preL h) 512, true) := readS_sum _ m1 m2
  have hg : gnuOf (encL h) = h.gn := by
    unfold gnuOf
    rw [s10]
    cases h.gn <;> rfl
  refine ⟨?_, ?_, ?_, by rw [s5, r4], ?_⟩
  · unfold magOk
    rw [s10]
    cases h.gn <;> rfl
  · unfold sumOk
    rw [s7, r8, enc_sum k o]
    simp
  · unfold numsOk
    rw [s2, s3, s4, s5, s6, s11, s12, r1, r2, r3, r4, r5, r6, r7]
    rfl
  · unfold decH
    rw [hg, s1, s2, s3, s4, s5, s6, s8, s9, s11, s12, s13, r1, r2, r3, r4, r5, r6, r7, cutZ_pad _ _ o.nm.2, cutZ_pad _ _ o.lk.2, cutZ_pad _ _ o.px.2]
    have hp : (if h.gn = true then [] else h.px) = h.px := by
      split
      · rename_i hgn; rw [o.g hgn]
      · rfl
    rw [hp]
theorem dec_enc {h : HdP} (k : HdOk h) (o : EncO h) (hs : 0 ≤ h.sz) : decL (encL h) = (h, 0) := by
  obtain ⟨g1, g2, g3, g4, g5⟩ := enc_good k o
  unfold decL
  rw [if_pos (enc_len k o), if_pos g1, if_pos g2, if_pos ⟨g3, by rw [g4]; exact hs⟩, g5]
theorem dec_enc_neg {h : HdP} (k : HdOk h) (o : EncO h) (hs : h.sz < 0) : decL (encL h) = (hd0, 6) := by
  obtain ⟨g1, g2, g3, g4, g5⟩ := enc_good k o
  unfold decL
  rw [if_pos (enc_len k o), if_pos g1, if_pos g2, if_neg (fun hh => by have := hh.2; rw [g4] at this; omega)]
end Go.Proofs.Ytnhfbpikfkncpaa
