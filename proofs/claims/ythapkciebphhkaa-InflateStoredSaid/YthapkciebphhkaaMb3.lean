/-
  Package-merge on paper: the rows, what is chosen of them, and that nothing costs less.
  huff.addLengths: the rows.
  huff.leavesOf: a row of leaves that is sorted already stays as it is.
  huff.leavesOf where the weights do not fall.
  The library's stable sort at leaves: a row of leaves of the call's own, two of them put one in the other's place, ranges of them.
  The library's stable sort at leaves: a range put behind the next one.
  Leaves in order, on paper: the lighter ahead, of two alike the one whose place is ahead.
  The library's stable sort at leaves: two rows in order made one, where one of them is a leaf alone.
  The library's stable sort at leaves: two rows in order made one, where the hinder one is a leaf alone.
  The library's stable sort at leaves: two rows in order made one.
  The library's stable sort at leaves: a short range put in order, a leaf after the other.
  The library's stable sort at leaves: a whole row.
  huff.Lengths where the weights do not fall.
  huff.leavesOf and huff.Lengths at any weights.
-/
import Derived.Test.YthapkciebphhkaaMb2
import Derived.BigRegion
import Derived.Deep.DeepCutAuto
import Derived.Deep.CutBlock
namespace Go.Proofs.Ythapkciebphhkaa
open Go.RowKit
set_option linter.unusedVariables false
set_option linter.unusedSimpArgs false

abbrev It := Int × Bool
def pairsL : List It → List Int
  | a :: b :: r => (a.1 + b.1) :: pairsL r
  | _ => []
def mrg : List Int → List Int → List It
  | [], ls => ls.map fun z => (z, false)
  | w :: P, ls => mergeW w (mrg P) ls
theorem mergeS_mrg : ∀ (ah : List It) (ls : List Int), mergeS ah ls = mrg (pairsL ah) ls
  | [], ls => rfl
  | [a], ls => rfl
  | a :: b :: r, ls => by
    have e : mergeS r = mrg (pairsL r) := funext (mergeS_mrg r)
    show mergeW (a.1 + b.1) (mergeS r) ls = mergeW (a.1 + b.1) (mrg (pairsL r)) ls
    rw [e]
theorem mrg_nil_cons (z : Int) (r : List Int) : mrg [] (z :: r) = (z, false) :: mrg [] r := rfl
theorem mrg_cons_nil (w : Int) (P : List Int) : mrg (w :: P) [] = (w, true) :: mrg P [] := rfl
theorem mrg_le (w z : Int) (P r : List Int) (h : z ≤ w) : mrg (w :: P) (z :: r) = (z, false) :: mrg (w :: P) r := by
  show mergeW w (mrg P) (z :: r) = (z, false) :: mergeW w (mrg P) r
  simp [mergeW, h]
theorem mrg_gt (w z : Int) (P r : List Int) (h : ¬ z ≤ w) : mrg (w :: P) (z :: r) = (w, true) :: mrg P (z :: r) := by
  show mergeW w (mrg P) (z :: r) = (w, true) :: mrg P (z :: r)
  simp [mergeW, h]
def sumW (T : List It) : Int := (T.map (·.1)).sum
def tk (l : List Int) (k : Nat) : Int := (l.take k).sum
theorem sumW_cons (a : It) (T : List It) : sumW (a :: T) = a.1 + sumW T := by simp [sumW]
theorem tk_zero (l : List Int) : tk l 0 = 0 := by simp [tk]
theorem tk_nil (k : Nat) : tk [] k = 0 := by simp [tk]
theorem tk_cons (a : Int) (l : List Int) (k : Nat) : tk (a :: l) (k + 1) = a + tk l k := by simp [tk]
theorem leafN_cons (a : It) (T : List It) : leafN (a :: T) = leafN T + (if a.2 then 0 else 1) := by
  unfold leafN; rw [List.countP_cons]; cases a.2 <;> simp
theorem packedN_cons (a : It) (T : List It) : packedN (a :: T) = packedN T + (if a.2 then 1 else 0) := by
  unfold packedN; rw [List.countP_cons]
def Srd (l : List Int) : Prop := l.Pairwise (· ≤ ·)

/-- What is taken of a merged row is the beginning of both. -/
theorem mrg_sum : ∀ (P ls : List Int) (k : Nat), sumW ((mrg P ls).take k) = tk ls (leafN ((mrg P ls).take k)) + tk P (packedN ((mrg P ls).take k)) := by
  intro P
  induction P with
  | nil =>
    intro ls
    induction ls with
    | nil => intro k; simp [mrg, sumW, tk_nil]
    | cons z r ih =>
      intro k
      cases k with
      | zero => simp [sumW, leafN, packedN, tk_zero]
      | succ k =>
        rw [mrg_nil_cons, List.take_succ_cons, sumW_cons, leafN_cons, packedN_cons, ih k]
        simp [tk_cons, tk_nil]
  | cons w P ihP =>
    intro ls
    induction ls with
    | nil =>
      intro k
      cases k with
      | zero => simp [sumW, leafN, packedN, tk_zero]
      | succ k =>
        rw [mrg_cons_nil, List.take_succ_cons, sumW_cons, leafN_cons, packedN_cons, ihP [] k]
        simp [tk_cons, tk_nil]
    | cons z r ih =>
      intro k
      cases k with
      | zero => simp [sumW, leafN, packedN, tk_zero]
      | succ k =>
        by_cases h : z ≤ w
        · rw [mrg_le _ _ _ _ h, List.take_succ_cons, sumW_cons, leafN_cons, packedN_cons, ih k]
          simp [tk_cons]; omega
        · rw [mrg_gt _ _ _ _ h, List.take_succ_cons, sumW_cons, leafN_cons, packedN_cons, ihP (z :: r) k]
          simp [tk_cons]; omega
theorem tk_more (z : Int) : ∀ (l : List Int) (k : Nat), (∀ u ∈ l, z ≤ u) → k < l.length → z + tk l k ≤ tk l (k + 1)
  | [], k, _, h => by simp at h
  | a :: l, 0, hz, _ => by rw [tk_cons, tk_zero, tk_zero]; have := hz a List.mem_cons_self; omega
  | a :: l, k + 1, hz, h => by
    rw [tk_cons, tk_cons]
    have := tk_more z l k (fun u hu => hz u (List.mem_cons_of_mem _ hu)) (by simpa using h)
    omega
/-- No other beginnings of both sum up to less. -/
theorem mrg_least : ∀ (P ls : List Int), Srd P → Srd ls → ∀ c p, c ≤ ls.length → p ≤ P.length → sumW ((mrg P ls).take (c + p)) ≤ tk ls c + tk P p := by
  intro P
  induction P with
  | nil =>
    intro ls _ hs c p hc hp
    have hp0 : p = 0 := by simpa using hp
    subst hp0
    have h := mrg_sum [] ls (c + 0)
    rw [h, tk_nil, tk_nil, Nat.add_zero]
    have e : leafN ((mrg [] ls).take c) = c := by
      show leafN ((ls.map fun z => (z, false)).take c) = c
      rw [← List.map_take, leaf_map, List.length_take]; omega
    rw [e]; omega
  | cons w P ihP =>
    intro ls
    induction ls with
    | nil =>
      intro hP hs c p hc hp
      have hc0 : c = 0 := by simpa using hc
      subst hc0
      cases p with
      | zero => simp [sumW, tk_zero]
      | succ p =>
        have := ihP [] (List.pairwise_cons.1 hP).2 hs 0 p (by simp) (by simpa using hp)
        rw [show 0 + (p + 1) = (0 + p) + 1 by omega, mrg_cons_nil, List.take_succ_cons, sumW_cons, tk_cons]
        rw [tk_nil] at this ⊢
        simp only; omega
    | cons z r ih =>
      intro hP hs c p hc hp
      have hP2 := (List.pairwise_cons.1 hP)
      have hs2 := (List.pairwise_cons.1 hs)
      by_cases h : z ≤ w
      · cases c with
        | succ c =>
          have := ih hP hs2.2 c p (by simpa using hc) hp
          rw [show c + 1 + p = (c + p) + 1 by omega, mrg_le _ _ _ _ h, List.take_succ_cons, sumW_cons, tk_cons]
          simp only; omega
        | zero =>
          cases p with
          | zero => simp [sumW, tk_zero]
          | succ p =>
            have h1 := ih hP hs2.2 0 p (by simp) (by omega)
            have h2 := tk_more z (w :: P) p (fun u hu => by
              rcases List.mem_cons.1 hu with rfl | hu
              · exact h
              · have := hP2.1 u hu; omega) (by omega)
            rw [show 0 + (p + 1) = (0 + p) + 1 by omega, mrg_le _ _ _ _ h, List.take_succ_cons, sumW_cons]
            rw [tk_zero] at h1 ⊢
            simp only; omega
      · cases p with
        | succ p =>
          have := ihP (z :: r) hP2.2 hs c p hc (by simpa using hp)
          rw [show c + (p + 1) = (c + p) + 1 by omega, mrg_gt _ _ _ _ h, List.take_succ_cons, sumW_cons, tk_cons]
          simp only; omega
        | zero =>
          cases c with
          | zero => simp [sumW, tk_zero]
          | succ c =>
            have h1 := ihP (z :: r) hP2.2 hs c 0 (by omega) (by simp)
            have h2 := tk_more w (z :: r) c (fun u hu => by
              rcases List.mem_cons.1 hu with rfl | hu
              · omega
              · have := hs2.1 u hu; omega) (by omega)
            rw [show c + 1 + 0 = (c + 0) + 1 by omega, mrg_gt _ _ _ _ h, List.take_succ_cons, sumW_cons]
            rw [tk_zero] at h1 ⊢
            simp only [Nat.add_zero] at h1 ⊢; omega
theorem mrg_mem : ∀ (P ls : List Int) (x : It), x ∈ mrg P ls → x.1 ∈ P ∨ x.1 ∈ ls := by
  intro P
  induction P with
  | nil =>
    intro ls x hx
    obtain ⟨z, hz, rfl⟩ := List.mem_map.1 (show x ∈ ls.map fun z => (z, false) from hx)
    exact .inr hz
  | cons w P ihP =>
    intro ls
    induction ls with
    | nil =>
      intro x hx
      rw [mrg_cons_nil] at hx
      rcases List.mem_cons.1 hx with rfl | hx
      · exact .inl List.mem_cons_self
      · rcases ihP [] x hx with h | h
        · exact .inl (List.mem_cons_of_mem _ h)
        · exact .inr h
    | cons z r ih =>
      intro x hx
      by_cases h : z ≤ w
      · rw [mrg_le _ _ _ _ h] at hx
        rcases List.mem_cons.1 hx with rfl | hx
        · exact .inr List.mem_cons_self
        · rcases ih x hx with h | h
          · exact .inl h
          · exact .inr (List.mem_cons_of_mem _ h)
      · rw [mrg_gt _ _ _ _ h] at hx
        rcases List.mem_cons.1 hx with rfl | hx
        · exact .inl List.mem_cons_self
        · rcases ihP (z :: r) x hx with h | h
          · exact .inl (List.mem_cons_of_mem _ h)
          · exact .inr h
def SrdI (T : List It) : Prop := T.Pairwise (fun a b => a.1 ≤ b.1)
theorem mrg_srt : ∀ (P ls : List Int), Srd P → Srd ls → SrdI (mrg P ls) := by
  intro P
  induction P with
  | nil =>
    intro ls _ hs
    show List.Pairwise _ (ls.map fun z => (z, false))
    rw [List.pairwise_map]
    exact hs
  | cons w P ihP =>
    intro ls
    induction ls with
    | nil =>
      intro hP hs
      rw [mrg_cons_nil]
      refine List.pairwise_cons.2 ⟨fun x hx => ?_, ihP [] (List.pairwise_cons.1 hP).2 hs⟩
      rcases mrg_mem P [] x hx with h | h
      · exact (List.pairwise_cons.1 hP).1 _ h
      · cases h
    | cons z r ih =>
      intro hP hs
      by_cases h : z ≤ w
      · rw [mrg_le _ _ _ _ h]
        refine List.pairwise_cons.2 ⟨fun x hx => ?_, ih hP (List.pairwise_cons.1 hs).2⟩
        rcases mrg_mem (w :: P) r x hx with h2 | h2
        · rcases List.mem_cons.1 h2 with h3 | h3
          · simp only; omega
          · have := (List.pairwise_cons.1 hP).1 _ h3; simp only; omega
        · exact (List.pairwise_cons.1 hs).1 _ h2
      · rw [mrg_gt _ _ _ _ h]
        refine List.pairwise_cons.2 ⟨fun x hx => ?_, ihP (z :: r) (List.pairwise_cons.1 hP).2 hs⟩
        rcases mrg_mem P (z :: r) x hx with h2 | h2
        · exact (List.pairwise_cons.1 hP).1 _ h2
        · rcases List.mem_cons.1 h2 with h3 | h3
          · simp only; omega
          · have := (List.pairwise_cons.1 hs).1 _ h3; simp only; omega
theorem pairs_ge (m : Int) : ∀ (r : List It), (∀ u ∈ r, m ≤ u.1) → ∀ y ∈ pairsL r, m + m ≤ y
  | [], _, y, hy => by cases hy
  | [a], _, y, hy => by cases hy
  | a :: b :: r, h, y, hy => by
    rcases List.mem_cons.1 (show y ∈ (a.1 + b.1) :: pairsL r from hy) with rfl | hy
    · have := h a List.mem_cons_self; have := h b (List.mem_cons_of_mem _ List.mem_cons_self); omega
    · exact pairs_ge m r (fun u hu => h u (List.mem_cons_of_mem _ (List.mem_cons_of_mem _ hu))) y hy
theorem pairs_srt : ∀ (r : List It), SrdI r → Srd (pairsL r)
  | [], _ => List.Pairwise.nil
  | [a], _ => List.Pairwise.nil
  | a :: b :: r, h => by
    have h1 := List.pairwise_cons.1 h
    have h2 := List.pairwise_cons.1 h1.2
    refine List.pairwise_cons.2 ⟨fun y hy => ?_, pairs_srt r h2.2⟩
    have := pairs_ge b.1 r h2.1 y hy
    have := h1.1 b List.mem_cons_self
    omega
theorem pairs_len : ∀ (r : List It), (pairsL r).length = r.length / 2
  | [] => rfl
  | [a] => by simp [pairsL]
  | a :: b :: r => by simp only [pairsL, List.length_cons, pairs_len r]; omega
theorem pairs_sum : ∀ (r : List It) (q : Nat), 2 * q ≤ r.length → sumW (r.take (2 * q)) = tk (pairsL r) q
  | r, 0, _ => by simp [sumW, tk]
  | [], q + 1, h => by simp at h; 
  | [a], q + 1, h => by simp at h; omega
  | a :: b :: r, q + 1, h => by
    have := pairs_sum r q (by simp only [List.length_cons] at h; omega)
    rw [show 2 * (q + 1) = 2 * q + 1 + 1 by omega, List.take_succ_cons, List.take_succ_cons, sumW_cons, sumW_cons, this]
    simp only [pairsL, tk_cons]; omega
theorem row_zero (ls : List Int) : rowS ls 0 = mrg [] ls := rfl
theorem row_succ (ls : List Int) (i : Nat) : rowS ls (i + 1) = mrg (pairsL (rowS ls i)) ls := mergeS_mrg _ _
theorem row_srt (ls : List Int) (h : Srd ls) : ∀ i, SrdI (rowS ls i)
  | 0 => mrg_srt [] ls List.Pairwise.nil h
  | i + 1 => by rw [row_succ]; exact mrg_srt _ _ (pairs_srt _ (row_srt ls h i)) h

/-- How much room so many leaves of each row take up, in the unit of the first row. -/
def wN (x : Nat → Nat) : Nat → Nat
  | 0 => 0
  | i + 1 => wN x i + x i * 2 ^ i
def cN (ls : List Int) (x : Nat → Nat) : Nat → Int
  | 0 => 0
  | i + 1 => cN ls x i + tk ls (x i)
/-- Nothing that takes up as much room costs less than what is chosen. -/
theorem row_least (ls : List Int) (hs : Srd ls) : ∀ (i k : Nat) (x : Nat → Nat), (∀ r, r ≤ i → x r ≤ ls.length) → wN x (i + 1) = k * 2 ^ i → k ≤ (rowS ls i).length ∧ sumW ((rowS ls i).take k) ≤ cN ls x (i + 1)
  | 0, k, x, hx, hw => by
    have e : x 0 = k := by simpa [wN] using hw
    have h0 := hx 0 (Nat.le_refl 0)
    refine ⟨by rw [rowS_len0]; omega, ?_⟩
    have := mrg_least [] ls List.Pairwise.nil hs k 0 (by omega) (by simp)
    rw [row_zero]
    simp only [cN, tk_nil, Nat.add_zero, e] at this ⊢
    omega
  | i + 1, k, x, hx, hw => by
    have hw2 : wN x (i + 1) + x (i + 1) * 2 ^ (i + 1) = k * 2 ^ (i + 1) := hw
    have hle : x (i + 1) ≤ k := by
      have h1 : x (i + 1) * 2 ^ (i + 1) ≤ k * 2 ^ (i + 1) := by omega
      exact Nat.le_of_mul_le_mul_right h1 (Nat.two_pow_pos _)
    obtain ⟨q, hq⟩ : ∃ q, k = x (i + 1) + q := ⟨k - x (i + 1), by omega⟩
    have hw3 : wN x (i + 1) = (2 * q) * 2 ^ i := by
      rw [hq, Nat.add_mul, Nat.pow_succ] at hw2
      have : 2 * q * 2 ^ i = q * (2 ^ i * 2) := by rw [Nat.mul_comm 2 q, Nat.mul_assoc, Nat.mul_comm 2]
      rw [this]; omega
    obtain ⟨h1, h2⟩ := row_least ls hs i (2 * q) x (fun r hr => hx r (by omega)) hw3
    have hxi := hx (i + 1) (Nat.le_refl _)
    refine ⟨by rw [rowS_lenS]; omega, ?_⟩
    rw [row_succ, hq]
    have h3 := mrg_least (pairsL (rowS ls i)) ls (pairs_srt _ (row_srt ls hs i)) hs (x (i + 1)) q hxi (by rw [pairs_len]; omega)
    rw [← pairs_sum _ _ h1] at h3
    show _ ≤ cN ls x (i + 1) + tk ls (x (i + 1))
    omega
end Go.Proofs.Ythapkciebphhkaa

namespace Go.Proofs.Ythapkciebphhkaa
open Go.RowKit
set_option linter.unusedVariables false
set_option linter.unusedSimpArgs false

theorem own_cap2 {w : World} {base e s n cap : Nat} {ao : Option Addr} {xs : List Value} (h : w.ownsRow base e s (.slice ao n cap) n xs) : n ≤ cap ∧ cap ≤ maxLen := by
  rcases h.2 with ⟨hv, hn⟩ | ⟨g, c, cur, hv, _, _, h1, h2, _⟩
  · simp at hv; obtain ⟨_, rfl, rfl⟩ := hv; exact ⟨Nat.le_refl _, Nat.zero_le _⟩
  · simp at hv; obtain ⟨_, rfl⟩ := hv; exact ⟨h1, h2⟩
theorem own_some {w : World} {base e s n cap : Nat} {ao : Option Addr} {xs : List Value} (h : w.ownsRow base e s (.slice ao n cap) n xs) (hn : 0 < n) : ∃ g, ao = some ⟨g, 0, none⟩ := by
  rcases h.2 with ⟨hv, hn'⟩ | ⟨g, c, cur, hv, _, _, h1, h2, _⟩
  · omega
  · simp at hv; exact ⟨g, hv.1⟩

theorem Kept.trans' {S : Nat → Prop} {a b c : World} (h : Kept NoB a b) (k : Kept S b c) (hs : ∀ i, i < a.heap.size → S i → False) : Kept NoB a c :=
  ⟨k.os.trans h.os, k.tape.trans h.tape, k.output.trans h.output, Nat.le_trans h.size k.size, fun i hi _ => (k.block i (Nat.lt_of_lt_of_le hi h.size) (fun e => hs i hi e)).trans (h.block i hi (fun e => e))⟩
theorem packed_step (rs : List (Int × Bool)) (e : Nat) (h : e < rs.length) : packedN (rs.take (e + 1)) = packedN (rs.take e) + (if (rs.getD e (0, false)).2 then 1 else 0) := by
  have hg : rs.getD e (0, false) = rs[e] := by simp [List.getD, h]
  unfold packedN
  rw [List.take_succ_eq_append_getElem h, List.countP_append, hg]
  simp [List.countP_cons]
theorem place_at (lv : List (Int × Int)) (ps : List Nat) (h : lv.map (·.1) = ps.map (fun p : Nat => (p : Int))) (e : Nat) (he : e < lv.length) : (lv.getD e (0, 0)).1 = ((ps.getD e 0 : Nat) : Int) ∧ ps.getD e 0 ∈ ps ∧ ps.take (e + 1) = ps.take e ++ [ps.getD e 0] := by
  have hl : ps.length = lv.length := by have := congrArg List.length h; simp at this; exact this.symm
  have he' : e < ps.length := by omega
  have h1 : (lv.map (·.1))[e]? = (ps.map (fun p : Nat => (p : Int)))[e]? := by rw [h]
  have hg : ps.getD e 0 = ps[e] := by simp [List.getD, he']
  refine ⟨?_, ?_, ?_⟩
  · simpa [List.getD, he, he'] using h1
  · rw [hg]; exact List.getElem_mem he'
  · rw [List.take_succ_eq_append_getElem he', hg]

end Go.Proofs.Ythapkciebphhkaa

namespace Go.Proofs.Ythapkciebphhkaa
open Go.RowKit
set_option linter.unusedVariables false
set_option linter.unusedSimpArgs false

def cmpI (x y : Int) : Int := if x < y then -1 else if y < x then 1 else 0
/-- The weights do not fall. -/
def Up (lv : List (Int × Int)) : Prop := ∀ i, i + 1 < lv.length → (lv.getD i (0, 0)).2 ≤ (lv.getD (i + 1) (0, 0)).2

end Go.Proofs.Ythapkciebphhkaa

namespace Go.Proofs.Ythapkciebphhkaa
open Go.RowKit
set_option linter.unusedVariables false
set_option linter.unusedSimpArgs false

/-- The cells of leaves. -/
def lcells (rs : List (Int × Int)) : List Value := rs.flatMap fun p => [.int .i64 p.1, .int .i64 p.2]
theorem lcells_app (rs : List (Int × Int)) (s x : Int) : lcells rs ++ [.int .i64 s, .int .i64 x] = lcells (rs ++ [(s, x)]) := by simp [lcells]
theorem lcells_at : ∀ (rs : List (Int × Int)) (i : Nat), i < rs.length → (lcells rs)[i * 2]? = some (.int .i64 (rs.getD i (0, 0)).1) ∧ (lcells rs)[i * 2 + 1]? = some (.int .i64 (rs.getD i (0, 0)).2) := by
  intro rs
  induction rs with
  | nil => intro i hi; simp at hi
  | cons p r ih =>
    intro i hi
    have e : lcells (p :: r) = .int .i64 p.1 :: .int .i64 p.2 :: lcells r := by simp [lcells]
    rw [e]
    cases i with
    | zero => exact ⟨rfl, rfl⟩
    | succ i =>
      have hi' : i < r.length := by simpa using hi
      obtain ⟨h1, h2⟩ := ih i hi'
      rw [show (i + 1) * 2 = i * 2 + 1 + 1 by omega]
      refine ⟨?_, ?_⟩
      · simpa using h1
      · rw [List.getElem?_cons_succ, List.getElem?_cons_succ]; simpa using h2
/-- The weights above 0, from place i on. -/
def leavesL : Nat → List Int → List (Int × Int)
  | _, [] => []
  | i, z :: r => if 0 < z then ((i : Int), z) :: leavesL (i + 1) r else leavesL (i + 1) r
theorem leavesL_step (ws : List Int) (j : Nat) (h : j < ws.length) : leavesL j (ws.drop j) = if 0 < ws.getD j 0 then ((j : Int), ws.getD j 0) :: leavesL (j + 1) (ws.drop (j + 1)) else leavesL (j + 1) (ws.drop (j + 1)) := by
  have e : ws.drop j = ws.getD j 0 :: ws.drop (j + 1) := by
    rw [List.drop_eq_getElem_cons h]; simp [List.getD, h]
  conv => lhs; rw [e]
  rfl
theorem leavesL_end (ws : List Int) (j : Nat) (h : ws.length ≤ j) : leavesL j (ws.drop j) = [] := by rw [List.drop_of_length_le h]; rfl

end Go.Proofs.Ythapkciebphhkaa

namespace Go.Proofs.Ythapkciebphhkaa
open Go.RowKit
set_option linter.unusedVariables false
set_option linter.unusedSimpArgs false

abbrev Lf := Int × Int
def swp (rs : List Lf) (i j : Nat) : List Lf := (rs.set i (rs.getD j (0, 0))).set j (rs.getD i (0, 0))
theorem lcells_len (rs : List Lf) : (lcells rs).length = rs.length * 2 := by
  induction rs with
  | nil => rfl
  | cons p r ih =>
    have e : lcells (p :: r) = .int .i64 p.1 :: .int .i64 p.2 :: lcells r := by simp [lcells]
    rw [e, List.length_cons, List.length_cons, ih, List.length_cons]; omega
theorem lcells_set : ∀ (rs : List Lf) (i : Nat) (p x : Int), lcells (rs.set i (p, x)) = ((lcells rs).set (i * 2) (.int .i64 p)).set (i * 2 + 1) (.int .i64 x)
  | [], i, p, x => by simp [lcells]
  | r :: rs, 0, p, x => by simp [lcells]
  | r :: rs, i + 1, p, x => by
    have e : ∀ q : List Lf, lcells (r :: q) = .int .i64 r.1 :: .int .i64 r.2 :: lcells q := fun q => by simp [lcells]
    rw [List.set_cons_succ, e, lcells_set rs i p x, e, show (i + 1) * 2 = i * 2 + 1 + 1 by omega, List.set_cons_succ, List.set_cons_succ, List.set_cons_succ, List.set_cons_succ]
theorem swp_app (A B C : List Lf) (x y : Lf) : swp (A ++ x :: (B ++ y :: C)) A.length (A.length + 1 + B.length) = A ++ y :: (B ++ x :: C) := by
  have h1 : (A ++ x :: (B ++ y :: C)).getD A.length (0, 0) = x := by simp [List.getD]
  have h2 : (A ++ x :: (B ++ y :: C)).getD (A.length + 1 + B.length) (0, 0) = y := by
    rw [List.getD, List.getElem?_append_right (by omega), show A.length + 1 + B.length - A.length = B.length + 1 by omega, List.getElem?_cons_succ, List.getElem?_append_right (by omega)]; simp
  unfold swp
  rw [h1, h2, List.set_append_right _ _ (by omega), Nat.sub_self, List.set_cons_zero, List.set_append_right _ _ (by omega), show A.length + 1 + B.length - A.length = B.length + 1 by omega, List.set_cons_succ, List.set_append_right _ _ (by omega), Nat.sub_self, List.set_cons_zero]
theorem app_getD (A C : List Lf) (x : Lf) : (A ++ x :: C).getD A.length (0, 0) = x := by simp [List.getD]
theorem app_getD2 (A B C : List Lf) (x y : Lf) : (A ++ x :: (B ++ y :: C)).getD (A.length + 1 + B.length) (0, 0) = y := by
  rw [List.getD, List.getElem?_append_right (by omega), show A.length + 1 + B.length - A.length = B.length + 1 by omega, List.getElem?_cons_succ, List.getElem?_append_right (by omega)]; simp

end Go.Proofs.Ythapkciebphhkaa

namespace Go.Proofs.Ythapkciebphhkaa
open Go.RowKit
set_option linter.unusedVariables false
set_option linter.unusedSimpArgs false

theorem split_at (X : List Lf) (j i : Nat) (h : X.length = i) (hj : j ≤ i) : ∃ X1 X2, X = X1 ++ X2 ∧ X1.length = j ∧ X2.length + j = i :=
  ⟨X.take j, X.drop j, (List.take_append_drop j X).symm, by rw [List.length_take]; omega, by rw [List.length_drop]; omega⟩
theorem i64_sub (a b d : Nat) (h : d + b = a) (ha : a ≤ 100000) : IntKind.i64.wrap ((a : Int) - (b : Int)) = (d : Int) := by rw [IntWalk.i64_in _ (by omega)]; omega
theorem i64_add (a b d : Nat) (h : a + b = d) (ha : d ≤ 100000) : IntKind.i64.wrap ((a : Int) + (b : Int)) = (d : Int) := by rw [IntWalk.i64_in _ (by omega)]; omega

end Go.Proofs.Ythapkciebphhkaa

namespace Go.Proofs.Ythapkciebphhkaa
open Go.RowKit
set_option linter.unusedVariables false
set_option linter.unusedSimpArgs false

def Bef (x y : Lf) : Prop := x.2 < y.2 ∨ (x.2 = y.2 ∧ x.1 < y.1)
theorem Bef.trans {x y z : Lf} (h : Bef x y) (k : Bef y z) : Bef x z := by unfold Bef at *; omega
theorem Bef.asymm {x y : Lf} (h : Bef x y) (k : Bef y x) : False := by unfold Bef at *; omega
/-- All of one row are ahead of all of another one. -/
def Cross (L R : List Lf) : Prop := ∀ x ∈ L, ∀ y ∈ R, x.1 < y.1
theorem app_at (A R q : List Lf) (t : Nat) (h : t < R.length) : (A ++ (R ++ q)).getD (A.length + t) (0, 0) = R.getD t (0, 0) := by
  rw [List.getD, List.getD, List.getElem?_append_right (by omega), show A.length + t - A.length = t by omega, List.getElem?_append_left h]
theorem getD_mem (R : List Lf) (t : Nat) (h : t < R.length) : R.getD t (0, 0) ∈ R := by
  have : R.getD t (0, 0) = R[t] := by simp [List.getD, h]
  rw [this]; exact List.getElem_mem h
theorem snoc_of (R : List Lf) (k : Nat) (h : R.length = k + 1) : ∃ S, R = S ++ [R.getD k (0, 0)] := by
  refine ⟨R.take k, ?_⟩
  have h2 : R.getD k (0, 0) = R[k]'(by omega) := by simp [List.getD, h]
  rw [h2, ← List.take_succ_eq_append_getElem (by omega), List.take_of_length_le (by omega)]
theorem last_bef {R : List Lf} (hs : R.Pairwise Bef) (k : Nat) (h : R.length = k + 1) : ∀ u ∈ R, u = R.getD k (0, 0) ∨ Bef u (R.getD k (0, 0)) := by
  obtain ⟨S, hS⟩ := snoc_of R k h
  generalize R.getD k (0, 0) = z at hS ⊢
  subst hS
  intro u hu
  rcases List.mem_append.1 hu with hu | hu
  · exact .inr ((List.pairwise_append.1 hs).2.2 u hu z (List.mem_singleton.2 rfl))
  · exact .inl (List.mem_singleton.1 hu)
theorem first_bef {R : List Lf} (hs : R.Pairwise Bef) (h : 0 < R.length) : ∀ u ∈ R, u = R.getD 0 (0, 0) ∨ Bef (R.getD 0 (0, 0)) u := by
  cases R with
  | nil => simp at h
  | cons y r =>
    intro u hu
    rcases List.mem_cons.1 hu with rfl | hu
    · exact .inl rfl
    · exact .inr ((List.pairwise_cons.1 hs).1 u hu)
theorem all_bef {R : List Lf} {x : Lf} (hs : R.Pairwise Bef) (h : ∀ k, R.length = k + 1 → Bef (R.getD k (0, 0)) x) : ∀ u ∈ R, Bef u x := by
  intro u hu
  obtain ⟨k, hk⟩ : ∃ k, R.length = k + 1 := ⟨R.length - 1, by have := List.length_pos_of_mem hu; omega⟩
  rcases last_bef hs k hk u hu with rfl | h1
  · exact h k hk
  · exact h1.trans (h k hk)
theorem all_aft {R : List Lf} {x : Lf} (hs : R.Pairwise Bef) (h : 0 < R.length → Bef x (R.getD 0 (0, 0))) : ∀ u ∈ R, Bef x u := by
  intro u hu
  have hk := List.length_pos_of_mem hu
  rcases first_bef hs hk u hu with rfl | h1
  · exact h hk
  · exact (h hk).trans h1
theorem ins_srt {x : Lf} {R1 R2 : List Lf} (hs : (R1 ++ R2).Pairwise Bef) (h1 : ∀ u ∈ R1, Bef u x) (h2 : ∀ u ∈ R2, Bef x u) : (R1 ++ x :: R2).Pairwise Bef := by
  rw [List.pairwise_append] at hs ⊢
  obtain ⟨a, b, c⟩ := hs
  refine ⟨a, List.pairwise_cons.2 ⟨h2, b⟩, ?_⟩
  intro u hu v hv
  rcases List.mem_cons.1 hv with rfl | hv
  · exact h1 u hu
  · exact c u hu v hv
theorem join_srt {A B : List Lf} (ha : A.Pairwise Bef) (hb : B.Pairwise Bef) (h : ∀ u ∈ A, ∀ v ∈ B, Bef u v) : (A ++ B).Pairwise Bef := List.pairwise_append.2 ⟨ha, hb, h⟩
/-- A row in order, of just these. -/
structure SrtP (S X : List Lf) : Prop where
  perm : S.Perm X
  srt : S.Pairwise Bef
theorem SrtP.len {S X : List Lf} (h : SrtP S X) : S.length = X.length := h.perm.length_eq
/-- Of two such rows there is one alone. -/
theorem srtP_eq : ∀ {S T X : List Lf}, SrtP S X → SrtP T X → S = T
  | [], T, X, h, k => by
    have := h.len; have h2 := k.len
    exact (List.eq_nil_of_length_eq_zero (by simp at this; omega)).symm
  | s :: S, [], X, h, k => by
    have := h.len; have h2 := k.len
    simp at this h2; omega
  | s :: S, t :: T, X, h, k => by
    have hp : (s :: S).Perm (t :: T) := h.perm.trans k.perm.symm
    have e : s = t := by
      have m1 : s ∈ t :: T := hp.mem_iff.1 List.mem_cons_self
      have m2 : t ∈ s :: S := hp.mem_iff.2 List.mem_cons_self
      rcases List.mem_cons.1 m1 with e | m1
      · exact e
      · rcases List.mem_cons.1 m2 with e | m2
        · exact e.symm
        · exact ((Bef.asymm ((List.pairwise_cons.1 h.srt).1 t m2) ((List.pairwise_cons.1 k.srt).1 s m1))).elim
    subst e
    rw [srtP_eq (S := S) (T := T) (X := T) ⟨hp.cons_inv, (List.pairwise_cons.1 h.srt).2⟩ ⟨List.Perm.refl _, (List.pairwise_cons.1 k.srt).2⟩]

/-- How the middle of two rows is found. -/
theorem sym_split {L R : List Lf} (hL : L.Pairwise Bef) (hR : R.Pairwise Bef) {p q D : List Lf} {a m b mid lo hi s : Nat} (hD : D = p ++ (L ++ (R ++ q))) (ha : p.length = a) (hm : a + L.length = m) (hb : m + R.length = b)
    (hmid : mid = (a + b) / 2) (hlo : (mid < m ∧ lo = mid + m - b ∧ hi = mid) ∨ (m ≤ mid ∧ lo = a ∧ hi = m)) (h1 : lo ≤ s) (h2 : s ≤ hi) (hl1 : 1 ≤ L.length) (hr1 : 1 ≤ R.length)
    (f1 : s = lo ∨ Bef (D.getD (s - 1) (0, 0)) (D.getD (mid + m - 1 - (s - 1)) (0, 0))) (f2 : s = hi ∨ Bef (D.getD (mid + m - 1 - s) (0, 0)) (D.getD s (0, 0))) :
    ∃ L1 L2 R1 R2, L = L1 ++ L2 ∧ R = R1 ++ R2 ∧ a + L1.length = s ∧ s + L2.length = m ∧ m + R1.length = mid + m - s ∧ mid + m - s + R2.length = b ∧ L1.length + R1.length + a = mid ∧ (∀ u ∈ L1 ++ R1, ∀ v ∈ L2 ++ R2, Bef u v) := by
  have hs1 : a ≤ s := by rcases hlo with h | h <;> omega
  have hs2 : s ≤ m := by rcases hlo with h | h <;> omega
  have hs3 : m ≤ mid + m - s := by rcases hlo with h | h <;> omega
  have hs4 : mid + m - s ≤ b := by rcases hlo with h | h <;> omega
  obtain ⟨L1, L2, rfl, e1, e2⟩ := split_at L (s - a) L.length rfl (by omega)
  obtain ⟨R1, R2, rfl, e3, e4⟩ := split_at R (mid - s) R.length rfl (by omega)
  simp only [List.length_append] at hm hb e2 e4 hl1 hr1
  have gL : ∀ t, t < L1.length → D.getD (a + t) (0, 0) = L1.getD t (0, 0) := by
    intro t ht
    have := app_at p L1 (L2 ++ ((R1 ++ R2) ++ q)) t ht
    rw [ha] at this
    rw [hD, ← this]; simp [List.append_assoc]
  have gL2 : ∀ t, t < L2.length → D.getD (s + t) (0, 0) = L2.getD t (0, 0) := by
    intro t ht
    have := app_at (p ++ L1) L2 ((R1 ++ R2) ++ q) t ht
    rw [List.length_append, ha, show a + L1.length = s by omega] at this
    rw [hD, ← this]; simp [List.append_assoc]
  have gR : ∀ t, t < R1.length → D.getD (m + t) (0, 0) = R1.getD t (0, 0) := by
    intro t ht
    have := app_at (p ++ (L1 ++ L2)) R1 (R2 ++ q) t ht
    rw [List.length_append, List.length_append, ha, show a + (L1.length + L2.length) = m by omega] at this
    rw [hD, ← this]; simp [List.append_assoc]
  have gR2 : ∀ t, t < R2.length → D.getD (m + R1.length + t) (0, 0) = R2.getD t (0, 0) := by
    intro t ht
    have := app_at (p ++ (L1 ++ L2) ++ R1) R2 q t ht
    rw [List.length_append, List.length_append, List.length_append, ha, show a + (L1.length + L2.length) + R1.length = m + R1.length by omega] at this
    rw [hD, ← this]; simp [List.append_assoc]
  obtain ⟨hL1, hL2, hL12⟩ := List.pairwise_append.1 hL
  obtain ⟨hR1, hR2, hR12⟩ := List.pairwise_append.1 hR
  refine ⟨L1, L2, R1, R2, rfl, rfl, by omega, by omega, by omega, by omega, by omega, ?_⟩
  intro u hu v hv
  rcases List.mem_append.1 hu with hu | hu
  · rcases List.mem_append.1 hv with hv | hv
    · exact hL12 u hu v hv
    · have k1 := List.length_pos_of_mem hu
      have k2 := List.length_pos_of_mem hv
      have f := f1.resolve_left (by rcases hlo with h | h <;> omega)
      have g1 := gL (L1.length - 1) (by omega)
      have g2 := gR2 0 k2
      rw [show a + (L1.length - 1) = s - 1 by omega] at g1
      rw [show m + R1.length + 0 = mid + m - 1 - (s - 1) by omega] at g2
      rw [g1, g2] at f
      have q1 : u = L1.getD (L1.length - 1) (0, 0) ∨ Bef u (L1.getD (L1.length - 1) (0, 0)) := last_bef hL1 _ (by omega) u hu
      have q2 := first_bef hR2 k2 v hv
      rcases q1 with rfl | q1 <;> rcases q2 with rfl | q2
      · exact f
      · exact f.trans q2
      · exact q1.trans f
      · exact (q1.trans f).trans q2
  · rcases List.mem_append.1 hv with hv | hv
    · have k1 := List.length_pos_of_mem hu
      have k2 := List.length_pos_of_mem hv
      have f := f2.resolve_left (by rcases hlo with h | h <;> omega)
      have g1 := gR (R1.length - 1) (by omega)
      have g2 := gL2 0 k2
      rw [show m + (R1.length - 1) = mid + m - 1 - s by omega] at g1
      rw [Nat.add_zero] at g2
      rw [g1, g2] at f
      have q1 : u = R1.getD (R1.length - 1) (0, 0) ∨ Bef u (R1.getD (R1.length - 1) (0, 0)) := last_bef hR1 _ (by omega) u hu
      have q2 := first_bef hL2 k2 v hv
      rcases q1 with rfl | q1 <;> rcases q2 with rfl | q2
      · exact f
      · exact f.trans q2
      · exact q1.trans f
      · exact (q1.trans f).trans q2
    · exact hR12 u hu v hv
end Go.Proofs.Ythapkciebphhkaa

namespace Go.Proofs.Ythapkciebphhkaa
open Go.RowKit
set_option linter.unusedVariables false
set_option linter.unusedSimpArgs false

theorem i64_succ (a d : Nat) (h : a + 1 = d) (ha : d ≤ 100000) : IntKind.i64.wrap ((a : Int) + 1) = (d : Int) := by rw [IntWalk.i64_in _ (by omega)]; omega
theorem i64_pred (a d : Nat) (h : d + 1 = a) (ha : a ≤ 100000) : IntKind.i64.wrap ((a : Int) - 1) = (d : Int) := by rw [IntWalk.i64_in _ (by omega)]; omega
theorem getD_l (A B : List Lf) (t : Nat) (h : t < A.length) : (A ++ B).getD t (0, 0) = A.getD t (0, 0) := by rw [List.getD, List.getD, List.getElem?_append_left h]
theorem getD_r (A B : List Lf) (t s : Nat) (h : A.length + s = t) : (A ++ B).getD t (0, 0) = B.getD s (0, 0) := by rw [List.getD, List.getD, List.getElem?_append_right (by omega), show t - A.length = s by omega]
end Go.Proofs.Ythapkciebphhkaa

namespace Go.Proofs.Ythapkciebphhkaa
open Go.RowKit
set_option linter.unusedVariables false
set_option linter.unusedSimpArgs false

end Go.Proofs.Ythapkciebphhkaa

namespace Go.Proofs.Ythapkciebphhkaa
open Go.RowKit
set_option linter.unusedVariables false
set_option linter.unusedSimpArgs false

theorem perm_four (A B C D : List Lf) : ((A ++ C) ++ (B ++ D)).Perm ((A ++ B) ++ (C ++ D)) := by
  rw [List.append_assoc, List.append_assoc]
  refine List.Perm.append_left A ?_
  rw [← List.append_assoc, ← List.append_assoc]
  exact List.Perm.append_right D List.perm_append_comm

end Go.Proofs.Ythapkciebphhkaa

namespace Go.Proofs.Ythapkciebphhkaa
open Go.RowKit
set_option linter.unusedVariables false
set_option linter.unusedSimpArgs false

/-- The places rise. -/
def Inc (X : List Lf) : Prop := X.Pairwise (fun x y => x.1 < y.1)

end Go.Proofs.Ythapkciebphhkaa

namespace Go.Proofs.Ythapkciebphhkaa
open Go.RowKit
set_option linter.unusedVariables false
set_option linter.unusedSimpArgs false

/-- Ranges of K leaves each, one behind the other, each in order. -/
inductive Full (K : Nat) : List Lf → List Lf → Prop
  | nil : Full K [] []
  | snoc {S X T B : List Lf} : Full K S X → B.length = K → SrtP T B → Full K (S ++ T) (X ++ B)
/-- The same, the last one of fewer. -/
inductive Bl (K : Nat) : List Lf → List Lf → Prop
  | last {S X : List Lf} : X.length < K → SrtP S X → Bl K S X
  | cons {S X T B : List Lf} : B.length = K → SrtP T B → Bl K S X → Bl K (T ++ S) (B ++ X)
theorem Full.then {K : Nat} {S X S' X' : List Lf} (h : Full K S X) (k : Bl K S' X') : Bl K (S ++ S') (X ++ X') := by
  induction h generalizing S' X' with
  | nil => exact k
  | snoc h hl hs ih =>
    rw [List.append_assoc, List.append_assoc]
    exact ih (Bl.cons hl hs k)
theorem Full.len {K : Nat} {S X : List Lf} (h : Full K S X) : S.length = X.length := by
  induction h with
  | nil => rfl
  | snoc h hl hs ih => rw [List.length_append, List.length_append, ih, hs.len]
theorem Bl.len {K : Nat} {S X : List Lf} (h : Bl K S X) : S.length = X.length := by
  induction h with
  | last h hs => exact hs.len
  | cons hl hs h ih => rw [List.length_append, List.length_append, ih, hs.len]
theorem Bl.one {K : Nat} {S X : List Lf} (h : Bl K S X) (hl : X.length ≤ K) : SrtP S X := by
  cases h with
  | last h hs => exact hs
  | @cons S X T B h1 hs h =>
    have : X.length = 0 := by rw [List.length_append] at hl; omega
    have hx := List.eq_nil_of_length_eq_zero this
    have h2 := h.len
    rw [this] at h2
    have hs2 := List.eq_nil_of_length_eq_zero h2
    rw [hx, hs2, List.append_nil, List.append_nil]
    exact hs
theorem Bl.first {K : Nat} {S X : List Lf} (h : Bl K S X) (hl : K ≤ X.length) : ∃ T B S' X', S = T ++ S' ∧ X = B ++ X' ∧ B.length = K ∧ SrtP T B ∧ Bl K S' X' := by
  cases h with
  | last h hs => omega
  | @cons S X T B h1 hs h => exact ⟨T, B, S, X, rfl, rfl, h1, hs, h⟩
theorem inc_cross {X A B C : List Lf} {P : List Lf} (h : Inc X) (e : X = P ++ (A ++ (B ++ C))) {S T : List Lf} (hs : SrtP S A) (ht : SrtP T B) : Cross S T := by
  unfold Inc at h
  rw [e] at h
  have h2 := (List.pairwise_append.1 (List.pairwise_append.1 h).2.1).2.2
  intro x hx y hy
  exact h2 x (hs.perm.mem_iff.1 hx) y (List.mem_append_left _ (ht.perm.mem_iff.1 hy))
theorem inc_part {X A B P : List Lf} (h : Inc X) (e : X = P ++ (A ++ B)) : Inc A := by
  unfold Inc at h
  rw [e] at h
  exact (List.pairwise_append.1 (List.pairwise_append.1 h).2.1).1

end Go.Proofs.Ythapkciebphhkaa

namespace Go.Proofs.Ythapkciebphhkaa
open Go.RowKit
set_option linter.unusedVariables false
set_option linter.unusedSimpArgs false

theorem infoI : (Try.prog.info? 3).map (fun i => (i.zero, i.size, i.bytes)) = some (some (.int .i64 0), 1, 8) := by kernel_rfl
theorem leaves_ok : ∀ (ws : List Int) (i : Nat), Small 1000000 ws → ∀ p ∈ leavesL i ws, (0 ≤ p.2 ∧ p.2 ≤ 1048576) ∧ ∃ q : Nat, p.1 = (q : Int) ∧ q < i + ws.length
  | [], i, _, p, hp => by cases hp
  | z :: r, i, h, p, hp => by
    have hr : Small 1000000 r := fun y hy => h y (List.mem_cons_of_mem _ hy)
    have hz := h z List.mem_cons_self
    unfold leavesL at hp
    split at hp
    · rcases List.mem_cons.1 hp with rfl | hp
      · exact ⟨⟨hz.1, by have := hz.2; simp only; omega⟩, i, rfl, by simp⟩
      · obtain ⟨h1, q, h2, h3⟩ := leaves_ok r (i + 1) hr p hp
        exact ⟨h1, q, h2, by simp only [List.length_cons]; omega⟩
    · obtain ⟨h1, q, h2, h3⟩ := leaves_ok r (i + 1) hr p hp
      exact ⟨h1, q, h2, by simp only [List.length_cons]; omega⟩
theorem leaves_len : ∀ (ws : List Int) (i : Nat), (leavesL i ws).length ≤ ws.length
  | [], i => by simp [leavesL]
  | z :: r, i => by
    have := leaves_len r (i + 1)
    unfold leavesL
    split
    · simp only [List.length_cons]; omega
    · simp only [List.length_cons]; omega
def placesN (lv : List (Int × Int)) : List Nat := lv.map fun p => p.1.toNat
/-- What Lengths tells where there are two leaves or more. -/
def manyL (ws : List Int) (limit : Nat) : List Int :=
  addL ((leavesL 0 ws).map (·.2)) (placesN (leavesL 0 ws)) limit (2 * (leavesL 0 ws).length - 2) (List.replicate ws.length 0)
/-- A row of numbers told. -/
def LensP (w : World) (zs : List Int) (e : Ending) (w' : World) : Prop :=
  ∃ a c, e = .returned (.tuple #[.slice a zs.length c, .int .i64 0]) ∧ w'.ownsRow 0 3 1 (.slice a zs.length c) zs.length (zs.map (.int .i64)) ∧ Kept NoB w w'
theorem addL_len (ls : List Int) (ps : List Nat) : ∀ (i k : Nat) (zs : List Int), (addL ls ps i k zs).length = zs.length
  | 0, k, zs => rfl
  | i + 1, k, zs => by unfold addL; rw [addL_len ls ps i, bump_len]

/-- What Lengths tells can be read. -/
theorem LensP.reads {w w' : World} {zs : List Int} {e : Ending} (h : LensP w zs e w') : ∃ a c, e = .returned (.tuple #[.slice a zs.length c, .int .i64 0]) ∧ RdI w' w'.heap.size a zs ∧ Kept NoB w w' := by
  obtain ⟨a, c, rfl, ho, hk⟩ := h
  refine ⟨a, c, rfl, ?_, hk⟩
  intro i hi
  rcases ho.2 with ⟨_, hz⟩ | ⟨g, cc, cur, hv, _⟩
  · omega
  · simp at hv
    obtain ⟨rfl, rfl⟩ := hv
    have hc : w'.cell? ⟨g, i, none⟩ = some (.int .i64 (zs.getD i 0)) := by
      rw [ho.cellAt i (by omega)]; simp [List.getD, hi]
    exact ⟨g, 0, rfl, World.block_lt_of_cell? w' _ hc, by rw [Nat.zero_add]; exact hc⟩
theorem three_leaves : leavesL 0 [1, 1, 2] = [(0, 1), (1, 1), (2, 2)] := by decide
theorem two_leaves : leavesL 0 [0, 7] = [(((1 : Nat) : Int), 7)] := by decide
theorem ones_leaves : (leavesL 0 [1, 1, 1]).length = 3 := by decide
theorem many_three : manyL [1, 1, 2] 15 = [2, 2, 1] := by decide +kernel
end Go.Proofs.Ythapkciebphhkaa

namespace Go.Proofs.Ythapkciebphhkaa
open Go.RowKit
set_option linter.unusedVariables false
set_option linter.unusedSimpArgs false

theorem leaves_ge : ∀ (ws : List Int) (i : Nat), ∀ p ∈ leavesL i ws, (i : Int) ≤ p.1
  | [], i, p, hp => by cases hp
  | z :: r, i, p, hp => by
    unfold leavesL at hp
    split at hp
    · rcases List.mem_cons.1 hp with rfl | hp
      · exact Int.le_refl _
      · have := leaves_ge r (i + 1) p hp; omega
    · have := leaves_ge r (i + 1) p hp; omega
theorem inc_leaves : ∀ (ws : List Int) (i : Nat), Inc (leavesL i ws)
  | [], i => List.Pairwise.nil
  | z :: r, i => by
    unfold leavesL
    split
    · refine List.pairwise_cons.2 ⟨fun p hp => ?_, inc_leaves r (i + 1)⟩
      have := leaves_ge r (i + 1) p hp
      simp only; omega
    · exact inc_leaves r (i + 1)
end Go.Proofs.Ythapkciebphhkaa
