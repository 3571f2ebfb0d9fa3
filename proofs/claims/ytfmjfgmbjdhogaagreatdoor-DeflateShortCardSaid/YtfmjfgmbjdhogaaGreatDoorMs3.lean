/-
  The rows of huff.addLengths.
  Package-merge on paper: the rows, what is chosen of them, and that nothing costs less.
  huff.addLengths: the rows.
-/
import Derived.Test.YtfmjfgmbjdhogaaGreatDoorMs2
namespace Go.Proofs.YtfmjfgmbjdhogaaGreatDoor
open Go.RowKit
set_option linter.unusedVariables false
set_option linter.unusedSimpArgs false

/-- The i-th row. -/
def rowS (ls : List Int) : Nat → List (Int × Bool)
  | 0 => mergeS [] ls
  | i + 1 => mergeS (rowS ls i) ls
theorem rowS_len0 (ls : List Int) : (rowS ls 0).length = ls.length := by simp [rowS, mergeS_len]
theorem rowS_lenS (ls : List Int) (i : Nat) : (rowS ls (i + 1)).length = ls.length + (rowS ls i).length / 2 := by simp [rowS, mergeS_len]
theorem rowS_le (ls : List Int) : ∀ i, (rowS ls i).length ≤ 2 * ls.length
  | 0 => by rw [rowS_len0]; omega
  | i + 1 => by rw [rowS_lenS]; have := rowS_le ls i; omega
/-- Halves, rounded up. -/
def halves (n : Nat) : Nat → Nat
  | 0 => n
  | i + 1 => (halves n i + 1) / 2
theorem halves_le (n : Nat) : ∀ i k, n ≤ k * 2 ^ i → halves n i ≤ k
  | 0, k, h => by simpa [halves] using h
  | i + 1, k, h => by
    have := halves_le n i (2 * k) (by rw [Nat.pow_succ] at h; rw [Nat.mul_comm 2 k, Nat.mul_assoc, Nat.mul_comm 2]; exact h)
    simp only [halves]
    omega
theorem rowS_ge (ls : List Int) : ∀ i, 2 * ls.length ≤ (rowS ls i).length + halves ls.length i
  | 0 => by rw [rowS_len0]; simp [halves]; omega
  | i + 1 => by rw [rowS_lenS]; have := rowS_ge ls i; simp only [halves]; omega
theorem rowS_room (ls : List Int) (l : Nat) (hl : 1 ≤ l) (h : ls.length ≤ 2 ^ l) : 2 * ls.length - 2 ≤ (rowS ls (l - 1)).length := by
  have h1 := rowS_ge ls (l - 1)
  have h2 := halves_le ls.length (l - 1) 2 (by
    have : 2 * 2 ^ (l - 1) = 2 ^ l := by
      rw [Nat.mul_comm, ← Nat.pow_succ]; congr 1; omega
    omega)
  omega

/-- How many are packed, how many are leaves. -/
def packedN (rs : List (Int × Bool)) : Nat := rs.countP (fun p => p.2)
def leafN (rs : List (Int × Bool)) : Nat := rs.countP (fun p => !p.2)
theorem packed_leaf (rs : List (Int × Bool)) : packedN rs + leafN rs = rs.length := by
  induction rs with
  | nil => rfl
  | cons p r ih =>
    unfold packedN leafN at ih ⊢
    simp only [List.countP_cons, List.length_cons]
    cases p.2 <;> simp <;> omega
theorem leaf_map (ls : List Int) : leafN (ls.map fun z => (z, false)) = ls.length := by
  induction ls with
  | nil => rfl
  | cons z r ih => unfold leafN at ih ⊢; simp only [List.map_cons, List.countP_cons, List.length_cons, ih]; simp
theorem leaf_mergeW (w : Int) (f : List Int → List (Int × Bool)) (hf : ∀ l, leafN (f l) = l.length) : ∀ l, leafN (mergeW w f l) = l.length
  | [] => by have := hf []; unfold leafN at this ⊢; simp only [mergeW, List.countP_cons, this]; simp
  | z :: r => by
    unfold mergeW
    split
    · have := leaf_mergeW w f hf r; unfold leafN at this ⊢; simp only [List.countP_cons, List.length_cons, this]; simp
    · have := hf (z :: r); unfold leafN at this ⊢; simp only [List.countP_cons, this]; simp
theorem leaf_mergeS : ∀ (ah : List (Int × Bool)) (l : List Int), leafN (mergeS ah l) = l.length
  | [], l => by simpa [mergeS] using leaf_map l
  | [a], l => by simpa [mergeS] using leaf_map l
  | a :: b :: r, l => by simp only [mergeS]; exact leaf_mergeW _ _ (leaf_mergeS r) l
theorem leaf_take (rs : List (Int × Bool)) (k : Nat) : leafN (rs.take k) ≤ leafN rs := by
  have : rs = rs.take k ++ rs.drop k := (List.take_append_drop k rs).symm
  unfold leafN
  conv => rhs; rw [this, List.countP_append]
  omega
theorem packed_take (rs : List (Int × Bool)) (k : Nat) : packedN (rs.take k) ≤ packedN rs := by
  have : rs = rs.take k ++ rs.drop k := (List.take_append_drop k rs).symm
  unfold packedN
  conv => rhs; rw [this, List.countP_append]
  omega
theorem packed_mergeS (ah : List (Int × Bool)) (l : List Int) : packedN (mergeS ah l) = ah.length / 2 := by
  have h1 := packed_leaf (mergeS ah l)
  rw [leaf_mergeS, mergeS_len] at h1
  omega
theorem leafs_row (ls : List Int) (i : Nat) : leafN (rowS ls i) = ls.length := by cases i <;> exact leaf_mergeS _ _
/-- What is chosen of row i leaves room ahead. -/
theorem chosen_ok (ls : List Int) (i k : Nat) (hk : k ≤ (rowS ls i).length) :
    k - packedN ((rowS ls i).take k) ≤ ls.length ∧ packedN ((rowS ls i).take k) ≤ k ∧ (i = 0 → packedN ((rowS ls i).take k) = 0) ∧ (∀ j, i = j + 1 → 2 * packedN ((rowS ls i).take k) ≤ (rowS ls j).length) := by
  have h1 := packed_leaf ((rowS ls i).take k)
  rw [List.length_take, Nat.min_eq_left hk] at h1
  have h2 := leaf_take (rowS ls i) k
  rw [leafs_row] at h2
  have h3 := packed_take (rowS ls i) k
  refine ⟨by omega, by omega, ?_, ?_⟩
  · rintro rfl
    have : packedN (rowS ls 0) = 0 := by unfold rowS; rw [packed_mergeS]; rfl
    omega
  · rintro j rfl
    have : packedN (rowS ls (j + 1)) = (rowS ls j).length / 2 := by unfold rowS; rw [packed_mergeS]; cases j <;> rfl
    omega

theorem small_mergeW {m : Int} (w : Int) (hw : 0 ≤ w ∧ w ≤ m) (hm : 1048576 ≤ m) (f : List Int → List (Int × Bool)) (hf : ∀ l, (∀ z ∈ l, 0 ≤ z ∧ z ≤ 1048576) → SmallIt m (f l)) : ∀ l, (∀ z ∈ l, 0 ≤ z ∧ z ≤ 1048576) → SmallIt m (mergeW w f l)
  | [], h => by
    intro p hp
    rcases List.mem_cons.1 hp with rfl | hp
    · exact hw
    · exact hf [] h p hp
  | z :: r, h => by
    unfold mergeW
    have hz := h z List.mem_cons_self
    have hr : ∀ z ∈ r, 0 ≤ z ∧ z ≤ 1048576 := fun y hy => h y (List.mem_cons_of_mem _ hy)
    split
    · intro p hp
      rcases List.mem_cons.1 hp with rfl | hp
      · exact ⟨hz.1, by omega⟩
      · exact small_mergeW w hw hm f hf r hr p hp
    · intro p hp
      rcases List.mem_cons.1 hp with rfl | hp
      · exact hw
      · exact hf _ h p hp
theorem small_mergeS {m : Int} (hm : 1048576 ≤ 2 * m) : ∀ (ah : List (Int × Bool)) (l : List Int), SmallIt m ah → (∀ z ∈ l, 0 ≤ z ∧ z ≤ 1048576) → SmallIt (2 * m) (mergeS ah l)
  | [], l, _, hl => by
    intro p hp
    obtain ⟨z, hz, rfl⟩ := List.mem_map.1 (show p ∈ l.map fun z => (z, false) by simpa [mergeS] using hp)
    have := hl z hz
    exact ⟨this.1, by omega⟩
  | [a], l, _, hl => by
    intro p hp
    obtain ⟨z, hz, rfl⟩ := List.mem_map.1 (show p ∈ l.map fun z => (z, false) by simpa [mergeS] using hp)
    have := hl z hz
    exact ⟨this.1, by omega⟩
  | a :: b :: r, l, ha, hl => by
    have h1 := ha a List.mem_cons_self
    have h2 := ha b (List.mem_cons_of_mem _ List.mem_cons_self)
    simp only [mergeS]
    exact small_mergeW _ ⟨by omega, by omega⟩ hm _ (fun l' hl' => small_mergeS hm r l' (fun p hp => ha p (List.mem_cons_of_mem _ (List.mem_cons_of_mem _ hp))) hl') l hl
theorem small_row (ls : List Int) (hl : ∀ z ∈ ls, 0 ≤ z ∧ z ≤ 1048576) : ∀ i, SmallIt (1048576 * 2 ^ i) (rowS ls i)
  | 0 => by
    intro p hp
    obtain ⟨z, hz, rfl⟩ := List.mem_map.1 (show p ∈ ls.map fun z => (z, false) from hp)
    have := hl z hz
    exact ⟨this.1, by show z ≤ 1048576 * 2 ^ 0; rw [Int.pow_zero]; omega⟩
  | i + 1 => by
    have h := small_row ls hl i
    have h1 : (1 : Int) ≤ 2 ^ i := by
      have : 1 ≤ 2 ^ i := Nat.one_le_two_pow
      have h2 : ((1 : Nat) : Int) ≤ ((2 ^ i : Nat) : Int) := Int.ofNat_le.2 this
      rwa [Int.natCast_pow] at h2
    have := small_mergeS (m := 1048576 * 2 ^ i) (by omega) (rowS ls i) ls h hl
    unfold rowS
    rw [Int.pow_succ, show (1048576 : Int) * (2 ^ i * 2) = 2 * (1048576 * 2 ^ i) by omega]
    exact this
theorem small_row50 (ls : List Int) (hl : ∀ z ∈ ls, 0 ≤ z ∧ z ≤ 1048576) (i : Nat) (hi : i ≤ 30) : SmallIt 1125899906842624 (rowS ls i) := by
  intro p hp
  have h := small_row ls hl i p hp
  have h2 : 2 ^ i ≤ 2 ^ 30 := Nat.pow_le_pow_right (by decide) hi
  have h3 : (2 : Int) ^ i ≤ 1073741824 := by
    have h4 : ((2 ^ i : Nat) : Int) ≤ ((1073741824 : Nat) : Int) := Int.ofNat_le.2 h2
    rwa [Int.natCast_pow] at h4
  exact ⟨h.1, by omega⟩

/-- One more at each place. -/
def bump (zs : List Int) (ps : List Nat) : List Int := ps.foldl (fun z p => z.set p (z.getD p 0 + 1)) zs
theorem bump_len (ps : List Nat) : ∀ zs, (bump zs ps).length = zs.length := by
  induction ps with
  | nil => intro zs; rfl
  | cons p r ih => intro zs; simp only [bump, List.foldl_cons] at ih ⊢; rw [ih]; simp
theorem bump_snoc (zs : List Int) (ps : List Nat) (p : Nat) : bump zs (ps ++ [p]) = (bump zs ps).set p ((bump zs ps).getD p 0 + 1) := by simp [bump, List.foldl_append]
/-- From row i - 1 on to the first. -/
def addL (ls : List Int) (ps : List Nat) : Nat → Nat → List Int → List Int
  | 0, _, zs => zs
  | i + 1, k, zs => addL ls ps i (2 * packedN ((rowS ls i).take k)) (bump zs (ps.take (k - packedN ((rowS ls i).take k))))
end Go.Proofs.YtfmjfgmbjdhogaaGreatDoor

namespace Go.Proofs.YtfmjfgmbjdhogaaGreatDoor
open Go.RowKit
set_option linter.unusedVariables false
set_option linter.unusedSimpArgs false

abbrev It := Int × Bool
def pairsL : List It → List Int
  | a :: b :: r => (a.1 + b.1) :: pairsL r
  | _ => []
def mrg : List Int → List Int → List It
  | [], ls => ls.map fun z => (z, false)
  | w :: P, ls => mergeW w (mrg P) ls
theorem mergeS_mrg : ∀ (ah : List It) (ls : List Int), mergeS ah ls = mrg (pairsL ah) ls
  | [], ls => rfl
  | [a], ls => rfl
  | a :: b :: r, ls => by
    have e : mergeS r = mrg (pairsL r) := funext (mergeS_mrg r)
    show mergeW (a.1 + b.1) (mergeS r) ls = mergeW (a.1 + b.1) (mrg (pairsL r)) ls
    rw [e]
theorem mrg_nil_cons (z : Int) (r : List Int) : mrg [] (z :: r) = (z, false) :: mrg [] r := rfl
theorem mrg_cons_nil (w : Int) (P : List Int) : mrg (w :: P) [] = (w, true) :: mrg P [] := rfl
theorem mrg_le (w z : Int) (P r : List Int) (h : z ≤ w) : mrg (w :: P) (z :: r) = (z, false) :: mrg (w :: P) r := by
  show mergeW w (mrg P) (z :: r) = (z, false) :: mergeW w (mrg P) r
  simp [mergeW, h]
theorem mrg_gt (w z : Int) (P r : List Int) (h : ¬ z ≤ w) : mrg (w :: P) (z :: r) = (w, true) :: mrg P (z :: r) := by
  show mergeW w (mrg P) (z :: r) = (w, true) :: mrg P (z :: r)
  simp [mergeW, h]
def sumW (T : List It) : Int := (T.map (·.1)).sum
def tk (l : List Int) (k : Nat) : Int := (l.take k).sum
theorem sumW_cons (a : It) (T : List It) : sumW (a :: T) = a.1 + sumW T := by simp [sumW]
theorem tk_zero (l : List Int) : tk l 0 = 0 := by simp [tk]
theorem tk_nil (k : Nat) : tk [] k = 0 := by simp [tk]
theorem tk_cons (a : Int) (l : List Int) (k : Nat) : tk (a :: l) (k + 1) = a + tk l k := by simp [tk]
theorem leafN_cons (a : It) (T : List It) : leafN (a :: T) = leafN T + (if a.2 then 0 else 1) := by
  unfold leafN; rw [List.countP_cons]; cases a.2 <;> simp
theorem packedN_cons (a : It) (T : List It) : packedN (a :: T) = packedN T + (if a.2 then 1 else 0) := by
  unfold packedN; rw [List.countP_cons]
def Srd (l : List Int) : Prop := l.Pairwise (· ≤ ·)

/-- What is taken of a merged row is the beginning of both. -/
theorem mrg_sum : ∀ (P ls : List Int) (k : Nat), sumW ((mrg P ls).take k) = tk ls (leafN ((mrg P ls).take k)) + tk P (packedN ((mrg P ls).take k)) := by
  intro P
  induction P with
  | nil =>
    intro ls
    induction ls with
    | nil => intro k; simp [mrg, sumW, tk_nil]
    | cons z r ih =>
      intro k
      cases k with
      | zero => simp [sumW, leafN, packedN, tk_zero]
      | succ k =>
        rw [mrg_nil_cons, List.take_succ_cons, sumW_cons, leafN_cons, packedN_cons, ih k]
        simp [tk_cons, tk_nil]
  | cons w P ihP =>
    intro ls
    induction ls with
    | nil =>
      intro k
      cases k with
      | zero => simp [sumW, leafN, packedN, tk_zero]
      | succ k =>
        rw [mrg_cons_nil, List.take_succ_cons, sumW_cons, leafN_cons, packedN_cons, ihP [] k]
        simp [tk_cons, tk_nil]
    | cons z r ih =>
      intro k
      cases k with
      | zero => simp [sumW, leafN, packedN, tk_zero]
      | succ k =>
        by_cases h : z ≤ w
        · rw [mrg_le _ _ _ _ h, List.take_succ_cons, sumW_cons, leafN_cons, packedN_cons, ih k]
          simp [tk_cons]; omega
        · rw [mrg_gt _ _ _ _ h, List.take_succ_cons, sumW_cons, leafN_cons, packedN_cons, ihP (z :: r) k]
          simp [tk_cons]; omega
theorem pairs_sum : ∀ (r : List It) (q : Nat), 2 * q ≤ r.length → sumW (r.take (2 * q)) = tk (pairsL r) q
  | r, 0, _ => by simp [sumW, tk]
  | [], q + 1, h => by simp at h; 
  | [a], q + 1, h => by simp at h; omega
  | a :: b :: r, q + 1, h => by
    have := pairs_sum r q (by simp only [List.length_cons] at h; omega)
    rw [show 2 * (q + 1) = 2 * q + 1 + 1 by omega, List.take_succ_cons, List.take_succ_cons, sumW_cons, sumW_cons, this]
    simp only [pairsL, tk_cons]; omega
theorem row_zero (ls : List Int) : rowS ls 0 = mrg [] ls := rfl
theorem row_succ (ls : List Int) (i : Nat) : rowS ls (i + 1) = mrg (pairsL (rowS ls i)) ls := mergeS_mrg _ _
/-- How much room so many leaves of each row take up, in the unit of the first row. -/
def wN (x : Nat → Nat) : Nat → Nat
  | 0 => 0
  | i + 1 => wN x i + x i * 2 ^ i
def cN (ls : List Int) (x : Nat → Nat) : Nat → Int
  | 0 => 0
  | i + 1 => cN ls x i + tk ls (x i)
end Go.Proofs.YtfmjfgmbjdhogaaGreatDoor

namespace Go.Proofs.YtfmjfgmbjdhogaaGreatDoor
open Go.RowKit
set_option linter.unusedVariables false
set_option linter.unusedSimpArgs false

theorem infoRw : (Tryz.prog.info? 241).map (fun i => (i.zero, i.size, i.bytes)) = some (some (.slice none 0 0), 1, 24) := by kernel_rfl
theorem own_cap2 {w : World} {base e s n cap : Nat} {ao : Option Addr} {xs : List Value} (h : w.ownsRow base e s (.slice ao n cap) n xs) : n ≤ cap ∧ cap ≤ maxLen := by
  rcases h.2 with ⟨hv, hn⟩ | ⟨g, c, cur, hv, _, _, h1, h2, _⟩
  · simp at hv; obtain ⟨_, rfl, rfl⟩ := hv; exact ⟨Nat.le_refl _, Nat.zero_le _⟩
  · simp at hv; obtain ⟨_, rfl⟩ := hv; exact ⟨h1, h2⟩
theorem own_some {w : World} {base e s n cap : Nat} {ao : Option Addr} {xs : List Value} (h : w.ownsRow base e s (.slice ao n cap) n xs) (hn : 0 < n) : ∃ g, ao = some ⟨g, 0, none⟩ := by
  rcases h.2 with ⟨hv, hn'⟩ | ⟨g, c, cur, hv, _, _, h1, h2, _⟩
  · omega
  · simp at hv; exact ⟨g, hv.1⟩

theorem Kept.trans' {S : Nat → Prop} {a b c : World} (h : Kept NoB a b) (k : Kept S b c) (hs : ∀ i, i < a.heap.size → S i → False) : Kept NoB a c :=
  ⟨k.os.trans h.os, k.tape.trans h.tape, k.output.trans h.output, Nat.le_trans h.size k.size, fun i hi _ => (k.block i (Nat.lt_of_lt_of_le hi h.size) (fun e => hs i hi e)).trans (h.block i hi (fun e => e))⟩
/-- The first j rows stand in block G. -/
structure RowsAt (w : World) (ls : List Int) (G limit j : Nat) (xs : List Value) : Prop where
  own : w.ownsRow 0 241 1 (.slice (some ⟨G, 0, none⟩) limit limit) limit xs
  rows : ∀ t, t < j → ∃ a c, xs[t]? = some (.slice a (rowS ls t).length c) ∧ OwnIt w a c (rowS ls t) ∧ (∀ k, (Value.slice a (rowS ls t).length c).ownBlock = some k → G < k)
theorem RowsAt.kept {S : Nat → Prop} {w w' : World} {ls : List Int} {G limit j : Nat} {xs : List Value} (h : RowsAt w ls G limit j xs) (hk : Kept S w w') (hs : ∀ k, G ≤ k → ¬ S k) : RowsAt w' ls G limit j xs :=
  ⟨hk.row h.own (fun k e => by simp [Value.ownBlock] at e; subst e; exact hs _ (Nat.le_refl _)),
   fun t ht => by
    obtain ⟨a, c, h1, h2, h3⟩ := h.rows t ht
    exact ⟨a, c, h1, hk.row h2 (fun k e => hs k (Nat.le_of_lt (h3 k e))), h3⟩⟩
theorem RowsAt.put {w1 w2 : World} {ls : List Int} {G limit j : Nat} {xs : List Value} {a : Option Addr} {c : Nat} (h : RowsAt w1 ls G limit j xs) (hr : RowSt w1 w2 a c (rowS ls j)) (hj : j < limit) (hG : G < w1.heap.size) :
    RowsAt (w2.setCell ⟨G, j, none⟩ (.slice a (rowS ls j).length c)) ls G limit (j + 1) (xs.set j (.slice a (rowS ls j).length c)) ∧ Kept (fun k => k = G) w1 (w2.setCell ⟨G, j, none⟩ (.slice a (rowS ls j).length c)) := by
  have h2 := h.kept hr.kept (fun _ _ h => h)
  obtain ⟨s1, s2⟩ := h2.own.stored j (.slice a (rowS ls j).length c)
  have hk2 : Kept (fun k => k = G) w2 (w2.setCell ⟨G, j, none⟩ (.slice a (rowS ls j).length c)) := (Kept.refl _ w2).grown s2 (fun k _ e => (Option.some.inj e).symm)
  have hlen : j < xs.length := by have := h.own.1; omega
  refine ⟨⟨s1, ?_⟩, (hr.kept.mono (fun _ _ h => h.elim)).trans hk2⟩
  intro t ht
  by_cases e : t = j
  · subst e
    refine ⟨a, c, by rw [List.getElem?_set_self hlen], hk2.row hr.own (fun k e hk => ?_), fun k e => ?_⟩
    · have := hr.fresh k e; omega
    · have := hr.fresh k e; omega
  · obtain ⟨a', c', h1, h3, h4⟩ := h2.rows t (by omega)
    exact ⟨a', c', by rw [List.getElem?_set_ne (by omega)]; exact h1, hk2.row h3 (fun k e hk => by have := h4 k e; omega), h4⟩

theorem packed_step (rs : List (Int × Bool)) (e : Nat) (h : e < rs.length) : packedN (rs.take (e + 1)) = packedN (rs.take e) + (if (rs.getD e (0, false)).2 then 1 else 0) := by
  have hg : rs.getD e (0, false) = rs[e] := by simp [List.getD, h]
  unfold packedN
  rw [List.take_succ_eq_append_getElem h, List.countP_append, hg]
  simp [List.countP_cons]
theorem place_at (lv : List (Int × Int)) (ps : List Nat) (h : lv.map (·.1) = ps.map (fun p : Nat => (p : Int))) (e : Nat) (he : e < lv.length) : (lv.getD e (0, 0)).1 = ((ps.getD e 0 : Nat) : Int) ∧ ps.getD e 0 ∈ ps ∧ ps.take (e + 1) = ps.take e ++ [ps.getD e 0] := by
  have hl : ps.length = lv.length := by have := congrArg List.length h; simp at this; exact this.symm
  have he' : e < ps.length := by omega
  have h1 : (lv.map (·.1))[e]? = (ps.map (fun p : Nat => (p : Int)))[e]? := by rw [h]
  have hg : ps.getD e 0 = ps[e] := by simp [List.getD, he']
  refine ⟨?_, ?_, ?_⟩
  · simpa [List.getD, he, he'] using h1
  · rw [hg]; exact List.getElem_mem he'
  · rw [List.take_succ_eq_append_getElem he', hg]

set_option maxRecDepth 20000 in
set_option maxHeartbeats 2000000 in
theorem addL_calls (lo : Option Addr) (lc gz B : Nat) (zs : List Int) (lv : List (Int × Int)) (ls : List Int) (ps : List Nat) (limit : Nat) (w : World)
    (hls : ls = lv.map (·.2)) (hps : lv.map (·.1) = ps.map (fun p : Nat => (p : Int))) (hz : w.ownsRow 0 3 1 (.slice (some ⟨gz, 0, none⟩) zs.length zs.length) zs.length (zs.map (.int .i64)))
    (hl : RdLf w B lo lv) (hB : B ≤ gz) (hsm : SmallL lv) (h2 : 2 ≤ lv.length) (hll : lv.length ≤ 1000) (hlm : lv.length ≤ 2 ^ limit) (hlim : 1 ≤ limit ∧ limit ≤ 15) (hlc : lv.length ≤ lc ∧ lc ≤ maxLen)
    (hp : ∀ p ∈ ps, p < zs.length) (hzs : ∀ z ∈ zs, 0 ≤ z ∧ z ≤ 1000) :
    Calls Tryz.prog 168 #[.slice (some ⟨gz, 0, none⟩) zs.length zs.length, .slice lo lv.length lc, .int .i64 (limit : Int)] w fun e w' => e = .returned (.tuple #[]) ∧ w'.ownsRow 0 3 1 (.slice (some ⟨gz, 0, none⟩) zs.length zs.length) zs.length ((addL ls ps limit (2 * lv.length - 2) zs).map (.int .i64)) ∧ Kept (fun k => k = gz) w w' := by
  have hsls : ∀ z ∈ ls, 0 ≤ z ∧ z ≤ 1048576 := by
    intro z hz'
    rw [hls] at hz'
    obtain ⟨p, hp', rfl⟩ := List.mem_map.1 hz'
    exact hsm p hp'
  have hnl : ls.length = lv.length := by rw [hls]; simp
  have hmS : ∀ (wr : World) (i : Nat) (a : Option Addr) (c : Nat), Kept NoB w wr → OwnIt wr a c (rowS ls i) → i ≤ 30 →
      Calls Tryz.prog 184 #[.slice lo lv.length lc, .slice a (rowS ls i).length c] wr fun e w' => ∃ a' c', e = .returned (.slice a' (rowS ls (i + 1)).length c') ∧ RowSt wr w' a' c' (rowS ls (i + 1)) := by
    intro wr i a c hk ho hi
    have := merged_calls lo a lc c B wr.heap.size lv (rowS ls i) wr (hl.kept hk) ho.reads hsm (small_row50 ls hsls i hi) hll (by have := rowS_le ls i; omega) (own_cap2 ho) hlc
    rw [← hls] at this
    exact this
  have hm0 : ∀ (wr : World) (j : Nat), j = 0 → Kept NoB w wr → Calls Tryz.prog 184 #[.slice lo lv.length lc, .slice none 0 0] wr fun e w' => ∃ a' c', e = .returned (.slice a' (rowS ls j).length c') ∧ RowSt wr w' a' c' (rowS ls j) := by
    intro wr j hj hk
    subst hj
    have := merged_calls lo none lc 0 B 0 lv [] wr (hl.kept hk) (fun i hi => by simp at hi) hsm (fun p hp => by cases hp) hll (by simp) ⟨by simp, by unfold maxLen; omega⟩ hlc
    rw [← hls] at this
    exact this
  have HMS := Lib.hid hmS; have HM0 := Lib.hid hm0
  have HLf := Lib.hid hl; have HZ := Lib.hid hz; have HPs := Lib.hid hps; have HP := Lib.hid hp; have HZs := Lib.hid hzs; have HNl := Lib.hid hnl
  have hgz : gz < w.heap.size := (hz.lt gz rfl).2
  obtain ⟨i0, hi, hz0, hz1, hz2⟩ := info_parts infoRw
  obtain ⟨R, hR⟩ : ∃ R, R = addL ls ps limit (2 * lv.length - 2) zs := ⟨_, rfl⟩
  rw [← hR]
  obtain ⟨n, hn⟩ : ∃ n, n = lv.length := ⟨_, rfl⟩
  rw [← hn] at hR
  have HRe := Lib.hid hR
  clear hR
  obtain ⟨m, hm⟩ : ∃ m, m = zs.length := ⟨_, rfl⟩
  obtain ⟨h3, h4⟩ := hlim
  have HLm := Lib.hid hlm
  have HN := Lib.hid hn; have HM := Lib.hid hm
  rw [← hn] at h2 hll hlc ⊢
  rw [← hn] at HMS HM0
  rw [← hm]
  clear hmS hm0 hl hz hps hp hzs hnl hls hsls hsm hlm hn hm
  go_enter Tryz.func168, Tryz.ntmps168
  go_wp2_with (at_make; refine wpList_make_full _ rfl _ _ _ rfl 0 241 i0 (.slice none 0 0) 1 Tryz.underlying240 hi hz0 hz1 .i64 .i64 _ _ limit rfl rfl rfl rfl (by rw [hz2]; omega) (by unfold maxLen; omega) (Nat.zero_le _) ?_)
  intro w1 hown hgrow
  have hk1 : Kept NoB w w1 := (Kept.refl _ _).grown hgrow (fun k _ e => by cases e)
  have hG1 : w.heap.size < w1.heap.size := by have := (hown.lt w.heap.size rfl).2; omega
  obtain ⟨G, hG⟩ : ∃ G, G = w.heap.size := ⟨_, rfl⟩
  rw [← hG] at hown hG1 hgz ⊢
  have hr1 : RowsAt w1 ls G limit 0 (madeCells #[Value.slice none 0 0] limit).toList := ⟨hown, fun t ht => by omega⟩
  have HR1 := Lib.hid hr1; have HK1 := Lib.hid hk1; have HG := Lib.hid hG
  clear hr1 hown hgrow hk1 hG
  go_wp2
  go_loopw [20, 7, 8] (fun v20 _v7 _v8 wr => ∃ (j : Nat) (xs : List Value), v20 = .int .i64 (j : Int) ∧ j ≤ limit ∧ Hid (RowsAt wr ls G limit j xs) ∧ Hid (Kept NoB w wr) ∧ G < wr.heap.size) (fun v20 _ _ _ => limit - (intOf v20).toNat)
  case atStart => exact ⟨0, _, rfl, by omega, HR1, HK1, hG1⟩
  case round =>
    clear HR1 HK1 hG1
    obtain ⟨j, xs, rfl, hj, HR, HK, hGs⟩ := hrel
    by_cases hlt : (j : Int) < limit
    · have hcj : ∃ u, wr.cell? ⟨G, j, none⟩ = some u := by
        rw [HR.out.own.cellAt j (by omega)]
        exact ⟨_, List.getElem?_eq_getElem (by have := HR.out.own.1; omega)⟩
      obtain ⟨u, hu⟩ := hcj
      have hfj := HR.out.own.frozenAt j
      have hjl : j < limit := by omega
      by_cases hj0 : j = 0
      · have hnp : ¬ 0 < (j : Int) := by omega
        have hm := HM0.out wr j hj0 HK.out
        have HMj := Lib.hid hm
        clear hm hj0
        go_wp2_with fail
        refine HMj.out.mono ?_
        rintro e w2 ⟨a', c', rfl, hst⟩
        obtain ⟨hput, hkp⟩ := HR.out.put hst hjl hGs
        have hf2 : w2.frozen? ⟨G, j, none⟩ = false := (HR.out.kept hst.kept (fun _ _ h => h)).own.frozenAt j
        have hu2 := hst.kept.cell hu
        have HPut := Lib.hid hput
        have HK3 : Hid (Kept NoB w (w2.setCell ⟨G, j, none⟩ (.slice a' (rowS ls j).length c'))) := Lib.hid (HK.out.trans' hkp (fun k hk e => by have := HG.out; omega))
        have hGs3 : G < (w2.setCell ⟨G, j, none⟩ (.slice a' (rowS ls j).length c')).heap.size := Nat.lt_of_lt_of_le hGs hkp.size
        clear hput hst hkp
        go_wp2
        go_roundw
        case rel => exact ⟨j + 1, _, by go_num, by omega, HPut, HK3, hGs3⟩
        case measure => simp [intOf]; omega
      · obtain ⟨i, rfl⟩ : ∃ i, j = i + 1 := ⟨j - 1, by omega⟩
        obtain ⟨a, c, hx, ho, hfr⟩ := HR.out.rows i (by omega)
        have hci : wr.cell? ⟨G, i, none⟩ = some (.slice a (rowS ls i).length c) := by
          rw [HR.out.own.cellAt i (by omega)]; exact hx
        have hm := HMS.out wr i a c HK.out ho (by omega)
        have HMj := Lib.hid hm
        clear hm hj0 ho hfr hx
        go_wp2_with fail
        refine HMj.out.mono ?_
        rintro e w2 ⟨a', c', rfl, hst⟩
        obtain ⟨hput, hkp⟩ := HR.out.put hst hjl hGs
        have hf2 : w2.frozen? ⟨G, i + 1, none⟩ = false := (HR.out.kept hst.kept (fun _ _ h => h)).own.frozenAt (i + 1)
        have hu2 := hst.kept.cell hu
        have HPut := Lib.hid hput
        have HK3 : Hid (Kept NoB w (w2.setCell ⟨G, i + 1, none⟩ (.slice a' (rowS ls (i + 1)).length c'))) := Lib.hid (HK.out.trans' hkp (fun k hk e => by have := HG.out; omega))
        have hGs3 : G < (w2.setCell ⟨G, i + 1, none⟩ (.slice a' (rowS ls (i + 1)).length c')).heap.size := Nat.lt_of_lt_of_le hGs hkp.size
        clear hput hst hkp
        go_wp2
        go_roundw
        case rel => exact ⟨i + 1 + 1, _, by go_num, by omega, HPut, HK3, hGs3⟩
        case measure => simp [intOf]; omega
    · have hjl : j = limit := by omega
      subst hjl
      rename World => W3
      have hown3 := HK.out.row HZ.out (fun _ _ h => h)
      rw [← HM.out] at hown3
      have HO3 := Lib.hid hown3
      have hk0 : ∀ t, j = t + 1 → 2 * n - 2 ≤ (rowS ls t).length := fun t ht => by
        have h := rowS_room ls j h3 (by rw [HNl.out]; exact HLm.out)
        rw [HNl.out, ← HN.out, show j - 1 = t by omega] at h
        exact h
      have HK0 := Lib.hid hk0
      have hpl : ps.length = n := by have := congrArg List.length HPs.out; simp at this; rw [HN.out]; exact this.symm
      have HPl := Lib.hid hpl
      clear hown3 hk0 hpl hlt
      go_wp2
      go_loopw [9, 10, 11, 13, 15] (fun v9 v10 _v11 _v13 _v15 wr => ∃ (i k : Nat) (ys : List Int), v9 = .int .i64 (k : Int) ∧ v10 = .int .i64 ((i : Int) - 1) ∧ i ≤ j ∧ k ≤ 2 * n ∧ Hid (∀ t, i = t + 1 → k ≤ (rowS ls t).length) ∧ Hid (ys.length = m) ∧ Hid (wr.ownsRow 0 3 1 (.slice (some ⟨gz, 0, none⟩) m m) m (ys.map (.int .i64))) ∧ Hid (∀ z ∈ ys, 0 ≤ z ∧ z ≤ 1000 + 1000 * ((j : Int) - (i : Int))) ∧ Hid (addL ls ps i k ys = R) ∧ Hid (Kept (fun q => q = gz) W3 wr)) (fun _ v10 _ _ _ _ => (intOf v10 + 1).toNat)
      case atStart => exact ⟨j, 2 * n - 2, zs, by congr 1; omega, rfl, by omega, by omega, HK0, Lib.hid HM.out.symm, HO3, Lib.hid (fun z hz => by have := HZs.out z hz; omega), Lib.hid HRe.out.symm, Lib.hid (Kept.refl _ _)⟩
      case round =>
        clear HO3 HRe HK0
        obtain ⟨i, k, ys, rfl, rfl, hij, hk2n, HKr, HYl, HO, HYb, HX, HKz⟩ := hrel
        by_cases hi0 : i = 0
        · subst hi0
          have hR : R = ys := HX.out.symm
          have HRe := Lib.hid hR
          clear hR
          go_wp2
          go_end0
          exact ⟨rfl, by rw [HRe.out]; exact HO.out, (HK.out.mono (fun _ _ h => h.elim)).trans HKz.out⟩
        · obtain ⟨t, rfl⟩ : ∃ t, i = t + 1 := ⟨i - 1, by omega⟩
          have hRw := HR.out.kept HKz.out (fun k hk e => by have := HG.out; omega)
          obtain ⟨a, c, hx, ho, hfr⟩ := hRw.rows t (by omega)
          have hci : wr.cell? ⟨G, t, none⟩ = some (.slice a (rowS ls t).length c) := by
            rw [hRw.own.cellAt t (by omega)]; exact hx
          have hge : n ≤ (rowS ls t).length := by
            have h1 := leafs_row ls t
            have h2 := packed_leaf (rowS ls t)
            have h3 := HNl.out
            have h4 := HN.out
            omega
          obtain ⟨g, rfl⟩ := own_some ho (by omega)
          have hkL := HKr.out t rfl
          have hLc := (own_cap2 ho).1
          obtain ⟨q1, q2, q3, q4⟩ := chosen_ok ls t k hkL
          have HRd := Lib.hid ho.reads
          have hxx := HX.out
          unfold addL at hxx
          obtain ⟨P, hP⟩ : ∃ P, P = packedN ((rowS ls t).take k) := ⟨_, rfl⟩
          rw [← hP] at q1 q2 q3 q4 hxx
          rw [HNl.out, ← HN.out] at q1
          have h2P : 2 * P ≤ 2 * n := by
            rcases Nat.eq_zero_or_pos t with h | h
            · have := q3 h; omega
            · have h5 := q4 (t - 1) (by omega)
              have h6 := rowS_le ls (t - 1)
              rw [HNl.out, ← HN.out] at h6
              omega
          have HPe := Lib.hid hP; have HXx := Lib.hid hxx; have HQ4 := Lib.hid q4
          obtain ⟨L, hL⟩ : ∃ L, L = (rowS ls t).length := ⟨_, rfl⟩
          have HL := Lib.hid hL
          rw [← hL] at hci hge hkL hLc
          clear hP hxx q4 hRw ho hfr hx hL HX
          go_wp2
          go_loopw [11, 54, 13] (fun v11 v54 _v13 wx => ∃ e N : Nat, v54 = .int .i64 (e : Int) ∧ e ≤ k ∧ v11 = .int .i64 (N : Int) ∧ N ≤ e ∧ Hid (N = packedN ((rowS ls t).take e)) ∧ Hid (Kept NoB wr wx)) (fun _ v54 _ _ => k - (intOf v54).toNat)
          case atStart => exact ⟨0, 0, rfl, by omega, rfl, by omega, Lib.hid rfl, Kept.refl _ _⟩
          case round =>
            obtain ⟨e, N, rfl, hek, rfl, hNe, HNP, HKx⟩ := hrel
            by_cases hlt : (e : Int) < k
            · obtain ⟨g', off', he, _, hw0, hb0⟩ := HRd.out e (by have := HL.out; omega)
              cases he
              have hw1 := HKx.out.cell hw0
              have hb1 := HKx.out.cell hb0
              have hps := packed_step (rowS ls t) e (by have := HL.out; omega)
              rw [← HNP.out] at hps
              obtain ⟨x, hx⟩ : ∃ x, x = ((rowS ls t).getD e (0, false)).1 := ⟨_, rfl⟩
              obtain ⟨b, hb⟩ : ∃ b, b = ((rowS ls t).getD e (0, false)).2 := ⟨_, rfl⟩
              rw [← hx, Nat.zero_add] at hw1
              rw [← hb, Nat.zero_add] at hb1
              rw [← hb] at hps
              have HPs2 := Lib.hid hps
              clear hw0 hb0 hx hb hps
              cases b
              · go_wp2
                go_roundw
                case rel => exact ⟨e + 1, N, by go_num, by omega, rfl, by omega, Lib.hid HPs2.out.symm, HKx.out.alloc _⟩
                case measure => simp [intOf]; omega
              · go_wp2
                go_roundw
                case rel => exact ⟨e + 1, N + 1, by go_num, by omega, by go_num, by omega, Lib.hid HPs2.out.symm, HKx.out.alloc _⟩
                case measure => simp [intOf]; omega
            · have hke : e = k := by omega
              subst hke
              have hNP : N = P := by rw [HNP.out, HPe.out]
              subst hNP
              obtain ⟨q, hq⟩ : ∃ q : Nat, q = e - N := ⟨_, rfl⟩
              have hql : e - N ≤ lc := by omega
              rw [← hq] at HXx
              obtain ⟨gl, ofl, rfl, hglB, _⟩ := HLf.out 0 (by have := HN.out; omega)
              have HKw : Hid (Kept (fun q => q = gz) W3 wr) := Lib.hid (HKz.out.trans (HKx.out.mono (fun _ _ h => h.elim)))
              have HOw : Hid (wr.ownsRow 0 3 1 (.slice (some ⟨gz, 0, none⟩) m m) m (ys.map (.int .i64))) := Lib.hid (HKx.out.row HO.out (fun _ _ h => h))
              clear HKx HNP HO HKz hlt hNe hci HRd
              go_wp2
              go_loopw [69, 15] (fun v69 _v15 wx => ∃ (f : Nat) (ys' : List Int), v69 = .int .i64 (f : Int) ∧ f ≤ q ∧ Hid (ys' = bump ys (ps.take f)) ∧ Hid (wx.ownsRow 0 3 1 (.slice (some ⟨gz, 0, none⟩) m m) m (ys'.map (.int .i64))) ∧ Hid (∀ z ∈ ys', 0 ≤ z ∧ z ≤ 1000 + 1000 * ((j : Int) - ((t : Int) + 1)) + f) ∧ Hid (Kept (fun q => q = gz) W3 wx)) (fun v69 _ _ => q - (intOf v69).toNat)
              case atStart => exact ⟨0, ys, rfl, by omega, Lib.hid rfl, HOw, Lib.hid (fun z hz => by have := HYb.out z hz; omega), HKw⟩
              case round =>
                clear HOw HKw
                obtain ⟨f, ys', rfl, hfq, HB, HO, HYb', HKx⟩ := hrel
                by_cases hlt : (f : Int) < q
                · obtain ⟨g', off', he, hgB, hp0, hz0'⟩ := HLf.out f (by have := HN.out; omega)
                  cases he
                  obtain ⟨r1, r2, r3⟩ := place_at lv ps HPs.out f (by have := HN.out; omega)
                  obtain ⟨p, hp⟩ : ∃ p, p = ps.getD f 0 := ⟨_, rfl⟩
                  rw [← hp] at r1 r2 r3
                  rw [r1] at hp0
                  have hpm : p < m := by rw [HM.out]; exact HP.out p r2
                  obtain ⟨z, hz⟩ : ∃ z, z = (lv.getD f (0, 0)).2 := ⟨_, rfl⟩
                  rw [← hz] at hz0'
                  have hne : ∀ k, k < B → ¬ (fun q => q = gz) k := fun k hk e => by omega
                  have hyl : ys'.length = m := by rw [HB.out, bump_len, HYl.out]
                  have hcell : wr.cell? ⟨gz, p, none⟩ = some (.int .i64 (ys'.getD p 0)) := by
                    rw [HO.out.cellAt p (by omega)]; simp [List.getD, show p < ys'.length by omega]
                  have hfz := HO.out.frozenAt p
                  have hbz : 0 ≤ ys'.getD p 0 ∧ ys'.getD p 0 ≤ 1000 + 1000 * ((j : Int) - ((t : Int) + 1)) + f := by
                    have hpl : p < ys'.length := by omega
                    have : ys'.getD p 0 = ys'[p] := by simp [List.getD, hpl]
                    rw [this]; exact HYb'.out _ (List.getElem_mem hpl)
                  have hB2 : ys'.set p (ys'.getD p 0 + 1) = bump ys (ps.take (f + 1)) := by rw [r3, bump_snoc, ← HB.out]
                  have hpc := (World.cell?_of_block (HKx.out.block _ (Nat.lt_of_lt_of_le (World.block_lt_of_cell? _ _ (HK.out.cell hp0)) (Nat.le_refl _)) (hne gl hgB))).trans (HK.out.cell hp0)
                  have hzc := (World.cell?_of_block (HKx.out.block _ (Nat.lt_of_lt_of_le (World.block_lt_of_cell? _ _ (HK.out.cell hz0')) (Nat.le_refl _)) (hne gl hgB))).trans (HK.out.cell hz0')
                  obtain ⟨y, hy⟩ : ∃ y, y = ys'.getD p 0 := ⟨_, rfl⟩
                  rw [← hy] at hcell hbz hB2
                  have hst := HO.out.stored p (.int .i64 (y + 1))
                  have hset : (ys'.map (Value.int .i64)).set p (.int .i64 (y + 1)) = (ys'.set p (y + 1)).map (Value.int .i64) := by rw [List.map_set]
                  rw [hset] at hst
                  have HSt := Lib.hid (hst.1.alloc (.cells #[.int .i64 (p : Int), .int .i64 z] 226)); have HB2 := Lib.hid hB2
                  have HBd : Hid (∀ z ∈ ys'.set p (y + 1), 0 ≤ z ∧ z ≤ 1000 + 1000 * ((j : Int) - ((t : Int) + 1)) + ((f + 1 : Nat) : Int)) := Lib.hid (fun z hz => by
                    rcases List.mem_or_eq_of_mem_set hz with h | rfl
                    · have := HYb'.out z h; omega
                    · omega)
                  have HK5 : Hid (Kept (fun q => q = gz) W3 ((wr.setCell ⟨gz, p, none⟩ (.int .i64 (y + 1))).alloc (.cells #[.int .i64 (p : Int), .int .i64 z] 226))) := Lib.hid ((HKx.out.setCell (p := ⟨gz, p, none⟩) (.inl rfl) _).alloc _)
                  have hgw : gz < wr.heap.size := (HO.out.lt gz rfl).2
                  clear hst hset hB2 hz hp r1 r2 r3 hne hp0 hz0' HO HKx hy
                  go_wp2
                  go_roundw
                  case rel => exact ⟨f + 1, ys'.set p (y + 1), by go_num, by omega, HB2, HSt, HBd, HK5⟩
                  case measure => simp [intOf]; omega
                · have hfe : f = q := by omega
                  subst hfe
                  have hyl : ys'.length = m := by rw [HB.out, bump_len, HYl.out]
                  have hX2 : addL ls ps t (2 * N) ys' = R := by rw [HB.out]; exact HXx.out
                  go_wp2
                  go_roundw
                  case rel => exact ⟨t, 2 * N, ys', by go_num, rfl, by omega, h2P, HQ4, Lib.hid hyl, HO, Lib.hid (fun z hz => by have := HYb'.out z hz; omega), Lib.hid hX2, HKx⟩
                  case measure => simp [intOf]

end Go.Proofs.YtfmjfgmbjdhogaaGreatDoor
