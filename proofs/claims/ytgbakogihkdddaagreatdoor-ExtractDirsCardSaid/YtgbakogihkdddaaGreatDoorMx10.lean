/-
  Pieces that a write touches, on paper, beside where their bytes lie.
  What was written of a file, in memory: what a touching write leaves.
-/
import Derived.Test.YtgbakogihkdddaaGreatDoorMx9
namespace Go.Proofs.YtgbakogihkdddaaGreatDoor
set_option linter.unusedVariables false
set_option linter.unusedSimpArgs false

theorem fcells_at2 (qs : List FpQ) (i : Nat) (q : FpQ) (h : qs[i]? = some q) : (fcells qs)[i * 2]? = some (.int .i64 q.1.1) ∧ (fcells qs)[i * 2 + 1]? = some (.slice q.2.1 q.1.2.length q.2.2) := by
  obtain ⟨hi, rfl⟩ := List.getElem?_eq_some_iff.1 h
  exact fcells_at qs i hi
/-- The pieces qs, those touched from qf to ql. -/
structure Tch (qs : List FpQ) (k : Int) (bs : List UInt8) (QA : List FpQ) (qf : FpQ) (QR QB QY : List FpQ) (ql : FpQ) : Prop where
  all : qs = QA ++ (qf :: QR) ++ QB
  last : qf :: QR = QY ++ [ql]
  ahead : aheadP (qs.map Prod.fst) k = QA.map Prod.fst
  touch : touchP (qs.map Prod.fst) k (k + bs.length) = (qf :: QR).map Prod.fst
  behind : behindP (qs.map Prod.fst) k (k + bs.length) = QB.map Prod.fst
  join : joinP ((qf :: QR).map Prod.fst) k bs = (min qf.1.1 k, qf.1.2.take (k - qf.1.1).toNat ++ bs ++ ql.1.2.drop (k + bs.length - ql.1.1).toNat)
  first : k ≤ endP qf.1 ∧ qf.1.1 ≤ k + bs.length ∧ 0 ≤ qf.1.1 ∧ endP qf.1 ≤ 1099511627776
  lasts : k ≤ endP ql.1 ∧ ql.1.1 ≤ k + bs.length ∧ 0 ≤ ql.1.1 ∧ endP ql.1 ≤ 1099511627776
  rise : QR.Pairwise (fun _ _ => True) ∧ ∀ p ∈ QR, endP qf.1 < p.1.1
theorem map_split {l : List FpQ} {a b : List Fp} (h : l.map Prod.fst = a ++ b) : ∃ x y, l = x ++ y ∧ x.map Prod.fst = a ∧ y.map Prod.fst = b := List.map_eq_append_iff.1 h
theorem tch_of {qs : List FpQ} {k : Int} {bs : List UInt8} (hl : OkD (qs.map Prod.fst)) (ht : touchP (qs.map Prod.fst) k (k + bs.length) ≠ []) : ∃ QA qf QR QB QY ql, Tch qs k bs QA qf QR QB QY ql := by
  have hs := split3 (qs.map Prod.fst) k (k + bs.length)
  obtain ⟨QA, Q2, e1, e2, e3⟩ := map_split hs
  obtain ⟨QM, QB, e4, e5, e6⟩ := map_split e3
  subst e4
  obtain ⟨f, z, r, y, j1, j2, j3⟩ := join_some ht k bs
  have hte := touch_end hl k (k + bs.length)
  cases QM with
  | nil => rw [List.map_nil] at e5; exact absurd e5.symm ht
  | cons qf QR =>
    have hne : qf :: QR ≠ [] := by simp
    have hlast := (List.dropLast_concat_getLast hne).symm
    obtain ⟨QY, ql, hq⟩ : ∃ QY ql, qf :: QR = QY ++ [ql] := ⟨_, _, hlast⟩
    have hf : qf.1 = f := by
      rw [← e5, List.map_cons] at j1
      exact (List.cons.inj j1).1
    have hz : ql.1 = z := by
      rw [← e5, hq, List.map_append, List.map_cons, List.map_nil] at j2
      have := List.append_inj_right' j2 rfl
      exact (List.cons.inj this).1
    have hmem : ∀ p ∈ qf :: QR, p.1 ∈ touchP (qs.map Prod.fst) k (k + bs.length) := fun p hp => by rw [← e5]; exact List.mem_map.2 ⟨p, hp, rfl⟩
    have hql : ql ∈ qf :: QR := by rw [hq]; simp
    have hin : ∀ p ∈ qf :: QR, p.1 ∈ qs.map Prod.fst := fun p hp => List.mem_map.2 ⟨p, by rw [e1]; simp only [List.mem_append]; exact .inr (.inl hp), rfl⟩
    have hok : ∀ p ∈ qf :: QR, 0 ≤ p.1.1 ∧ endP p.1 ≤ 1099511627776 := fun p hp => by
      have := hl.each _ (hin p hp)
      exact ⟨this.1, this.2.2⟩
    refine ⟨QA, qf, QR, QB, QY, ql, ⟨by rw [e1, List.append_assoc], hq, e2.symm, e5.symm, e6.symm, ?_, ?_, ?_, List.pairwise_of_forall (fun _ _ => trivial), ?_⟩⟩
    · rw [e5, j3, hf, hz]
    · have h1 := hte _ (hmem qf (by simp))
      have h2 := hok qf (by simp)
      exact ⟨h1.1, h1.2, h2.1, h2.2⟩
    · have h1 := hte _ (hmem ql hql)
      have h2 := hok ql hql
      exact ⟨h1.1, h1.2, h2.1, h2.2⟩
    · intro p hp
      have h1 := hl.apart
      rw [e1, List.map_append, List.map_append, List.pairwise_append] at h1
      have h2 := h1.2.1
      rw [List.pairwise_append] at h2
      have h3 := h2.1
      rw [List.map_cons, List.pairwise_cons] at h3
      exact h3.1 _ (List.mem_map.2 ⟨p, hp, rfl⟩)
theorem Tch.one {qs : List FpQ} {k : Int} {bs : List UInt8} {QA : List FpQ} {qf : FpQ} {QR QB QY : List FpQ} {ql : FpQ} (h : Tch qs k bs QA qf QR QB QY ql) (hl : OkD (qs.map Prod.fst)) (hs : k + bs.length ≤ endP qf.1) : QR = [] ∧ ql = qf := by
  have hR : QR = [] := by
    cases QR with
    | nil => rfl
    | cons p t =>
      exfalso
      have h1 := h.rise.2 p (by simp)
      have h2 := touch_end hl k (k + bs.length) p.1 (by rw [h.touch]; simp)
      omega
  refine ⟨hR, ?_⟩
  have := h.last
  rw [hR] at this
  have e : QY = [] ∧ [qf] = [ql] := by
    cases QY with
    | nil => exact ⟨rfl, this⟩
    | cons x t =>
      have := congrArg List.length this
      simp at this
  exact (List.cons.inj e.2).1.symm
/-- The last one is not the first, where it reaches farther. -/
theorem Tch.far {qs : List FpQ} {k : Int} {bs : List UInt8} {QA : List FpQ} {qf : FpQ} {QR QB QY : List FpQ} {ql : FpQ} (h : Tch qs k bs QA qf QR QB QY ql) (hs : endP qf.1 < endP ql.1) : ql ∈ QR := by
  have hm : ql ∈ qf :: QR := by rw [h.last]; simp
  rcases List.mem_cons.1 hm with e | e
  · subst e; omega
  · exact e
theorem Tch.put {qs : List FpQ} {k : Int} {bs : List UInt8} {QA : List FpQ} {qf : FpQ} {QR QB QY : List FpQ} {ql : FpQ} (h : Tch qs k bs QA qf QR QB QY ql) :
    putP (qs.map Prod.fst) k bs = QA.map Prod.fst ++ (min qf.1.1 k, qf.1.2.take (k - qf.1.1).toNat ++ bs ++ ql.1.2.drop (k + bs.length - ql.1.1).toNat) :: QB.map Prod.fst := by
  unfold putP
  rw [h.ahead, h.touch, h.behind, h.join]
theorem Tch.at {qs : List FpQ} {k : Int} {bs : List UInt8} {QA : List FpQ} {qf : FpQ} {QR QB QY : List FpQ} {ql : FpQ} (h : Tch qs k bs QA qf QR QB QY ql) :
    qs[QA.length]? = some qf ∧ qs[QA.length + QR.length]? = some ql ∧ qs.take QA.length = QA ∧ qs.drop (QA.length + (QR.length + 1)) = QB ∧ QA.length + (QR.length + 1) ≤ qs.length := by
  refine ⟨?_, ?_, ?_, ?_, ?_⟩
  · rw [h.all, List.append_assoc, List.getElem?_append_right (Nat.le_refl _), Nat.sub_self]; rfl
  · have hy : QY.length = QR.length := by have := congrArg List.length h.last; simp at this; omega
    rw [h.all, h.last, List.append_assoc, List.getElem?_append_right (by omega), List.append_assoc, List.getElem?_append_right (by omega)]
    rw [show QA.length + QR.length - QA.length - QY.length = 0 by omega]; rfl
  · rw [h.all, List.append_assoc, List.take_left]
  · have e : QA.length + (QR.length + 1) = (QA ++ qf :: QR).length := by simp
    rw [e, h.all, List.drop_left]
  · rw [h.all]; simp
end Go.Proofs.YtgbakogihkdddaaGreatDoor

namespace Go.Proofs.YtgbakogihkdddaaGreatDoor
open Go.RowKit
set_option linter.unusedVariables false
set_option linter.unusedSimpArgs false
set_option maxRecDepth 20000

/-- The block of a piece's bytes. -/
def pcB (q : FpQ) : Option Nat := (Value.slice q.2.1 q.1.2.length q.2.2).ownBlock
theorem put_fin {w w' : World} {D g c : Nat} {cs : Array Value} {qs : List FpQ} {k : Int} {bs : List UInt8} {QA : List FpQ} {qf : FpQ} {QR QB QY : List FpQ} {ql : FpQ} (hT : Tch qs k bs QA qf QR QB QY ql) (hd : DatO w (some ⟨g, 0, none⟩) c qs) (hx : ∀ j, BytB qs j → j ≠ D)
    (q : FpQ) (hq : q.1 = (min qf.1.1 k, qf.1.2.take (k - qf.1.1).toNat ++ bs ++ ql.1.2.drop (k + bs.length - ql.1.1).toNat)) (n' : Nat) (hn : n' = QA.length + 1 + QB.length)
    (hD' : w'.heap[D]? = some (.cells (cs.setIfInBounds 13 (.slice (some ⟨g, 0, none⟩) n' c)) 63 (0, 0)))
    (hrow : w'.ownsRow 0 40 2 (.slice (some ⟨g, 0, none⟩) n' c) n' (fcells (QA ++ q :: QB)))
    (hqr : w'.ownsRow 0 5 1 (.slice q.2.1 q.1.2.length q.2.2) q.1.2.length (bc q.1.2)) (hqb : ∀ j, pcB q = some j → pcB qf = some j ∨ w.heap.size ≤ j)
    (hk : Kept (fun j => j = D ∨ j = g ∨ pcB qf = some j) w w') : PutP w D cs (some ⟨g, 0, none⟩) c qs k bs (.returned (.tuple #[])) w' := by
  have hln : (QA ++ q :: QB).length = n' := by rw [hn]; simp; omega
  have hall := hT.all
  have hmem : ∀ x, x ∈ QA ++ q :: QB → x = q ∨ x ∈ QA ∨ x ∈ QB := fun x hx => by
    simp only [List.mem_append, List.mem_cons] at hx
    rcases hx with h | h | h
    · exact .inr (.inl h)
    · exact .inl h
    · exact .inr (.inr h)
  have hin : ∀ x, x ∈ QA ∨ x ∈ QB → x ∈ qs := fun x hx => by
    rw [hall]; simp only [List.mem_append]
    rcases hx with h | h
    · exact .inl (.inl h)
    · exact .inr h
  have hqf : qf ∈ qs := by rw [hall]; simp
  have hap := hd.apart
  rw [hall, List.append_assoc, List.pairwise_append] at hap
  obtain ⟨pA, pB, pAB⟩ := hap
  rw [List.pairwise_append] at pB
  obtain ⟨pM, pBB, pMB⟩ := pB
  -- the others' blocks are apart from the first touched one's
  have hoth : ∀ x, x ∈ QA ∨ x ∈ QB → ∀ j, pcB x = some j → pcB qf ≠ some j := fun x hx j hj e => by
    rcases hx with h | h
    · exact pAB x h qf (by simp) j hj e
    · exact pMB qf (by simp) x h j e hj
  have hold : ∀ x ∈ qs, ∀ j, pcB x = some j → j < w.heap.size := fun x hx j hj => ((hd.each x hx).lt j hj).2
  have hgb : ∀ x ∈ qs, ∀ j, pcB x = some j → j ≠ g := fun x hx j hj e => row_byt hd ⟨x, hx, hj⟩ (by rw [e]; rfl)
  have hkx : ∀ x, x ∈ QA ∨ x ∈ QB → ∀ j, pcB x = some j → ¬ (j = D ∨ j = g ∨ pcB qf = some j) := fun x hx2 j hj e => by
    rcases e with e | e | e
    · exact hx j ⟨x, hin x hx2, hj⟩ e
    · exact hgb x (hin x hx2) j hj e
    · exact hoth x hx2 j hj e
  have hqx : ∀ x, x ∈ QA ∨ x ∈ QB → ∀ j, pcB x = some j → pcB q ≠ some j := fun x hx2 j hj e => by
    rcases hqb j e with h | h
    · exact hoth x hx2 j hj h
    · have := hold x (hin x hx2) j hj; omega
  refine ⟨rfl, some ⟨g, 0, none⟩, c, QA ++ q :: QB, ?_, by rw [hln]; exact hD', ⟨by rw [hln]; exact hrow, fun x hx2 => ?_, ?_⟩, fun j hj => .inl (by rw [← hj]; rfl), fun j hj => ?_, hk.mono (fun j _ e => ?_)⟩
  · rw [hT.put, List.map_append, List.map_cons, hq]
  · rcases hmem x hx2 with rfl | h
    · exact hqr
    · exact hk.row (hd.each x (hin x h)) (fun j hj => hkx x h j hj)
  · rw [List.pairwise_append]
    refine ⟨pA, ?_, fun x hx2 y hy j hj => ?_⟩
    · rw [List.pairwise_cons]
      exact ⟨fun x hx2 j hj e => hqx x (.inr hx2) j e hj, pBB⟩
    · rw [List.mem_cons] at hy
      rcases hy with rfl | h
      · exact hqx x (.inl hx2) j hj
      · exact pAB x hx2 y (by simp [h]) j hj
  · obtain ⟨x, hx2, hj2⟩ := hj
    rcases hmem x hx2 with rfl | h
    · rcases hqb j hj2 with h2 | h2
      · exact .inl ⟨qf, hqf, h2⟩
      · exact .inr h2
    · exact .inl ⟨x, hin x h, hj2⟩
  · rcases e with e | e | e
    · exact .inl e
    · exact .inr (.inl (by rw [e]; rfl))
    · exact .inr (.inr ⟨qf, hqf, e⟩)
/-- Bytes over a row's own. -/
def ovB (x : List UInt8) (P : Nat) (bs : List UInt8) : List UInt8 := x.take P ++ bs ++ x.drop (P + bs.length)
theorem ovB_len (x : List UInt8) (P : Nat) (bs : List UInt8) (h : P + bs.length ≤ x.length) : (ovB x P bs).length = x.length := by
  unfold ovB; simp; omega
theorem bc_len (x : List UInt8) : (bc x).length = x.length := by simp [bc]
theorem bc_app (x y : List UInt8) : bc (x ++ y) = bc x ++ bc y := by simp [bc]
theorem bc_one (x : List UInt8) : ∀ v ∈ bc x, v.oneCell' = true := fun v hv => by
  obtain ⟨b, _, rfl⟩ := List.mem_map.1 hv; rfl
theorem reads_cells {w : World} {ab : Option Addr} {bs : List UInt8} (h : Reads w ab (nb bs)) (hb : bs ≠ []) : ∃ x, ab = some x ∧ ∀ j v, (bc bs)[j]? = some v → w.cell? (x.add j) = some v := by
  cases ab with
  | none =>
    have := h.1 rfl
    rw [← List.length_eq_zero_iff, nb_len] at this
    exact absurd (List.eq_nil_of_length_eq_zero this) hb
  | some x =>
    refine ⟨x, rfl, fun j v hj => ?_⟩
    have hlt : j < (nb bs).length := by
      rw [nb_len]
      rcases Nat.lt_or_ge j bs.length with h1 | h1
      · exact h1
      · rw [List.getElem?_eq_none (by rw [bc_len]; exact h1)] at hj; cases hj
    have := h.2 x rfl j hlt
    rw [this]
    rw [bc_nb, List.getElem?_map] at hj
    rw [List.getD_eq_getElem?_getD]
    cases hq : (nb bs)[j]? with
    | none => rw [hq] at hj; cases hj
    | some y => rw [hq] at hj; simpa using hj
/-- copy of bytes into an own row. -/
theorem run_copy_by (w : World) (gf fn fc P : Nat) (x : List UInt8) (hx : fn = x.length) (hown : w.ownsRow 0 5 1 (.slice (some ⟨gf, 0, none⟩) fn fc) fn (bc x)) (ab : Option Addr) (bs : List UInt8) (cb : Nat) (hrb : Reads w ab (nb bs)) (hb : bs ≠ []) (hP : P + bs.length ≤ fn) :
    ∃ w', (Builtin.copy_ #[22, 22] 3 #[.slice (some ⟨gf, P, none⟩) (fn - P) (fc - P), .slice ab bs.length cb]).run Tryz.prog w = .ok (goInt bs.length) w' ∧ w'.ownsRow 0 5 1 (.slice (some ⟨gf, 0, none⟩) fn fc) fn (bc (ovB x P bs)) ∧ Kept (OneB gf) w w' := by
  rcases hown.2 with ⟨h1, h2⟩ | ⟨g', cc, cur, h1, hb0, hg, hnc, hcm, hcs, htk⟩
  · cases h1
  · simp only [Value.slice.injEq, Option.some.injEq, Addr.mk.injEq, and_true, true_and] at h1
    obtain ⟨rfl, rfl⟩ := h1
    obtain ⟨y, rfl, hc⟩ := reads_cells hrb hb
    have hmin : Nat.min bs.length (fn - P) = bs.length := Nat.min_eq_left (by omega)
    have := run_copy_row (P := Tryz.prog) w 22 22 3 5 gf P (fn - P) (fc - P) y bs.length cb cur 5 (bc bs) Tryz.underlying22 (by kernel_rfl) hg (by rw [bc_len, hmin]) hc (by rw [bc_len, hcs]; omega) (bc_one bs)
    rw [bc_len] at this
    refine ⟨_, this, ⟨by rw [bc_len, ovB_len x P bs (by omega)]; omega, .inr ⟨gf, fc, _, rfl, Nat.zero_le _, setRow_heap _ _ _ _ _ _ hg, hnc, hcm, ?_, ?_⟩⟩, Kept.setRow (S := OneB gf) (Kept.refl _ w) (.inl rfl) _⟩
    · simp only [List.size_toArray, List.length_append, List.length_take, List.length_drop, Array.length_toList, bc_len, hcs]; omega
    · have htk' : cur.toList.take fn = bc x := by rw [Nat.mul_one] at htk; exact htk
      have e1 : cur.toList.take P = bc (x.take P) := by
        have := congrArg (List.take P) htk'
        rw [List.take_take, Nat.min_eq_left (by omega)] at this
        rw [this]; simp [bc, List.map_take]
      have e2 : (cur.toList.drop (P + bs.length)).take (fn - (P + bs.length)) = bc (x.drop (P + bs.length)) := by
        have := congrArg (List.drop (P + bs.length)) htk'
        rw [List.drop_take] at this
        rw [this]; simp [bc, List.map_drop]
      rw [List.toList_toArray, Nat.mul_one, ovB, bc_app, bc_app, ← e1, ← e2]
      have hl : (cur.toList.take P ++ bc bs).length = P + bs.length := by rw [List.length_append, List.length_take, bc_len, Array.length_toList, hcs]; omega
      rw [List.take_append, List.take_of_length_le (by omega), hl]
theorem own_short {w : World} {b e z n : Nat} {g c : Nat} {xs : List Value} (h : w.ownsRow b e z (.slice (some ⟨g, 0, none⟩) n c) n xs) (P : Nat) (hP : P ≤ n) : w.ownsRow b e z (.slice (some ⟨g, 0, none⟩) P c) P (xs.take (P * z)) := by
  rcases h.2 with ⟨h1, h2⟩ | ⟨g', cc, cur, h1, hb0, hg, hnc, hcm, hcs, htk⟩
  · cases h1
  · simp only [Value.slice.injEq, Option.some.injEq, Addr.mk.injEq, and_true, true_and] at h1
    obtain ⟨rfl, rfl⟩ := h1
    have hle : P * z ≤ n * z := Nat.mul_le_mul_right _ hP
    refine ⟨by rw [List.length_take, h.1]; omega, .inr ⟨g, c, cur, rfl, hb0, hg, by omega, hcm, hcs, ?_⟩⟩
    rw [← htk, List.take_take, Nat.min_eq_left hle]
/-- append of bytes that are read onto an own row, cut short. -/
theorem run_app_by (w : World) (g n c P : Nat) (x : List UInt8) (hx : n = x.length) (hown : w.ownsRow 0 5 1 (.slice (some ⟨g, 0, none⟩) n c) n (bc x)) (hP : P ≤ n) (ab : Option Addr) (bs : List UInt8) (cb : Nat) (hrb : Reads w ab (nb bs)) (hb : bs ≠ []) (h63 : P + bs.length ≤ 1099511627776) :
    ∃ g' c' w', (Builtin.append_ #[22, 22] 22 #[.slice (some ⟨g, 0, none⟩) P c, .slice ab bs.length cb]).run Tryz.prog w = .ok (.slice (some ⟨g', 0, none⟩) (P + bs.length) c') w' ∧ w'.ownsRow 0 5 1 (.slice (some ⟨g', 0, none⟩) (P + bs.length) c') (P + bs.length) (bc (x.take P ++ bs)) ∧ Kept (OneB g) w w' ∧ (g' = g ∨ w.heap.size ≤ g') := by
  obtain ⟨i0, hi0, hz0, hz1, hz2⟩ := info_parts info5
  obtain ⟨y, rfl, hc⟩ := reads_cells hrb hb
  have hs := own_short hown P hP
  rw [Nat.mul_one] at hs
  have hsrc : Src Tryz.prog 1 22 (.slice (some y) bs.length cb) bs.length (bc bs) w := Src.ofSlice w Tryz.underlying22 y bs.length cb (bc bs) (by rw [bc_len, Nat.mul_one]) hc (bc_one bs)
  obtain ⟨v', w', r, o, gr, g', c', rfl, hg⟩ := run_app_src0 (P := Tryz.prog) w 22 22 22 5 i0 (.int .u8 0) 1 1 Tryz.underlying22 hi0 hz0 hz1 hz2 rfl (by decide) g P c _ hs _ bs.length (bc bs) hsrc (by rw [bc_len, Nat.mul_one]) (bc_one bs) (by unfold maxLen; omega) (by omega)
  refine ⟨g', c', w', r, ?_, (Kept.refl _ w).grown gr (fun k _ e => by cases e; rfl), hg⟩
  rw [bc_app]
  have e : bc (x.take P) = (bc x).take P := by simp [bc, List.map_take]
  rw [e]; exact o
end Go.Proofs.YtgbakogihkdddaaGreatDoor
