/-
  strings.SplitSeq at "/": what its function does with the loop that ranges over it.
-/
import Derived.RangeFuncKeeps
import Derived.RangeFuncLeaves
import Derived.RangeFuncCalls
import Derived.Shelf.Abstract
import Derived.WalkKit
import Derived.OwnWalkIn
import Derived.TacticsInMore
import Derived.LoopNIn
import Derived.LoopIn
import Derived.Test.YtamoojalfpghhaaDoorOkA
namespace Go.Proofs.YtamoojalfpghhaaDoor
open Go.RowKit Go.Shelf
set_option linter.unusedVariables false
set_option linter.unusedSimpArgs false

attribute [local go_sem] Oper.semAt_some

/-- The pieces between slashes. -/
def pieces : List UInt8 → List (List UInt8)
  | [] => [[]]
  | b :: r => if b = 47 then [] :: pieces r else match pieces r with | [] => [[b]] | p :: ps => (b :: p) :: ps
theorem pieces_ne : ∀ l, pieces l ≠ []
  | [] => by simp [pieces]
  | b :: r => by
    unfold pieces
    split
    · simp
    · split <;> simp
theorem pieces_none : ∀ l : List UInt8, Lib.indexByte l 47 = -1 → pieces l = [l]
  | [], _ => rfl
  | b :: r, h => by
    unfold Lib.indexByte at h
    by_cases e : b = 47
    · subst e; simp at h
    · have e2 : (b == 47) = false := by simpa using e
      rw [e2] at h
      have hr : Lib.indexByte r 47 = -1 := by
        by_cases h3 : Lib.indexByte r 47 = -1
        · exact h3
        · have hge := Lib.indexByte_ge r 47
          have e3 : (Lib.indexByte r 47 == -1) = false := by simpa using h3
          rw [e3] at h
          simp only [Bool.false_eq_true, if_false] at h
          exact absurd h (by omega)
      rw [pieces, if_neg e, pieces_none r hr]
theorem pieces_some : ∀ (l : List UInt8) (o : Nat), Lib.indexByte l 47 = (o : Int) → o < l.length ∧ pieces l = l.take o :: pieces (l.drop (o + 1))
  | [], o, h => by simp [Lib.indexByte] at h
  | b :: r, o, h => by
    unfold Lib.indexByte at h
    by_cases e : b = 47
    · subst e
      simp at h
      have h0 : o = 0 := by omega
      subst h0
      exact ⟨by simp, by simp [pieces]⟩
    · have e2 : (b == 47) = false := by simpa using e
      rw [e2] at h
      by_cases h3 : Lib.indexByte r 47 = -1
      · rw [h3] at h
        simp at h
      · have hge := Lib.indexByte_ge r 47
        have e3 : (Lib.indexByte r 47 == -1) = false := by simpa using h3
        rw [e3] at h
        simp only [Bool.false_eq_true, if_false] at h
        obtain ⟨k, rfl⟩ : ∃ k, o = k + 1 := ⟨o - 1, by omega⟩
        obtain ⟨i1, i2⟩ := pieces_some r k (by omega)
        refine ⟨by simp; omega, ?_⟩
        rw [pieces, if_neg e, i2]
        simp
/-- The three variables that the iterator has caught. -/
structure SeqB (W : World) (b1 b2 b3 : Nat) (s : ByteArray) : Prop where
  sep : W.heap[b1]? = some (.cells #[.string ⟨#[47]⟩] 9 (0, 0))
  str : W.heap[b2]? = some (.cells #[.string s] 9 (0, 0))
  save : W.heap[b3]? = some (.cells #[.int .i64 0] 3 (0, 0))
def strB (l : List UInt8) : ByteArray := ⟨l.toArray⟩

set_option maxRecDepth 20000 in
set_option maxHeartbeats 4000000 in
theorem seq_in (bs : List UInt8) (l b1 b2 b3 : Nat) (hne : b1 ≠ b2 ∧ b3 ≠ b2) (J Jx : List (List UInt8) → World → Prop)
    (hst : ∀ pre W (v : ByteArray), J pre W → J pre (W.setCell ⟨b2, 0, none⟩ (.string v)))
    (hY : ∀ pre x W, J pre W → pre.length < (pieces bs).length → x.length ≤ bs.length → YieldAt Fence.wide 1 Tryd.prog l #[.string (strB x)] W fun e W' =>
      (e = .returned (.bool true) ∧ J (pre ++ [x]) W' ∧ (∀ s, SeqB W b1 b2 b3 s → SeqB W' b1 b2 b3 s)) ∨ (e = .returned (.bool false) ∧ Jx (pre ++ [x]) W'))
    (W : World) (hB : SeqB W b1 b2 b3 (strB bs)) (hlen : bs.length ≤ 1000000) (h0 : J [] W) :
    CallsIn Fence.wide 2 Tryd.prog 24 #[.func (.yield l) #[] #[], .pointer (some ⟨b1, 0, none⟩), .pointer (some ⟨b2, 0, none⟩), .pointer (some ⟨b3, 0, none⟩)] W fun e W' => (∃ v, e = .returned v) ∧
      (J (pieces bs) W' ∨ ∃ pre, (∃ suf, pre ++ suf = pieces bs) ∧ Jx pre W') := by
  refine callsIn_of_wp Tryd.func24 rfl trivial ?_ rfl
  simp only [Tryd.ntmps24, List.size_toArray, List.length_cons, List.length_nil, Nat.reduceAdd, Nat.reduceSub, Array.replicate_succ, Array.replicate_zero, List.push_toArray, List.append_toArray, List.nil_append, List.cons_append]
  have c1 : W.cell? ⟨b1, 0, none⟩ = some (.string ⟨#[47]⟩) := by simpa using obj_cell hB.sep 0
  have HN := Lib.hid hne; have HSt := Lib.hid hst; have HYd := Lib.hid hY; have HB := Lib.hid hB; have H0 := Lib.hid h0
  clear hne hst hY hB h0
  gi_wp2
  gi_loopw [7, 8] (fun _ _ wr => ∃ (pre : List (List UInt8)) (rest : List UInt8), Hid (pre ++ pieces rest = pieces bs) ∧ Hid (SeqB wr b1 b2 b3 (strB rest)) ∧ Hid (J pre wr) ∧ rest.length ≤ bs.length) (fun _ _ wr => match wr.cell? ⟨b2, 0, none⟩ with | some (.string s) => s.size | _ => 0)
  case atStart => exact ⟨[], bs, Lib.hid rfl, HB, H0, by omega⟩
  case round =>
    obtain ⟨pre, rest, HP, HS, HJ, hle⟩ := hrel
    have c2 : wr.cell? ⟨b2, 0, none⟩ = some (.string (strB rest)) := by simpa using obj_cell HS.out.str 0
    have c3 : wr.cell? ⟨b3, 0, none⟩ = some (.int .i64 0) := by simpa using obj_cell HS.out.save 0
    have c4 : wr.cell? ⟨b1, 0, none⟩ = some (.string ⟨#[47]⟩) := by simpa using obj_cell HS.out.sep 0
    clear c1
    have HIx := Lib.hid (Tryd.strings_Index_one (strB rest) 47 wr)
    have hfew : pre.length < (pieces bs).length := by
      rw [← HP.out, List.length_append]
      have := List.length_pos_iff.2 (pieces_ne rest)
      omega
    by_cases hm : Lib.indexByte (strB rest).data.toList 47 = -1
    · rw [hm] at HIx
      have HPn := Lib.hid (pieces_none rest hm)
      obtain ⟨fn, tmps, assign, body, hy, hR⟩ := HYd.out pre rest wr HJ.out hfew hle
      have HR := Lib.hid hR
      clear hR hm
      gi_wp2_with (refine ⟨trivial, ?_⟩; gi_at_call 26; refine (callsIn_wide.2 HIx.out).mono ?_; rintro e w' ⟨rfl, hw⟩; rw [hw]; clear hw)
      gi_wp2
      refine HR.out.mono ?_
      rintro e W' (⟨rfl, hJ', hk⟩ | ⟨rfl, hJx⟩)
      · have HF := Lib.hid (show J (pieces bs) W' from by rw [← HP.out, HPn.out]; exact hJ')
        clear hJ' hk
        gi_wp2
        go_end0
        exact ⟨⟨_, rfl⟩, .inl HF.out⟩
      · have HF := Lib.hid hJx
        clear hJx
        gi_wp2
        go_end0
        exact ⟨⟨_, rfl⟩, .inr ⟨_, ⟨[], by rw [← HP.out, HPn.out]; simp⟩, HF.out⟩⟩
    · obtain ⟨o, ho⟩ : ∃ o : Nat, Lib.indexByte (strB rest).data.toList 47 = (o : Int) := ⟨(Lib.indexByte (strB rest).data.toList 47).toNat, by
        have := Lib.indexByte_ge (strB rest).data.toList 47; omega⟩
      rw [ho] at HIx
      have ho' : Lib.indexByte rest 47 = (o : Int) := ho
      obtain ⟨hol, hps⟩ := pieces_some rest o ho'
      have HPs := Lib.hid hps
      obtain ⟨fn, tmps, assign, body, hy, hR⟩ := HYd.out pre (rest.take o) wr HJ.out hfew (by simp; omega)
      have HR := Lib.hid hR
      have hsz : (strB rest).size = rest.length := by simp [strB, ByteArray.size]
      have e5 : (strB rest).extract 0 o = strB (rest.take o) := by
        apply ByteArray.ext
        rw [ByteArray.data_extract]
        simp [strB]
      have e6 : IntKind.i64.wrap ((o : Int) + 0) = (o : Int) := by rw [IntWalk.i64_in _ (by omega)]; omega
      have e7 : IntKind.i64.wrap (o : Int) = (o : Int) := IntWalk.i64_in _ (by omega)
      clear hR ho ho' hm hps
      gi_wp2_with (refine ⟨trivial, ?_⟩; gi_at_call 26; refine (callsIn_wide.2 HIx.out).mono ?_; rintro e w' ⟨rfl, hw⟩; rw [hw]; clear hw)
      gi_wp2
      refine HR.out.mono ?_
      rintro e W' (⟨rfl, hJ', hk⟩ | ⟨rfl, hJx⟩)
      · have hS' := hk _ HS.out
        have d1 : W'.cell? ⟨b2, 0, none⟩ = some (.string (strB rest)) := by simpa using obj_cell hS'.str 0
        have d2 : W'.cell? ⟨b1, 0, none⟩ = some (.string ⟨#[47]⟩) := by simpa using obj_cell hS'.sep 0
        have f1 : W'.frozen? ⟨b2, 0, none⟩ = false := obj_free hS'.str 0
        have e8 : IntKind.i64.wrap ((o : Int) + 1) = ((o + 1 : Nat) : Int) := by rw [IntWalk.i64_in _ (by omega)]; omega
        obtain ⟨q, hq⟩ : ∃ q, q = o + 1 := ⟨_, rfl⟩
        rw [← hq] at e8
        have e9 : (strB rest).extract q rest.length = strB (rest.drop q) := by
          apply ByteArray.ext
          rw [ByteArray.data_extract]
          simp [strB]
          exact List.take_of_length_le (by simp)
        have hqn : q ≤ rest.length := by omega
        have hqi : (q : Int) ≤ (rest.length : Int) := by omega
        have HJ2 := Lib.hid (HSt.out _ _ (strB (rest.drop q)) hJ')
        have HS2 : Hid (SeqB (W'.setCell ⟨b2, 0, none⟩ (.string (strB (rest.drop q)))) b1 b2 b3 (strB (rest.drop q))) := Lib.hid
          ⟨(Below.heap_setCell _ _ _ _ HN.out.1).trans hS'.sep, by simpa using obj_set hS'.str 0 (.string (strB (rest.drop q))), (Below.heap_setCell _ _ _ _ HN.out.2).trans hS'.save⟩
        have HP2 : Hid ((pre ++ [rest.take o]) ++ pieces (rest.drop q) = pieces bs) := Lib.hid (by rw [← HP.out, HPs.out, hq]; simp)
        have HQ := Lib.hid hq
        clear hJ' hk hS' hq c2 c3 c4
        have hm1 : W'.cell? ⟨b2, 0, none⟩ = wr.cell? ⟨b2, 0, none⟩ := by rw [d1]; simpa using (obj_cell HS.out.str 0).symm
        have hm2 : (W'.setCell ⟨b2, 0, none⟩ (.string (strB (rest.drop q)))).cell? ⟨b2, 0, none⟩ = some (.string (strB (rest.drop q))) := by simpa using obj_cell HS2.out.str 0
        have hm3 : wr.cell? ⟨b2, 0, none⟩ = some (.string (strB rest)) := by rw [← hm1]; exact d1
        have HM2 := Lib.hid hm2; have HM3 := Lib.hid hm3
        clear hm1 hm2 hm3
        gi_wp2
        go_roundw
        case rel => exact ⟨_, rest.drop q, HP2, HS2, HJ2, by simp; omega⟩
        case measure =>
          rw [HM2.out, HM3.out]
          show (strB (rest.drop q)).size < (strB rest).size
          simp [strB, ByteArray.size]
          have := HQ.out
          omega
      · have HF := Lib.hid hJx
        clear hJx
        gi_wp2
        refine bodyPost_ret (results_none rfl _ _ _) rfl ?_
        exact ⟨⟨_, rfl⟩, .inr ⟨_, ⟨pieces (rest.drop (o + 1)), by rw [← HP.out, HPs.out]; simp⟩, HF.out⟩⟩
end Go.Proofs.YtamoojalfpghhaaDoor
