/-
  DeflateMix: slices of a row, tokens of single bytes, blocks one behind the other.
  gzip's cursor: take, refuse, byteThat, text.
  gzip's cursor: text.
-/
import Derived.Test.YtfmjfgmbjdhogaaGreatDoorMg21
import Derived.BigQuiet
namespace Go.Proofs.YtfmjfgmbjdhogaaGreatDoor
open Go.RowKit
set_option linter.unusedVariables false
set_option linter.unusedSimpArgs false

structure PartR (a : Option Addr) (len cap : Nat) (xs : List Int) (l h : Nat) (o1 : Option Addr) (c1 : Nat) : Prop where
  reads : ∀ W, Reads W a xs → Reads W o1 ((xs.drop l).take (h - l))
  room : h - l ≤ c1
  block : ∀ q, o1 = some q → ∃ q', a = some q' ∧ q.block = q'.block
theorem part_of (a : Option Addr) (len cap l h : Nat) (xs : List Int) (hlen : len = xs.length) (hs : ∀ q, a = some q → ∃ g, q = ⟨g, 0, none⟩) (hl : l ≤ h) (hh : h ≤ len) (hc : len ≤ cap) (hn : a = none → cap = 0) :
    ∃ o1 c1, sliced a l h cap 1 = .slice o1 (h - l) c1 ∧ PartR a len cap xs l h o1 c1 := by
  cases a with
  | none =>
    have h0 := hn rfl
    refine ⟨none, cap - l, ?_, ⟨fun W hr => ?_, by omega, fun q e => by cases e⟩⟩
    · unfold sliced
      rw [if_pos (by omega)]
    · have e : (xs.drop l).take (h - l) = [] := List.eq_nil_of_length_eq_zero (by rw [List.length_take, List.length_drop]; omega)
      rw [e]; exact ⟨fun _ => rfl, fun a ha => by cases ha⟩
  | some q =>
    obtain ⟨g, rfl⟩ := hs q rfl
    by_cases hcl : cap = l
    · refine ⟨some ⟨g, 0, none⟩, cap - l, ?_, ⟨fun W hr => ?_, by omega, fun q e => ⟨_, rfl, by cases e; rfl⟩⟩⟩
      · unfold sliced
        rw [if_pos hcl]
      · have e : (xs.drop l).take (h - l) = [] := List.eq_nil_of_length_eq_zero (by rw [List.length_take, List.length_drop]; omega)
        rw [e]; exact reads_empty
    · refine ⟨some ⟨g, l, none⟩, cap - l, ?_, ⟨fun W hr => ?_, by omega, fun q e => ⟨_, rfl, by cases e; rfl⟩⟩⟩
      · unfold sliced
        rw [if_neg hcl]
        simp [Addr.add]
        intro h0
        exact h0.symm
      · have h1 := reads_drop l hr
        rw [addr_add, Nat.zero_add] at h1
        exact reads_take _ h1
set_option maxRecDepth 100000 in
theorem size_u8 : ∀ W : World, (sizeOf (Tryz.prog.elem 22)).run Tryz.prog W = .ok 1 W := fun W => by rfl
theorem slc_l (a : Option Addr) (len cap l : Nat) (xs : List Int) (hlen : len = xs.length) (hs : ∀ q, a = some q → ∃ g, q = ⟨g, 0, none⟩) (hl : l ≤ len) (hc : len ≤ cap) (hn : a = none → cap = 0) :
    ∃ o1 c1, (∀ W, (Instr.slice 22 (.slice a len cap) (some (.int .i64 (l : Int))) none none).run Tryz.prog W = .ok (.slice o1 (len - l) c1) W) ∧ PartR a len cap xs l len o1 c1 := by
  obtain ⟨o1, c1, h1, h2⟩ := part_of a len cap l len xs hlen hs hl (Nat.le_refl _) hc hn
  refine ⟨o1, c1, fun W => ?_, h2⟩
  rw [run_slice_l (P := Tryz.prog) (w := W) 22 a len cap (by kernel_rfl) .i64 (l : Int) (by omega) (by omega), size_u8]
  simp only [Result.andThen, Int.toNat_natCast]
  rw [h1]
end Go.Proofs.YtfmjfgmbjdhogaaGreatDoor

namespace Go.Proofs.YtfmjfgmbjdhogaaGreatDoor
open Go.RowKit
set_option linter.unusedVariables false
set_option linter.unusedSimpArgs false
set_option maxRecDepth 20000

structure PartG (a : Option Addr) (xs : List Int) (l h : Nat) (o1 : Option Addr) : Prop where
  reads : ∀ W, Reads W a xs → Reads W o1 ((xs.drop l).take (h - l))
  nil : o1 = none ↔ a = none
theorem partG_of (a : Option Addr) (len cap l h : Nat) (xs : List Int) (hlen : len = xs.length) (hl : l ≤ h) (hh : h ≤ len) (hc : len ≤ cap) (hn : a = none → cap = 0) :
    ∃ o1, sliced a l h cap 1 = .slice o1 (h - l) (cap - l) ∧ PartG a xs l h o1 := by
  cases a with
  | none =>
    have h0 := hn rfl
    refine ⟨none, ?_, ⟨fun W hr => ?_, by simp⟩⟩
    · unfold sliced
      rw [if_pos (by omega)]
    · have e : (xs.drop l).take (h - l) = [] := List.eq_nil_of_length_eq_zero (by rw [List.length_take, List.length_drop]; omega)
      rw [e]; exact ⟨fun _ => rfl, fun a ha => by cases ha⟩
  | some q =>
    by_cases hcl : cap = l
    · refine ⟨some q, ?_, ⟨fun W hr => ?_, by simp⟩⟩
      · unfold sliced
        rw [if_pos hcl]
      · have e : (xs.drop l).take (h - l) = [] := List.eq_nil_of_length_eq_zero (by rw [List.length_take, List.length_drop]; omega)
        rw [e]; exact reads_empty
    · refine ⟨some (q.add l), ?_, ⟨fun W hr => ?_, by simp⟩⟩
      · unfold sliced
        rw [if_neg hcl]
        simp
      · exact reads_take _ (reads_drop l hr)
theorem slg_h (a : Option Addr) (len cap h : Nat) (xs : List Int) (hlen : len = xs.length) (hh : h ≤ len) (hc : len ≤ cap) (hn : a = none → cap = 0) :
    ∃ o1, (∀ W, (Instr.slice 22 (.slice a len cap) none (some (.int .i64 (h : Int))) none).run Tryz.prog W = .ok (.slice o1 h cap) W) ∧ PartG a xs 0 h o1 := by
  obtain ⟨o1, h1, h2⟩ := partG_of a len cap 0 h xs hlen (Nat.zero_le _) hh hc hn
  refine ⟨o1, fun W => ?_, h2⟩
  rw [run_slice_h (P := Tryz.prog) (w := W) 22 a len cap (by kernel_rfl) .i64 (h : Int) (by omega) (by omega), size_u8]
  simp only [Result.andThen, Int.toNat_natCast]
  rw [h1, Nat.sub_zero, Nat.sub_zero]
theorem slg_lh (a : Option Addr) (len cap l h : Nat) (xs : List Int) (hlen : len = xs.length) (hl : l ≤ h) (hh : h ≤ len) (hc : len ≤ cap) (hn : a = none → cap = 0) :
    ∃ o1, (∀ W, (Instr.slice 22 (.slice a len cap) (some (.int .i64 (l : Int))) (some (.int .i64 (h : Int))) none).run Tryz.prog W = .ok (.slice o1 (h - l) (cap - l)) W) ∧ PartG a xs l h o1 := by
  obtain ⟨o1, h1, h2⟩ := partG_of a len cap l h xs hlen hl hh hc hn
  refine ⟨o1, fun W => ?_, h2⟩
  rw [run_slice_lh (P := Tryz.prog) (w := W) 22 a len cap (by kernel_rfl) .i64 .i64 (l : Int) (h : Int) (by omega) (by omega) (by omega), size_u8]
  simp only [Result.andThen, Int.toNat_natCast]
  rw [h1]
theorem slg_l (a : Option Addr) (len cap l : Nat) (xs : List Int) (hlen : len = xs.length) (hl : l ≤ len) (hc : len ≤ cap) (hn : a = none → cap = 0) :
    ∃ o1, (∀ W, (Instr.slice 22 (.slice a len cap) (some (.int .i64 (l : Int))) none none).run Tryz.prog W = .ok (.slice o1 (len - l) (cap - l)) W) ∧ PartG a xs l len o1 := by
  obtain ⟨o1, h1, h2⟩ := partG_of a len cap l len xs hlen hl (Nat.le_refl _) hc hn
  refine ⟨o1, fun W => ?_, h2⟩
  rw [run_slice_l (P := Tryz.prog) (w := W) 22 a len cap (by kernel_rfl) .i64 (l : Int) (by omega) (by omega), size_u8]
  simp only [Result.andThen, Int.toNat_natCast]
  rw [h1]

structure CurRow (w : World) (bo : Option Addr) (c : Nat) (b : List Int) : Prop where
  rd : Reads w bo b
  all : AllB b
  cap : b.length ≤ c
  most : c ≤ maxLen
  nil : bo = none → c = 0
theorem CurRow.keptNo {w w' : World} {bo : Option Addr} {c : Nat} {b : List Int} (h : CurRow w bo c b) (hk : Kept NoB w w') : CurRow w' bo c b := ⟨h.rd.keptNo hk, h.all, h.cap, h.most, h.nil⟩
def CurO (w : World) (C : Nat) (bo : Option Addr) (c : Nat) (b : List Int) (s : Cur) : Prop := w.heap[C]? = some (.cells #[.slice bo b.length c, .int .i64 (s.at_ : Int), .int .i64 s.e] 93 (0, 0))
def TookB (w : World) (C : Nat) (bo : Option Addr) (c : Nat) (b : List Int) (s : Cur) (n : Nat) (e : Ending) (w' : World) : Prop :=
  ∃ (o : Option Addr) (m k : Nat), e = .returned (.slice o m k) ∧ Hid (CurO w' C bo c b (takeS b s n)) ∧ Hid (Kept (OneB C) w w') ∧ Hid (m = (takeB b s n).length) ∧ Hid (∀ W, CurRow W bo c b → Reads W o (takeB b s n)) ∧ m ≤ k ∧ k ≤ c ∧ Hid (o = none → k = 0)
set_option maxHeartbeats 4000000 in
theorem take_any (w : World) (C : Nat) (bo : Option Addr) (c : Nat) (b : List Int) (s : Cur) (n : Nat) (z : Int) (hz : z = (n : Int)) (hO : CurO w C bo c b s) (hR : CurRow w bo c b) (hat : s.at_ ≤ b.length) (hb : b.length ≤ 1000000) (hn : n ≤ 1000000) :
    Calls Tryz.prog 80 #[.pointer (some ⟨C, 0, none⟩), .int .i64 z] w (TookB w C bo c b s n) := by
  subst hz
  obtain ⟨p, e⟩ := s
  have c0 : w.cell? ⟨C, 0, none⟩ = some (.slice bo b.length c) := obj_cell hO 0
  have c1 : w.cell? ⟨C, 1, none⟩ = some (.int .i64 (p : Int)) := obj_cell hO 1
  have c2 : w.cell? ⟨C, 2, none⟩ = some (.int .i64 e) := obj_cell hO 2
  have f1 := obj_free hO 1
  have f2 := obj_free hO 2
  dsimp only at hat
  obtain ⟨l, hl⟩ : ∃ l, l = b.length := ⟨_, rfl⟩
  rw [← hl] at c0 hat hb
  have hcl : l ≤ c := by rw [hl]; exact hR.cap
  have HO := Lib.hid hO; have HR := Lib.hid hR; have HL := Lib.hid hl
  clear hO hR hl
  by_cases he : e = 0
  · subst he
    by_cases hfit : l - p < n
    · have hsub : IntKind.i64.wrap ((l : Int) - (p : Int)) = ((l - p : Nat) : Int) := by rw [IntWalk.i64_in _ (by omega)]; omega
      have HT : Hid (takeS b ⟨p, 0⟩ n = ⟨p, 2⟩ ∧ takeB b ⟨p, 0⟩ n = []) := Lib.hid (by
        unfold takeS takeB
        rw [if_neg (show ¬ (Cur.mk p 0).e ≠ 0 from fun k => k rfl), if_neg (show ¬ (Cur.mk p 0).e ≠ 0 from fun k => k rfl), if_pos (by show n > b.length - p; rw [← HL.out]; omega), if_pos (by show n > b.length - p; rw [← HL.out]; omega)]
        exact ⟨rfl, rfl⟩)
      have HO2 := Lib.hid (obj_set HO.out 2 (.int .i64 2))
      obtain ⟨d, hd⟩ : ∃ d, d = l - p := ⟨_, rfl⟩
      rw [← hd] at hsub hfit
      clear hd
      go_enter Tryz.func80, Tryz.ntmps80
      go_wp2_with fail
      go_quiet (fail)
      go_wp2
      go_ret
      refine ⟨none, 0, 0, rfl, Lib.hid ?_, Lib.hid ?_, Lib.hid (by rw [HT.out.2]; rfl), Lib.hid (fun W h => by rw [HT.out.2]; exact ⟨fun _ => rfl, fun a ha => by cases ha⟩), Nat.le_refl _, Nat.zero_le _, Lib.hid (fun _ => rfl)⟩
      · rw [HT.out.1]; exact HO2.out
      · exact Kept.setCell (S := OneB C) (p := ⟨C, 2, none⟩) ((Kept.refl _ _).drewN _) (.inl rfl) _
    · have hsub : IntKind.i64.wrap ((l : Int) - (p : Int)) = ((l - p : Nat) : Int) := by rw [IntWalk.i64_in _ (by omega)]; omega
      have HT : Hid (takeS b ⟨p, 0⟩ n = ⟨p + n, 0⟩ ∧ takeB b ⟨p, 0⟩ n = (b.drop p).take n) := Lib.hid (by
        unfold takeS takeB
        rw [if_neg (show ¬ (Cur.mk p 0).e ≠ 0 from fun k => k rfl), if_neg (show ¬ (Cur.mk p 0).e ≠ 0 from fun k => k rfl), if_neg (by show ¬ n > b.length - p; rw [← HL.out]; omega), if_neg (by show ¬ n > b.length - p; rw [← HL.out]; omega)]
        exact ⟨rfl, rfl⟩)
      obtain ⟨o1, hsl, hpt⟩ := slg_lh bo l c p (p + n) b HL.out (by omega) (by omega) hcl HR.out.nil
      rw [Nat.add_sub_cancel_left] at hsl
      have HO2 := Lib.hid (obj_set HO.out 1 (.int .i64 ((p + n : Nat) : Int)))
      have hnl : (b.drop p).length = l - p := by rw [List.length_drop, HL.out]
      have HNl : Hid (n = ((b.drop p).take n).length) := Lib.hid (by rw [List.length_take]; omega)
      have HPt := Lib.hid hpt
      have hco : n ≤ c - p := by omega
      have HC0 : Hid (bo = none → c - p = 0) := Lib.hid (fun h => by have := HR.out.nil h; omega)
      obtain ⟨q, hq⟩ : ∃ q, q = p + n := ⟨_, rfl⟩
      have hadd : (p : Int) + (n : Int) = (q : Int) := by omega
      have hback : IntKind.i64.wrap ((q : Int) - (n : Int)) = (p : Int) := by rw [IntWalk.i64_in _ (by omega)]; omega
      have hqb : q ≤ 2000000 := by omega
      have hpb : p ≤ 1000000 := by omega
      rw [← hq] at hsl HO2 HT
      have HQ := Lib.hid hq
      obtain ⟨d, hd⟩ : ∃ d, d = l - p := ⟨_, rfl⟩
      rw [← hd] at hsub hfit
      obtain ⟨k, hk⟩ : ∃ k, k = c - p := ⟨_, rfl⟩
      rw [← hk] at hsl hco HC0
      have hkc : k ≤ c := by omega
      clear hd hk hpt hnl hq
      go_enter Tryz.func80, Tryz.ntmps80
      go_wp2_with fail
      go_quiet (fail)
      go_upto_region 7 with fail
      have ho3 : CurO ((w.drewN nq).setCell ⟨C, 1, none⟩ (.int .i64 (q : Int))) C bo c b ⟨q, 0⟩ := obj_set (w := w.drewN nq) HO.out 1 (.int .i64 (q : Int))
      have hk3 : Kept (OneB C) w ((w.drewN nq).setCell ⟨C, 1, none⟩ (.int .i64 (q : Int))) := Kept.setCell (S := OneB C) (p := ⟨C, 1, none⟩) ((Kept.refl _ w).drewN _) (.inl rfl) _
      generalize (w.drewN nq).setCell ⟨C, 1, none⟩ (.int .i64 (q : Int)) = w3 at ho3 hk3 ⊢
      have d0 : w3.cell? ⟨C, 0, none⟩ = some (.slice bo l c) := by rw [HL.out]; exact obj_cell ho3 0
      have d1 : w3.cell? ⟨C, 1, none⟩ = some (.int .i64 (q : Int)) := obj_cell ho3 1
      have HO3 := Lib.hid ho3; have HK3 := Lib.hid hk3
      clear ho3 hk3 c0 c1 c2 f1 f2 hadd hsub
      go_quiet (fail)
      go_wp2
      go_ret
      refine ⟨o1, n, k, rfl, Lib.hid ?_, Lib.hid (HK3.out.drewN _), Lib.hid (by rw [HT.out.2]; exact HNl.out), Lib.hid (fun W h => by
        have := HPt.out.reads W h.rd
        rw [Nat.add_sub_cancel_left] at this
        rw [HT.out.2]
        exact this), hco, hkc, Lib.hid (fun e => HC0.out (HPt.out.nil.1 e))⟩
      rw [HT.out.1]
      exact HO3.out
  · have HT : Hid (takeS b ⟨p, e⟩ n = ⟨p, e⟩ ∧ takeB b ⟨p, e⟩ n = []) := Lib.hid ⟨takeS_e he, takeB_e he⟩
    have he2 : (e == 0) = false := by simpa using he
    have he3 : (e != 0) = true := by simpa using he
    go_enter Tryz.func80, Tryz.ntmps80
    go_wp2
    go_ret
    refine ⟨none, 0, 0, rfl, Lib.hid ?_, Lib.hid (Kept.refl _ _), Lib.hid (by rw [HT.out.2]; rfl), Lib.hid (fun W h => by rw [HT.out.2]; exact ⟨fun _ => rfl, fun a ha => by cases ha⟩), Nat.le_refl _, Nat.zero_le _, Lib.hid (fun _ => rfl)⟩
    rw [HT.out.1]; exact HO.out
set_option maxHeartbeats 1000000 in
theorem refuse_any (w : World) (C : Nat) (bo : Option Addr) (c : Nat) (b : List Int) (s : Cur) (x : Bool) (e : Int) (hO : CurO w C bo c b s) :
    Calls Tryz.prog 81 #[.pointer (some ⟨C, 0, none⟩), .bool x, .int .i64 e] w fun e' w' => e' = .returned (.tuple #[]) ∧ CurO w' C bo c b (refS2 s x e) ∧ Kept (OneB C) w w' := by
  obtain ⟨p, z⟩ := s
  have c2 : w.cell? ⟨C, 2, none⟩ = some (.int .i64 z) := obj_cell hO 2
  have f2 := obj_free hO 2
  have HO2 := Lib.hid (obj_set hO 2 (.int .i64 e))
  have HO := Lib.hid hO
  clear hO
  by_cases hz : z = 0
  · subst hz
    cases x with
    | true =>
      go_enter Tryz.func81, Tryz.ntmps81
      go_wp2
      refine bodyPost_end (results_none rfl _ _ _) rfl ?_
      exact ⟨rfl, HO2.out, Kept.setCell (S := OneB C) (p := ⟨C, 2, none⟩) (Kept.refl _ _) (.inl rfl) _⟩
    | false =>
      go_enter Tryz.func81, Tryz.ntmps81
      go_wp2
      refine bodyPost_end (results_none rfl _ _ _) rfl ?_
      exact ⟨rfl, HO.out, Kept.refl _ _⟩
  · have hz2 : (z == 0) = false := by simpa using hz
    have HR : Hid (refS2 ⟨p, z⟩ x e = ⟨p, z⟩) := Lib.hid (refS2_e hz)
    go_enter Tryz.func81, Tryz.ntmps81
    go_wp2
    refine bodyPost_end (results_none rfl _ _ _) rfl ?_
    exact ⟨rfl, by rw [HR.out]; exact HO.out, Kept.refl _ _⟩
theorem takeS_at {b : List Int} {s : Cur} {n : Nat} (h : s.at_ ≤ b.length) : (takeS b s n).at_ ≤ b.length := by
  unfold takeS
  split
  · exact h
  · split
    · exact h
    · dsimp only; omega
theorem refS2_at {s : Cur} {x : Bool} {e : Int} : (refS2 s x e).at_ = s.at_ := by unfold refS2; split <;> rfl
theorem takeB_len {b : List Int} {s : Cur} {n : Nat} : (takeB b s n).length ≤ n := by
  unfold takeB
  split
  · exact Nat.zero_le _
  · split
    · exact Nat.zero_le _
    · rw [List.length_take]; omega
theorem takeB_all {b : List Int} {s : Cur} {n : Nat} (h : AllB b) : AllB (takeB b s n) := by
  unfold takeB
  split
  · intro x hx; cases hx
  · split
    · intro x hx; cases hx
    · exact (h.drop _).take _
set_option maxHeartbeats 2000000 in
theorem that_any (w : World) (C : Nat) (bo : Option Addr) (c : Nat) (b : List Int) (s : Cur) (want e : Int) (hO : CurO w C bo c b s) (hR : CurRow w bo c b) (hRk : ∀ W, Kept (OneB C) w W → CurRow W bo c b) (hat : s.at_ ≤ b.length) (hb : b.length ≤ 1000000) :
    Calls Tryz.prog 79 #[.pointer (some ⟨C, 0, none⟩), .int .u8 want, .int .i64 e] w fun e' w' => e' = .returned (.tuple #[]) ∧ CurO w' C bo c b (thatS b s want e) ∧ Kept (OneB C) w w' := by
  have HTk := Lib.hid (take_any w C bo c b s 1 1 rfl hO hR hat hb (by decide))
  have HRk := Lib.hid hRk
  have hlen := takeB_len (b := b) (s := s) (n := 1)
  have hall := takeB_all (s := s) (n := 1) hR.all
  have HTh : Hid (thatS b s want e = refS2 (takeS b s 1) (decide ((takeB b s 1).length = 1 ∧ (takeB b s 1).getD 0 0 ≠ want)) e) := Lib.hid rfl
  unfold TookB at HTk
  generalize thatS b s want e = s2 at HTh ⊢
  generalize takeS b s 1 = s1 at *
  generalize takeB b s 1 = t at *
  clear hO hR hRk
  go_enter Tryz.func79, Tryz.ntmps79
  go_wp2_with fail
  refine HTk.out.mono ?_
  rintro e' w1 ⟨o, m, k, rfl, HO1, HK1, HM, HRd, hmk, hkc, hn⟩
  have hrf := fun x => refuse_any w1 C bo c b s1 x e HO1.out
  have HRf := Lib.hid hrf
  clear hrf HTk
  by_cases hm : m = 1
  · subst hm
    obtain ⟨y, hy⟩ : ∃ y, t = [y] := by
      have := HM.out
      match t, this with
      | [y], _ => exact ⟨y, rfl⟩
    have hr1 := HRd.out w1 (HRk.out w1 HK1.out)
    rw [hy] at hr1
    obtain ⟨g, of, rfl, _, hc⟩ := hr1.at (by simp)
    have c0 := hc 0 (by simp)
    rw [Nat.add_zero] at c0
    have c0 : w1.cell? ⟨g, of, none⟩ = some (.int .u8 y) := c0
    have HTh2 : Hid (s2 = refS2 s1 (!(y == want)) e) := Lib.hid (by
      rw [HTh.out, hy]
      by_cases hyw : y = want
      · rw [decide_eq_false (fun k => k.2 hyw), hyw]
        rw [beq_self_eq_true]; rfl
      · rw [decide_eq_true ⟨rfl, hyw⟩, beq_eq_false_iff_ne.2 hyw]; rfl)
    obtain ⟨bb, hbb⟩ : ∃ bb, bb = (!(y == want)) := ⟨_, rfl⟩
    have hb2 : (y != want) = bb := by rw [hbb]; rfl
    have hb3 : (y == want) = !bb := by rw [hbb, Bool.not_not]
    rw [← hbb] at HTh2
    clear hbb hc hr1 hy hall
    go_wp2_with fail
    refine (HRf.out bb).mono ?_
    rintro e' w2 ⟨rfl, h2, k2⟩
    have H2 := Lib.hid h2; have K2 := Lib.hid k2
    clear h2 k2
    go_wp2
    refine bodyPost_end (results_none rfl _ _ _) rfl ?_
    exact ⟨rfl, by rw [HTh2.out]; exact H2.out, HK1.out.trans K2.out⟩
  · have hm0 : m = 0 := by have := HM.out; omega
    subst hm0
    have HTh2 : Hid (s2 = refS2 s1 false e) := Lib.hid (by
      rw [HTh.out, decide_eq_false (by have := HM.out; omega)])
    go_wp2_with fail
    refine (HRf.out false).mono ?_
    rintro e' w2 ⟨rfl, h2, k2⟩
    have H2 := Lib.hid h2; have K2 := Lib.hid k2
    clear h2 k2
    go_wp2
    refine bodyPost_end (results_none rfl _ _ _) rfl ?_
    exact ⟨rfl, by rw [HTh2.out]; exact H2.out, HK1.out.trans K2.out⟩
end Go.Proofs.YtfmjfgmbjdhogaaGreatDoor

namespace Go.Proofs.YtfmjfgmbjdhogaaGreatDoor
open Go.RowKit
set_option linter.unusedVariables false
set_option linter.unusedSimpArgs false
set_option maxRecDepth 20000

def TextB (w : World) (C : Nat) (bo : Option Addr) (c : Nat) (b : List Int) (s : Cur) (e : Ending) (w' : World) : Prop :=
  e = .returned (.string (strOfNums (txtR b s))) ∧ CurO w' C bo c b (txtS b s) ∧ Kept (OneB C) w w'
theorem ahead_len (b : List Int) (p : Nat) (hp : p ≤ b.length) : (aheadB b ⟨p, 0⟩).length = min (p + 1001) b.length - p := by
  unfold aheadB
  rw [List.length_take, List.length_drop]
  dsimp only
  omega
set_option maxHeartbeats 8000000 in
theorem text_anyG (w : World) (C : Nat) (bo : Option Addr) (c : Nat) (b : List Int) (s : Cur) (hO : CurO w C bo c b s) (hR : CurRow w bo c b) (hRk : ∀ W, Kept (OneB C) w W → CurRow W bo c b) (hat : s.at_ ≤ b.length) (hb : b.length ≤ 1000000) :
    Calls Tryz.prog 82 #[.pointer (some ⟨C, 0, none⟩)] w (TextB w C bo c b s) := by
  obtain ⟨p, e⟩ := s
  have c0 : w.cell? ⟨C, 0, none⟩ = some (.slice bo b.length c) := obj_cell hO 0
  have c1 : w.cell? ⟨C, 1, none⟩ = some (.int .i64 (p : Int)) := obj_cell hO 1
  have c2 : w.cell? ⟨C, 2, none⟩ = some (.int .i64 e) := obj_cell hO 2
  dsimp only at hat
  by_cases he : e ≠ 0
  · have HT : Hid (txtR b ⟨p, e⟩ = [] ∧ txtS b ⟨p, e⟩ = ⟨p, e⟩) := Lib.hid ⟨if_pos he, if_pos he⟩
    have he2 : (e == 0) = false := by simpa using he
    have HO := Lib.hid hO
    clear hO hR hRk
    go_enter Tryz.func82, Tryz.ntmps82
    go_wp2
    go_ret
    exact ⟨by rw [HT.out.1]; rfl, by rw [HT.out.2]; exact HO.out, Kept.refl _ _⟩
  · have he0 : e = 0 := Classical.not_not.1 he
    subst he0
    obtain ⟨h, hh⟩ : ∃ h, h = min (p + 1001) b.length := ⟨_, rfl⟩
    have hal := ahead_len b p hat
    rw [← hh] at hal
    have hab : aheadB b ⟨p, 0⟩ = (b.drop p).take (h - p) := by
      rw [← hal]
      unfold aheadB
      dsimp only
      rw [List.length_take, List.take_eq_take_iff]
      omega
    obtain ⟨o1, hsl, hpt⟩ := slg_lh bo b.length c p h b rfl (by omega) (by omega) hR.cap hR.nil
    have hrd := hpt.reads w hR.rd
    rw [← hab] at hrd
    have hall : AllB (aheadB b ⟨p, 0⟩) := by rw [hab]; exact (hR.all.drop _).take _
    have HIx := Lib.hid (fun (W : World) (hk : Kept NoB w W) => ixb_any o1 (h - p) (c - p) (aheadB b ⟨p, 0⟩) W hal.symm hall (hrd.keptNo hk))
    have hmin : (p + 1001 < b.length ∧ h = p + 1001) ∨ (b.length ≤ p + 1001 ∧ h = b.length) := by omega
    obtain ⟨l, hl⟩ : ∃ l, l = b.length := ⟨_, rfl⟩
    have hcl : l ≤ c := by rw [hl]; exact hR.cap
    rw [← hl] at c0 hat hb hmin hsl
    obtain ⟨al, hale⟩ : ∃ al, al = h - p := ⟨_, rfl⟩
    rw [← hale] at HIx hsl
    have hah : p + al = h := by omega
    obtain ⟨k, hk⟩ : ∃ k, k = c - p := ⟨_, rfl⟩
    rw [← hk] at HIx hsl
    have HO := Lib.hid hO; have HR := Lib.hid hR; have HRk := Lib.hid hRk; have HL := Lib.hid hl; have HAl := Lib.hid hal; have HAle := Lib.hid hale
    have hal1 : al ≤ 1001 := by omega
    clear hO hR hRk hl hal hab hpt hrd hall hh hale hk he
    have hz : (ixZ (aheadB b ⟨p, 0⟩) = -1 ∧ Hid (zeroAt (aheadB b ⟨p, 0⟩) = al)) ∨ ∃ z : Nat, ixZ (aheadB b ⟨p, 0⟩) = (z : Int) ∧ z < al ∧ Hid (zeroAt (aheadB b ⟨p, 0⟩) = z) := by
      have h1 := zeroAt_le (aheadB b ⟨p, 0⟩)
      have h2 := HAl.out
      have h3 := HAle.out
      unfold ixZ
      by_cases hc : zeroAt (aheadB b ⟨p, 0⟩) = (aheadB b ⟨p, 0⟩).length
      · exact .inl ⟨if_pos hc, Lib.hid (by omega)⟩
      · exact .inr ⟨_, if_neg hc, by omega, Lib.hid rfl⟩
    generalize ixZ (aheadB b ⟨p, 0⟩) = zi at HIx hz
    have hq1 : IntKind.i64.wrap ((p : Int) + 1000) = ((p + 1000 : Nat) : Int) := by rw [IntWalk.i64_in _ (by omega)]; omega
    have hhb : h ≤ 1000000 := by omega
    have hpb : p ≤ 1000000 := by omega
    have hhl : h ≤ l := by omega
    obtain ⟨p1, hp1⟩ : ∃ p1, p1 = p + 1000 := ⟨_, rfl⟩
    rw [← hp1] at hq1
    have hq2 : IntKind.i64.wrap ((p1 : Int) + 1) = ((p1 + 1 : Nat) : Int) := by rw [IntWalk.i64_in _ (by omega)]; omega
    obtain ⟨p2, hp2⟩ : ∃ p2, p2 = p1 + 1 := ⟨_, rfl⟩
    rw [← hp2] at hq2
    have HP2 : Hid (p2 = p + 1001) := Lib.hid (by rw [hp2, hp1])
    have HMn := Lib.hid hmin
    have hp1b : p1 ≤ 2000000 := by omega
    have hp2b : p2 ≤ 2000000 := by omega
    clear hp1 hp2 hmin
    go_enter Tryz.func82, Tryz.ntmps82
    go_upto_region 3 with fail
    go_cut [3] from 11 to 31 (fun v3 wx => v3 = .slice o1 al k ∧ Hid (Kept NoB w wx))
    case first =>
      rcases HMn.out with ⟨hw1, hw2⟩ | ⟨hw1, hw2⟩
      · have e : h = p2 := by rw [hw2, HP2.out]
        subst e
        have hw3 : (h : Int) < (l : Int) := by have := HP2.out; omega
        clear hw1 hw2
        go_quiet (fail)
        go_wp2
        go_meet
        exact ⟨rfl, Lib.hid ((Kept.refl _ _).drewN _)⟩
      · subst hw2
        have hw3 : ¬ (p2 : Int) < (h : Int) := by have := HP2.out; omega
        clear hw1
        go_quiet (fail)
        go_wp2
        go_meet
        exact ⟨rfl, Lib.hid ((Kept.refl _ _).drewN _)⟩
    case rest =>
    obtain ⟨rfl, HKd⟩ := hcut
    have HOd : Hid (CurO wc C bo c b ⟨p, 0⟩) := Lib.hid (HKd.out.obj HO.out (fun h => h))
    have hkd : Kept NoB w wc := HKd.out
    have hkC : Kept (OneB C) w wc := hkd.mono (fun _ _ e => e.elim)
    have HIxd := Lib.hid (HIx.out _ hkd)
    have HKC : Hid (Kept (OneB C) w wc) := Lib.hid hkC
    clear hkd hkC HIx HO c0 c1 c2 hsl hq1 hq2 HMn HP2 HKd
    go_wp2_with fail
    refine HIxd.out.mono ?_
    rintro e w1 ⟨rfl, rfl⟩
    have HRf := Lib.hid (fun x e => refuse_any w1 C bo c b ⟨p, 0⟩ x e HOd.out)
    have HTkA : Hid (∀ (W : World) (s : Cur) (n : Nat) (z : Int), z = (n : Int) → CurO W C bo c b s → Kept (OneB C) w W → s.at_ ≤ b.length → n ≤ 1000000 → Calls Tryz.prog 80 #[.pointer (some ⟨C, 0, none⟩), .int .i64 z] W (TookB W C bo c b s n)) :=
      Lib.hid (fun W s n z hz h1 h2 h3 h4 => take_any W C bo c b s n z hz h1 (HRk.out W h2) h3 (by rw [← HL.out]; exact hb) h4)
    rcases hz with ⟨rfl, HZ⟩ | ⟨z, rfl, hzl, HZ⟩
    · -- no nought
      obtain ⟨x, hx⟩ : ∃ x : Bool, x = decide (1000 < (al : Int)) := ⟨_, rfl⟩
      have hs3 : ∃ ez : Int, refS2 (refS2 ⟨p, 0⟩ x 6) true 2 = ⟨p, ez⟩ ∧ (ez == 0) = false ∧ ez ≠ 0 ∧ Hid (ez = if 1000 < al then 6 else 2) := by
        cases x with
        | true => exact ⟨6, rfl, rfl, by decide, Lib.hid (by rw [if_pos (by have h := hx; simp at h; omega)])⟩
        | false => exact ⟨2, rfl, rfl, by decide, Lib.hid (by rw [if_neg (by have h := hx; simp at h; omega)])⟩
      obtain ⟨ez, hs3, hez, hez0, HEz⟩ := hs3
      have hx2 : decide (1000 < (al : Int)) = x := hx.symm
      have HS3 := Lib.hid hs3; have HEz0 := Lib.hid hez0
      clear hx hs3 hez0
      go_wp2_with fail
      refine (HRf.out x 6).mono ?_
      rintro e w2 ⟨rfl, h2, k2⟩
      have H2 := Lib.hid (refuse_any w2 C bo c b _ true 2 h2)
      have K2 := Lib.hid (HKC.out.trans k2)
      clear h2 k2
      go_wp2_with fail
      refine H2.out.mono ?_
      rintro e w3 ⟨rfl, h3, k3⟩
      rw [HS3.out] at h3
      have HTk := Lib.hid (HTkA.out w3 ⟨p, ez⟩ 0 0 rfl h3 (K2.out.trans k3) (by show p ≤ _; rw [← HL.out]; exact hat) (by decide))
      have K3 := Lib.hid (K2.out.trans k3)
      clear h3 k3 H2
      go_wp2_with fail
      refine HTk.out.mono ?_
      rintro e w4 ⟨o, m, kk, rfl, HO4, HK4, HM, HRd, hmk, hkc, HN⟩
      have K4 := Lib.hid (K3.out.trans HK4.out)
      have hTB : takeB b ⟨p, ez⟩ 0 = [] := takeB_e HEz0.out
      have hTS : takeS b ⟨p, ez⟩ 0 = ⟨p, ez⟩ := takeS_e HEz0.out
      have HM : Hid (m = 0) := Lib.hid (by rw [HM.out, hTB]; rfl)
      have hr4 := HRd.out w4 (HRk.out w4 K4.out)
      rw [hTB] at hr4
      have hcv : (convert 22 9 (.slice o m kk)).run Tryz.prog w4 = .ok (.string (strOfNums [])) w4 := conv_reads hr4 HM.out HN.out
      have ho4 := HO4.out
      rw [hTS] at ho4
      have c2 : w4.cell? ⟨C, 2, none⟩ = some (.int .i64 ez) := obj_cell ho4 2
      have HO4 := Lib.hid ho4
      clear HRd hTB hTS hr4 ho4 HTk
      go_wp2
      go_ret
      have hT : txtR b ⟨p, 0⟩ = [] ∧ txtS b ⟨p, 0⟩ = ⟨p, ez⟩ := by
        have h1 : zeroAt (aheadB b ⟨p, 0⟩) = (aheadB b ⟨p, 0⟩).length := by rw [HZ.out, HAl.out, HAle.out]
        have h2 : (aheadB b ⟨p, 0⟩).length = al := by rw [HAl.out, HAle.out]
        unfold txtR txtS
        rw [if_neg (show ¬ (Cur.mk p 0).e ≠ 0 from fun k => k rfl), if_neg (show ¬ (Cur.mk p 0).e ≠ 0 from fun k => k rfl), if_pos h1, if_pos h1, h2, HEz.out]
        refine ⟨rfl, ?_⟩
        by_cases hh : 1000 < al
        · rw [if_pos hh, if_pos hh]
        · rw [if_neg hh, if_neg hh]
      exact ⟨by rw [hT.1]; rfl, by rw [hT.2]; exact HO4.out, K4.out⟩
    · by_cases hz0 : z = 0
      · subst hz0
        go_wp2_with fail
        refine (HRf.out true 6).mono ?_
        rintro e w2 ⟨rfl, h2, k2⟩
        have H2 := Lib.hid (refuse_any w2 C bo c b _ false 2 h2)
        have K2 := Lib.hid (HKC.out.trans k2)
        clear h2 k2
        go_wp2_with fail
        refine H2.out.mono ?_
        rintro e w3 ⟨rfl, h3, k3⟩
        have h3 : CurO w3 C bo c b ⟨p, 6⟩ := h3
        have HTk := Lib.hid (HTkA.out w3 ⟨p, 6⟩ 1 1 rfl h3 (K2.out.trans k3) (by show p ≤ _; rw [← HL.out]; exact hat) (by decide))
        have K3 := Lib.hid (K2.out.trans k3)
        clear h3 k3 H2
        go_wp2_with fail
        refine HTk.out.mono ?_
        rintro e w4 ⟨o, m, kk, rfl, HO4, HK4, HM, HRd, hmk, hkc, HN⟩
        have K4 := Lib.hid (K3.out.trans HK4.out)
        have hTB : takeB b ⟨p, 6⟩ 1 = [] := takeB_e (by show (6 : Int) ≠ 0; decide)
        have hTS : takeS b ⟨p, 6⟩ 1 = ⟨p, 6⟩ := takeS_e (by show (6 : Int) ≠ 0; decide)
        have HM : Hid (m = 0) := Lib.hid (by rw [HM.out, hTB]; rfl)
        have hr4 := HRd.out w4 (HRk.out w4 K4.out)
        rw [hTB] at hr4
        have hcv : (convert 22 9 (.slice o m kk)).run Tryz.prog w4 = .ok (.string (strOfNums [])) w4 := conv_reads hr4 HM.out HN.out
        have ho4 := HO4.out
        rw [hTS] at ho4
        have c2 : w4.cell? ⟨C, 2, none⟩ = some (.int .i64 6) := obj_cell ho4 2
        have HO4 := Lib.hid ho4
        clear HRd hTB hTS hr4 ho4 HTk
        go_wp2
        go_ret
        have hT : txtR b ⟨p, 0⟩ = [] ∧ txtS b ⟨p, 0⟩ = ⟨p, 6⟩ := by
          have h1 : ¬ zeroAt (aheadB b ⟨p, 0⟩) = (aheadB b ⟨p, 0⟩).length := by rw [HZ.out, HAl.out]; have := HAle.out; omega
          unfold txtR txtS
          rw [if_neg (show ¬ (Cur.mk p 0).e ≠ 0 from fun k => k rfl), if_neg (show ¬ (Cur.mk p 0).e ≠ 0 from fun k => k rfl), if_neg h1, if_neg h1, HZ.out, if_pos rfl]
          exact ⟨rfl, rfl⟩
        exact ⟨by rw [hT.1]; rfl, by rw [hT.2]; exact HO4.out, K4.out⟩
      · have hz1 : ((z : Int) == 0) = false := by simpa using hz0
        go_wp2_with fail
        refine (HRf.out false 6).mono ?_
        rintro e w2 ⟨rfl, h2, k2⟩
        have h2 : CurO w2 C bo c b ⟨p, 0⟩ := h2
        have H2 := Lib.hid (refuse_any w2 C bo c b _ false 2 h2)
        have K2 := Lib.hid (HKC.out.trans k2)
        clear h2 k2
        go_wp2_with fail
        refine H2.out.mono ?_
        rintro e w3 ⟨rfl, h3, k3⟩
        have h3 : CurO w3 C bo c b ⟨p, 0⟩ := h3
        have HTk := Lib.hid (HTkA.out w3 ⟨p, 0⟩ (z + 1) ((z : Int) + 1) (by push_cast; rfl) h3 (K2.out.trans k3) (by show p ≤ _; rw [← HL.out]; exact hat) (by omega))
        have K3 := Lib.hid (K2.out.trans k3)
        clear h3 k3 H2
        have hzb : z ≤ 1001 := by omega
        go_wp2_with fail
        refine HTk.out.mono ?_
        rintro e w4 ⟨o, m, kk, rfl, HO4, HK4, HM, HRd, hmk, hkc, HN⟩
        have K4 := Lib.hid (K3.out.trans HK4.out)
        have hfit : ¬ z + 1 > b.length - p := by have := HL.out; have := HAle.out; have := HAl.out; omega
        have hTB : takeB b ⟨p, 0⟩ (z + 1) = (b.drop p).take (z + 1) := by unfold takeB; rw [if_neg (show ¬ (Cur.mk p 0).e ≠ 0 from fun k => k rfl), if_neg hfit]
        have hTS : takeS b ⟨p, 0⟩ (z + 1) = ⟨p + (z + 1), 0⟩ := by unfold takeS; rw [if_neg (show ¬ (Cur.mk p 0).e ≠ 0 from fun k => k rfl), if_neg hfit]
        obtain ⟨T, hT⟩ : ∃ T, T = (b.drop p).take (z + 1) := ⟨_, rfl⟩
        rw [← hT] at hTB
        have hTl : T.length = z + 1 := by rw [hT, List.length_take, List.length_drop]; omega
        have hr4 := HRd.out w4 (HRk.out w4 K4.out)
        rw [hTB] at hr4
        have HM : Hid (m = T.length) := Lib.hid (by rw [HM.out, hTB])
        have hcv : (convert 22 9 (.slice o m kk)).run Tryz.prog w4 = .ok (.string (strOfNums T)) w4 := conv_reads hr4 HM.out HN.out
        have hsz : (strOfNums T).size = z + 1 := by rw [strOfNums_size, hTl]
        have hex : (strOfNums T).extract 0 z = strOfNums (T.take z) := by
          have := str_extract3 T 0 z
          simpa using this
        have hTt : T.take z = txtR b ⟨p, 0⟩ ∧ txtS b ⟨p, 0⟩ = ⟨p + (z + 1), 0⟩ := by
          have h1 : ¬ zeroAt (aheadB b ⟨p, 0⟩) = (aheadB b ⟨p, 0⟩).length := by rw [HZ.out, HAl.out]; have := HAle.out; omega
          unfold txtR txtS
          rw [if_neg (show ¬ (Cur.mk p 0).e ≠ 0 from fun k => k rfl), if_neg (show ¬ (Cur.mk p 0).e ≠ 0 from fun k => k rfl), if_neg h1, if_neg h1, HZ.out, if_neg hz0]
          refine ⟨?_, rfl⟩
          rw [hT, List.take_take]
          unfold aheadB
          rw [List.take_take]
          congr 1
          omega
        have ho4 := HO4.out
        rw [hTS] at ho4
        have c2 : w4.cell? ⟨C, 2, none⟩ = some (.int .i64 0) := obj_cell ho4 2
        have HO4 := Lib.hid ho4
        obtain ⟨S, hS⟩ : ∃ S, S = strOfNums T := ⟨_, rfl⟩
        rw [← hS] at hcv hsz hex
        have HEx := Lib.hid hex; have HTt := Lib.hid hTt
        clear HRd hTB hTS hr4 ho4 HTk hS hT hTl hex hTt
        go_wp2
        go_ret
        exact ⟨by rw [← HTt.out.1, ← HEx.out]; rfl, by rw [HTt.out.2]; exact HO4.out, K4.out⟩
end Go.Proofs.YtfmjfgmbjdhogaaGreatDoor
