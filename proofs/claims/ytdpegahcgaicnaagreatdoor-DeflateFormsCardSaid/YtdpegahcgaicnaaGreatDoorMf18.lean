/-
  The document's SameInts, more, Flat.
  The document's Flat.
  lens.readRow: a row of lengths, read by the code of lengths.
  lens.readCode: the code of lengths is read.
-/
import Derived.Test.YtdpegahcgaicnaaGreatDoorMf17
import Derived.Deep.CutBlock
namespace Go.Proofs.YtdpegahcgaicnaaGreatDoor
open Go.RowKit
set_option linter.unusedVariables false
set_option linter.unusedSimpArgs false

theorem drop_getDz (bs : List Int) (j : Nat) (hj : j < bs.length) : bs.drop j = bs.getD j 0 :: bs.drop (j + 1) := by
  rw [List.drop_eq_getElem_cons hj]; simp [List.getD, hj]
set_option maxRecDepth 20000 in
set_option maxHeartbeats 1000000 in
theorem more_any (a : Option Addr) (c : Nat) (l : List Int) (A : Nat) (s x : Int) (w : World) (hr : RdI w A a l) (hm : l.length ≤ 1000) (hlc : l.length ≤ c) :
    Calls Tryz.prog 63 #[.slice a l.length c, .agg #[.int .i64 s, .int .i64 x]] w fun e w' =>
      (okRun l s x ∧ ∃ a' c', e = .returned (.tuple #[.slice a' (moreL l s x).length c', .bool true]) ∧ OwnI w' a' c' (moreL l s x) ∧ Kept NoB w w' ∧ (∀ k, (Value.slice a' (moreL l s x).length c').ownBlock = some k → w.heap.size ≤ k)) ∨
      (¬ okRun l s x ∧ e = .returned (.tuple #[.slice none 0 0, .bool false]) ∧ Kept NoB w w') := by
  have HR := Lib.hid hr
  obtain ⟨len, hlen⟩ : ∃ len, len = l.length := ⟨_, rfl⟩
  have HLe := Lib.hid hlen
  have hkb : Kept NoB w (w.alloc (.cells #[.int .i64 s, .int .i64 x] 106)) := (Kept.refl _ _).alloc _
  have HKb := Lib.hid hkb
  have c0 : (w.alloc (.cells #[.int .i64 s, .int .i64 x] 106)).cell? ⟨w.heap.size, 0, none⟩ = some (.int .i64 s) := cell_new 0 rfl
  have c1 : (w.alloc (.cells #[.int .i64 s, .int .i64 x] 106)).cell? ⟨w.heap.size, 1, none⟩ = some (.int .i64 x) := cell_new 1 rfl
  have hlm : len ≤ 1000 := by omega
  have hlc2 : len ≤ c := by omega
  obtain ⟨i0, hi, hz0, hz1, hz2⟩ := info_parts infoI
  rw [← hlen]
  clear hr hkb hlen hm hlc
  go_enter Tryz.func63, Tryz.ntmps63
  go_upto_block 0 with fail
  generalize w.alloc (.cells #[.int .i64 s, .int .i64 x] 106) = w1 at c0 c1 HKb ⊢
  obtain ⟨bk, hbk⟩ : ∃ bk, bk = w.heap.size := ⟨_, rfl⟩
  rw [← hbk] at c0 c1 ⊢
  have HBk := Lib.hid hbk
  clear hbk
  go_cut [6, 7, 8] from 11 to 42 (fun v6 v7 v8 wx => w1 = wx ∧ v6 = .int .i64 (valS l s) ∧ v7 = .int .i64 (spanL s : Int) ∧ v8 = .int .i64 (spanM s) ∧ Hid (0 ≤ s ∧ s ≤ 18 ∧ (s = 16 → l ≠ [])))
  case first =>
    have hc : (0 ≤ s ∧ s ≤ 15) ∨ s = 16 ∨ s = 17 ∨ s = 18 ∨ s < 0 ∨ 18 < s := by omega
    rcases hc with h | h | h | h | h | h
    · have e1 : valS l s = s := by unfold valS; rw [if_neg (by omega), if_neg (by omega)]
      have e2 : spanL s = 1 := by unfold spanL; rw [if_neg (by omega), if_neg (by omega), if_neg (by omega)]
      have e3 : spanM s = 0 := by unfold spanM; rw [if_neg (by omega), if_neg (by omega), if_neg (by omega)]
      have E1 := Lib.hid e1; have E2 := Lib.hid e2; have E3 := Lib.hid e3
      clear e1 e2 e3
      go_wp2
      go_meet
      exact ⟨rfl, by rw [E1.out], by rw [E2.out]; rfl, by rw [E3.out], by omega, by omega, fun h => by omega⟩
    · subst h
      by_cases hl0 : l = []
      · have hno : ¬ okRun l 16 x := fun h' => h'.2.2.2.2 rfl hl0
        have HNo := Lib.hid hno
        have hlen0 : len = 0 := by rw [HLe.out, hl0]; rfl
        subst hlen0
        clear hno hl0 HLe
        go_wp2
        go_ret2
        exact .inr ⟨HNo.out, rfl, HKb.out⟩
      · have hlpos : 0 < len := by rw [HLe.out]; exact List.length_pos_iff.2 hl0
        obtain ⟨q, hq⟩ : ∃ q : Nat, q = len - 1 := ⟨_, rfl⟩
        obtain ⟨g, off, rfl, hgl, hcq⟩ := HR.out q (by have := HLe.out; omega)
        have hq1000 : q ≤ 1000 := by omega
        have hv : valS l 16 = l.getD q 0 := by unfold valS; rw [if_pos rfl, hq, HLe.out]
        generalize l.getD q 0 = z at hcq hv
        have hcq2 := HKb.out.cell hcq
        have hqi : (len : Int) - 1 = (q : Int) := by omega
        have hql : q < len := by omega
        have HV := Lib.hid hv; have HL0 := Lib.hid hl0
        clear hv hl0 hcq hq
        go_wp2
        go_meet
        exact ⟨rfl, by rw [HV.out], rfl, rfl, by omega, by omega, fun _ => HL0.out⟩
    · subst h
      go_wp2
      go_meet
      exact ⟨rfl, rfl, rfl, rfl, by omega, by omega, fun h => by omega⟩
    · subst h
      go_wp2
      go_meet
      exact ⟨rfl, rfl, rfl, rfl, by omega, by omega, fun h => by omega⟩
    · have hno : ¬ okRun l s x := fun h' => by have := h'.1; omega
      have HNo := Lib.hid hno
      have g1 : (s == 16) = false := by simp; omega
      have g2 : (s == 17) = false := by simp; omega
      have g3 : (s == 18) = false := by simp; omega
      clear hno
      go_wp2
      go_ret2
      exact .inr ⟨HNo.out, rfl, HKb.out⟩
    · have hno : ¬ okRun l s x := fun h' => by have := h'.2.1; omega
      have HNo := Lib.hid hno
      have g1 : (s == 16) = false := by simp; omega
      have g2 : (s == 17) = false := by simp; omega
      have g3 : (s == 18) = false := by simp; omega
      have g4 : ¬ s ≤ 15 := by omega
      clear hno
      go_wp2
      go_ret2
      exact .inr ⟨HNo.out, rfl, HKb.out⟩
  case rest =>
  obtain ⟨rfl, rfl, rfl, rfl, HS⟩ := hcut
  obtain ⟨M, hM⟩ : ∃ M, spanM s = M := ⟨_, rfl⟩
  obtain ⟨val, hV⟩ : ∃ v, valS l s = v := ⟨_, rfl⟩
  have HM := Lib.hid hM; have HV := Lib.hid hV
  rw [hM, hV]
  clear hM hV c0
  by_cases hx : 0 ≤ x ∧ x ≤ M
  · obtain ⟨k, rfl⟩ : ∃ k : Nat, x = (k : Int) := ⟨x.toNat, by omega⟩
    have hok : okRun l s (k : Int) := ⟨HS.out.1, HS.out.2.1, hx.1, by rw [HM.out]; exact hx.2, HS.out.2.2⟩
    have hM127 : spanM s ≤ 127 := by unfold spanM; split <;> (try split) <;> (try split) <;> omega
    have hL11 : 1 ≤ spanL s ∧ spanL s ≤ 11 := by unfold spanL; split <;> (try split) <;> (try split) <;> omega
    have hk127 : k ≤ 127 := by have := HM.out; omega
    have hmore : moreL l s (k : Int) = l ++ List.replicate (spanL s + k) val := by unfold moreL; rw [HV.out]; rfl
    have hnx : ¬ (k : Int) < 0 := by omega
    have hMk : ¬ M < (k : Int) := by omega
    obtain ⟨L, hL⟩ : ∃ L, spanL s = L := ⟨_, rfl⟩
    rw [hL] at hmore hL11 ⊢
    have HOk := Lib.hid hok; have HMore := Lib.hid hmore
    clear hok hmore hM127 hx hL
    go_upto_region 15 with fail
    go_cut [9] from 52 to 54 (fun v9 wx => ∃ a2 c2, v9 = .slice a2 len c2 ∧ Hid (wx.ownsRow 0 3 1 (.slice a2 len c2) len (l.map (.int .i64))) ∧ Hid (Kept NoB w1 wx) ∧ Hid (∀ q, (Value.slice a2 len c2).ownBlock = some q → w1.heap.size ≤ q))
    case first =>
      cases a with
      | none =>
        have hl0 : l = [] := by
          cases l with
          | nil => rfl
          | cons z r => obtain ⟨g, off, h, _⟩ := HR.out 0 (by simp); cases h
        have hlen0 : len = 0 := by rw [HLe.out, hl0]; rfl
        have hrow := World.ownsRow_made (base := 0) (e := 3) (size := 1) w1 #[] 0 (Nat.zero_le _) (Nat.zero_le _) rfl
        have HRow := Lib.hid hrow
        have HLe0 := Lib.hid hl0
        subst hlen0
        clear hrow hl0
        have hkA : Kept NoB w1 (w1.alloc (.cells #[] 3)) := (Kept.refl _ _).alloc _
        have HKA := Lib.hid hkA
        clear hkA
        go_wp2
        go_meet
        refine ⟨some ⟨w1.heap.size, 0, none⟩, 0, rfl, ?_, HKA, fun q hq => ?_⟩
        · rw [HLe0.out]; exact HRow.out
        · simp [Value.ownBlock] at hq; omega
      | some ad =>
        have hrow := World.ownsRow_made (base := 0) (e := 3) (size := 1) w1 #[] 0 (Nat.zero_le _) (Nat.zero_le _) rfl
        have hc2 : ∀ j u, (l.map (Value.int .i64))[j]? = some u → (w1.alloc (.cells #[] 3)).cell? (ad.add j) = some u := by
          intro j u hj
          have hjl : j < l.length := by have := (List.getElem?_eq_some_iff.1 hj).1; simpa using this
          obtain ⟨g, off, e, _, hc⟩ := HR.out j hjl
          cases e
          rw [addr_add]
          refine Lib.cell?_alloc_some _ ?_
          rw [HKb.out.cell hc]
          have e : (l.map (Value.int .i64))[j]? = some (Value.int .i64 (l.getD j 0)) := by simp [List.getD, List.getElem?_eq_getElem hjl]
          rw [e] at hj
          exact hj
        have hc3 : ∀ u ∈ l.map (Value.int .i64), u.oneCell' = true := by intro u hu; obtain ⟨y, _, rfl⟩ := List.mem_map.1 hu; rfl
        have HRow := Lib.hid hrow; have HC2 := Lib.hid hc2; have HC3 := Lib.hid hc3
        clear hrow hc2 hc3
        go_wp2_with (at_builtin; refine wpList_app _ rfl _ _ 23 rfl 3 i0 (.int .i64 0) 1 8 Tryz.underlying23 hi hz0 hz1 hz2 rfl (by decide) _ 0 [] rfl HRow.out ad len c (l.map (.int .i64)) rfl ?c1 HC2.out HC3.out ?c4 ?c5 ?_)
        case c1 => simp [HLe.out]
        case c4 => unfold maxLen; omega
        case c5 => omega
        intro v' w2 hown hgrow hnew
        obtain ⟨a2, c2, rfl⟩ := own_shape hown
        have hk2 : Kept NoB w1 w2 := ((Kept.refl NoB w1).alloc _).grown hgrow (by intro j hj e; simp [Value.ownBlock] at e; omega)
        have hf2 : ∀ q, (Value.slice a2 len c2).ownBlock = some q → w1.heap.size ≤ q := by
          intro q hq
          rcases hnew q (by first | exact hq | (rw [Nat.zero_add]; exact hq)) with h | h
          · simp [Value.ownBlock] at h; omega
          · have : (w1.alloc (.cells #[] 3)).heap.size = w1.heap.size + 1 := by simp
            omega
        try rw [Nat.zero_add] at hown
        try rw [List.nil_append] at hown
        have HO2 := Lib.hid hown; have HK2 := Lib.hid hk2; have HF2 := Lib.hid hf2
        clear hown hk2 hf2 hgrow hnew
        go_wp2
        go_meet
        exact ⟨a2, c2, by first | rfl | rw [Nat.zero_add], HO2, HK2, HF2⟩
    case rest =>
    obtain ⟨a2, c2, rfl, HO, HK, HF⟩ := hcut
    obtain ⟨T, hT⟩ : ∃ T, T = L + k := ⟨_, rfl⟩
    have hsum : (L : Int) + (k : Int) = (T : Int) := by omega
    have hT200 : T ≤ 200 := by omega
    have HT := Lib.hid hT
    clear hT
    go_wp2
    go_loopw [9, 10] (fun v9 v10 wr => ∃ (a3 : Option Addr) (c3 j : Nat), v9 = .slice a3 (len + j) c3 ∧ v10 = .int .i64 (j : Int) ∧ j ≤ T ∧ Hid (wr.ownsRow 0 3 1 (.slice a3 (len + j) c3) (len + j) ((l ++ List.replicate j val).map (.int .i64))) ∧ Hid (Kept NoB w1 wr) ∧ Hid (∀ q, (Value.slice a3 (len + j) c3).ownBlock = some q → w1.heap.size ≤ q)) (fun _ v10 _ => T - (intOf v10).toNat)
    case atStart => exact ⟨a2, c2, 0, rfl, rfl, by omega, (by rw [List.replicate_zero, List.append_nil]; exact HO.out), HK.out, HF.out⟩
    case round =>
      clear HO HK HF
      obtain ⟨a3, c3, j, rfl, rfl, hj, HO, HK, HF⟩ := hrel
      have hc1 := HK.out.cell c1
      by_cases hlt : (j : Int) < T
      · obtain ⟨m, hm⟩ : ∃ m, m = len + j := ⟨_, rfl⟩
        have hm2 : m ≤ 2000 := by omega
        have HM2 := Lib.hid hm
        rw [← hm] at HO HF ⊢
        obtain ⟨X, hX⟩ : ∃ X, X = (l ++ List.replicate j val).map (Value.int .i64) := ⟨_, rfl⟩
        rw [← hX] at HO
        have HXe := Lib.hid hX
        clear hX
        have hrow2 := HO.out.alloc (.cells #[.int .i64 val] 3)
        have HRow2 := Lib.hid hrow2
        clear hrow2 hm
        go_wp2_with (at_builtin; refine wpList_app _ rfl _ _ 23 rfl 3 i0 (.int .i64 0) 1 8 Tryz.underlying23 hi hz0 hz1 hz2 rfl (by decide) _ m X rfl HRow2.out ⟨wr.heap.size, 0, none⟩ 1 1 [.int .i64 val] rfl rfl (cell_one_new _ _ _) ?d2 ?d3 ?d4 ?_)
        case d2 => first | rfl | (intro u hu; simp at hu; subst hu; rfl)
        case d3 => unfold maxLen; omega
        case d4 => omega
        intro v' w2 hown' hgrow hnew
        obtain ⟨a4, c4, rfl⟩ := own_shape hown'
        have hmap : X ++ [.int .i64 val] = (l ++ List.replicate (j + 1) val).map (Value.int .i64) := by
          rw [HXe.out, List.replicate_succ', ← List.append_assoc, List.map_append (l₁ := l ++ List.replicate j val)]; rfl
        rw [hmap] at hown'
        have hk2 : Kept NoB w1 w2 := (HK.out.alloc _).grown hgrow (by
          intro q hq e
          have := HF.out q e
          omega)
        have hf2 : ∀ q, (Value.slice a4 (m + 1) c4).ownBlock = some q → w1.heap.size ≤ q := by
          intro q hq
          rcases hnew q hq with h | h
          · exact HF.out q h
          · have := HK.out.size; omega
        have HO2 := Lib.hid hown'; have HK2 := Lib.hid hk2; have HF2 := Lib.hid hf2
        clear hown' hk2 hf2 hgrow hnew hmap
        go_wp2
        go_roundw
        case rel =>
          refine ⟨a4, c4, j + 1, ?_, by go_num, by omega, ?_, HK2, ?_⟩
          · rw [HM2.out]; rfl
          · have := HO2.out; rw [HM2.out] at this; exact this
          · have := HF2.out; rw [HM2.out] at this; exact this
        case measure => simp [intOf]; omega
      · have hjT : j = T := by omega
        subst hjT
        have hlen : (moreL l s (k : Int)).length = len + j := by rw [HMore.out, List.length_append, List.length_replicate, ← HT.out, ← HLe.out]
        have HLn := Lib.hid hlen
        clear hlen
        go_wp2
        go_ret2
        refine .inl ⟨HOk.out, a3, c3, ?_, ?_, HKb.out.trans HK.out, ?_⟩
        · rw [HLn.out]; rfl
        · unfold OwnI
          rw [HLn.out, HMore.out, ← HT.out]
          exact HO.out
        · intro q hq
          have := HF.out q (by rw [← HLn.out]; exact hq)
          have := HKb.out.size
          omega
  · have hno : ¬ okRun l s x := fun h' => hx ⟨h'.2.2.1, by have := h'.2.2.2.1; rw [HM.out] at this; exact this⟩
    have HNo := Lib.hid hno
    have hc : x < 0 ∨ (¬ x < 0 ∧ M < x) := by omega
    clear hno hx
    rcases hc with h | ⟨h1, h2⟩
    all_goals
      go_wp2
      go_ret2
      exact .inr ⟨HNo.out, rfl, HKb.out⟩
end Go.Proofs.YtdpegahcgaicnaaGreatDoor

namespace Go.Proofs.YtdpegahcgaicnaaGreatDoor
open Go.RowKit
set_option linter.unusedVariables false
set_option linter.unusedSimpArgs false

theorem own_readsI {w : World} {base n cap : Nat} {ao : Option Addr} {zs : List Int} (h : w.ownsRow base 3 1 (.slice ao n cap) n (zs.map (.int .i64))) (hn : zs.length = n) : RdI w w.heap.size ao zs := by
  intro i hi
  rcases h.2 with ⟨_, hz⟩ | ⟨g, c, cur, hv, _⟩
  · omega
  · simp at hv
    obtain ⟨rfl, rfl⟩ := hv
    have hc : w.cell? ⟨g, i, none⟩ = some (.int .i64 (zs.getD i 0)) := by
      rw [h.cellAt i (by omega)]; simp [List.getD, hi]
    exact ⟨g, 0, rfl, World.block_lt_of_cell? w _ hc, by rw [Nat.zero_add]; exact hc⟩
theorem OwnI.reads {w : World} {a : Option Addr} {c : Nat} {l : List Int} (h : OwnI w a c l) : RdI w w.heap.size a l := own_readsI h rfl
theorem OwnI.capOk {w : World} {a : Option Addr} {c : Nat} {l : List Int} (h : OwnI w a c l) : l.length ≤ c := (own_cap h).1

theorem lit_readsI {w : World} {cs : Array Value} (zs : List Int) (hc : cs.toList = zs.map (.int .i64)) : RdI (w.alloc (.cells cs 3)) (w.alloc (.cells cs 3)).heap.size (some ⟨w.heap.size, 0, none⟩) zs := by
  intro i hi
  refine ⟨w.heap.size, 0, rfl, by simp, ?_⟩
  rw [Nat.zero_add, cell_new i rfl, ← Array.getElem?_toList, hc]
  simp [List.getD, hi]
theorem orders_any (w : World) : (Calls Tryz.prog 76 #[] w fun e w' => ∃ a c, e = .returned (.slice a 19 c) ∧ RdI w' w'.heap.size a [16, 17, 18, 0, 8, 7, 9, 6, 10, 5, 11, 4, 12, 3, 13, 2, 14, 1, 15] ∧ Kept NoB w w') ∧
    (Calls Tryz.prog 60 #[] w fun e w' => ∃ a c, e = .returned (.slice a 19 c) ∧ RdI w' w'.heap.size a [16, 17, 18, 0, 8, 7, 9, 6, 10, 5, 11, 4, 12, 3, 13, 2, 14, 1, 15] ∧ Kept NoB w w') := by
  constructor
  · go_enter Tryz.func76, Tryz.ntmps76
    go_wp2
    go_ret
    exact ⟨some ⟨w.heap.size, 0, none⟩, 19, rfl, lit_readsI _ rfl, (Kept.refl _ _).alloc _⟩
  · go_enter Tryz.func60, Tryz.ntmps60
    go_wp2
    go_ret
    exact ⟨some ⟨w.heap.size, 0, none⟩, 19, rfl, lit_readsI _ rfl, (Kept.refl _ _).alloc _⟩

end Go.Proofs.YtdpegahcgaicnaaGreatDoor

namespace Go.Proofs.YtdpegahcgaicnaaGreatDoor
open Go.RowKit
set_option linter.unusedVariables false
set_option linter.unusedSimpArgs false

theorem own_lt {w : World} {base e z n : Nat} {v : Value} {xs : List Value} (ho : w.ownsRow base e z v n xs) : ∀ k, v.ownBlock = some k → k < w.heap.size := by
  intro k hk
  rcases ho.2 with ⟨rfl, _⟩ | ⟨g, cap', cur, rfl, hbg, hg, _⟩
  · simp [Value.ownBlock] at hk
  · simp [Value.ownBlock] at hk
    exact hk ▸ obj_lt hg
theorem Kept.transP {S T : Nat → Prop} {a b c : World} (h : Kept S a b) (k : Kept T b c) (hs : ∀ i, i < a.heap.size → T i → S i) : Kept S a c :=
  ⟨k.os.trans h.os, k.tape.trans h.tape, k.output.trans h.output, Nat.le_trans h.size k.size, fun i hi hn => (k.block i (Nat.lt_of_lt_of_le hi h.size) (fun t => hn (hs i hi t))).trans (h.block i hi hn)⟩
theorem spanL_pos (s : Int) : 1 ≤ spanL s := by unfold spanL; split <;> (try split) <;> (try split) <;> decide
theorem spanB_le (s : Int) : spanB s ≤ 7 := by unfold spanB; split <;> (try split) <;> (try split) <;> decide
/-- What readRow tells: the row, where the reader is then. -/
def RowRP (code bs : List Int) (N p R : Nat) (ao : Option Addr) (cap : Nat) (w : World) (e : Ending) (w' : World) : Prop :=
  ∃ (a : Option Addr) (c : Nat) (l : List Int) (f : Int) (q q' : Nat), e = .returned (.tuple #[.slice a l.length c, .int .i64 f]) ∧ RowR code bs N p [] q l f ∧ Rdr w' R ao cap bs q' ∧ (f = 0 → q' = q) ∧ OwnI w' a c l ∧ Kept (OneB R) w w' ∧
    (∀ k, (Value.slice a l.length c).ownBlock = some k → w.heap.size ≤ k)
set_option maxRecDepth 20000 in
set_option maxHeartbeats 8000000 in
theorem readRow_any (code : List Int) (D R N : Nat) (S : Nat → Prop) (ao : Option Addr) (cap : Nat) (bs : List Int) (p : Nat) (w : World) (hd : DecG code D S w) (hr : Rdr w R ao cap bs p) (hSR : ¬ S R) (hSw : ∀ k, S k → k < w.heap.size) (hs : Small 15 code) (hl : code.length ≤ 320) (hN : N ≤ 400) :
    Calls Tryz.prog 159 #[.pointer (some ⟨R, 0, none⟩), .pointer (some ⟨D, 0, none⟩), .int .i64 (N : Int)] w (RowRP code bs N p R ao cap w) := by
  have HD := Lib.hid hd; have HR := Lib.hid hr; have HS := Lib.hid hs
  have hRw := obj_lt hr.1
  have hAw : ∀ k, (Value.slice ao bs.length cap).ownBlock = some k → k < w.heap.size := fun k hk => own_lt hr.2.1 k hk
  have HAw := Lib.hid hAw
  obtain ⟨L8, hL8⟩ : ∃ L8, L8 = 8 * bs.length := ⟨_, rfl⟩
  have HL8 := Lib.hid hL8
  clear hd hr hs hAw hL8
  go_enter Tryz.func159, Tryz.ntmps159
  go_wp2_with fail
  go_loopw [8, 9, 10, 11, 12, 13, 14] (fun v8 _ _ _ _ _ _ wr => ∃ (a : Option Addr) (c : Nat) (l : List Int) (p' : Nat), v8 = .slice a l.length c ∧ l.length ≤ N ∧ Hid (OwnI wr a c l) ∧ Hid (∀ k, (Value.slice a l.length c).ownBlock = some k → w.heap.size ≤ k) ∧ Hid (Rdr wr R ao cap bs p') ∧ Hid (Kept (OneB R) w wr) ∧
    Hid (∀ q l' f, RowR code bs N p' l q l' f → RowR code bs N p [] q l' f)) (fun v8 _ _ _ _ _ _ _ => match v8 with | .slice _ m _ => N - m | _ => 0)
  case atStart => exact ⟨none, 0, [], p, rfl, by simp, Lib.hid (World.ownsRow_nil _ _ _ _), Lib.hid (fun k hk => by simp [Value.ownBlock] at hk), HR, Lib.hid (Kept.refl _ _), Lib.hid (fun _ _ _ h => h)⟩
  case round =>
    obtain ⟨a, c, l, p', rfl, hlN, HO, HF, HRr, HK, HP⟩ := hrel
    by_cases hlt : (l.length : Int) < N
    · obtain ⟨T, hT⟩ : ∃ T : Nat, min3 15 (8 * bs.length - p') = T := by
        have := HRr.out.2.2.2.1
        obtain ⟨T, h, _⟩ := min3_at (8 * bs.length) p' this
        exact ⟨T, by simpa using h⟩
      have hrc := read_callsG code D S R ao cap bs p' T wr (HD.out.kept HK.out (fun k h e => hSR (by unfold OneB at e; exact e ▸ h))) HRr.out hSR HS.out hl hT
      have HRc := Lib.hid hrc; have HT := Lib.hid hT
      obtain ⟨m, hm⟩ : ∃ m, m = l.length := ⟨_, rfl⟩
      have HM := Lib.hid hm
      have hlN2 : l.length < N := by omega
      have HlN := Lib.hid hlN2
      rw [← hm] at hlt hlN HF ⊢
      clear hrc hT hm hlN2
      go_wp2_with fail
      with_reducible refine HRc.out.mono ?_
      rintro e w1 ⟨s, f, q, rfl, hrs, hr1, hk1⟩
      have hkw := HK.out.trans hk1
      have hst := hrs.step
      have hro : ∀ k, (Value.slice a m c).ownBlock = some k → ¬ OneB R k := fun k h e => by have := HF.out k h; unfold OneB at e; omega
      have hown1 : OwnI w1 a c l := hk1.row HO.out (by rw [← HM.out]; exact hro)
      have HRs := Lib.hid hrs; have HR1 := Lib.hid hr1; have HKw := Lib.hid hkw; have HO1 := Lib.hid hown1
      clear hrs hr1 hkw hro hown1 hk1 HRc HRr HO HK
      by_cases hf : f = 0
      · subst hf
        obtain ⟨x, hx⟩ : ∃ x, x = bitsAt bs q (spanB s) := ⟨_, rfl⟩
        have hx7 : x < 128 := by
          have h1 := bitsAt_lt bs q (spanB s)
          have h2 := Nat.pow_le_pow_right (n := 2) (by decide) (spanB_le s)
          rw [hx]; exact Nat.lt_of_lt_of_le h1 h2
        have HX := Lib.hid hx
        clear hx hst
        go_wp2_with fail
        with_reducible refine (span_any s _).mono ?_
        rintro e w2 ⟨rfl, rfl⟩
        by_cases hfit : q + spanB s ≤ 8 * bs.length
        · have htk := take_yes w1 R ao cap bs q (spanB s) HR1.out (by have := spanB_le s; omega) hfit
          rw [← HX.out] at htk
          have HTk := Lib.hid htk; have HFit := Lib.hid hfit
          clear htk hfit
          go_wp2_with fail
          with_reducible refine HTk.out.mono ?_
          rintro e w3 ⟨rfl, hr3, hk3⟩
          have hown3 : OwnI w3 a c l := hk3.row HO1.out (fun k h e => by have := HF.out k (by rw [HM.out]; exact h); unfold OneB at e; omega)
          have hex := extended_any a c l s (x : Int) (N : Int) w3 hown3 (by omega) (by have := HlN.out; omega)
          rw [← HM.out] at hex
          have HEx := Lib.hid hex; have HR3 := Lib.hid hr3; have HK3 := Lib.hid (HKw.out.trans hk3)
          have wx : IntKind.i64.wrap (x : Int) = (x : Int) := IntWalk.i64_in _ (by omega)
          clear hex hown3 hr3 hk3 HTk HR1 HKw HO1
          go_wp2_with fail
          with_reducible refine HEx.out.mono ?_
          rintro e w4 (⟨hok, hN4, a', c', rfl, hown4, hk4, hnew⟩ | ⟨hno, rfl, hk4⟩)
          · have hl4 := moreL_len l s (x : Int)
            have hsp := spanL_pos s
            have hb4 : ∀ k, (Value.slice a' (moreL l s (x : Int)).length c').ownBlock = some k → w.heap.size ≤ k := fun k h => by
              rcases hnew k h with h | h
              · exact HF.out k (by rw [HM.out]; exact h)
              · exact Nat.le_trans HK3.out.size h
            have hr4 : Rdr w4 R ao cap bs (q + spanB s) := HR3.out.kept hk4 (fun h => by have := HF.out R (by rw [HM.out]; exact h); omega) (fun k h e => by have := HAw.out k h; have := HF.out k (by rw [HM.out]; exact e); omega)
            have hk5 : Kept (OneB R) w w4 := HK3.out.transP hk4 (fun i hi h => by have := HF.out i (by rw [HM.out]; exact h); omega)
            have hp5 : ∀ q2 l' f, RowR code bs N (q + spanB s) (moreL l s (x : Int)) q2 l' f → RowR code bs N p [] q2 l' f := fun q2 l' f h => HP.out q2 l' f (.step HlN.out HT.out HRs.out HFit.out (by rw [← HX.out]; exact hok) (by rw [← HX.out]; exact hN4) (by rw [← HX.out]; exact h))
            obtain ⟨L, hL⟩ : ∃ L, L = moreL l s (x : Int) := ⟨_, rfl⟩
            rw [← hL] at hown4 hb4 hp5 hl4 hN4 ⊢
            have hml : m < L.length := by have := HM.out; omega
            have hml2 : L.length ≤ N := by omega
            obtain ⟨ml, hmm⟩ : ∃ ml, ml = L.length := ⟨_, rfl⟩
            have HMM := Lib.hid hmm
            rw [← hmm] at hml hml2 hb4 ⊢
            have HO4 := Lib.hid hown4; have HF4 := Lib.hid hb4; have HR4 := Lib.hid hr4; have HK4 := Lib.hid hk5; have HP4 := Lib.hid hp5
            clear hown4 hb4 hr4 hk5 hp5 hl4 hN4 hL hmm hok hnew hk4 hsp
            go_wp2
            go_roundw
            case rel => exact ⟨a', c', L, _, by rw [HMM.out], by rw [← HMM.out]; exact hml2, HO4, by rw [← HMM.out]; exact HF4, HR4, HK4, HP4⟩
            case measure => simp; omega
          · have HR4 := Lib.hid (HR3.out.keptNo hk4)
            have HK4 := Lib.hid (HK3.out.transP hk4 (fun i hi h => h.elim))
            have HB := Lib.hid (HP.out p' [] 6 (.bad HlN.out HT.out HRs.out HFit.out (by rw [← HX.out]; exact hno)))
            clear hk4 hno
            go_wp2
            go_ret2
            exact ⟨none, 0, [], 6, p', q + spanB s, rfl, HB.out, HR4.out, fun h => absurd h (by decide), World.ownsRow_nil _ _ _ _, HK4.out, fun k h => by simp [Value.ownBlock] at h⟩
        · have htk := take_no w1 R ao cap bs q (spanB s) HR1.out (.inr (.inr (by omega)))
          have HTk := Lib.hid htk
          have HB := Lib.hid (HP.out p' [] 2 (.short HlN.out HT.out HRs.out (by omega)))
          clear htk hfit
          go_wp2_with fail
          with_reducible refine HTk.out.mono ?_
          rintro e w3 ⟨rfl, hk3⟩
          have HR4 := Lib.hid (HR1.out.keptNo hk3)
          have HK4 := Lib.hid (HKw.out.transP hk3 (fun i hi h => h.elim))
          clear hk3
          go_wp2
          go_ret2
          exact ⟨none, 0, [], 2, p', q, rfl, HB.out, HR4.out, fun h => absurd h (by decide), World.ownsRow_nil _ _ _ _, HK4.out, fun k h => by simp [Value.ownBlock] at h⟩
      · have hf2 : (f == 0) = false := by simp [hf]
        have HB := Lib.hid (HP.out p' [] f (.fail HlN.out HT.out HRs.out hf))
        have HFn := Lib.hid hf
        clear hst
        go_wp2
        go_ret2
        exact ⟨none, 0, [], f, p', q, rfl, HB.out, HR1.out, fun h => absurd h HFn.out, World.ownsRow_nil _ _ _ _, HKw.out, fun k h => by simp [Value.ownBlock] at h⟩
    · have HB := Lib.hid (HP.out p' l 0 (.done (by omega)))
      have hlt2 : ¬ (l.length : Int) < N := by omega
      obtain ⟨m, hm⟩ : ∃ m, m = l.length := ⟨_, rfl⟩
      have HM := Lib.hid hm
      rw [← hm] at hlt hlt2 HF hlN ⊢
      clear hm
      go_wp2
      go_ret2
      exact ⟨a, c, l, 0, p', p', by rw [HM.out]; rfl, HB.out, HRr.out, fun _ => rfl, HO.out, HK.out, by rw [← HM.out]; exact HF.out⟩
end Go.Proofs.YtdpegahcgaicnaaGreatDoor

namespace Go.Proofs.YtdpegahcgaicnaaGreatDoor
open Go.RowKit
set_option linter.unusedVariables false
set_option linter.unusedSimpArgs false

theorem order19 (w : World) : Calls Tryz.prog 76 #[] w fun e w' => e = .returned (.slice (some ⟨w.heap.size, 0, none⟩) 19 19) ∧ RdI w' w'.heap.size (some ⟨w.heap.size, 0, none⟩) ordL ∧ Kept NoB w w' ∧ w.heap.size < w'.heap.size := by
  go_enter Tryz.func76, Tryz.ntmps76
  go_wp2
  go_ret
  exact ⟨rfl, lit_readsI _ rfl, (Kept.refl _ _).alloc _, by simp⟩
theorem ord_at : ∀ i, i < 19 → 0 ≤ ordL.getD i 0 ∧ ordL.getD i 0 < 19 := by decide
theorem full_ref {ls : List Int} (h : fullB ls = true) : refS ls = 0 := by
  have hm := full_may h
  unfold fullB kindA at h
  rw [if_pos hm] at h
  unfold refS
  rcases kindS_of ls with k | k | k | k | k <;> simp [k] at h ⊢
/-- What readCode tells: its Decoder, where the reader is then. -/
def CodeRP (bs : List Int) (p n R : Nat) (ao : Option Addr) (cap : Nat) (w : World) (e : Ending) (w' : World) : Prop :=
  Kept (OneB R) w w' ∧ (∃ q, Rdr w' R ao cap bs q ∧ (p + 3 * n ≤ 8 * bs.length → q = p + 3 * n)) ∧
  (if 8 * bs.length < p + 3 * n then e = .returned (.tuple #[.pointer none, .int .i64 2])
   else if fullB (codeT bs p n) = false then e = .returned (.tuple #[.pointer none, .int .i64 6])
   else ∃ D, e = .returned (.tuple #[.pointer (some ⟨D, 0, none⟩), .int .i64 0]) ∧ DecG (codeT bs p n) D (fun k => w.heap.size ≤ k) w')
set_option maxRecDepth 20000 in
set_option maxHeartbeats 8000000 in
theorem readCode_any (bs : List Int) (p n R : Nat) (ao : Option Addr) (cap : Nat) (w : World) (hr : Rdr w R ao cap bs p) (hn : n ≤ 19) :
    Calls Tryz.prog 158 #[.pointer (some ⟨R, 0, none⟩), .int .i64 (n : Int)] w (CodeRP bs p n R ao cap w) := by
  obtain ⟨i0, hi, hz0, hz1, hz2⟩ := info_parts infoI
  have hlf := left_any w R ao cap bs p hr
  have hRw := obj_lt hr.1
  have hp8 := hr.2.2.2.1
  have hbl := hr.2.2.1
  have HLf := Lib.hid hlf; have HR := Lib.hid hr
  obtain ⟨L8, hL8⟩ : ∃ L8, L8 = 8 * bs.length := ⟨_, rfl⟩
  clear hlf hr
  go_enter Tryz.func158, Tryz.ntmps158
  go_wp2_with fail
  with_reducible refine HLf.out.mono ?_
  rintro e w1 ⟨rfl, hk1⟩
  have HR1 := Lib.hid (HR.out.keptNo hk1); have HK1 := Lib.hid hk1
  clear hk1 HLf
  have e1 : (8 : Int) * (bs.length : Int) = (L8 : Int) := by omega
  rw [e1]
  by_cases hsh : L8 < p + 3 * n
  · have hsh2 : (L8 : Int) - p < 3 * n := by omega
    have hif : 8 * bs.length < p + 3 * n := by omega
    have HIf := Lib.hid hif
    clear hif hL8 e1
    go_wp2
    go_ret2
    refine ⟨HK1.out.mono (fun _ _ h => h.elim), ⟨p, HR1.out, fun h => by have := HIf.out; omega⟩, ?_⟩
    rw [if_pos HIf.out]
    rfl
  · have hsh2 : ¬ (L8 : Int) - p < 3 * n := by omega
    have hif : ¬ 8 * bs.length < p + 3 * n := by omega
    have HIf := Lib.hid hif; have HL8 := Lib.hid hL8
    clear hif hL8 e1 hbl
    go_wp2_with (at_make; refine wpList_make_full _ rfl _ _ _ rfl 0 3 i0 (.int .i64 0) 1 Tryz.underlying23 hi hz0 hz1 .i64 .i64 _ _ 19 rfl rfl rfl rfl (by rw [hz2]; omega) (by unfold maxLen; omega) (Nat.zero_le _) ?_)
    intro w2 hown hgrow
    obtain ⟨G, hG⟩ : ∃ G, G = w1.heap.size := ⟨_, rfl⟩
    have hGw : w.heap.size ≤ G := by rw [hG]; exact HK1.out.size
    rw [← hG] at hown ⊢
    have hk2 : Kept NoB w w2 := HK1.out.grown hgrow (fun _ _ e => by cases e)
    have hO2 : w2.ownsRow 0 3 1 (.slice (some ⟨G, 0, none⟩) 19 19) 19 ((codeT bs p 0).map (.int .i64)) := by
      unfold codeT; rw [List.map_replicate, ← toList_madeCells_one]; exact hown
    have HK2 := Lib.hid hk2; have HO2 := Lib.hid hO2; have HR2 := Lib.hid (HR.out.keptNo hk2)
    clear hown hgrow hG hk2 hO2 HR1 HK1
    go_wp2_with fail
    with_reducible refine (order19 w2).mono ?_
    rintro e w3 ⟨rfl, hor, hk3, hlt3⟩
    obtain ⟨H, hH⟩ : ∃ H, H = w2.heap.size := ⟨_, rfl⟩
    have hHw : w.heap.size ≤ H := by rw [hH]; exact HK2.out.size
    have hHR : H ≠ R := by have := obj_lt HR2.out.1; omega
    have hHG : H ≠ G := by have := own_lt HO2.out G rfl; omega
    rw [← hH] at hor ⊢
    have HOr := Lib.hid hor; have HK3 := Lib.hid (HK2.out.trans hk3); have HR3 := Lib.hid (HR2.out.keptNo hk3); have HO3 := Lib.hid (hk3.row HO2.out (fun _ _ h => h))
    clear hor hk3 hlt3 hH HR2 HO2 HK2
    have hcw : ∀ i, i < 19 → w3.cell? ⟨H, i, none⟩ = some (.int .i64 (ordL.getD i 0)) := fun i hi => by
      obtain ⟨g, o, h1, h2, h3⟩ := HOr.out i hi
      cases h1
      simpa using h3
    have HCw := Lib.hid hcw
    clear hcw HOr
    have hn0 : (0 : Int) ≤ n := by omega
    go_wp2_with fail
    go_loopw [21, 8, 9, 10] (fun v21 _ _ _ wr => ∃ (i : Nat), v21 = .int .i64 (i : Int) ∧ i ≤ n ∧ Hid (wr.ownsRow 0 3 1 (.slice (some ⟨G, 0, none⟩) 19 19) 19 ((codeT bs p i).map (.int .i64))) ∧ Hid (Rdr wr R ao cap bs (p + 3 * i)) ∧ Hid (Kept (OneB R) w wr) ∧ Hid (∀ i, i < 19 → wr.cell? ⟨H, i, none⟩ = some (.int .i64 (ordL.getD i 0)))) (fun v21 _ _ _ _ => n - (intOf v21).toNat)
    case atStart => exact ⟨0, rfl, by omega, HO3, HR3, Lib.hid (HK3.out.mono (fun _ _ h => h.elim)), HCw⟩
    case round =>
      clear HO3 HR3 HK3 HCw
      obtain ⟨i, rfl, hin, HO, HRr, HK, HC⟩ := hrel
      by_cases hlt : i < n
      · have hlt2 : (i : Int) < n := by omega
        have hc := HC.out i (by omega)
        obtain ⟨o1, o2⟩ := ord_at i (by omega)
        obtain ⟨k, hk⟩ : ∃ k : Nat, ordL.getD i 0 = (k : Int) := ⟨(ordL.getD i 0).toNat, by omega⟩
        rw [hk] at hc
        have hk19 : k < 19 := by omega
        have hk19' : (k : Int) < 19 := by omega
        have htk := take_yes wr R ao cap bs (p + 3 * i) 3 HRr.out (by decide) (by have := HIf.out; omega)
        have hct : codeT bs p (i + 1) = (codeT bs p i).set k ((bitsAt bs (p + 3 * i) 3 : Nat) : Int) := by rw [codeT, hk, Int.toNat_natCast]
        have hx8 := bitsAt_lt bs (p + 3 * i) 3
        obtain ⟨x, hx⟩ : ∃ x, x = bitsAt bs (p + 3 * i) 3 := ⟨_, rfl⟩
        rw [← hx] at htk hct hx8
        rw [show ((3 : Nat) : Int) = 3 from rfl] at htk
        have hx8' : x < 8 := hx8
        have wx : IntKind.i64.wrap (x : Int) = (x : Int) := IntWalk.i64_in _ (by omega)
        have HTk := Lib.hid htk; have HCt := Lib.hid hct
        clear htk hct hx8 hx hk o1 o2 HRr
        go_wp2_with fail
        with_reducible refine HTk.out.mono ?_
        rintro e w5 ⟨rfl, hr5, hk5⟩
        have hO5 := hk5.row HO.out (fun k e h => by simp [Value.ownBlock] at e; unfold OneB at h; omega)
        have hGu : ∃ u, w5.cell? ⟨G, k, none⟩ = some u := by
          rw [hO5.cellAt k (by omega)]
          exact ⟨_, List.getElem?_eq_getElem (by rw [List.length_map, codeT_len]; omega)⟩
        obtain ⟨u, hu⟩ := hGu
        have hfz := hO5.frozenAt k
        have hst := (hO5.stored k (.int .i64 (x : Int))).1
        rw [← List.map_set, ← HCt.out] at hst
        have hks : Kept (fun j => j = G) w5 (w5.setCell ⟨G, k, none⟩ (.int .i64 (x : Int))) := Kept.setCell (S := fun j => j = G) (p := ⟨G, k, none⟩) (Kept.refl _ w5) (.inl rfl) _
        have hrr : Rdr (w5.setCell ⟨G, k, none⟩ (.int .i64 (x : Int))) R ao cap bs (p + 3 * (i + 1)) := by
          have h := hr5.kept hks (by omega) (fun k h e => by have := own_lt (HR.out.2.1) k h; omega)
          have e : p + 3 * i + 3 = p + 3 * (i + 1) := by omega
          rw [e] at h; exact h
        have hHn : (fun j => j = G) H → False := fun e => hHG e
        have hcc : ∀ i, i < 19 → (w5.setCell ⟨G, k, none⟩ (.int .i64 (x : Int))).cell? ⟨H, i, none⟩ = some (.int .i64 (ordL.getD i 0)) := fun j hj => by
          have h := HC.out j hj
          have h5 := (World.cell?_of_block (hk5.block _ (World.block_lt_of_cell? wr _ h) (fun e => by unfold OneB at e; exact hHR e))).trans h
          exact (World.cell?_of_block (hks.block _ (World.block_lt_of_cell? w5 _ h5) hHn)).trans h5
        have HR5 := Lib.hid hrr; have HC5 := Lib.hid hcc; have HO5 := Lib.hid hst
        have HK5 := Lib.hid (show Kept (OneB R) w (w5.setCell ⟨G, k, none⟩ (.int .i64 (x : Int))) from Kept.setCell (p := ⟨G, k, none⟩) (HK.out.trans hk5) (.inr hGw) _)
        clear hrr hcc hst hHn hks hr5 hk5 hO5 hc HTk HO HK HC
        go_wp2
        go_roundw
        case rel => exact ⟨i + 1, by go_num, by omega, HO5, HR5, HK5, HC5⟩
        case measure => simp [intOf]; omega
      · have hin2 : i = n := by omega
        subst hin2
        have hlt2 : ¬ (i : Int) < i := by omega
        have hrd : RdI wr wr.heap.size (some ⟨G, 0, none⟩) (codeT bs p i) := own_readsI HO.out (codeT_len _ _ _)
        have hsm := small7_15 (codeT_small bs p i)
        have hfu := full_any (some ⟨G, 0, none⟩) 19 _ (codeT bs p i) wr hrd (fun z hz => by have := hsm z hz; omega)
        rw [codeT_len] at hfu
        have HFu := Lib.hid hfu; have HRd := Lib.hid hrd
        clear hfu hrd hlt2
        by_cases hfb : fullB (codeT bs p i) = true
        · have HFb := Lib.hid hfb
          rw [hfb] at HFu
          clear hfb
          go_wp2_with fail
          with_reducible refine HFu.out.mono ?_
          rintro e w5 ⟨rfl, hk5⟩
          have hnw := new_calls2 (some ⟨G, 0, none⟩) 19 _ (codeT bs p i) w5 (HRd.out.keptNo hk5) hsm (by rw [codeT_len]; decide) (full_ref HFb.out)
          rw [codeT_len] at hnw
          have HNw := Lib.hid hnw; have HR5 := Lib.hid (HRr.out.keptNo hk5); have HK5 := Lib.hid (HK.out.trans (hk5.mono (fun _ _ h => h.elim)))
          clear hnw hk5
          go_wp2_with fail
          with_reducible refine HNw.out.mono ?_
          rintro e w6 ⟨D, rfl, hdn, hk6⟩
          have HR6 := Lib.hid (HR5.out.keptNo hk6); have HK6 := Lib.hid (HK5.out.trans (hk6.mono (fun _ _ h => h.elim))); have HDn := Lib.hid (hdn.toG.mono (fun k (h : w5.heap.size ≤ k) => Nat.le_trans HK5.out.size h))
          clear hdn hk6
          go_wp2
          go_ret2
          refine ⟨HK6.out, ⟨_, HR6.out, fun _ => rfl⟩, ?_⟩
          rw [if_neg HIf.out, if_neg (by rw [HFb.out]; decide)]
          exact ⟨D, rfl, HDn.out⟩
        · have hfb2 : fullB (codeT bs p i) = false := by simpa using hfb
          have HFb := Lib.hid hfb2
          rw [hfb2] at HFu
          clear hfb hfb2
          go_wp2_with fail
          with_reducible refine HFu.out.mono ?_
          rintro e w5 ⟨rfl, hk5⟩
          have HR5 := Lib.hid (HRr.out.keptNo hk5); have HK5 := Lib.hid (HK.out.trans (hk5.mono (fun _ _ h => h.elim)))
          clear hk5
          go_wp2
          go_ret2
          refine ⟨HK5.out, ⟨_, HR5.out, fun _ => rfl⟩, ?_⟩
          rw [if_neg HIf.out, if_pos HFb.out]
          rfl
end Go.Proofs.YtdpegahcgaicnaaGreatDoor
