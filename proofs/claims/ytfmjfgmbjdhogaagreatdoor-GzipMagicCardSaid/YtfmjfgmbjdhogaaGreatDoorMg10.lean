/-
  lens: span, extended.
  lens: Flat.
  The document's SameInts, more, Flat.
  The document's Flat.
-/
import Derived.Test.YtfmjfgmbjdhogaaGreatDoorMg9
import Derived.Deep.CutBlock
namespace Go.Proofs.YtfmjfgmbjdhogaaGreatDoor
open Go.RowKit
set_option linter.unusedVariables false
set_option linter.unusedSimpArgs false

theorem span_any (s : Int) (w : World) : Calls Tryz.prog 173 #[.int .i64 s] w fun e w' => e = .returned (.tuple #[.int .i64 (spanL s : Int), .int .i64 (spanB s : Int)]) ∧ w = w' := by
  by_cases h16 : s = 16
  · subst h16
    go_enter Tryz.func173, Tryz.ntmps173
    go_wp2
    go_ret2
    exact ⟨rfl, rfl⟩
  · by_cases h17 : s = 17
    · subst h17
      go_enter Tryz.func173, Tryz.ntmps173
      go_wp2
      go_ret2
      exact ⟨rfl, rfl⟩
    · by_cases h18 : s = 18
      · subst h18
        go_enter Tryz.func173, Tryz.ntmps173
        go_wp2
        go_ret2
        exact ⟨rfl, rfl⟩
      · have e1 : spanL s = 1 := by unfold spanL; rw [if_neg h16, if_neg h17, if_neg h18]
        have e2 : spanB s = 0 := by unfold spanB; rw [if_neg h16, if_neg h17, if_neg h18]
        rw [e1, e2]
        have g1 : (s == 16) = false := by simp; exact h16
        have g2 : (s == 17) = false := by simp; exact h17
        have g3 : (s == 18) = false := by simp; exact h18
        clear e1 e2 h16 h17 h18
        go_enter Tryz.func173, Tryz.ntmps173
        go_wp2
        go_ret2
        exact ⟨rfl, rfl⟩

def OwnI (w : World) (ao : Option Addr) (cap : Nat) (l : List Int) : Prop := w.ownsRow 0 3 1 (.slice ao l.length cap) l.length (l.map (.int .i64))
def ExtP (w : World) (ao : Option Addr) (cap : Nat) (l : List Int) (s x n : Int) (e : Ending) (w' : World) : Prop :=
  (okRun l s x ∧ ((moreL l s x).length : Int) ≤ n ∧ ∃ ao' cap', e = .returned (.tuple #[.slice ao' (moreL l s x).length cap', .bool true]) ∧ OwnI w' ao' cap' (moreL l s x) ∧ Kept (OwnB (.slice ao l.length cap)) w w' ∧
    (∀ k, (Value.slice ao' (moreL l s x).length cap').ownBlock = some k → (Value.slice ao l.length cap).ownBlock = some k ∨ w.heap.size ≤ k)) ∨
  (¬ (okRun l s x ∧ ((moreL l s x).length : Int) ≤ n) ∧ e = .returned (.tuple #[.slice none 0 0, .bool false]) ∧ Kept NoB w w')
theorem ExtP.no {w w' : World} {ao : Option Addr} {cap : Nat} {l : List Int} {s x n : Int} (h : ¬ (okRun l s x ∧ ((moreL l s x).length : Int) ≤ n)) (hk : Kept NoB w w') : ExtP w ao cap l s x n (.returned (.tuple #[.slice none 0 0, .bool false])) w' := .inr ⟨h, rfl, hk⟩

set_option maxRecDepth 20000 in
set_option maxHeartbeats 2000000 in
theorem ext16_any (ao : Option Addr) (cap : Nat) (l : List Int) (s x n : Int) (w : World) (hown : OwnI w ao cap l) (hn : 0 ≤ n ∧ n ≤ 1000) (hl : (l.length : Int) ≤ n) (hs : 0 ≤ s ∧ s ≤ 18) (hs1 : s = 16) :
    Calls Tryz.prog 185 #[.slice ao l.length cap, .agg #[.int .i64 s, .int .i64 x], .int .i64 n] w (ExtP w ao cap l s x n) := by
  subst hs1
  have HOwn := Lib.hid hown
  have HLen := Lib.hid (moreL_len l 16 x)
  obtain ⟨len, hlen⟩ : ∃ len, len = l.length := ⟨_, rfl⟩
  have hlN : (len : Int) ≤ n := by omega
  have HNo := Lib.hid (fun (h : ¬ (okRun l 16 x ∧ ((moreL l 16 x).length : Int) ≤ n)) w' (hk : Kept NoB w w') => ExtP.no (ao := ao) (cap := cap) h hk)
  have hkb : Kept NoB w (w.alloc (.cells #[.int .i64 16, .int .i64 x] 125)) := (Kept.refl _ _).alloc _
  have HKb := Lib.hid hkb
  have c0 : (w.alloc (.cells #[.int .i64 16, .int .i64 x] 125)).cell? ⟨w.heap.size, 0, none⟩ = some (.int .i64 16) := cell_new 0 rfl
  have c1 : (w.alloc (.cells #[.int .i64 16, .int .i64 x] 125)).cell? ⟨w.heap.size, 1, none⟩ = some (.int .i64 x) := cell_new 1 rfl
  clear hown hkb
  rw [← hlen]
  have HSp := Lib.hid (fun w => span_any 16 w)
  obtain ⟨i0, hi, hz0, hz1, hz2⟩ := info_parts infoI
  have HSp0 : ((16 : Int) = (16 : Int) → spanL 16 = 3) ∧ ((16 : Int) = (16 : Int) → spanB 16 = 2) ∧ ((16 : Int) = (16 : Int) → spanM 16 = 3) := ⟨fun _ => rfl, fun _ => rfl, fun _ => rfl⟩
  have hL : spanL 16 = 3 := HSp0.1 rfl
  have hB : spanB 16 = 2 := HSp0.2.1 rfl
  have hM : spanM 16 = 3 := HSp0.2.2 rfl
  rw [hL, hB] at HSp
  have HLn2 : Hid (∀ k : Nat, x = (k : Int) → (moreL l 16 x).length = len + (3 + k)) := fun k hk => by rw [HLen.out, hL, hlen, hk]; rfl
  have HM := Lib.hid hM
  by_cases hx : x < 0 ∨ 3 < x
  · have hno : ¬ (okRun l 16 x ∧ ((moreL l 16 x).length : Int) ≤ n) := fun h => by
      have h1 := h.1.2.2.1
      have h2 := h.1.2.2.2.1
      rw [HM.out] at h2
      omega
    have HNo2 := Lib.hid (HNo.out hno)
    clear hno HNo hL hB hM HSp0 hlen HLen HLn2
    rcases hx with hx1 | hx2
    · have hd : decide (x < 0) = true := decide_eq_true hx1
      go_enter Tryz.func185, Tryz.ntmps185
      go_wp2_with fail
      refine (HSp.out _).mono ?_
      rintro e w2 ⟨rfl, rfl⟩
      go_upto_region 4 with fail
      go_quiet (fail)
      go_wp2
      go_ret2
      exact HNo2.out _ (by have := HKb.out; exact this.drewN _)
    · have hd : decide (x < 0) = false := decide_eq_false (by omega)
      have hd2 : decide (4 ≤ x) = true := decide_eq_true (by omega)
      go_enter Tryz.func185, Tryz.ntmps185
      go_wp2_with fail
      refine (HSp.out _).mono ?_
      rintro e w2 ⟨rfl, rfl⟩
      go_upto_region 4 with fail
      go_quiet (fail)
      go_wp2
      go_ret2
      exact HNo2.out _ (by have := HKb.out; exact this.drewN _)
  · obtain ⟨k, rfl⟩ : ∃ k : Nat, x = (k : Int) := ⟨x.toNat, by omega⟩
    have hln := HLn2.out k rfl
    have hkM : k ≤ 3 := by omega
    have hd : decide ((k : Int) < 0) = false := decide_eq_false (by omega)
    have hd2 : decide (4 ≤ (k : Int)) = false := decide_eq_false (by omega)
    clear hx HLn2
    by_cases hfit : len + (3 + k) ≤ n.toNat
    · have hd3 : decide (n - (len : Int) < 3 + (k : Int)) = false := decide_eq_false (by omega)
      by_cases hl0 : l = []
      · have hno : ¬ (okRun l 16 (k : Int) ∧ ((moreL l 16 (k : Int)).length : Int) ≤ n) := fun h => h.1.2.2.2.2 rfl hl0
        have HNo2 := Lib.hid (HNo.out hno)
        have hlen0 : len = 0 := by rw [hlen, hl0]; rfl
        subst hlen0
        have hd4 : decide (n < 3 + (k : Int)) = false := decide_eq_false (by omega)
        clear hno HNo hfit hln hL hB hM HSp0 hl0 hlen HLen
        go_enter Tryz.func185, Tryz.ntmps185
        go_wp2_with fail
        refine (HSp.out _).mono ?_
        rintro e w2 ⟨rfl, rfl⟩
        go_upto_region 4 with fail
        go_quiet (fail)
        go_wp2
        go_ret2
        exact HNo2.out _ (by have := HKb.out; exact this.drewN _)
      · obtain ⟨q, hq⟩ : ∃ q : Nat, q = len - 1 := ⟨_, rfl⟩
        have hlpos : 0 < len := by rw [hlen]; exact List.length_pos_iff.2 hl0
        obtain ⟨z, hz⟩ : ∃ z, z = l.getD (l.length - 1) 0 := ⟨_, rfl⟩
        have hqi : (len : Int) - 1 = (q : Int) := by omega
        have hcq : ∃ g, ao = some ⟨g, 0, none⟩ ∧ w.cell? ⟨g, q, none⟩ = some (.int .i64 z) := by
          rcases HOwn.out.2 with ⟨_, h0⟩ | ⟨g, c, cur, hv, _⟩
          · rw [← hlen] at h0; omega
          · simp at hv
            obtain ⟨rfl, rfl⟩ := hv
            refine ⟨g, rfl, ?_⟩
            have := HOwn.out.cellAt q (by rw [← hlen]; omega)
            rw [this, hz, hq, hlen]
            simp [List.getD, show l.length - 1 < l.length by omega]
        obtain ⟨g, rfl, hcq⟩ := hcq
        have hgs : g < w.heap.size := World.block_lt_of_cell? w ⟨g, q, none⟩ hcq
        have hgne : ¬ g = w.heap.size := by omega
        have hgne2 : ¬ w.heap.size = g := by omega
        have hql : q < len := by omega
        have hv : valS l 16 = z := by rw [hz]; unfold valS; rw [if_pos rfl]
        have hok : okRun l 16 (k : Int) ∧ ((moreL l 16 (k : Int)).length : Int) ≤ n := ⟨⟨hs.1, hs.2, by omega, by rw [hM]; omega, (fun _ => hl0)⟩, by rw [hln]; omega⟩
        have hmore : moreL l 16 (k : Int) = l ++ List.replicate (3 + k) z := by unfold moreL; rw [hL, hv]; rfl
        obtain ⟨NN, hNN⟩ : ∃ NN, NN = 3 + k := ⟨_, rfl⟩
        rw [← hNN] at hmore
        have hadd : (3 : Int) + (k : Int) = (NN : Int) := by omega
        rw [hadd] at hd3
        have hN1 : 1 ≤ NN ∧ NN ≤ 1000 := by omega
        have hln3 : (moreL l 16 (k : Int)).length = len + NN := by rw [hln, hNN]
        have HOk := Lib.hid hok; have HMore := Lib.hid hmore; have HLn3 := Lib.hid hln3
        have hfit2 : len + NN ≤ 1000 := by omega
        have HLe := Lib.hid hlen
        clear hz hq hl0 hok hmore hln hln3 hNN hfit hL hB hM HSp0 hv HNo HLen hlen
        go_enter Tryz.func185, Tryz.ntmps185
        go_wp2_with fail
        refine (HSp.out _).mono ?_
        rintro e w2 ⟨rfl, rfl⟩
        go_upto_region 4 with fail
        go_quiet (fail)
        have hrep := fun W (h : W.cell? ⟨w.heap.size + 1, 0, none⟩ = some (.int .i64 z)) => repeat_any (w.heap.size + 1) z NN W h hN1
        go_wp2_with fail
        refine (hrep _ (cell_new (k := w.heap.size + 1) 0 (by simp [World.drewN]))).mono ?_
        rintro e w5 ⟨G, rfl, hG, hGle, hB5⟩
        have hk5 : Kept NoB w w5 := ((HKb.out.drewN _).alloc _).ofBelow hB5
        have hownW : w5.ownsRow 0 3 1 (.slice (some ⟨g, 0, none⟩) len cap) len (l.map (.int .i64)) := by rw [HLe.out]; exact hk5.row HOwn.out (fun _ _ h => h)
        have hc2 : ∀ j u, (List.replicate NN (Value.int .i64 z))[j]? = some u → w5.cell? ((⟨G, 0, none⟩ : Addr).add j) = some u := by
          intro j u hj
          have hjl : j < NN := by have := (List.getElem?_eq_some_iff.1 hj).1; simpa using this
          rw [addr_add, Nat.zero_add, cell_of_row _ G j _ _ (0, 0) hG.out]
          rw [List.getElem?_toArray]; exact hj
        have HK5 := Lib.hid hk5; have HOW := Lib.hid hownW; have HC2 := Lib.hid hc2
        clear hk5 hownW hc2 hB5 hGle hrep hG
        go_wp2_with (at_builtin; refine wpList_app _ rfl _ _ 30 rfl 3 i0 (.int .i64 0) 1 8 Tryz.underlying30 hi hz0 hz1 hz2 rfl (by decide) _ len (l.map (.int .i64)) rfl HOW.out ⟨G, 0, none⟩ NN NN (List.replicate NN (Value.int .i64 z)) rfl ?c1 HC2.out ?c3 ?c4 ?c5 ?_)
        case c1 => simp
        case c3 => intro u hu; rw [List.eq_of_mem_replicate hu]; rfl
        case c4 => unfold maxLen; omega
        case c5 => omega
        intro v' w6 hown' hgrow hnew
        obtain ⟨ao2, cap2, rfl⟩ := own_shape hown'
        have hmap : l.map (Value.int .i64) ++ List.replicate NN (Value.int .i64 z) = (moreL l 16 (k : Int)).map (.int .i64) := by rw [HMore.out]; simp
        have hk6 : Kept (OwnB (.slice (some ⟨g, 0, none⟩) l.length cap)) w w6 := (HK5.out.mono (T := OwnB (.slice (some ⟨g, 0, none⟩) l.length cap)) (fun _ _ h => h.elim)).grown hgrow (fun k _ e => by rw [← HLe.out]; exact e)
        have hn6 : ∀ k, (Value.slice ao2 (len + NN) cap2).ownBlock = some k → (Value.slice (some ⟨g, 0, none⟩) l.length cap).ownBlock = some k ∨ w.heap.size ≤ k := by
          intro k hk
          rcases hnew k hk with h | h
          · left; rw [← HLe.out]; exact h
          · right; have := HK5.out.size; omega
        rw [hmap, ← HLn3.out] at hown'
        rw [← HLn3.out] at hn6
        have HO6 := Lib.hid hown'; have HK6 := Lib.hid hk6; have HN6 := Lib.hid hn6
        clear hown' hk6 hn6 hgrow hnew hmap
        go_wp2
        go_ret2
        refine .inl ⟨HOk.out.1, HOk.out.2, ao2, cap2, ?_, HO6.out, HK6.out, HN6.out⟩
        rw [HLn3.out]
        rfl
    · have hno : ¬ (okRun l 16 (k : Int) ∧ ((moreL l 16 (k : Int)).length : Int) ≤ n) := fun h => by
        have := h.2
        rw [hln] at this
        omega
      have HNo2 := Lib.hid (HNo.out hno)
      have hd3 : decide (n - (len : Int) < 3 + (k : Int)) = true := decide_eq_true (by omega)
      clear hno HNo hfit hln hL hB hM HSp0 hlen HLen
      go_enter Tryz.func185, Tryz.ntmps185
      go_wp2_with fail
      refine (HSp.out _).mono ?_
      rintro e w2 ⟨rfl, rfl⟩
      go_upto_region 4 with fail
      go_quiet (fail)
      go_wp2
      go_ret2
      exact HNo2.out _ (by have := HKb.out; exact this.drewN _)

set_option maxRecDepth 20000 in
set_option maxHeartbeats 2000000 in
theorem ext17_any (ao : Option Addr) (cap : Nat) (l : List Int) (s x n : Int) (w : World) (hown : OwnI w ao cap l) (hn : 0 ≤ n ∧ n ≤ 1000) (hl : (l.length : Int) ≤ n) (hs : 0 ≤ s ∧ s ≤ 18) (hs1 : s = 17) :
    Calls Tryz.prog 185 #[.slice ao l.length cap, .agg #[.int .i64 s, .int .i64 x], .int .i64 n] w (ExtP w ao cap l s x n) := by
  subst hs1
  have HOwn := Lib.hid hown
  have HLen := Lib.hid (moreL_len l 17 x)
  obtain ⟨len, hlen⟩ : ∃ len, len = l.length := ⟨_, rfl⟩
  have hlN : (len : Int) ≤ n := by omega
  have HNo := Lib.hid (fun (h : ¬ (okRun l 17 x ∧ ((moreL l 17 x).length : Int) ≤ n)) w' (hk : Kept NoB w w') => ExtP.no (ao := ao) (cap := cap) h hk)
  have hkb : Kept NoB w (w.alloc (.cells #[.int .i64 17, .int .i64 x] 125)) := (Kept.refl _ _).alloc _
  have HKb := Lib.hid hkb
  have c0 : (w.alloc (.cells #[.int .i64 17, .int .i64 x] 125)).cell? ⟨w.heap.size, 0, none⟩ = some (.int .i64 17) := cell_new 0 rfl
  have c1 : (w.alloc (.cells #[.int .i64 17, .int .i64 x] 125)).cell? ⟨w.heap.size, 1, none⟩ = some (.int .i64 x) := cell_new 1 rfl
  clear hown hkb
  rw [← hlen]
  have HSp := Lib.hid (fun w => span_any 17 w)
  obtain ⟨i0, hi, hz0, hz1, hz2⟩ := info_parts infoI
  have HSp1 : ((17 : Int) = (17 : Int) → spanL 17 = 3) ∧ ((17 : Int) = (17 : Int) → spanB 17 = 3) ∧ ((17 : Int) = (17 : Int) → spanM 17 = 7) := ⟨fun _ => rfl, fun _ => rfl, fun _ => rfl⟩
  have hL : spanL 17 = 3 := HSp1.1 rfl
  have hB : spanB 17 = 3 := HSp1.2.1 rfl
  have hM : spanM 17 = 7 := HSp1.2.2 rfl
  rw [hL, hB] at HSp
  have HLn2 : Hid (∀ k : Nat, x = (k : Int) → (moreL l 17 x).length = len + (3 + k)) := fun k hk => by rw [HLen.out, hL, hlen, hk]; rfl
  have HM := Lib.hid hM
  by_cases hx : x < 0 ∨ 7 < x
  · have hno : ¬ (okRun l 17 x ∧ ((moreL l 17 x).length : Int) ≤ n) := fun h => by
      have h1 := h.1.2.2.1
      have h2 := h.1.2.2.2.1
      rw [HM.out] at h2
      omega
    have HNo2 := Lib.hid (HNo.out hno)
    clear hno HNo hL hB hM HSp1 hlen HLen HLn2
    rcases hx with hx1 | hx2
    · have hd : decide (x < 0) = true := decide_eq_true hx1
      go_enter Tryz.func185, Tryz.ntmps185
      go_wp2_with fail
      refine (HSp.out _).mono ?_
      rintro e w2 ⟨rfl, rfl⟩
      go_upto_region 4 with fail
      go_quiet (fail)
      go_wp2
      go_ret2
      exact HNo2.out _ (by have := HKb.out; exact this.drewN _)
    · have hd : decide (x < 0) = false := decide_eq_false (by omega)
      have hd2 : decide (8 ≤ x) = true := decide_eq_true (by omega)
      go_enter Tryz.func185, Tryz.ntmps185
      go_wp2_with fail
      refine (HSp.out _).mono ?_
      rintro e w2 ⟨rfl, rfl⟩
      go_upto_region 4 with fail
      go_quiet (fail)
      go_wp2
      go_ret2
      exact HNo2.out _ (by have := HKb.out; exact this.drewN _)
  · obtain ⟨k, rfl⟩ : ∃ k : Nat, x = (k : Int) := ⟨x.toNat, by omega⟩
    have hln := HLn2.out k rfl
    have hkM : k ≤ 7 := by omega
    have hd : decide ((k : Int) < 0) = false := decide_eq_false (by omega)
    have hd2 : decide (8 ≤ (k : Int)) = false := decide_eq_false (by omega)
    clear hx HLn2
    by_cases hfit : len + (3 + k) ≤ n.toNat
    · have hd3 : decide (n - (len : Int) < 3 + (k : Int)) = false := decide_eq_false (by omega)
      have hv : valS l 17 = 0 := by unfold valS; rw [if_neg (by omega), if_pos (by omega)]
      have hok : okRun l 17 (k : Int) ∧ ((moreL l 17 (k : Int)).length : Int) ≤ n := ⟨⟨hs.1, hs.2, by omega, by rw [hM]; omega, (fun h => by omega)⟩, by rw [hln]; omega⟩
      have hmore : moreL l 17 (k : Int) = l ++ List.replicate (3 + k) 0 := by unfold moreL; rw [hL, hv]; rfl
      obtain ⟨NN, hNN⟩ : ∃ NN, NN = 3 + k := ⟨_, rfl⟩
      rw [← hNN] at hmore
      have hadd : (3 : Int) + (k : Int) = (NN : Int) := by omega
      rw [hadd] at hd3
      have hN1 : 1 ≤ NN ∧ NN ≤ 1000 := by omega
      have hln3 : (moreL l 17 (k : Int)).length = len + NN := by rw [hln, hNN]
      have HOk := Lib.hid hok; have HMore := Lib.hid hmore; have HLn3 := Lib.hid hln3
      have hfit2 : len + NN ≤ 1000 := by omega
      have HLe := Lib.hid hlen
      clear hok hmore hln hln3 hNN hfit hL hB hM HSp1 hv HNo HLen hlen
      go_enter Tryz.func185, Tryz.ntmps185
      go_wp2_with fail
      refine (HSp.out _).mono ?_
      rintro e w2 ⟨rfl, rfl⟩
      go_upto_region 4 with fail
      go_quiet (fail)
      have hrep := fun W (h : W.cell? ⟨w.heap.size + 1, 0, none⟩ = some (.int .i64 0)) => repeat_any (w.heap.size + 1) 0 NN W h hN1
      go_wp2_with fail
      refine (hrep _ (cell_new (k := w.heap.size + 1) 0 (by simp [World.drewN]))).mono ?_
      rintro e w5 ⟨G, rfl, hG, hGle, hB5⟩
      have hk5 : Kept NoB w w5 := ((HKb.out.drewN _).alloc _).ofBelow hB5
      have hownW : w5.ownsRow 0 3 1 (.slice ao len cap) len (l.map (.int .i64)) := by rw [HLe.out]; exact hk5.row HOwn.out (fun _ _ h => h)
      have hc2 : ∀ j u, (List.replicate NN (Value.int .i64 0))[j]? = some u → w5.cell? ((⟨G, 0, none⟩ : Addr).add j) = some u := by
        intro j u hj
        have hjl : j < NN := by have := (List.getElem?_eq_some_iff.1 hj).1; simpa using this
        rw [addr_add, Nat.zero_add, cell_of_row _ G j _ _ (0, 0) hG.out]
        rw [List.getElem?_toArray]; exact hj
      have HK5 := Lib.hid hk5; have HOW := Lib.hid hownW; have HC2 := Lib.hid hc2
      clear hk5 hownW hc2 hB5 hGle hrep hG
      go_wp2_with (at_builtin; refine wpList_app _ rfl _ _ 30 rfl 3 i0 (.int .i64 0) 1 8 Tryz.underlying30 hi hz0 hz1 hz2 rfl (by decide) _ len (l.map (.int .i64)) rfl HOW.out ⟨G, 0, none⟩ NN NN (List.replicate NN (Value.int .i64 0)) rfl ?c1 HC2.out ?c3 ?c4 ?c5 ?_)
      case c1 => simp
      case c3 => intro u hu; rw [List.eq_of_mem_replicate hu]; rfl
      case c4 => unfold maxLen; omega
      case c5 => omega
      intro v' w6 hown' hgrow hnew
      obtain ⟨ao2, cap2, rfl⟩ := own_shape hown'
      have hmap : l.map (Value.int .i64) ++ List.replicate NN (Value.int .i64 0) = (moreL l 17 (k : Int)).map (.int .i64) := by rw [HMore.out]; simp
      have hk6 : Kept (OwnB (.slice ao l.length cap)) w w6 := (HK5.out.mono (T := OwnB (.slice ao l.length cap)) (fun _ _ h => h.elim)).grown hgrow (fun k _ e => by rw [← HLe.out]; exact e)
      have hn6 : ∀ k, (Value.slice ao2 (len + NN) cap2).ownBlock = some k → (Value.slice ao l.length cap).ownBlock = some k ∨ w.heap.size ≤ k := by
        intro k hk
        rcases hnew k hk with h | h
        · left; rw [← HLe.out]; exact h
        · right; have := HK5.out.size; omega
      rw [hmap, ← HLn3.out] at hown'
      rw [← HLn3.out] at hn6
      have HO6 := Lib.hid hown'; have HK6 := Lib.hid hk6; have HN6 := Lib.hid hn6
      clear hown' hk6 hn6 hgrow hnew hmap
      go_wp2
      go_ret2
      refine .inl ⟨HOk.out.1, HOk.out.2, ao2, cap2, ?_, HO6.out, HK6.out, HN6.out⟩
      rw [HLn3.out]
      rfl
    · have hno : ¬ (okRun l 17 (k : Int) ∧ ((moreL l 17 (k : Int)).length : Int) ≤ n) := fun h => by
        have := h.2
        rw [hln] at this
        omega
      have HNo2 := Lib.hid (HNo.out hno)
      have hd3 : decide (n - (len : Int) < 3 + (k : Int)) = true := decide_eq_true (by omega)
      clear hno HNo hfit hln hL hB hM HSp1 hlen HLen
      go_enter Tryz.func185, Tryz.ntmps185
      go_wp2_with fail
      refine (HSp.out _).mono ?_
      rintro e w2 ⟨rfl, rfl⟩
      go_upto_region 4 with fail
      go_quiet (fail)
      go_wp2
      go_ret2
      exact HNo2.out _ (by have := HKb.out; exact this.drewN _)

set_option maxRecDepth 20000 in
set_option maxHeartbeats 2000000 in
theorem ext18_any (ao : Option Addr) (cap : Nat) (l : List Int) (s x n : Int) (w : World) (hown : OwnI w ao cap l) (hn : 0 ≤ n ∧ n ≤ 1000) (hl : (l.length : Int) ≤ n) (hs : 0 ≤ s ∧ s ≤ 18) (hs1 : s = 18) :
    Calls Tryz.prog 185 #[.slice ao l.length cap, .agg #[.int .i64 s, .int .i64 x], .int .i64 n] w (ExtP w ao cap l s x n) := by
  subst hs1
  have HOwn := Lib.hid hown
  have HLen := Lib.hid (moreL_len l 18 x)
  obtain ⟨len, hlen⟩ : ∃ len, len = l.length := ⟨_, rfl⟩
  have hlN : (len : Int) ≤ n := by omega
  have HNo := Lib.hid (fun (h : ¬ (okRun l 18 x ∧ ((moreL l 18 x).length : Int) ≤ n)) w' (hk : Kept NoB w w') => ExtP.no (ao := ao) (cap := cap) h hk)
  have hkb : Kept NoB w (w.alloc (.cells #[.int .i64 18, .int .i64 x] 125)) := (Kept.refl _ _).alloc _
  have HKb := Lib.hid hkb
  have c0 : (w.alloc (.cells #[.int .i64 18, .int .i64 x] 125)).cell? ⟨w.heap.size, 0, none⟩ = some (.int .i64 18) := cell_new 0 rfl
  have c1 : (w.alloc (.cells #[.int .i64 18, .int .i64 x] 125)).cell? ⟨w.heap.size, 1, none⟩ = some (.int .i64 x) := cell_new 1 rfl
  clear hown hkb
  rw [← hlen]
  have HSp := Lib.hid (fun w => span_any 18 w)
  obtain ⟨i0, hi, hz0, hz1, hz2⟩ := info_parts infoI
  have HSp2 : ((18 : Int) = (18 : Int) → spanL 18 = 11) ∧ ((18 : Int) = (18 : Int) → spanB 18 = 7) ∧ ((18 : Int) = (18 : Int) → spanM 18 = 127) := ⟨fun _ => rfl, fun _ => rfl, fun _ => rfl⟩
  have hL : spanL 18 = 11 := HSp2.1 rfl
  have hB : spanB 18 = 7 := HSp2.2.1 rfl
  have hM : spanM 18 = 127 := HSp2.2.2 rfl
  rw [hL, hB] at HSp
  have HLn2 : Hid (∀ k : Nat, x = (k : Int) → (moreL l 18 x).length = len + (11 + k)) := fun k hk => by rw [HLen.out, hL, hlen, hk]; rfl
  have HM := Lib.hid hM
  by_cases hx : x < 0 ∨ 127 < x
  · have hno : ¬ (okRun l 18 x ∧ ((moreL l 18 x).length : Int) ≤ n) := fun h => by
      have h1 := h.1.2.2.1
      have h2 := h.1.2.2.2.1
      rw [HM.out] at h2
      omega
    have HNo2 := Lib.hid (HNo.out hno)
    clear hno HNo hL hB hM HSp2 hlen HLen HLn2
    rcases hx with hx1 | hx2
    · have hd : decide (x < 0) = true := decide_eq_true hx1
      go_enter Tryz.func185, Tryz.ntmps185
      go_wp2_with fail
      refine (HSp.out _).mono ?_
      rintro e w2 ⟨rfl, rfl⟩
      go_upto_region 4 with fail
      go_quiet (fail)
      go_wp2
      go_ret2
      exact HNo2.out _ (by have := HKb.out; exact this.drewN _)
    · have hd : decide (x < 0) = false := decide_eq_false (by omega)
      have hd2 : decide (128 ≤ x) = true := decide_eq_true (by omega)
      go_enter Tryz.func185, Tryz.ntmps185
      go_wp2_with fail
      refine (HSp.out _).mono ?_
      rintro e w2 ⟨rfl, rfl⟩
      go_upto_region 4 with fail
      go_quiet (fail)
      go_wp2
      go_ret2
      exact HNo2.out _ (by have := HKb.out; exact this.drewN _)
  · obtain ⟨k, rfl⟩ : ∃ k : Nat, x = (k : Int) := ⟨x.toNat, by omega⟩
    have hln := HLn2.out k rfl
    have hkM : k ≤ 127 := by omega
    have hd : decide ((k : Int) < 0) = false := decide_eq_false (by omega)
    have hd2 : decide (128 ≤ (k : Int)) = false := decide_eq_false (by omega)
    clear hx HLn2
    by_cases hfit : len + (11 + k) ≤ n.toNat
    · have hd3 : decide (n - (len : Int) < 11 + (k : Int)) = false := decide_eq_false (by omega)
      have hv : valS l 18 = 0 := by unfold valS; rw [if_neg (by omega), if_pos (by omega)]
      have hok : okRun l 18 (k : Int) ∧ ((moreL l 18 (k : Int)).length : Int) ≤ n := ⟨⟨hs.1, hs.2, by omega, by rw [hM]; omega, (fun h => by omega)⟩, by rw [hln]; omega⟩
      have hmore : moreL l 18 (k : Int) = l ++ List.replicate (11 + k) 0 := by unfold moreL; rw [hL, hv]; rfl
      obtain ⟨NN, hNN⟩ : ∃ NN, NN = 11 + k := ⟨_, rfl⟩
      rw [← hNN] at hmore
      have hadd : (11 : Int) + (k : Int) = (NN : Int) := by omega
      rw [hadd] at hd3
      have hN1 : 1 ≤ NN ∧ NN ≤ 1000 := by omega
      have hln3 : (moreL l 18 (k : Int)).length = len + NN := by rw [hln, hNN]
      have HOk := Lib.hid hok; have HMore := Lib.hid hmore; have HLn3 := Lib.hid hln3
      have hfit2 : len + NN ≤ 1000 := by omega
      have HLe := Lib.hid hlen
      clear hok hmore hln hln3 hNN hfit hL hB hM HSp2 hv HNo HLen hlen
      go_enter Tryz.func185, Tryz.ntmps185
      go_wp2_with fail
      refine (HSp.out _).mono ?_
      rintro e w2 ⟨rfl, rfl⟩
      go_upto_region 4 with fail
      go_quiet (fail)
      have hrep := fun W (h : W.cell? ⟨w.heap.size + 1, 0, none⟩ = some (.int .i64 0)) => repeat_any (w.heap.size + 1) 0 NN W h hN1
      go_wp2_with fail
      refine (hrep _ (cell_new (k := w.heap.size + 1) 0 (by simp [World.drewN]))).mono ?_
      rintro e w5 ⟨G, rfl, hG, hGle, hB5⟩
      have hk5 : Kept NoB w w5 := ((HKb.out.drewN _).alloc _).ofBelow hB5
      have hownW : w5.ownsRow 0 3 1 (.slice ao len cap) len (l.map (.int .i64)) := by rw [HLe.out]; exact hk5.row HOwn.out (fun _ _ h => h)
      have hc2 : ∀ j u, (List.replicate NN (Value.int .i64 0))[j]? = some u → w5.cell? ((⟨G, 0, none⟩ : Addr).add j) = some u := by
        intro j u hj
        have hjl : j < NN := by have := (List.getElem?_eq_some_iff.1 hj).1; simpa using this
        rw [addr_add, Nat.zero_add, cell_of_row _ G j _ _ (0, 0) hG.out]
        rw [List.getElem?_toArray]; exact hj
      have HK5 := Lib.hid hk5; have HOW := Lib.hid hownW; have HC2 := Lib.hid hc2
      clear hk5 hownW hc2 hB5 hGle hrep hG
      go_wp2_with (at_builtin; refine wpList_app _ rfl _ _ 30 rfl 3 i0 (.int .i64 0) 1 8 Tryz.underlying30 hi hz0 hz1 hz2 rfl (by decide) _ len (l.map (.int .i64)) rfl HOW.out ⟨G, 0, none⟩ NN NN (List.replicate NN (Value.int .i64 0)) rfl ?c1 HC2.out ?c3 ?c4 ?c5 ?_)
      case c1 => simp
      case c3 => intro u hu; rw [List.eq_of_mem_replicate hu]; rfl
      case c4 => unfold maxLen; omega
      case c5 => omega
      intro v' w6 hown' hgrow hnew
      obtain ⟨ao2, cap2, rfl⟩ := own_shape hown'
      have hmap : l.map (Value.int .i64) ++ List.replicate NN (Value.int .i64 0) = (moreL l 18 (k : Int)).map (.int .i64) := by rw [HMore.out]; simp
      have hk6 : Kept (OwnB (.slice ao l.length cap)) w w6 := (HK5.out.mono (T := OwnB (.slice ao l.length cap)) (fun _ _ h => h.elim)).grown hgrow (fun k _ e => by rw [← HLe.out]; exact e)
      have hn6 : ∀ k, (Value.slice ao2 (len + NN) cap2).ownBlock = some k → (Value.slice ao l.length cap).ownBlock = some k ∨ w.heap.size ≤ k := by
        intro k hk
        rcases hnew k hk with h | h
        · left; rw [← HLe.out]; exact h
        · right; have := HK5.out.size; omega
      rw [hmap, ← HLn3.out] at hown'
      rw [← HLn3.out] at hn6
      have HO6 := Lib.hid hown'; have HK6 := Lib.hid hk6; have HN6 := Lib.hid hn6
      clear hown' hk6 hn6 hgrow hnew hmap
      go_wp2
      go_ret2
      refine .inl ⟨HOk.out.1, HOk.out.2, ao2, cap2, ?_, HO6.out, HK6.out, HN6.out⟩
      rw [HLn3.out]
      rfl
    · have hno : ¬ (okRun l 18 (k : Int) ∧ ((moreL l 18 (k : Int)).length : Int) ≤ n) := fun h => by
        have := h.2
        rw [hln] at this
        omega
      have HNo2 := Lib.hid (HNo.out hno)
      have hd3 : decide (n - (len : Int) < 11 + (k : Int)) = true := decide_eq_true (by omega)
      clear hno HNo hfit hln hL hB hM HSp2 hlen HLen
      go_enter Tryz.func185, Tryz.ntmps185
      go_wp2_with fail
      refine (HSp.out _).mono ?_
      rintro e w2 ⟨rfl, rfl⟩
      go_upto_region 4 with fail
      go_quiet (fail)
      go_wp2
      go_ret2
      exact HNo2.out _ (by have := HKb.out; exact this.drewN _)

set_option maxRecDepth 20000 in
set_option maxHeartbeats 2000000 in
theorem ext15_any (ao : Option Addr) (cap : Nat) (l : List Int) (s x n : Int) (w : World) (hown : OwnI w ao cap l) (hn : 0 ≤ n ∧ n ≤ 1000) (hl : (l.length : Int) ≤ n) (hs : 0 ≤ s ∧ s ≤ 18) (hs1 : s ≤ 15) :
    Calls Tryz.prog 185 #[.slice ao l.length cap, .agg #[.int .i64 s, .int .i64 x], .int .i64 n] w (ExtP w ao cap l s x n) := by
  have HOwn := Lib.hid hown
  have HLen := Lib.hid (moreL_len l s x)
  obtain ⟨len, hlen⟩ : ∃ len, len = l.length := ⟨_, rfl⟩
  have hlN : (len : Int) ≤ n := by omega
  have HNo := Lib.hid (fun (h : ¬ (okRun l s x ∧ ((moreL l s x).length : Int) ≤ n)) w' (hk : Kept NoB w w') => ExtP.no (ao := ao) (cap := cap) h hk)
  have hkb : Kept NoB w (w.alloc (.cells #[.int .i64 s, .int .i64 x] 125)) := (Kept.refl _ _).alloc _
  have HKb := Lib.hid hkb
  have c0 : (w.alloc (.cells #[.int .i64 s, .int .i64 x] 125)).cell? ⟨w.heap.size, 0, none⟩ = some (.int .i64 s) := cell_new 0 rfl
  have c1 : (w.alloc (.cells #[.int .i64 s, .int .i64 x] 125)).cell? ⟨w.heap.size, 1, none⟩ = some (.int .i64 x) := cell_new 1 rfl
  clear hown hkb
  rw [← hlen]
  have HSp := Lib.hid (fun w => span_any s w)
  obtain ⟨i0, hi, hz0, hz1, hz2⟩ := info_parts infoI
  have HSp3 : (s ≤ 15 → spanL s = 1) ∧ (s ≤ 15 → spanB s = 0) ∧ (s ≤ 15 → spanM s = 0) := by
    refine ⟨fun h => ?_, fun h => ?_, fun h => ?_⟩
    · unfold spanL; rw [if_neg (by omega), if_neg (by omega), if_neg (by omega)]
    · unfold spanB; rw [if_neg (by omega), if_neg (by omega), if_neg (by omega)]
    · unfold spanM; rw [if_neg (by omega), if_neg (by omega), if_neg (by omega)]
  have hL : spanL s = 1 := HSp3.1 hs1
  have hB : spanB s = 0 := HSp3.2.1 hs1
  have hM : spanM s = 0 := HSp3.2.2 hs1
  rw [hL, hB] at HSp
  have HLn2 : Hid (∀ k : Nat, x = (k : Int) → (moreL l s x).length = len + (1 + k)) := fun k hk => by rw [HLen.out, hL, hlen, hk]; rfl
  have HM := Lib.hid hM
  by_cases hx : x < 0 ∨ 0 < x
  · have hno : ¬ (okRun l s x ∧ ((moreL l s x).length : Int) ≤ n) := fun h => by
      have h1 := h.1.2.2.1
      have h2 := h.1.2.2.2.1
      rw [HM.out] at h2
      omega
    have HNo2 := Lib.hid (HNo.out hno)
    clear hno HNo hL hB hM HSp3 hlen HLen HLn2
    rcases hx with hx1 | hx2
    · have hd : decide (x < 0) = true := decide_eq_true hx1
      go_enter Tryz.func185, Tryz.ntmps185
      go_wp2_with fail
      refine (HSp.out _).mono ?_
      rintro e w2 ⟨rfl, rfl⟩
      go_upto_region 4 with fail
      go_quiet (fail)
      go_wp2
      go_ret2
      exact HNo2.out _ (by have := HKb.out; exact this.drewN _)
    · have hd : decide (x < 0) = false := decide_eq_false (by omega)
      have hd2 : decide (1 ≤ x) = true := decide_eq_true (by omega)
      go_enter Tryz.func185, Tryz.ntmps185
      go_wp2_with fail
      refine (HSp.out _).mono ?_
      rintro e w2 ⟨rfl, rfl⟩
      go_upto_region 4 with fail
      go_quiet (fail)
      go_wp2
      go_ret2
      exact HNo2.out _ (by have := HKb.out; exact this.drewN _)
  · obtain ⟨k, rfl⟩ : ∃ k : Nat, x = (k : Int) := ⟨x.toNat, by omega⟩
    have hln := HLn2.out k rfl
    have hkM : k ≤ 0 := by omega
    have hd : decide ((k : Int) < 0) = false := decide_eq_false (by omega)
    have hd2 : decide (1 ≤ (k : Int)) = false := decide_eq_false (by omega)
    clear hx HLn2
    by_cases hfit : len + (1 + k) ≤ n.toNat
    · have hd3 : decide (n - (len : Int) < 1 + (k : Int)) = false := decide_eq_false (by omega)
      have hv : valS l s = s := by unfold valS; rw [if_neg (by omega), if_neg (by omega)]
      have hok : okRun l s (k : Int) ∧ ((moreL l s (k : Int)).length : Int) ≤ n := ⟨⟨hs.1, hs.2, by omega, by rw [hM]; omega, (fun h => by omega)⟩, by rw [hln]; omega⟩
      have hmore : moreL l s (k : Int) = l ++ List.replicate (1 + k) s := by unfold moreL; rw [hL, hv]; rfl
      obtain ⟨NN, hNN⟩ : ∃ NN, NN = 1 + k := ⟨_, rfl⟩
      rw [← hNN] at hmore
      have hadd : (1 : Int) + (k : Int) = (NN : Int) := by omega
      rw [hadd] at hd3
      have hN1 : 1 ≤ NN ∧ NN ≤ 1000 := by omega
      have hln3 : (moreL l s (k : Int)).length = len + NN := by rw [hln, hNN]
      have HOk := Lib.hid hok; have HMore := Lib.hid hmore; have HLn3 := Lib.hid hln3
      have hfit2 : len + NN ≤ 1000 := by omega
      have HLe := Lib.hid hlen
      clear hok hmore hln hln3 hNN hfit hL hB hM HSp3 hv HNo HLen hlen
      go_enter Tryz.func185, Tryz.ntmps185
      go_wp2_with fail
      refine (HSp.out _).mono ?_
      rintro e w2 ⟨rfl, rfl⟩
      go_upto_region 4 with fail
      go_quiet (fail)
      have hrep := fun W (h : W.cell? ⟨w.heap.size + 1, 0, none⟩ = some (.int .i64 s)) => repeat_any (w.heap.size + 1) s NN W h hN1
      go_wp2_with fail
      refine (hrep _ (cell_new (k := w.heap.size + 1) 0 (by simp [World.drewN]))).mono ?_
      rintro e w5 ⟨G, rfl, hG, hGle, hB5⟩
      have hk5 : Kept NoB w w5 := ((HKb.out.drewN _).alloc _).ofBelow hB5
      have hownW : w5.ownsRow 0 3 1 (.slice ao len cap) len (l.map (.int .i64)) := by rw [HLe.out]; exact hk5.row HOwn.out (fun _ _ h => h)
      have hc2 : ∀ j u, (List.replicate NN (Value.int .i64 s))[j]? = some u → w5.cell? ((⟨G, 0, none⟩ : Addr).add j) = some u := by
        intro j u hj
        have hjl : j < NN := by have := (List.getElem?_eq_some_iff.1 hj).1; simpa using this
        rw [addr_add, Nat.zero_add, cell_of_row _ G j _ _ (0, 0) hG.out]
        rw [List.getElem?_toArray]; exact hj
      have HK5 := Lib.hid hk5; have HOW := Lib.hid hownW; have HC2 := Lib.hid hc2
      clear hk5 hownW hc2 hB5 hGle hrep hG
      go_wp2_with (at_builtin; refine wpList_app _ rfl _ _ 30 rfl 3 i0 (.int .i64 0) 1 8 Tryz.underlying30 hi hz0 hz1 hz2 rfl (by decide) _ len (l.map (.int .i64)) rfl HOW.out ⟨G, 0, none⟩ NN NN (List.replicate NN (Value.int .i64 s)) rfl ?c1 HC2.out ?c3 ?c4 ?c5 ?_)
      case c1 => simp
      case c3 => intro u hu; rw [List.eq_of_mem_replicate hu]; rfl
      case c4 => unfold maxLen; omega
      case c5 => omega
      intro v' w6 hown' hgrow hnew
      obtain ⟨ao2, cap2, rfl⟩ := own_shape hown'
      have hmap : l.map (Value.int .i64) ++ List.replicate NN (Value.int .i64 s) = (moreL l s (k : Int)).map (.int .i64) := by rw [HMore.out]; simp
      have hk6 : Kept (OwnB (.slice ao l.length cap)) w w6 := (HK5.out.mono (T := OwnB (.slice ao l.length cap)) (fun _ _ h => h.elim)).grown hgrow (fun k _ e => by rw [← HLe.out]; exact e)
      have hn6 : ∀ k, (Value.slice ao2 (len + NN) cap2).ownBlock = some k → (Value.slice ao l.length cap).ownBlock = some k ∨ w.heap.size ≤ k := by
        intro k hk
        rcases hnew k hk with h | h
        · left; rw [← HLe.out]; exact h
        · right; have := HK5.out.size; omega
      rw [hmap, ← HLn3.out] at hown'
      rw [← HLn3.out] at hn6
      have HO6 := Lib.hid hown'; have HK6 := Lib.hid hk6; have HN6 := Lib.hid hn6
      clear hown' hk6 hn6 hgrow hnew hmap
      go_wp2
      go_ret2
      refine .inl ⟨HOk.out.1, HOk.out.2, ao2, cap2, ?_, HO6.out, HK6.out, HN6.out⟩
      rw [HLn3.out]
      rfl
    · have hno : ¬ (okRun l s (k : Int) ∧ ((moreL l s (k : Int)).length : Int) ≤ n) := fun h => by
        have := h.2
        rw [hln] at this
        omega
      have HNo2 := Lib.hid (HNo.out hno)
      have hd3 : decide (n - (len : Int) < 1 + (k : Int)) = true := decide_eq_true (by omega)
      clear hno HNo hfit hln hL hB hM HSp3 hlen HLen
      go_enter Tryz.func185, Tryz.ntmps185
      go_wp2_with fail
      refine (HSp.out _).mono ?_
      rintro e w2 ⟨rfl, rfl⟩
      go_upto_region 4 with fail
      go_quiet (fail)
      go_wp2
      go_ret2
      exact HNo2.out _ (by have := HKb.out; exact this.drewN _)

set_option maxRecDepth 20000 in
set_option maxHeartbeats 1000000 in
theorem extended_any (ao : Option Addr) (cap : Nat) (l : List Int) (s x n : Int) (w : World) (hown : OwnI w ao cap l) (hn : 0 ≤ n ∧ n ≤ 1000) (hl : (l.length : Int) ≤ n) :
    Calls Tryz.prog 185 #[.slice ao l.length cap, .agg #[.int .i64 s, .int .i64 x], .int .i64 n] w (ExtP w ao cap l s x n) := by
  by_cases hs : 0 ≤ s ∧ s ≤ 18
  · have hc : s = 16 ∨ s = 17 ∨ s = 18 ∨ s ≤ 15 := by omega
    rcases hc with h | h | h | h
    · exact ext16_any ao cap l s x n w hown hn hl hs h
    · exact ext17_any ao cap l s x n w hown hn hl hs h
    · exact ext18_any ao cap l s x n w hown hn hl hs h
    · exact ext15_any ao cap l s x n w hown hn hl hs h
  · have hno : ¬ (okRun l s x ∧ ((moreL l s x).length : Int) ≤ n) := fun h => hs ⟨h.1.1, h.1.2.1⟩
    have HNo2 := Lib.hid (fun w' (hk : Kept NoB w w') => ExtP.no (ao := ao) (cap := cap) hno hk)
    have hkb : Kept NoB w (w.alloc (.cells #[.int .i64 s, .int .i64 x] 125)) := (Kept.refl _ _).alloc _
    have HKb := Lib.hid hkb
    have c0 : (w.alloc (.cells #[.int .i64 s, .int .i64 x] 125)).cell? ⟨w.heap.size, 0, none⟩ = some (.int .i64 s) := cell_new 0 rfl
    clear hown hkb
    have hc : s < 0 ∨ (¬ s < 0 ∧ 19 ≤ s) := by omega
    clear hs hno
    rcases hc with h | ⟨h1, h2⟩
    all_goals
      go_enter Tryz.func185, Tryz.ntmps185
      go_wp2
      go_ret2
      exact HNo2.out _ HKb.out
end Go.Proofs.YtfmjfgmbjdhogaaGreatDoor

namespace Go.Proofs.YtfmjfgmbjdhogaaGreatDoor
open Go.RowKit
set_option linter.unusedVariables false
set_option linter.unusedSimpArgs false

end Go.Proofs.YtfmjfgmbjdhogaaGreatDoor

namespace Go.Proofs.YtfmjfgmbjdhogaaGreatDoor
open Go.RowKit
set_option linter.unusedVariables false
set_option linter.unusedSimpArgs false

end Go.Proofs.YtfmjfgmbjdhogaaGreatDoor

namespace Go.Proofs.YtfmjfgmbjdhogaaGreatDoor
open Go.RowKit
set_option linter.unusedVariables false
set_option linter.unusedSimpArgs false

theorem own_readsI {w : World} {base n cap : Nat} {ao : Option Addr} {zs : List Int} (h : w.ownsRow base 3 1 (.slice ao n cap) n (zs.map (.int .i64))) (hn : zs.length = n) : RdI w w.heap.size ao zs := by
  intro i hi
  rcases h.2 with ⟨_, hz⟩ | ⟨g, c, cur, hv, _⟩
  · omega
  · simp at hv
    obtain ⟨rfl, rfl⟩ := hv
    have hc : w.cell? ⟨g, i, none⟩ = some (.int .i64 (zs.getD i 0)) := by
      rw [h.cellAt i (by omega)]; simp [List.getD, hi]
    exact ⟨g, 0, rfl, World.block_lt_of_cell? w _ hc, by rw [Nat.zero_add]; exact hc⟩
theorem OwnI.reads {w : World} {a : Option Addr} {c : Nat} {l : List Int} (h : OwnI w a c l) : RdI w w.heap.size a l := own_readsI h rfl
theorem lit_readsI {w : World} {cs : Array Value} (zs : List Int) (hc : cs.toList = zs.map (.int .i64)) : RdI (w.alloc (.cells cs 3)) (w.alloc (.cells cs 3)).heap.size (some ⟨w.heap.size, 0, none⟩) zs := by
  intro i hi
  refine ⟨w.heap.size, 0, rfl, by simp, ?_⟩
  rw [Nat.zero_add, cell_new i rfl, ← Array.getElem?_toList, hc]
  simp [List.getD, hi]
end Go.Proofs.YtfmjfgmbjdhogaaGreatDoor
