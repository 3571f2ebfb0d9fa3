/-
  A row of tokens; Expand.
-/
import Derived.Test.YtifoldonmmobpaaDoorTokC
import Derived.Test.YtifoldonmmobpaaDoorToks
namespace Go.Proofs.YtifoldonmmobpaaDoor
open Go.RowKit
set_option linter.unusedVariables false
set_option linter.unusedSimpArgs false

def AllT (ts : List Tk) : Prop := ∀ t ∈ ts, t.wf
theorem AllT.getD {ts : List Tk} (h : AllT ts) (i : Nat) : (ts.getD i ⟨0, 0, 0⟩).wf := by
  by_cases hi : i < ts.length
  · have : ts.getD i ⟨0, 0, 0⟩ = ts[i] := by simp [List.getD, hi]
    rw [this]; exact h _ (List.getElem_mem hi)
  · have : ts.getD i ⟨0, 0, 0⟩ = ⟨0, 0, 0⟩ := by simp [List.getD, List.getElem?_eq_none (Nat.le_of_not_lt hi)]
    rw [this]; unfold Tk.wf; decide
/-- What tokens make behind bytes, how many of them were put, and why no more. -/
def expF (most : Int) : List Tk → List Int → Nat → List Int × Nat × Int
  | [], bs, i => (bs, i, 0)
  | t :: r, bs, i => if t.no bs.length most = 0 then expF most r (t.put bs) (i + 1) else (bs, i, t.no bs.length most)
theorem drop_getD (ts : List Tk) (j : Nat) (hj : j < ts.length) : ts.drop j = ts.getD j ⟨0, 0, 0⟩ :: ts.drop (j + 1) := by
  rw [List.drop_eq_getElem_cons hj]; simp [List.getD, hj]

set_option maxRecDepth 20000 in
set_option maxHeartbeats 4000000 in
theorem expand_any (ao : Option Addr) (cap len : Nat) (ts : List Tk) (most : Int) (w : World) (hlen : ts.length = len) (hr : Toks w ao ts) (ha : AllT ts) (hl : len ≤ 1000) (hm : -9223372036854775808 ≤ most ∧ most ≤ 9223372036854775807) :
    Calls Tryd.prog 15 #[.int .i64 most, .slice ao len cap] w fun e w' => ∃ ao' cap', e = .returned (.tuple #[.slice ao' (expF most ts [] 0).1.length cap', .int .i64 (expF most ts [] 0).2.1, .int .i64 (expF most ts [] 0).2.2]) ∧ Hid (Made w (expF most ts [] 0).1 ao' cap' w') := by
  have HLen := Lib.hid hlen; have HR := Lib.hid hr; have HA := Lib.hid ha
  clear hlen hr ha
  obtain ⟨R, hR⟩ : ∃ R, R = expF most ts [] 0 := ⟨_, rfl⟩
  rw [← hR]
  have HRe := Lib.hid hR
  clear hR
  go_enter Tryd.func15, Tryd.ntmps15
  go_wp2
  go_loopw [7, 13] (fun v i wr => ∃ (j : Nat) (bs : List Int) (ab : Option Addr) (cb : Nat), j ≤ len ∧ i = .int .i64 j ∧ v = .slice ab bs.length cb ∧ bs.length ≤ 258 * j ∧ Made w bs ab cb wr ∧ Hid (expF most (ts.drop j) bs j = R)) (fun _ i _ => len - (intOf i).toNat)
  case atStart => exact ⟨0, [], none, 0, by omega, rfl, rfl, by simp, ⟨World.ownsRow_nil _ _ _ _, (by intro k hk; simp [Value.ownBlock] at hk), Kept.refl _ _⟩, by rw [List.drop_zero]; exact HRe.out.symm⟩
  case round =>
    obtain ⟨j, bs, ab, cb, hj, rfl, rfl, hbl, hM, HX⟩ := hrel
    have HM := Lib.hid hM; clear hM
    by_cases hlt : (j : Int) < len
    · have hjt : j < ts.length := by have := HLen.out; omega
      obtain ⟨b, off, rfl, c0, c1, c2⟩ := (HR.out.keptNo HM.out.2.2) j hjt
      have hwf := HA.out.getD j
      have hdr := drop_getD ts j hjt
      generalize ts.getD j ⟨0, 0, 0⟩ = t at c0 c1 c2 hwf hdr
      have HWf := Lib.hid hwf; have HDr := Lib.hid hdr
      have HNo := Lib.hid (fun w => refused_any t ab bs.length cb most w (by omega) hwf hm)
      clear hwf hdr hjt
      obtain ⟨l, d, c⟩ := t
      have HT : Hid (∀ W, Calls Tryd.prog 23 #[.slice ab bs.length cb, .agg #[.int .i64 l, .int .i64 d, .int .u8 c], .int .i64 most] W fun e w' => e = .returned (.int .i64 ((Tk.mk l d c).no bs.length most)) ∧ Kept NoB W w') := HNo.out
      clear HNo
      simp only at c0 c1 c2
      go_wp2_with fail
      refine (HT.out _).mono ?_
      rintro e w1 ⟨rfl, hk1⟩
      have hbx : w1.heap[wr.heap.size]? = some (.cells #[.int .i64 l, .int .i64 d, .int .u8 c] 26 (0, 0)) := hk1.obj (heap_alloc_new _ _) (fun h => h)
      have e0 : w1.cell? ⟨wr.heap.size, 0, none⟩ = some (.int .i64 l) := by rw [obj_cell hbx 0]; rfl
      have e1 : w1.cell? ⟨wr.heap.size, 1, none⟩ = some (.int .i64 d) := by rw [obj_cell hbx 1]; rfl
      have e2 : w1.cell? ⟨wr.heap.size, 2, none⟩ = some (.int .u8 c) := by rw [obj_cell hbx 2]; rfl
      have hkr : Kept NoB wr w1 := ((Kept.refl NoB wr).alloc _).trans hk1
      have HM1 : Hid (Made w bs ab cb w1) := ⟨hkr.row HM.out.1 (fun _ _ h => h), HM.out.2.1, HM.out.2.2.trans hkr⟩
      clear hk1 hbx hkr c0 c1 c2 HT
      by_cases hno : (Tk.mk l d c).no bs.length most = 0
      · have hbw := HX.out
        rw [HDr.out] at hbw
        unfold expF at hbw
        rw [if_pos hno] at hbw
        have HX2 : Hid (expF most (ts.drop (j + 1)) ((Tk.mk l d c).put bs) (j + 1) = R) := hbw
        have hok : (Tk.mk l d c).ok = true := by
          cases h : (Tk.mk l d c).ok with
          | true => rfl
          | false => unfold Tk.no at hno; rw [if_pos h] at hno; cases hno
        have hd : (Tk.mk l d c).l = 0 ∨ (Tk.mk l d c).d ≤ bs.length := by
          right
          have h1 : ¬ (Tk.mk l d c).ok = false := by rw [hok]; decide
          unfold Tk.no at hno
          rw [if_neg h1] at hno
          by_cases h : (bs.length : Int) < (Tk.mk l d c).d
          · rw [if_pos h] at hno; cases hno
          · omega
        have hpl := put_len (Tk.mk l d c) bs
        have hl258 : (if (Tk.mk l d c).l = 0 then 1 else (Tk.mk l d c).l.toNat) ≤ 258 := by
          by_cases h : (Tk.mk l d c).l = 0
          · rw [if_pos h]; decide
          · rw [if_neg h]
            have := hok; unfold Tk.ok at this; rw [if_neg h] at this
            have := (of_decide_eq_true this).2.1
            omega
        have HP := Lib.hid (tput_any (Tk.mk l d c) ab cb bs w1 HM1.out.1 (by omega) HWf.out hok hd)
        have hpl2 : ((Tk.mk l d c).put bs).length ≤ 258 * (j + 1) := by omega
        rw [hno]
        have HPl := Lib.hid hpl2
        clear hbw hok hd hpl hl258 hpl2 hno
        generalize (Tk.mk l d c).put bs = pb at HP HX2 HPl
        unfold Tk.v at HP
        simp only [] at HP
        go_wp2_with fail
        refine HP.out.mono ?_
        rintro e w2 ⟨ao2, cap2, rfl, ho2, hk2, hn2⟩
        have HM2 : Hid (Made w pb ao2 cap2 w2) := by
          refine ⟨ho2, ?_, HM1.out.2.2.own hk2 HM1.out.2.1⟩
          intro k hk
          rcases hn2 k hk with h | h
          · exact HM1.out.2.1 k h
          · have := HM1.out.2.2.size; omega
        clear ho2 hk2 hn2 e0 e1 e2
        go_wp2
        go_roundw
        case rel => exact ⟨j + 1, pb, ao2, cap2, by omega, by go_num, rfl, HPl.out, HM2.out, HX2⟩
        case measure => simp [intOf]; omega
      · have hbw := HX.out
        rw [HDr.out] at hbw
        unfold expF at hbw
        rw [if_neg hno] at hbw
        have HRr := Lib.hid hbw
        have hne : ((Tk.mk l d c).no bs.length most == 0) = false := by simp; exact hno
        clear hbw hno e0 e1 e2
        generalize (Tk.mk l d c).no bs.length most = x at HRr hne ⊢
        go_wp2
        go_ret3
        exact ⟨ab, cb, by rw [← HRr.out]; rfl, by rw [← HRr.out]; exact HM1.out⟩
    · have hjl : j = len := by omega
      have hdr : ts.drop j = [] := List.drop_of_length_le (by have := HLen.out; omega)
      have hbw := HX.out
      rw [hdr] at hbw
      have HRr : Hid ((bs, j, (0 : Int)) = R) := hbw
      subst hjl
      clear hbw hdr
      go_wp2
      go_ret3
      exact ⟨ab, cb, by rw [← HRr.out]; rfl, by rw [← HRr.out]; exact HM.out⟩
end Go.Proofs.YtifoldonmmobpaaDoor
