/-
  Put: a token behind bytes, in memory of its own.
-/
import Derived.Test.YtkhkcmekjjihkaaTokB
namespace Go.Proofs.Ytkhkcmekjjihkaa
open Go.RowKit
set_option linter.unusedVariables false
set_option linter.unusedSimpArgs false

theorem Kept.own {S : Nat → Prop} {a b c : World} (h : Kept NoB a b) (k : Kept S b c) (hs : ∀ i, S i → a.heap.size ≤ i) : Kept NoB a c :=
  ⟨k.os.trans h.os, k.tape.trans h.tape, k.output.trans h.output, Nat.le_trans h.size k.size, fun i hi _ => (k.block i (Nat.lt_of_lt_of_le hi h.size) (fun s => by have := hs i s; omega)).trans (h.block i hi (fun h => h))⟩

/-- A row of the call's own. -/
def Made (w : World) (xs : List Int) (ao : Option Addr) (cap : Nat) (w' : World) : Prop :=
  w'.ownsRow 0 5 1 (.slice ao xs.length cap) xs.length (xs.map (.int .u8)) ∧ (∀ k, (Value.slice ao xs.length cap).ownBlock = some k → w.heap.size ≤ k) ∧ Kept NoB w w'
theorem Made.reads {w w' : World} {xs : List Int} {ao : Option Addr} {cap : Nat} (h : Made w xs ao cap w') : Reads w' ao xs := own_reads h.1 rfl

set_option maxHeartbeats 2000000 in
theorem lput_no (t : Tk) (ao : Option Addr) (cap n : Nat) (most : Int) (w : World) (hn : n ≤ 1000000) (ht : t.wf) (hm : -9223372036854775808 ≤ most ∧ most ≤ 9223372036854775807) (hno : t.no n most ≠ 0) :
    Calls Try.prog 9 #[.slice ao n cap, t.v, .int .i64 most] w fun e w' => e = .returned (.tuple #[.slice none 0 0, .int .i64 (t.no n most)]) ∧ Kept NoB w w' := by
  have HR := Lib.hid (fun w => refused_any t ao n cap most w (by omega) ht hm)
  obtain ⟨l, d, c⟩ := t
  have hk : Kept NoB w (w.alloc (.cells #[.int .i64 l, .int .i64 d, .int .u8 c] 31)) := (Kept.refl _ _).alloc _
  have a0 : (w.alloc (.cells #[.int .i64 l, .int .i64 d, .int .u8 c] 31)).cell? ⟨w.heap.size, 0, none⟩ = some (.int .i64 l) := by rw [cell_new 0 rfl]; rfl
  have a1 : (w.alloc (.cells #[.int .i64 l, .int .i64 d, .int .u8 c] 31)).cell? ⟨w.heap.size, 1, none⟩ = some (.int .i64 d) := by rw [cell_new 1 rfl]; rfl
  have a2 : (w.alloc (.cells #[.int .i64 l, .int .i64 d, .int .u8 c] 31)).cell? ⟨w.heap.size, 2, none⟩ = some (.int .u8 c) := by rw [cell_new 2 rfl]; rfl
  have HK := Lib.hid hk
  have hne : ((Tk.mk l d c).no n most == 0) = false := by simp; exact hno
  clear hk ht hno
  unfold Tk.v at HR ⊢
  simp only [] at HR ⊢
  generalize (Tk.mk l d c).no n most = x at HR hne ⊢
  go_enter Try.func9, Try.ntmps9
  go_wp2_with fail
  refine (HR.out _).mono ?_
  rintro e w1 ⟨rfl, hk1⟩
  have HK1 := Lib.hid (HK.out.trans hk1)
  clear hk1 a0 a1 a2 HK
  go_wp2
  go_ret2
  exact ⟨rfl, HK1.out⟩

set_option maxRecDepth 20000 in
set_option maxHeartbeats 2000000 in
theorem lput_yes (t : Tk) (ao : Option Addr) (cap : Nat) (bs : List Int) (most : Int) (w : World) (hr : Reads w ao bs) (hn : bs.length ≤ 1000000) (ht : t.wf) (hm : -9223372036854775808 ≤ most ∧ most ≤ 9223372036854775807) (hno : t.no bs.length most = 0) :
    Calls Try.prog 9 #[.slice ao bs.length cap, t.v, .int .i64 most] w fun e w' => ∃ ao' cap', e = .returned (.tuple #[.slice ao' (t.put bs).length cap', .int .i64 0]) ∧ Hid (Made w (t.put bs) ao' cap' w') := by
  have hok : t.ok = true := by
    cases h : t.ok with
    | true => rfl
    | false => unfold Tk.no at hno; rw [if_pos h] at hno; cases hno
  have hd : t.l = 0 ∨ t.d ≤ bs.length := by
    right
    have h1 : ¬ t.ok = false := by rw [hok]; decide
    unfold Tk.no at hno
    rw [if_neg h1] at hno
    by_cases h : (bs.length : Int) < t.d
    · rw [if_pos h] at hno; cases hno
    · omega
  have HR := Lib.hid (fun w => refused_any t ao bs.length cap most w (by omega) ht hm)
  have HP := Lib.hid (fun ao cap w h => tput_any t ao cap bs w h hn ht hok hd)
  have HRd := Lib.hid hr
  have HPut : Hid (t.put bs = t.put bs) := rfl
  rw [hno] at HR
  generalize hpb : t.put bs = pb at HP ⊢
  clear hpb HPut
  obtain ⟨l, d, c⟩ := t
  have hk : Kept NoB w (w.alloc (.cells #[.int .i64 l, .int .i64 d, .int .u8 c] 31)) := (Kept.refl _ _).alloc _
  have hbox : (w.alloc (.cells #[.int .i64 l, .int .i64 d, .int .u8 c] 31)).heap[w.heap.size]? = some (.cells #[.int .i64 l, .int .i64 d, .int .u8 c] 31 (0, 0)) := heap_alloc_new _ _
  have a0 : (w.alloc (.cells #[.int .i64 l, .int .i64 d, .int .u8 c] 31)).cell? ⟨w.heap.size, 0, none⟩ = some (.int .i64 l) := by rw [cell_new 0 rfl]; rfl
  have a1 : (w.alloc (.cells #[.int .i64 l, .int .i64 d, .int .u8 c] 31)).cell? ⟨w.heap.size, 1, none⟩ = some (.int .i64 d) := by rw [cell_new 1 rfl]; rfl
  have a2 : (w.alloc (.cells #[.int .i64 l, .int .i64 d, .int .u8 c] 31)).cell? ⟨w.heap.size, 2, none⟩ = some (.int .u8 c) := by rw [cell_new 2 rfl]; rfl
  have HK := Lib.hid hk; have HBox := Lib.hid hbox
  clear hk hbox ht hno hok hd hr
  unfold Tk.v at HR HP ⊢
  simp only [] at HR HP ⊢
  go_enter Try.func9, Try.ntmps9
  go_wp2_with fail
  refine (HR.out _).mono ?_
  rintro e w1 ⟨rfl, hk1⟩
  have hbox1 := hk1.obj HBox.out (fun h => h)
  have hc0 : ∀ W, Kept NoB w1 W → W.cell? ⟨w.heap.size, 0, none⟩ = some (.int .i64 l) := fun W hk => by rw [obj_cell (hk.obj hbox1 (fun h => h)) 0]; rfl
  have hc1 : ∀ W, Kept NoB w1 W → W.cell? ⟨w.heap.size, 1, none⟩ = some (.int .i64 d) := fun W hk => by rw [obj_cell (hk.obj hbox1 (fun h => h)) 1]; rfl
  have hc2 : ∀ W, Kept NoB w1 W → W.cell? ⟨w.heap.size, 2, none⟩ = some (.int .u8 c) := fun W hk => by rw [obj_cell (hk.obj hbox1 (fun h => h)) 2]; rfl
  have HK1 := Lib.hid (HK.out.trans hk1)
  have HRd1 := Lib.hid (HRd.out.keptNo HK1.out)
  clear hk1 a0 a1 a2 HK hbox1 HBox
  obtain ⟨m, hm'⟩ : ∃ m, m = bs.length := ⟨_, rfl⟩
  have HM := Lib.hid hm'
  go_wp2_with fail
  go_region_held3 (fun W => Kept NoB w1 W) (first | assumption | exact Kept.drew (Kept.refl _ _) | exact Kept.drew (by assumption) | exact Kept.trans (by assumption) hkn | exact hkp)
    (first
      | (go_at_call 20; ((with_reducible refine (clone_any _ _ _ _ (HRd1.out.keptNo (by assumption)) (by omega)).mono ?_); rintro e wn ⟨ao', cap', rfl, ho, hf, hn', hkn⟩; have hkn1 : Kept NoB w1 wn := Kept.trans (by assumption) hkn))
      | (go_at_call 19; ((with_reducible refine (HP.out _ _ _ ho).mono ?_); rintro e wp ⟨ao2, cap2, rfl, hop, hkp2, hnp⟩; have hkp : Kept NoB w1 wp := Kept.own hkn1 hkp2 (fun k hk => hf k hk))))
  clear hc0 hc1 hc2
  have hkw := HK1.out.trans hkp
  have hfr : ∀ k, (Value.slice ao2 pb.length cap2).ownBlock = some k → w.heap.size ≤ k := by
    intro k hk
    have hs := HK1.out.size
    rcases hnp k hk with h | h
    · have h2 : w1.heap.size ≤ k := hf k h
      omega
    · have := hkn1.size; omega
  have HM2 : Hid (Made w pb ao2 cap2 wp) := ⟨hop, hfr, hkw⟩
  clear hop hkp2 hnp hkp hkn1 ho hf hn' hkn hkw hfr
  go_wp2
  go_ret2
  exact ⟨ao2, cap2, rfl, HM2⟩
end Go.Proofs.Ytkhkcmekjjihkaa
