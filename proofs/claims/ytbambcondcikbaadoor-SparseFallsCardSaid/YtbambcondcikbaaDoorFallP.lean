/-
  SparseFalls, on paper.
-/
import Derived.Test.YtbambcondcikbaaDoorDense
import Derived.Test.YtbambcondcikbaaDoorLawSparseBounds
import Derived.Lib.SlBytesConst
import Derived.Deep.CutBlock
namespace Go.Proofs.YtbambcondcikbaaDoor
open Go.RowKit
set_option linter.unusedVariables false
set_option linter.unusedSimpArgs false

def abcde : List UInt8 := [97, 98, 99, 100, 101]
def xyzB : List UInt8 := [120, 121, 122]
/-- The two pieces, one of them moved. -/
def fallL (k b : Nat) : List Pc := if k = 0 then [(10, abcde), (15 - (b : Int), xyzB)] else if k = 1 then [(20, xyzB), (10, abcde)] else if k = 2 then [(10, []), (20, xyzB)]
  else if k = 5 then [(-1 - (b : Int), abcde), (20, xyzB)] else if k = 6 then [(10, abcde), (16 + (b : Int), xyzB)] else [(10, abcde), (20, xyzB)]
def fallZ (k b : Nat) : Int := if k = 3 then 22 - (b : Int) else if k = 4 then 23 else if k = 7 then 23 + (b : Int) else 30
def fallG (k : Nat) : Bool := k == 4 || k == 6 || k == 7
theorem fall_ok : ∀ k, k < 8 → ∀ b, b < 8 → okS (fallZ k b) (fallL k b) = fallG k ∧ holesS (fallZ k b) (fallL k b) = fallG k := by decide +kernel
theorem fall_sum : ∀ k, k < 8 → ∀ b, b < 8 → sumS (fallL k b) ≤ 8 ∧ (fallL k b).length = 2 ∧ 0 ≤ fallZ k b ∧ fallZ k b ≤ 30 := by decide +kernel
theorem fall_int : ∀ k, k < 8 → ∀ b, b < 8 → ∀ p ∈ fallL k b, -9223372036854775808 ≤ p.1 ∧ p.1 ≤ 9223372036854775807 := by decide +kernel
theorem fall_map : ∀ k, k < 8 → ∀ b, b < 8 → fallG k = true → (okS (fallZ k b + 1) (fallL k b) && mapB (fallZ k b + 1) (fallL k b) == mapB (fallZ k b) (fallL k b)) = false := by decide +kernel
theorem fall_more (k b : Nat) (hk : k < 8) (hb : b < 8) (hg : fallG k = true) : decS (fallZ k b + 1) (mapB (fallZ k b) (fallL k b)) = none := by
  unfold decS
  rw [pieces_yes _ _ (by rw [(fall_ok k hk b hb).1]; exact hg)]
  simp only [fall_map k hk b hb hg]
  rfl
theorem rdp_two {w : World} {G n : Nat} {z0 z1 : Int} {m0 m1 : List UInt8} {a0 a1 : Option Addr} {c0 c1 : Nat} (hG : G < n)
    (h0 : w.cell? ⟨G, 0, none⟩ = some (.int .i64 z0)) (h1 : w.cell? ⟨G, 1, none⟩ = some (.slice a0 m0.length c0)) (h2 : w.cell? ⟨G, 2, none⟩ = some (.int .i64 z1)) (h3 : w.cell? ⟨G, 3, none⟩ = some (.slice a1 m1.length c1))
    (r0 : PcRd w ((z0, m0), (a0, c0))) (r1 : PcRd w ((z1, m1), (a1, c1))) : RdP w n (some ⟨G, 0, none⟩) [(z0, m0), (z1, m1)] := by
  intro i hi
  match i, hi with
  | 0, _ => exact ⟨G, 0, a0, c0, rfl, hG, h0, h1, r0.1, r0.2.1, r0.2.2.1, r0.2.2.2⟩
  | 1, _ => exact ⟨G, 0, a1, c1, rfl, hG, h2, h3, r1.1, r1.2.1, r1.2.2.1, r1.2.2.2⟩
  | i + 2, hi => exact absurd hi (by simp)

def AtG (G : Nat) : Nat → Prop := fun j => j = G
/-- The pieces as they lie behind the switch. -/
def FallW (w wx : World) (G k b : Nat) : Prop := Kept NoB w wx ∧ RdP wx wx.heap.size (some ⟨G, 0, none⟩) (fallL k b) ∧ wx.cell? ⟨G, 2, none⟩ = some (.int .i64 ((fallL k b).getD 1 (0, [])).1)
theorem fall_fin {w wc wx : World} {G k b : Nat} (z0 z1 : Int) (m0 m1 : List UInt8) (a0 a1 : Option Addr) (c0 c1 : Nat) (hwx : Kept (AtG G) wc wx) (hK : Kept NoB w wc) (hq : w.heap.size ≤ G)
    (HO : wx.heap[G]? = some (.cells #[.int .i64 z0, .slice a0 m0.length c0, .int .i64 z1, .slice a1 m1.length c1] 30 (0, 0))) (r0 : PcRd wc ((z0, m0), (a0, c0))) (r1 : PcRd wc ((z1, m1), (a1, c1)))
    (ha0 : ∀ x, a0 = some x → x.block ≠ G) (ha1 : ∀ x, a1 = some x → x.block ≠ G) (e : fallL k b = [(z0, m0), (z1, m1)]) : FallW w wx G k b := by
  refine ⟨⟨hwx.os.trans hK.os, hwx.tape.trans hK.tape, hwx.output.trans hK.output, Nat.le_trans hK.size hwx.size, fun i hi _ => (hwx.block i (Nat.lt_of_lt_of_le hi hK.size) (by show ¬ i = G; omega)).trans (hK.block i hi (fun h => h))⟩, ?_, ?_⟩
  · rw [e]
    exact rdp_two (obj_lt HO) (obj_cell HO 0) (obj_cell HO 1) (obj_cell HO 2) (obj_cell HO 3) ⟨r0.1.kept hwx (fun x hx h => ha0 x hx h), r0.2⟩ ⟨r1.1.kept hwx (fun x hx h => ha1 x hx h), r1.2⟩
  · rw [e]
    exact obj_cell HO 2

theorem fallW_drew {w wx : World} {G k b : Nat} (h : FallW w wx G k b) : FallW w wx.drew G k b := ⟨h.1.drew, h.2.1.kept ((Kept.refl NoB wx).drew), h.2.2⟩

set_option maxRecDepth 20000 in
set_option maxHeartbeats 8000000 in
theorem sparseFalls_law (v0 v1 : Value) (w : World) (r0 : Arg w 3 v0) (r1 : Arg w 3 v1) (htab : Pow10 w) (herr : ErrVars w) :
    Calls Tryd.prog 4 #[v0, v1] w fun e w' => e = .returned (.bool true) ∧ Below w.heap.size w w' := by
  obtain ⟨x0, rfl, hx0⟩ := r0.int Tryd.underlying3
  obtain ⟨x1, rfl, hx1⟩ := r1.int Tryd.underlying3
  have HT := Lib.hid htab; have HE := Lib.hid herr
  have hm0 := mask7 x0
  have hm1 := mask7 x1
  obtain ⟨k, hk⟩ : ∃ n : Nat, (n : Int) = x0 % 8 := ⟨(x0 % 8).toNat, by omega⟩
  obtain ⟨b, hb⟩ : ∃ n : Nat, (n : Int) = x1 % 8 := ⟨(x1 % 8).toNat, by omega⟩
  have hk8 : k < 8 := by omega
  have hb8 : b < 8 := by omega
  rw [← hk] at hm0
  rw [← hb] at hm1
  have hcs := fun (w : World) (C : Array Value) (n c : Nat) => Lib.run_convert_bytes_const (P := Tryd.prog) w 26 5 C n c Tryd.underlying26 Tryd.underlying5
  have hcs2 := hcs (w.alloc (.cells #[.int .u8 97, .int .u8 98, .int .u8 99, .int .u8 100, .int .u8 101] 5 (5, 6))) #[.int .u8 120, .int .u8 121, .int .u8 122] 3 3
  rw [show (w.alloc (.cells #[.int .u8 97, .int .u8 98, .int .u8 99, .int .u8 100, .int .u8 101] 5 (5, 6))).heap.size = w.heap.size + 1 by simp] at hcs2
  go_enter Tryd.func4, Tryd.ntmps4
  go_upto_region 3 with fail
  obtain ⟨q, hq⟩ : ∃ q, q = w.heap.size := ⟨_, rfl⟩
  obtain ⟨wa, hwa⟩ : ∃ wa, wa = w.alloc (.cells #[.int .u8 97, .int .u8 98, .int .u8 99, .int .u8 100, .int .u8 101] 5 (5, 6)) := ⟨_, rfl⟩
  obtain ⟨wb, hwb⟩ : ∃ wb, wb = wa.alloc (.cells #[.int .u8 120, .int .u8 121, .int .u8 122] 5 (3, 4)) := ⟨_, rfl⟩
  obtain ⟨wc, hwc⟩ : ∃ wc, wc = wb.alloc (.cells #[.int .i64 10, .slice (some ⟨q, 0, none⟩) 5 5, .int .i64 20, .slice (some ⟨q + 1, 0, none⟩) 3 3] 30) := ⟨_, rfl⟩
  have ha1 : wa.heap.size = q + 1 := by rw [hwa, hq]; simp
  have hb1 : wb.heap.size = q + 1 + 1 := by rw [hwb]; simp [ha1]
  have hra : Reads wa (some ⟨q, 0, none⟩) (nb abcde) := by
    rw [hwa, hq]; exact lit_reads (t := 5) (fr := (5, 6)) (cs := #[.int .u8 97, .int .u8 98, .int .u8 99, .int .u8 100, .int .u8 101]) _ (heap_alloc_new _ _) rfl
  have hrb : Reads wb (some ⟨q + 1, 0, none⟩) (nb xyzB) := by
    rw [hwb, ← ha1]; exact lit_reads (t := 5) (fr := (3, 4)) (cs := #[.int .u8 120, .int .u8 121, .int .u8 122]) _ (heap_alloc_new _ _) rfl
  have hkab : Kept NoB wa wb := by rw [hwb]; exact (Kept.refl _ _).alloc _
  have hkbc : Kept NoB wb wc := by rw [hwc]; exact (Kept.refl _ _).alloc _
  have HO : Hid (wc.heap[q + 1 + 1]? = some (.cells #[.int .i64 10, .slice (some ⟨q, 0, none⟩) 5 5, .int .i64 20, .slice (some ⟨q + 1, 0, none⟩) 3 3] 30 (0, 0))) := Lib.hid (by rw [hwc, ← hb1]; exact heap_alloc_new _ _)
  have HRa := Lib.hid (hra.keptNo (hkab.trans hkbc))
  have HRb := Lib.hid (hrb.keptNo hkbc)
  have HKc : Hid (Kept NoB w wc) := Lib.hid ((by rw [hwa]; exact (Kept.refl _ _).alloc _ : Kept NoB w wa).trans (hkab.trans hkbc))
  have HQ := Lib.hid hq
  rw [← hq, ← hwa]
  (try rw [← hwb])
  (try rw [← hwc])
  clear hcs hcs2 hwa hwb hwc ha1 hb1 hra hrb hkab hkbc hq
  rw [← hb]
  clear hb hk hm1 hx0 hx1 r0 r1
  obtain ⟨G, hG⟩ : ∃ G, G = q + 1 + 1 := ⟨_, rfl⟩
  rw [← hG] at HO ⊢
  have hqG : w.heap.size ≤ G := by rw [hG]; have := HQ.out; omega
  obtain ⟨aA, haA⟩ : ∃ aA : Option Addr, aA = some ⟨q, 0, none⟩ := ⟨_, rfl⟩
  obtain ⟨aB, haB⟩ : ∃ aB : Option Addr, aB = some ⟨q + 1, 0, none⟩ := ⟨_, rfl⟩
  have ha0 : ∀ x, aA = some x → x.block ≠ G := fun x hx => by rw [haA] at hx; cases hx; show q ≠ G; omega
  have ha1 : ∀ x, aB = some x → x.block ≠ G := fun x hx => by rw [haB] at hx; cases hx; show q + 1 ≠ G; omega
  have HPa : Hid (Reads wc aA (nb abcde) ∧ (aA = none → (5 : Nat) = 0) ∧ abcde.length ≤ 5 ∧ (5 : Nat) ≤ maxLen) := Lib.hid ⟨by rw [haA]; exact HRa.out, (fun h => by rw [haA] at h; cases h), by decide, by unfold maxLen; omega⟩
  have HPb : Hid (Reads wc aB (nb xyzB) ∧ (aB = none → (3 : Nat) = 0) ∧ xyzB.length ≤ 3 ∧ (3 : Nat) ≤ maxLen) := Lib.hid ⟨by rw [haB]; exact HRb.out, (fun h => by rw [haB] at h; cases h), by decide, by unfold maxLen; omega⟩
  have HPn : Hid (Reads wc none (nb []) ∧ ((none : Option Addr) = none → (0 : Nat) = 0) ∧ ([] : List UInt8).length ≤ 0 ∧ (0 : Nat) ≤ maxLen) := Lib.hid ⟨⟨fun _ => rfl, fun a h => by cases h⟩, fun _ => rfl, by simp, by unfold maxLen; omega⟩
  rw [← haA, ← haB] at HO ⊢
  have c0 := obj_cell HO.out 0
  have c1 := obj_cell HO.out 1
  have c2 := obj_cell HO.out 2
  have c3 := obj_cell HO.out 3
  simp only [List.getElem?_toArray, List.getElem?_cons_zero, List.getElem?_cons_succ] at c0 c1 c2 c3
  have hfz : ∀ i, wc.frozen? ⟨G, i, none⟩ = false := fun i => obj_free HO.out i
  have f0 := hfz 0
  have f1 := hfz 1
  have f2 := hfz 2
  have f3 := hfz 3
  have HA0 := Lib.hid ha0; have HA1 := Lib.hid ha1
  clear hfz hG haA haB ha0 ha1 HRa HRb HQ
  go_upto_block 0 with fail
  go_cut [6, 7] from 27 to 72 (fun v6 v7 wx => v6 = .int .i64 (fallZ k b) ∧ v7 = .bool (fallG k) ∧ Hid (FallW w wx G k b))
  case first =>
    have ha0 := HA0.out
    have ha1 := HA1.out
    rcases (by omega : k = 0 ∨ k = 1 ∨ k = 2 ∨ k = 3 ∨ k = 4 ∨ k = 5 ∨ k = 6 ∨ k = 7) with rfl | rfl | rfl | rfl | rfl | rfl | rfl | rfl
    · have hF : bits BinOp.and IntKind.i64 x0 7 = 0 := hm0
      clear hm0
      have HW := Lib.hid (fall_fin (k := 0) (b := b) ((10 : Int)) ((15 - (b : Int) : Int)) abcde xyzB aA aB 5 3 ((Kept.setCell (S := AtG G) (p := ⟨G, 2, none⟩) (Kept.refl (AtG G) wc) (.inl rfl) _)) HKc.out hqG ((obj_set HO.out 2 _)) ⟨HPa.out.1, HPa.out.2⟩ ⟨HPb.out.1, HPb.out.2⟩ ha0 ha1 rfl)
      clear ha0 ha1
      go_wp2
      go_meet
      exact ⟨rfl, rfl, HW⟩
    · have hF : bits BinOp.and IntKind.i64 x0 7 = 1 := hm0
      clear hm0
      have HW1 := Lib.hid (fall_fin (k := 1) (b := b) ((20 : Int)) ((10 : Int)) xyzB abcde aB aA 3 5 ((Kept.setCell (S := AtG G) (p := ⟨G, 3, none⟩) (Kept.setCell (S := AtG G) (p := ⟨G, 2, none⟩) (Kept.setCell (S := AtG G) (p := ⟨G, 1, none⟩) (Kept.setCell (S := AtG G) (p := ⟨G, 0, none⟩) (Kept.refl (AtG G) wc) (.inl rfl) _) (.inl rfl) _) (.inl rfl) _) (.inl rfl) _)) HKc.out hqG ((obj_set (obj_set (obj_set (obj_set HO.out 0 _) 1 _) 2 _) 3 _)) ⟨HPb.out.1, HPb.out.2⟩ ⟨HPa.out.1, HPa.out.2⟩ ha1 ha0 rfl)
      have HW2 := Lib.hid (fall_fin (k := 1) (b := b) ((20 : Int)) ((10 : Int)) xyzB abcde aB aA 3 5 ((Kept.setCell (S := AtG G) (p := ⟨G, 1, none⟩) (Kept.setCell (S := AtG G) (p := ⟨G, 0, none⟩) (Kept.setCell (S := AtG G) (p := ⟨G, 3, none⟩) (Kept.setCell (S := AtG G) (p := ⟨G, 2, none⟩) (Kept.refl (AtG G) wc) (.inl rfl) _) (.inl rfl) _) (.inl rfl) _) (.inl rfl) _)) HKc.out hqG ((obj_set (obj_set (obj_set (obj_set HO.out 2 _) 3 _) 0 _) 1 _)) ⟨HPb.out.1, HPb.out.2⟩ ⟨HPa.out.1, HPa.out.2⟩ ha1 ha0 rfl)
      clear ha0 ha1
      go_wp2_with fail
      go_region
      all_goals (go_wp2; go_meet; exact ⟨rfl, rfl, Lib.hid (fallW_drew (by first | exact HW1.out | exact HW2.out))⟩)
    · have hF : bits BinOp.and IntKind.i64 x0 7 = 2 := hm0
      clear hm0
      have HW := Lib.hid (fall_fin (k := 2) (b := b) ((10 : Int)) ((20 : Int)) [] xyzB none aB 0 3 ((Kept.setCell (S := AtG G) (p := ⟨G, 1, none⟩) (Kept.refl (AtG G) wc) (.inl rfl) _)) HKc.out hqG ((obj_set HO.out 1 _)) ⟨HPn.out.1, HPn.out.2⟩ ⟨HPb.out.1, HPb.out.2⟩ (fun x hx => by cases hx) ha1 rfl)
      clear ha0 ha1
      go_wp2
      go_meet
      exact ⟨rfl, rfl, HW⟩
    · have hF : bits BinOp.and IntKind.i64 x0 7 = 3 := hm0
      clear hm0
      have HW := Lib.hid (fall_fin (k := 3) (b := b) ((10 : Int)) ((20 : Int)) abcde xyzB aA aB 5 3 ((Kept.refl (AtG G) wc)) HKc.out hqG (HO.out) ⟨HPa.out.1, HPa.out.2⟩ ⟨HPb.out.1, HPb.out.2⟩ ha0 ha1 rfl)
      clear ha0 ha1
      go_wp2
      go_meet
      exact ⟨rfl, rfl, HW⟩
    · have hF : bits BinOp.and IntKind.i64 x0 7 = 4 := hm0
      clear hm0
      have HW := Lib.hid (fall_fin (k := 4) (b := b) ((10 : Int)) ((20 : Int)) abcde xyzB aA aB 5 3 ((Kept.refl (AtG G) wc)) HKc.out hqG (HO.out) ⟨HPa.out.1, HPa.out.2⟩ ⟨HPb.out.1, HPb.out.2⟩ ha0 ha1 rfl)
      clear ha0 ha1
      go_wp2
      go_meet
      exact ⟨rfl, rfl, HW⟩
    · have hF : bits BinOp.and IntKind.i64 x0 7 = 5 := hm0
      clear hm0
      have HW := Lib.hid (fall_fin (k := 5) (b := b) ((-1 - (b : Int) : Int)) ((20 : Int)) abcde xyzB aA aB 5 3 ((Kept.setCell (S := AtG G) (p := ⟨G, 0, none⟩) (Kept.refl (AtG G) wc) (.inl rfl) _)) HKc.out hqG ((obj_set HO.out 0 _)) ⟨HPa.out.1, HPa.out.2⟩ ⟨HPb.out.1, HPb.out.2⟩ ha0 ha1 rfl)
      clear ha0 ha1
      go_wp2
      go_meet
      exact ⟨rfl, rfl, HW⟩
    · have hF : bits BinOp.and IntKind.i64 x0 7 = 6 := hm0
      clear hm0
      have HW := Lib.hid (fall_fin (k := 6) (b := b) ((10 : Int)) ((16 + (b : Int) : Int)) abcde xyzB aA aB 5 3 ((Kept.setCell (S := AtG G) (p := ⟨G, 2, none⟩) (Kept.refl (AtG G) wc) (.inl rfl) _)) HKc.out hqG ((obj_set HO.out 2 _)) ⟨HPa.out.1, HPa.out.2⟩ ⟨HPb.out.1, HPb.out.2⟩ ha0 ha1 rfl)
      clear ha0 ha1
      go_wp2
      go_meet
      exact ⟨rfl, rfl, HW⟩
    · have hF : bits BinOp.and IntKind.i64 x0 7 = 7 := hm0
      clear hm0
      have HW := Lib.hid (fall_fin (k := 7) (b := b) ((10 : Int)) ((20 : Int)) abcde xyzB aA aB 5 3 ((Kept.refl (AtG G) wc)) HKc.out hqG (HO.out) ⟨HPa.out.1, HPa.out.2⟩ ⟨HPb.out.1, HPb.out.2⟩ ha0 ha1 rfl)
      clear ha0 ha1
      go_wp2
      go_meet
      exact ⟨rfl, rfl, HW⟩
  case rest =>
  obtain ⟨rfl, rfl, HW⟩ := hcut
  obtain ⟨wx, hwx, HW⟩ : ∃ wx, wx = _ ∧ Hid (FallW w wx G k b) := ⟨_, rfl, HW⟩
  rw [← hwx]
  clear hwx
  have hR := HW.out.2.1
  obtain ⟨t1, t2⟩ := fall_ok k hk8 b hb8
  obtain ⟨u1, u2, u3, u4⟩ := fall_sum k hk8 b hb8
  have ui : IntP (fallL k b) := fall_int k hk8 b hb8
  have hz64 : -9223372036854775808 ≤ fallZ k b ∧ fallZ k b ≤ 9223372036854775807 := by omega
  have HK := Lib.hid HW.out.1
  have HEn := Lib.hid (spenc_any (fallZ k b) (some ⟨G, 0, none⟩) 2 2 (fallL k b) wx hz64.1 hz64.2 u2.symm hR ui (by omega) (by unfold maxLen; omega) (by omega) (HT.out.keptNo HK.out))
  have HDe : Hid (∀ W, Kept NoB wx W → Calls Tryd.prog 14 #[.int .i64 (fallZ k b), .slice (some ⟨G, 0, none⟩) 2 2] W (DenA W (fallZ k b) (fallL k b))) := Lib.hid (fun W h => dense_any (fallZ k b) (some ⟨G, 0, none⟩) 2 2 (fallL k b) W hz64.1 hz64.2 u2.symm ((hR.kept h).room h.size) ui (by omega) (by unfold maxLen; omega))
  have HOk : Hid (∀ W, Kept NoB wx W → Calls Tryd.prog 15 #[.int .i64 (fallZ k b), .slice (some ⟨G, 0, none⟩) 2 2] W fun e w' => e = .returned (.bool (fallG k)) ∧ Kept NoB W w') := Lib.hid (fun W h => by
    rw [← t1]
    exact spok_any (fallZ k b) (some ⟨G, 0, none⟩) 2 2 (fallL k b) W hz64.1 hz64.2 u2.symm ((hR.kept h).room h.size) ui (by omega) (by unfold maxLen; omega))
  have HHo : Hid (∀ W, Kept NoB wx W → Calls Tryd.prog 16 #[.int .i64 (fallZ k b), .slice (some ⟨G, 0, none⟩) 2 2] W fun e w' => e = .returned (.bool (fallG k)) ∧ Kept NoB W w') := Lib.hid (fun W h => by
    rw [← t2]
    exact holes_any (fallZ k b) (some ⟨G, 0, none⟩) 2 2 (fallL k b) W hz64.1 hz64.2 u2.symm ((hR.kept h).room h.size) ui (by omega) (by unfold maxLen; omega))
  have HAw : Hid (∀ W, Kept NoB w W → Calls Tryd.prog 17 #[] W fun e w' => e = .returned (.bool true) ∧ Kept NoB W w') := Lib.hid (fun W hk => awake19 W (HT.out.keptNo hk) (HE.out.keptNo hk))
  have HMore := Lib.hid (fall_more k b hk8 hb8)
  have HSum := Lib.hid u1
  have HLen := Lib.hid u2
  have HC2 := Lib.hid HW.out.2.2
  have HDyes0 : fallG k = true → decS (fallZ k b) (mapB (fallZ k b) (fallL k b)) = some (fallL k b) := fun h => dec_yes _ _ (by rw [t1]; exact h)
  obtain ⟨z, hz⟩ : ∃ z, z = fallZ k b := ⟨_, rfl⟩
  obtain ⟨l, hl⟩ : ∃ l, l = fallL k b := ⟨_, rfl⟩
  obtain ⟨gd, hgd⟩ : ∃ gd, gd = fallG k := ⟨_, rfl⟩
  rw [← hz, ← hl] at HEn HDe HMore t1 HDyes0
  rw [← hl] at HSum HLen HC2
  rw [← hz] at HOk HHo u3 u4
  rw [← hgd] at HOk HHo HMore t1 HDyes0
  rw [← hz, ← hgd]
  have HT1 := Lib.hid t1
  have HDyesH := Lib.hid HDyes0
  clear HDyes0
  clear hz hl hgd t1 t2 u1 u2 ui hz64 hR c0 c1 c2 c3 f0 f1 f2 f3 hm0
  cases gd with
  | false =>
    go_wp2_with fail
    with_reducible refine HEn.out.mono ?_
    rintro e w4 (⟨_, rfl, hk4⟩ | ⟨a4, c4, hok, _⟩)
    case inr => rw [HT1.out] at hok; cases hok
    have HK4 := Lib.hid hk4
    clear hk4
    go_wp2_with fail
    with_reducible refine (HDe.out _ HK4.out).mono ?_
    rintro e w5 (⟨_, rfl, hk5⟩ | ⟨g5, n5, hok, _⟩)
    case inr => rw [HT1.out] at hok; cases hok
    have HK5 := Lib.hid (HK4.out.trans hk5)
    clear hk5
    go_wp2_with fail
    with_reducible refine (HOk.out _ HK5.out).mono ?_
    rintro e w6 ⟨rfl, hk6⟩
    have HK6 := Lib.hid (HK5.out.trans hk6)
    clear hk6
    go_wp2_with fail
    with_reducible refine (HHo.out _ HK6.out).mono ?_
    rintro e w7 ⟨rfl, hk7⟩
    have HK7 := Lib.hid (HK.out.trans (HK6.out.trans hk7))
    clear hk7
    go_wp2_with fail
    with_reducible refine (HAw.out _ HK7.out).mono ?_
    rintro e w8 ⟨rfl, hk8w⟩
    have HK8 := Lib.hid (HK7.out.trans hk8w)
    clear hk8w
    go_wp2
    go_ret
    exact ⟨rfl, kept_b HK8.out⟩
  | true =>
    have hml := map_len z l (by rw [HT1.out])
    have hdy := HDyesH.out (by trivial)
    have hmo := HMore.out (by trivial)
    go_wp2_with fail
    with_reducible refine HEn.out.mono ?_
    rintro e w4 (⟨hok, _⟩ | ⟨a4, c4, _, rfl, hB⟩)
    · rw [HT1.out] at hok; cases hok
    obtain ⟨M, hM⟩ : ∃ M, M = mapB z l := ⟨_, rfl⟩
    have hM0 : M ≠ [] := by
      intro e
      rw [hM] at e
      have := congrArg List.length e
      simp [mapB, headB, lineB] at this
    rw [← hM] at hB hml hdy hmo ⊢
    obtain ⟨g4, rfl⟩ := hB.some hM0
    obtain ⟨ml, hmll⟩ : ∃ ml, ml = M.length := ⟨_, rfl⟩
    rw [← hmll] at hml hB ⊢
    have HMl := Lib.hid hmll; have HB4 := Lib.hid hB; have HDy := Lib.hid hdy; have HMo := Lib.hid hmo
    have HMl2 := Lib.hid hml
    clear hM hM0 hmll hB hdy hmo hml
    go_wp2_with fail
    with_reducible refine (HDe.out _ HB4.out.kept).mono ?_
    rintro e w5 (⟨hok, _⟩ | ⟨g5, n5, -, -, rfl, -, -, hk5⟩)
    · rw [HT1.out, decide_eq_true (by omega)] at hok; cases hok
    have HJ5 := Lib.hid hk5
    clear hk5
    go_wp2_with fail
    with_reducible refine (HOk.out _ (HB4.out.kept.trans HJ5.out)).mono ?_
    rintro e w6 ⟨rfl, hk6⟩
    have HJ6 := Lib.hid (HJ5.out.trans hk6)
    clear hk6
    have HDec : Hid (∀ (y : Int) (W : World), 0 ≤ y → y ≤ 100 → Kept NoB w4 W → Calls Tryd.prog 18 #[.int .i64 y, .slice (some ⟨g4, 0, none⟩) ml c4] W (DecR W y M)) := Lib.hid (fun y W hy hy2 hk => by
      have hcap4 := HB4.out.cap
      have hml := HMl2.out
      have hs := HSum.out
      exact spdec_any y g4 0 ml c4 M W (by omega) (by omega) HMl.out (HB4.out.reads.keptNo hk) hcap4.1 hcap4.2.1 (by omega) (HT.out.keptNo (HK.out.trans (HB4.out.kept.trans hk))) (HE.out.keptNo (HK.out.trans (HB4.out.kept.trans hk))))
    go_wp2_with fail
    with_reducible refine (HDec.out _ _ (by omega) (by omega) HJ6.out).mono ?_
    rintro e w7 (⟨hno, _⟩ | ⟨qs2, a7, c7, hyes, rfl, hP7⟩)
    · rw [HDy.out] at hno; cases hno
    rw [HDy.out] at hyes
    simp only [Option.some.injEq] at hyes
    have HJ7 := Lib.hid (HJ6.out.trans hP7.kept)
    have HP7 := Lib.hid hP7; have HYes := Lib.hid hyes
    clear hyes hP7
    go_wp2_with fail
    with_reducible refine (HDec.out _ _ (by omega) (by omega) HJ7.out).mono ?_
    rintro e w8 (⟨_, rfl, hk8w⟩ | ⟨qs3, a8, c8, hyes, _⟩)
    case inr => rw [HMo.out] at hyes; cases hyes
    have HKL : Hid (Kept NoB wx w8) := Lib.hid (HB4.out.kept.trans (HJ7.out.trans hk8w))
    have hql : qs2.length = 2 := by
      have := congrArg List.length HYes.out
      rw [List.length_map] at this
      rw [← this]; exact HLen.out
    have hrd := (HP7.out.on hk8w).reads 1 (by rw [List.length_map, hql]; decide)
    rw [← HYes.out] at hrd
    obtain ⟨gb, go, bo, bcc, rfl, _, d0, _⟩ := hrd
    obtain ⟨pz, hpz⟩ : ∃ pz, pz = (l.getD 1 (0, [])).1 := ⟨_, rfl⟩
    rw [← hpz] at d0
    have d1 := HKL.out.cell HC2.out
    rw [← hpz] at d1
    obtain ⟨wL, hwL⟩ : ∃ wL, wL = w8 := ⟨_, rfl⟩
    rw [← hwL] at d0 d1 HKL ⊢
    have hF0 : ∀ W, Kept NoB wL W → W.cell? ⟨G, 2, none⟩ = some (.int .i64 pz) := fun W h => h.cell d1
    have hF1 : ∀ W, Kept NoB wL W → W.cell? ⟨gb, go + 1 * 2, none⟩ = some (.int .i64 pz) := fun W h => h.cell d0
    rw [hql]
    clear hpz hwL hk8w d0 d1 hql
    simp only [Nat.one_mul] at hF1
    go_wp2_with fail
    refine wp_region_noPanic ?_
    refine wp_region_held_drew (S := fun W => Kept NoB wL W) (by kernel_rfl) (Kept.drew (Kept.refl _ _)) (fun hHeld => ?_)
    refine wpAnyH_take (i := 0) (v := ?_) (by rw [List.getElem?_toArray]; rfl) (by kernel_rfl) (by kernel_rfl) (by kernel_rfl) (fun _ _ _ h => h) (Or.inl ⟨by rfl, ?hy0⟩) (by assumption) ?rest0
    case hy0 => (intro w hSw; (try dsimp only at hSw); (try have e0 := hF0 w hSw); (try have e1 := hF1 w hSw); go_simp; (try with_reducible rfl))
    try simp only [Act.put, List.setIfInBounds_toArray, List.set_cons_zero, List.set_cons_succ]
    refine wpAnyH_take (i := 1) (v := ?_) (by rw [List.getElem?_toArray]; rfl) (by kernel_rfl) (by kernel_rfl) (by kernel_rfl) (fun _ _ _ h => h) (Or.inl ⟨by rfl, ?hy1⟩) (by assumption) ?rest1
    case hy1 => (intro w hSw; (try dsimp only at hSw); (try have e0 := hF0 w hSw); (try have e1 := hF1 w hSw); go_simp; (try with_reducible rfl))
    try simp only [Act.put, List.setIfInBounds_toArray, List.set_cons_zero, List.set_cons_succ]
    refine wpAnyH_take (i := 2) (v := ?_) (by rw [List.getElem?_toArray]; rfl) (by kernel_rfl) (by kernel_rfl) (by kernel_rfl) (fun _ _ _ h => h) (Or.inl ⟨by rfl, ?hy2⟩) (by assumption) ?rest2
    case hy2 => (intro w hSw; (try dsimp only at hSw); (try have e0 := hF0 w hSw); (try have e1 := hF1 w hSw); go_simp; (try with_reducible rfl))
    try simp only [Act.put, List.setIfInBounds_toArray, List.set_cons_zero, List.set_cons_succ]
    refine wpAnyH_take (i := 3) (v := ?_) (by rw [List.getElem?_toArray]; rfl) (by kernel_rfl) (by kernel_rfl) (by kernel_rfl) (fun _ _ _ h => h) (Or.inl ⟨by rfl, ?hy3⟩) (by assumption) ?rest3
    case hy3 => (intro w hSw; (try dsimp only at hSw); (try have e0 := hF0 w hSw); (try have e1 := hF1 w hSw); go_simp; (try with_reducible rfl))
    try simp only [Act.put, List.setIfInBounds_toArray, List.set_cons_zero, List.set_cons_succ]
    refine wpAnyH_take (i := 4) (v := ?_) (by rw [List.getElem?_toArray]; rfl) (by kernel_rfl) (by kernel_rfl) (by kernel_rfl) (fun _ _ _ h => h) (Or.inl ⟨by rfl, ?hy4⟩) (by assumption) ?rest4
    case hy4 => (intro w hSw; (try dsimp only at hSw); (try have e0 := hF0 w hSw); (try have e1 := hF1 w hSw); go_simp; (try with_reducible rfl))
    try simp only [Act.put, List.setIfInBounds_toArray, List.set_cons_zero, List.set_cons_succ]
    refine wpAnyH_take (i := 5) (v := ?_) (by rw [List.getElem?_toArray]; rfl) (by kernel_rfl) (by kernel_rfl) (by kernel_rfl) (fun _ _ _ h => h) (Or.inl ⟨by rfl, ?hy5⟩) (by assumption) ?rest5
    case hy5 => (intro w hSw; (try dsimp only at hSw); (try have e0 := hF0 w hSw); (try have e1 := hF1 w hSw); go_simp; (try with_reducible rfl))
    try simp only [Act.put, List.setIfInBounds_toArray, List.set_cons_zero, List.set_cons_succ]
    refine wpAnyH_take (i := 6) (v := ?_) (by rw [List.getElem?_toArray]; rfl) (by kernel_rfl) (by kernel_rfl) (by kernel_rfl) (fun _ _ _ h => h) (Or.inl ⟨by rfl, ?hy6⟩) (by assumption) ?rest6
    case hy6 => (intro w hSw; (try dsimp only at hSw); (try have e0 := hF0 w hSw); (try have e1 := hF1 w hSw); go_simp; (try with_reducible rfl))
    try simp only [Act.put, List.setIfInBounds_toArray, List.set_cons_zero, List.set_cons_succ]
    refine wpAnyH_take (i := 7) (v := ?_) (by rw [List.getElem?_toArray]; rfl) (by kernel_rfl) (by kernel_rfl) (by kernel_rfl) (fun _ _ _ h => h) (Or.inl ⟨by rfl, ?hy7⟩) (by assumption) ?rest7
    case hy7 => (intro w hSw; (try dsimp only at hSw); (try have e0 := hF0 w hSw); (try have e1 := hF1 w hSw); go_simp; (try with_reducible rfl))
    try simp only [Act.put, List.setIfInBounds_toArray, List.set_cons_zero, List.set_cons_succ]
    refine wpAnyH_take (i := 8) (v := ?_) (by rw [List.getElem?_toArray]; rfl) (by kernel_rfl) (by kernel_rfl) (by kernel_rfl) (fun _ _ _ h => h) (Or.inl ⟨by rfl, ?hy8⟩) (by assumption) ?rest8
    case hy8 => (intro w hSw; (try dsimp only at hSw); (try have e0 := hF0 w hSw); (try have e1 := hF1 w hSw); go_simp; (try with_reducible rfl))
    try simp only [Act.put, List.setIfInBounds_toArray, List.set_cons_zero, List.set_cons_succ]
    refine wpAnyH_take (i := 9) (v := ?_) (by rw [List.getElem?_toArray]; rfl) (by kernel_rfl) (by kernel_rfl) (by kernel_rfl) (fun _ _ _ h => h) (Or.inl ⟨by rfl, ?hy9⟩) (by assumption) ?rest9
    case hy9 => (intro w hSw; (try dsimp only at hSw); (try have e0 := hF0 w hSw); (try have e1 := hF1 w hSw); go_simp; (try with_reducible rfl))
    try simp only [Act.put, List.setIfInBounds_toArray, List.set_cons_zero, List.set_cons_succ]
    refine wpAnyH_take (i := 10) (v := ?_) (by rw [List.getElem?_toArray]; rfl) (by kernel_rfl) (by kernel_rfl) (by kernel_rfl) (fun _ _ _ h => h) (Or.inl ⟨by rfl, ?hy10⟩) (by assumption) ?rest10
    case hy10 => (intro w hSw; (try dsimp only at hSw); (try have e0 := hF0 w hSw); (try have e1 := hF1 w hSw); go_simp; (try with_reducible rfl))
    try simp only [Act.put, List.setIfInBounds_toArray, List.set_cons_zero, List.set_cons_succ]
    refine wpAnyH_take (i := 11) (v := ?_) (by rw [List.getElem?_toArray]; rfl) (by kernel_rfl) (by kernel_rfl) (by kernel_rfl) (fun _ _ _ h => h) (Or.inl ⟨by rfl, ?hy11⟩) (by assumption) ?rest11
    case hy11 => (intro w hSw; (try dsimp only at hSw); (try have e0 := hF0 w hSw); (try have e1 := hF1 w hSw); go_simp; (try with_reducible rfl))
    try simp only [Act.put, List.setIfInBounds_toArray, List.set_cons_zero, List.set_cons_succ]
    refine wpAnyH_take (i := 12) (v := ?_) (by rw [List.getElem?_toArray]; rfl) (by kernel_rfl) (by kernel_rfl) (by kernel_rfl) (fun _ _ _ h => h) (Or.inl ⟨by rfl, ?hy12⟩) (by assumption) ?rest12
    case hy12 => (intro w hSw; (try dsimp only at hSw); (try have e0 := hF0 w hSw); (try have e1 := hF1 w hSw); go_simp; (try with_reducible rfl))
    try simp only [Act.put, List.setIfInBounds_toArray, List.set_cons_zero, List.set_cons_succ]
    refine wpAnyH_take (i := 13) (v := ?_) (by rw [List.getElem?_toArray]; rfl) (by kernel_rfl) (by kernel_rfl) (by kernel_rfl) (fun _ _ _ h => h) (Or.inl ⟨by rfl, ?hy13⟩) (by assumption) ?rest13
    case hy13 => (intro w hSw; (try dsimp only at hSw); (try have e0 := hF0 w hSw); (try have e1 := hF1 w hSw); go_simp; (try with_reducible rfl))
    try simp only [Act.put, List.setIfInBounds_toArray, List.set_cons_zero, List.set_cons_succ]
    refine wpAnyH_take (i := 14) (v := ?_) (by rw [List.getElem?_toArray]; rfl) (by kernel_rfl) (by kernel_rfl) (by kernel_rfl) (fun _ _ _ h => h) (Or.inl ⟨by rfl, ?hy14⟩) (by assumption) ?rest14
    case hy14 => (intro w hSw; (try dsimp only at hSw); (try have e0 := hF0 w hSw); (try have e1 := hF1 w hSw); go_simp; (try with_reducible rfl))
    try simp only [Act.put, List.setIfInBounds_toArray, List.set_cons_zero, List.set_cons_succ]
    refine wpAnyH_take (i := 15) (v := ?_) (by rw [List.getElem?_toArray]; rfl) (by kernel_rfl) (by kernel_rfl) (by kernel_rfl) (fun _ _ _ h => h) (Or.inl ⟨by rfl, ?hy15⟩) (by assumption) ?rest15
    case hy15 => (intro w hSw; (try dsimp only at hSw); (try have e0 := hF0 w hSw); (try have e1 := hF1 w hSw); go_simp; (try with_reducible rfl))
    try simp only [Act.put, List.setIfInBounds_toArray, List.set_cons_zero, List.set_cons_succ]
    refine wpAnyH_take (i := 16) (v := ?_) (by rw [List.getElem?_toArray]; rfl) (by kernel_rfl) (by kernel_rfl) (by kernel_rfl) (fun _ _ _ h => h) (Or.inl ⟨by rfl, ?hy16⟩) (by assumption) ?rest16
    case hy16 => (intro w hSw; (try dsimp only at hSw); (try have e0 := hF0 w hSw); (try have e1 := hF1 w hSw); go_simp; (try with_reducible rfl))
    try simp only [Act.put, List.setIfInBounds_toArray, List.set_cons_zero, List.set_cons_succ]
    refine wpAnyH_take (i := 17) (v := ?_) (by rw [List.getElem?_toArray]; rfl) (by kernel_rfl) (by kernel_rfl) (by kernel_rfl) (fun _ _ _ h => h) (Or.inl ⟨by rfl, ?hy17⟩) (by assumption) ?rest17
    case hy17 => (intro w hSw; (try dsimp only at hSw); (try have e0 := hF0 w hSw); (try have e1 := hF1 w hSw); go_simp; (try with_reducible rfl))
    try simp only [Act.put, List.setIfInBounds_toArray, List.set_cons_zero, List.set_cons_succ]
    refine wpAnyH_take (i := 18) (v := ?_) (by rw [List.getElem?_toArray]; rfl) (by kernel_rfl) (by kernel_rfl) (by kernel_rfl) (fun _ _ _ h => h) (Or.inl ⟨by rfl, ?hy18⟩) (by assumption) ?rest18
    case hy18 => (intro w hSw; (try dsimp only at hSw); (try have e0 := hF0 w hSw); (try have e1 := hF1 w hSw); go_simp; (try with_reducible rfl))
    try simp only [Act.put, List.setIfInBounds_toArray, List.set_cons_zero, List.set_cons_succ]
    refine wpAnyH_take (i := 19) (v := ?_) (by rw [List.getElem?_toArray]; rfl) (by kernel_rfl) (by kernel_rfl) (by kernel_rfl) (fun _ _ _ h => h) (Or.inl ⟨by rfl, ?hy19⟩) (by assumption) ?rest19
    case hy19 => (intro w hSw; (try dsimp only at hSw); (try have e0 := hF0 w hSw); (try have e1 := hF1 w hSw); go_simp; (try with_reducible rfl))
    try simp only [Act.put, List.setIfInBounds_toArray, List.set_cons_zero, List.set_cons_succ]
    refine wpAnyH_take (i := 20) (v := ?_) (by rw [List.getElem?_toArray]; rfl) (by kernel_rfl) (by kernel_rfl) (by kernel_rfl) (fun _ _ _ h => h) (Or.inl ⟨by rfl, ?hy20⟩) (by assumption) ?rest20
    case hy20 => (intro w hSw; (try dsimp only at hSw); (try have e0 := hF0 w hSw); (try have e1 := hF1 w hSw); go_simp; (try with_reducible rfl))
    try simp only [Act.put, List.setIfInBounds_toArray, List.set_cons_zero, List.set_cons_succ]
    refine wpAnyH_take (i := 21) (v := ?_) (by rw [List.getElem?_toArray]; rfl) (by kernel_rfl) (by kernel_rfl) (by kernel_rfl) (fun _ _ _ h => h) (Or.inl ⟨by rfl, ?hy21⟩) (by assumption) ?rest21
    case hy21 => (intro w hSw; (try dsimp only at hSw); (try have e0 := hF0 w hSw); (try have e1 := hF1 w hSw); go_simp; (try with_reducible rfl))
    try simp only [Act.put, List.setIfInBounds_toArray, List.set_cons_zero, List.set_cons_succ]
    refine wpAnyH_take (i := 22) (v := ?_) (by rw [List.getElem?_toArray]; rfl) (by kernel_rfl) (by kernel_rfl) (by kernel_rfl) (fun _ _ _ h => h) (Or.inl ⟨by rfl, ?hy22⟩) (by assumption) ?rest22
    case hy22 => (intro w hSw; (try dsimp only at hSw); (try have e0 := hF0 w hSw); (try have e1 := hF1 w hSw); go_simp; (try with_reducible rfl))
    try simp only [Act.put, List.setIfInBounds_toArray, List.set_cons_zero, List.set_cons_succ]
    refine wpAnyH_take (i := 23) (v := ?_) (by rw [List.getElem?_toArray]; rfl) (by kernel_rfl) (by kernel_rfl) (by kernel_rfl) (fun _ _ _ h => h) (Or.inl ⟨by rfl, ?hy23⟩) (by assumption) ?rest23
    case hy23 => (intro w hSw; (try dsimp only at hSw); (try have e0 := hF0 w hSw); (try have e1 := hF1 w hSw); go_simp; (try with_reducible rfl))
    try simp only [Act.put, List.setIfInBounds_toArray, List.set_cons_zero, List.set_cons_succ]
    refine wpAnyH_take (i := 24) (v := ?_) (by rw [List.getElem?_toArray]; rfl) (by kernel_rfl) (by kernel_rfl) (by kernel_rfl) (fun _ _ _ h => h) (Or.inl ⟨by rfl, ?hy24⟩) (by assumption) ?rest24
    case hy24 => (intro w hSw; (try dsimp only at hSw); (try have e0 := hF0 w hSw); (try have e1 := hF1 w hSw); go_simp; (try with_reducible rfl))
    try simp only [Act.put, List.setIfInBounds_toArray, List.set_cons_zero, List.set_cons_succ]
    refine wpAnyH_ready (rs := [25]) (by kernel_rfl) (by simp) ?_
    refine AllReadyH.cons (by rw [List.getElem?_toArray]; rfl) (fun K hK => ?_) AllReadyH.nil
    go_simp
    go_at_call 16
    (with_reducible refine (HHo.out _ (HKL.out.trans hHeld)).mono ?_)
    rintro e wn ⟨rfl, hkn⟩
    have hSn : Kept NoB wL wn := hHeld.trans hkn
    clear hkn
    go_wp2_with fail
    refine hK.out _ _ hSn (fun hHeld => ?_)
    clear hK K hSn
    try simp only [Act.put, List.setIfInBounds_toArray, List.set_cons_zero, List.set_cons_succ]
    refine wpAnyH_take (i := 26) (v := ?_) (by rw [List.getElem?_toArray]; rfl) (by kernel_rfl) (by kernel_rfl) (by kernel_rfl) (fun _ _ _ h => h) (Or.inl ⟨by rfl, ?hy26⟩) (by assumption) ?rest26
    case hy26 => (intro w hSw; (try dsimp only at hSw); (try have e0 := hF0 w hSw); (try have e1 := hF1 w hSw); go_simp; (try with_reducible rfl))
    try simp only [Act.put, List.setIfInBounds_toArray, List.set_cons_zero, List.set_cons_succ]
    refine wpAnyH_take (i := 27) (v := ?_) (by rw [List.getElem?_toArray]; rfl) (by kernel_rfl) (by kernel_rfl) (by kernel_rfl) (fun _ _ _ h => h) (Or.inl ⟨by rfl, ?hy27⟩) (by assumption) ?rest27
    case hy27 => (intro w hSw; (try dsimp only at hSw); (try have e0 := hF0 w hSw); (try have e1 := hF1 w hSw); go_simp; (try with_reducible rfl))
    try simp only [Act.put, List.setIfInBounds_toArray, List.set_cons_zero, List.set_cons_succ]
    refine wpAnyH_ready (rs := [28]) (by kernel_rfl) (by simp) ?_
    refine AllReadyH.cons (by rw [List.getElem?_toArray]; rfl) (fun K hK => ?_) AllReadyH.nil
    go_simp
    go_at_call 17
    (with_reducible refine (HAw.out _ (HK.out.trans (HKL.out.trans hHeld))).mono ?_)
    rintro e wm ⟨rfl, hkm⟩
    have hSn : Kept NoB wL wm := hHeld.trans hkm
    have HKm := Lib.hid (HK.out.trans (HKL.out.trans hSn))
    clear hkm
    go_wp2_with fail
    refine hK.out _ _ hSn (fun hHeld => ?_)
    clear hK K hSn
    try simp only [Act.put, List.setIfInBounds_toArray, List.set_cons_zero, List.set_cons_succ]
    refine wpAnyH_take (i := 29) (v := ?_) (by rw [List.getElem?_toArray]; rfl) (by kernel_rfl) (by kernel_rfl) (by kernel_rfl) (fun _ _ _ h => h) (Or.inl ⟨by rfl, ?hy29⟩) (by assumption) ?rest29
    case hy29 => (intro w hSw; (try dsimp only at hSw); (try have e0 := hF0 w hSw); (try have e1 := hF1 w hSw); go_simp; (try with_reducible rfl))
    try simp only [Act.put, List.setIfInBounds_toArray, List.set_cons_zero, List.set_cons_succ]
    refine wpAnyH_take (i := 30) (v := ?_) (by rw [List.getElem?_toArray]; rfl) (by kernel_rfl) (by kernel_rfl) (by kernel_rfl) (fun _ _ _ h => h) (Or.inl ⟨by rfl, ?hy30⟩) (by assumption) ?rest30
    case hy30 => (intro w hSw; (try dsimp only at hSw); (try have e0 := hF0 w hSw); (try have e1 := hF1 w hSw); go_simp; (try with_reducible rfl))
    try simp only [Act.put, List.setIfInBounds_toArray, List.set_cons_zero, List.set_cons_succ]
    refine wpAnyH_done (by kernel_rfl) ?_ _
    refine NoPanic.normal ?_
    go_wp2
    go_ret
    exact ⟨rfl, kept_b HKm.out⟩
end Go.Proofs.YtbambcondcikbaaDoor
