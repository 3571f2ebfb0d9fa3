/-
  awake of layer 18.
-/
import Derived.Test.YtclcgiochjibjaaGreatDoorTextT
import Derived.Lib.SlBytesConst
namespace Go.Proofs.YtclcgiochjibjaaGreatDoor
open Go.RowKit
set_option linter.unusedVariables false
set_option linter.unusedSimpArgs false

theorem rdk_one {w : World} {g n : Nat} (p : KVb) (hg : g < n) (h0 : w.cell? ⟨g, 0, none⟩ = some (.string (strB p.1))) (h1 : w.cell? ⟨g, 1, none⟩ = some (.string (strB p.2))) : RdK w n (some ⟨g, 0, none⟩) [p] := by
  intro i hi
  have : i = 0 := by simp at hi; exact hi
  subst this
  exact ⟨g, 0, rfl, hg, h0, h1⟩
theorem enc_ab : encS [([97], [98])] = some [54, 32, 97, 61, 98, 10] := by decide +kernel
theorem recs_ab : recsB [([97], [98])] = [54, 32, 97, 61, 98, 10] := by decide +kernel
theorem good_ab : Good [54, 32, 97, 61, 98, 10] [([97], [98])] := ⟨recs_ab.symm, by intro r hr; simp at hr; subst hr; decide⟩
theorem time_lit : timeS [45, 49, 46, 53] = (-1500000000, true) := by decide +kernel
theorem text_lit : textS (-1500000000) = [45, 49, 46, 53] := by decide +kernel

set_option maxRecDepth 20000 in
set_option maxHeartbeats 8000000 in
theorem awake18 (w : World) (htab : Pow10 w) (herr : ErrVars w) : Calls Tryz.prog 5 #[] w fun e w' => e = .returned (.bool true) ∧ Kept NoB w w' := by
  have HT := Lib.hid htab; have HE := Lib.hid herr
  clear htab herr
  go_enter Tryz.func5, Tryz.ntmps5
  go_wp2_with fail
  obtain ⟨w0, hw0⟩ : ∃ w0, w0 = w.alloc (.cells #[.string ⟨#[97]⟩, .string ⟨#[98]⟩] 28) := ⟨_, rfl⟩
  have hk0 : Kept NoB w w0 := by rw [hw0]; exact (Kept.refl _ _).alloc _
  have hc0 : w0.cell? ⟨w.heap.size, 0, none⟩ = some (.string (strB [97])) := by rw [hw0]; exact cell_new 0 rfl
  have hc1 : w0.cell? ⟨w.heap.size, 1, none⟩ = some (.string (strB [98])) := by rw [hw0]; exact cell_new 1 rfl
  rw [← hw0]
  have hr0 : RdK w0 w0.heap.size (some ⟨w.heap.size, 0, none⟩) [([97], [98])] := rdk_one _ (World.block_lt_of_cell? w0 _ hc0) hc0 hc1
  have hE := encode_any (some ⟨w.heap.size, 0, none⟩) 1 1 [([97], [98])] w0 rfl hr0 (by intro p hp; simp at hp; subst hp; decide) (by decide) (by decide) (HT.out.keptNo hk0)
  have HE1 := Lib.hid hE; have HK0 := Lib.hid hk0
  clear hE hr0 hc0 hc1 hk0 hw0
  refine HE1.out.mono ?_
  rintro e w1 (⟨hn, _⟩ | ⟨a, c, _, rfl, hb⟩)
  · rw [enc_ab] at hn; cases hn
  rw [recs_ab] at hb ⊢
  have HB := Lib.hid hb
  have hcp := hb.cap
  clear hb
  simp only [List.length_cons, List.length_nil]
  have hcs := fun (w : World) (C : Array Value) (n c : Nat) => Lib.run_convert_bytes_const (P := Tryz.prog) w 23 5 C n c Tryz.underlying23 Tryz.underlying5
  go_wp2_with fail
  clear hcs
  obtain ⟨w2, hw2⟩ : ∃ w2, w2 = w1.alloc (.cells #[.int .u8 54, .int .u8 32, .int .u8 97, .int .u8 61, .int .u8 98, .int .u8 10] 5 (6, 7)) := ⟨_, rfl⟩
  rw [← hw2]
  have hk2 : Kept NoB w1 w2 := by rw [hw2]; exact (Kept.refl _ _).alloc _
  have hr2 : Reads w2 (some ⟨w1.heap.size, 0, none⟩) (nb [54, 32, 97, 61, 98, 10]) := by
    rw [hw2]; exact lit_reads (t := 5) (fr := (6, 7)) (cs := #[.int .u8 54, .int .u8 32, .int .u8 97, .int .u8 61, .int .u8 98, .int .u8 10]) _ (heap_alloc_new _ _) rfl
  have HB2 := Lib.hid (HB.out.on hk2)
  have hK2 := HK0.out.trans HB2.out.kept
  have hD := decode_any (some ⟨w1.heap.size, 0, none⟩) 6 6 [54, 32, 97, 61, 98, 10] w2 rfl hr2 (fun h => by cases h) (by decide) (HT.out.keptNo hK2) (HE.out.keptNo hK2)
  have HD := Lib.hid hD; have HK2 := Lib.hid hK2
  clear hD hr2 hk2 hK2 hw2
  refine HD.out.mono ?_
  rintro e w3 (⟨rs, a3, c3, hg, _, rfl, hs⟩ | ⟨hno, _⟩)
  rotate_left
  · rcases hno with h | h
    · simp at h
    · exact absurd good_ab (h _)
  have hrs := good_ab.unique hg (by decide)
  subst hrs
  have HK3 := Lib.hid (HK2.out.trans hs.kept)
  have HB3 := Lib.hid (HB2.out.on hs.kept)
  obtain ⟨b3, off3, ha3, hb3, d0, d1⟩ := hs.reads 0 (by decide)
  subst ha3
  have D1 := Lib.hid d1
  clear hs hg d0 d1
  simp only [List.length_cons, List.length_nil]
  have hT := fun W => time_any [45, 49, 46, 53] W (by decide)
  rw [time_lit] at hT
  have HTm : Hid (∀ W, Calls Tryz.prog 11 #[.string ⟨#[45, 49, 46, 53]⟩] W fun e w' => e = .returned (.tuple #[.int .i64 (-1500000000), .bool true]) ∧ Kept NoB W w') := Lib.hid hT
  have hX := fun W (h : Pow10 W) => text_any (-1500000000) W (by decide) (by decide) h
  rw [text_lit] at hX
  have HTx : Hid (∀ W, Pow10 W → Calls Tryz.prog 12 #[.int .i64 (-1500000000)] W fun e w' => e = .returned (.string ⟨#[45, 49, 46, 53]⟩) ∧ Kept NoB W w') := Lib.hid hX
  clear hT hX
  go_wp2_with fail
  refine (HTm.out _).mono ?_
  rintro e w4 ⟨rfl, hk4⟩
  have hcv := conv_reads (n := 6) (HB3.out.on hk4).reads (by rfl) (cap := c) (fun h => (HB.out.cap.2.2 h))
  have hstr : strOfNums (nb [54, 32, 97, 61, 98, 10]) = ⟨#[54, 32, 97, 61, 98, 10]⟩ := by rw [nb_str]; rfl
  rw [hstr] at hcv
  have D4 : w4.cell? ⟨b3, off3 + (0 * 2 + 1), none⟩ = some (.string ⟨#[98]⟩) := hk4.cell D1.out
  have D5 : w4.cell? ⟨b3, off3 + 1, none⟩ = some (.string ⟨#[98]⟩) := D4
  have D6 : w4.cell? ⟨b3, off3 + 0 + 1, none⟩ = some (.string ⟨#[98]⟩) := D4
  have HK4 := Lib.hid (HK3.out.trans hk4)
  clear hk4 D4
  go_wp2_with fail
  refine (HTx.out _ (HT.out.keptNo HK4.out)).mono ?_
  rintro e w5 ⟨rfl, hk5⟩
  have HK5 := Lib.hid (HK4.out.trans hk5)
  clear hk5 hcv D5 D6
  go_wp2
  go_ret
  exact ⟨rfl, HK5.out⟩
end Go.Proofs.YtclcgiochjibjaaGreatDoor
