/-
  What layer 2's statements ask of themselves first: the check of a few bytes.
-/
import Derived.Test.YtffoigacpnlkgaaCrcA
import Derived.Test.YtffoigacpnlkgaaRd
import Derived.Lib.SlBytesConst
namespace Go.Proofs.Ytffoigacpnlkgaa
open Go.RowKit
set_option linter.unusedVariables false

theorem lit_reads {w : World} {g : Nat} {cs : Array Value} {t : TypeId} {fr : Nat × Nat} (bs : List Int) (h : w.heap[g]? = some (.cells cs t fr)) (hc : cs.toList = bs.map (.int .u8)) : Reads w (some ⟨g, 0, none⟩) bs := by
  refine ⟨(fun h => by cases h), ?_⟩
  intro a ha i hi
  cases ha
  rw [addr_add, Nat.zero_add, cell_of_row w g i cs t fr h]
  rw [← Array.getElem?_toList, hc]
  simp [List.getD, hi]

theorem cell_new {w : World} {cs : Array Value} {t : TypeId} {k : Nat} (i : Nat) (hk : k = w.heap.size) : (w.alloc (.cells cs t)).cell? ⟨k, i, none⟩ = cs[i]? := by
  subst hk; exact cell_of_row _ _ _ cs t (0, 0) (heap_alloc_new _ _)

theorem crc_known : crcOf 0 (nats [49, 50, 51, 52, 53, 54, 55, 56, 57]) = 3421780262 := by decide +kernel

set_option maxRecDepth 100000 in
set_option maxHeartbeats 4000000 in
theorem awake2 (w : World) : Calls Try.prog 39 #[] w fun e w' => e = .returned (.bool true) ∧ Below w.heap.size w w' := by
  have kc := fun (w : World) (C : Array Value) (n c : Nat) => Lib.run_convert_bytes_const (P := Try.prog) w 22 5 C n c Try.underlying22 Try.underlying5
  have kc2 : ∀ (w : World) (o : Obj) (C : Array Value) (n c : Nat), (convert 22 22 (.slice (some ⟨w.heap.size + 1, 0, none⟩) n c)).run Try.prog ((w.alloc o).alloc (.cells C 5)) =
      .ok (.slice (some ⟨w.heap.size + 1, 0, none⟩) n c) ((w.alloc o).alloc (.cells C 5 (C.size, C.size + 1))) := fun w o C n c => by
    have := kc (w.alloc o) C n c
    simpa using this
  go_enter Try.func39, Try.ntmps39
  go_wp2_with fail
  refine (newt_any _).mono ?_
  rintro e w1 ⟨T, rfl, hT, hTf, hk1⟩
  have HT1 := Lib.hid hT; have HK1 := Lib.hid hk1
  clear hT hk1 hTf
  go_wp2_with fail
  refine (sum_any _ T _ _ _ [[49, 50, 51, 52, 53, 54, 55, 56, 57]] (HT1.out.keptNo (((Kept.refl _ _).alloc _).alloc _)) ?_ (by intro p hp b hb; simp at hp; subst hp; simp at hb; omega) rfl (by decide)).mono ?_
  · refine .inr ⟨_, 0, rfl, by simp, fun i hi => ?_⟩
    match i, hi with
    | 0, _ =>
      refine ⟨some ⟨w1.heap.size, 0, none⟩, 9, by simp, ?_, by decide, by decide, (fun h => by cases h)⟩
      exact lit_reads (t := 5) (fr := (9, 10)) (cs := #[.int .u8 49, .int .u8 50, .int .u8 51, .int .u8 52, .int .u8 53, .int .u8 54, .int .u8 55, .int .u8 56, .int .u8 57]) _ (by rw [heap_alloc_old _ _ (by simp)]; exact heap_alloc_new _ _) rfl
  rintro e w2 ⟨rfl, hk2⟩
  rw [show crcOf 0 (nats ([[49, 50, 51, 52, 53, 54, 55, 56, 57]] : List (List Int)).flatten) = 3421780262 from crc_known]
  have HK2 := Lib.hid ((((HK1.out.alloc _).alloc _)).trans hk2)
  have HT2 := Lib.hid (HT1.out.keptNo ((((Kept.refl NoB w1).alloc _).alloc _).trans hk2))
  clear hk2
  go_wp2_with fail
  refine (sum_any _ T _ _ _ [[49, 50, 51, 52], [], [53, 54, 55, 56, 57]] (HT2.out.keptNo ((((Kept.refl _ _).alloc _).alloc _).alloc _)) ?_ (by intro p hp b hb; simp at hp; rcases hp with rfl | rfl | rfl <;> simp at hb <;> omega) rfl (by decide)).mono ?_
  · refine .inr ⟨_, 0, rfl, by simp, fun i hi => ?_⟩
    match i, hi with
    | 0, _ =>
      refine ⟨some ⟨w2.heap.size, 0, none⟩, 4, cell_new 0 (by simp), ?_, by decide, by decide, (fun h => by cases h)⟩
      exact lit_reads (t := 5) (fr := (4, 5)) (cs := #[.int .u8 49, .int .u8 50, .int .u8 51, .int .u8 52]) _ (by rw [heap_alloc_old _ _ (by simp; omega), heap_alloc_old _ _ (by simp)]; exact heap_alloc_new _ _) rfl
    | 1, _ => exact ⟨none, 0, cell_new 1 (by simp), ⟨(fun _ => rfl), (fun a ha => by cases ha)⟩, by decide, by decide, (fun _ => rfl)⟩
    | 2, _ =>
      refine ⟨some ⟨w2.heap.size + 1, 0, none⟩, 5, cell_new 2 (by simp), ?_, by decide, by decide, (fun h => by cases h)⟩
      exact lit_reads (t := 5) (fr := (5, 6)) (cs := #[.int .u8 53, .int .u8 54, .int .u8 55, .int .u8 56, .int .u8 57]) _ (by
        rw [heap_alloc_old _ _ (by simp)]
        have := heap_alloc_new (w2.alloc (.cells #[.int .u8 49, .int .u8 50, .int .u8 51, .int .u8 52] 5 (4, 5))) (.cells #[.int .u8 53, .int .u8 54, .int .u8 55, .int .u8 56, .int .u8 57] 5 (5, 6))
        simpa using this) rfl
  rintro e w3 ⟨rfl, hk3⟩
  rw [show crcOf 0 (nats ([[49, 50, 51, 52], [], [53, 54, 55, 56, 57]] : List (List Int)).flatten) = 3421780262 from crc_known]
  have HK3 := Lib.hid ((((HK2.out.alloc _).alloc _).alloc _).trans hk3)
  have HT3 := Lib.hid (HT2.out.keptNo (((((Kept.refl NoB w2).alloc _).alloc _).alloc _).trans hk3))
  clear hk3
  go_wp2_with fail
  refine (sum_any _ T _ _ _ [] HT3.out (.inl rfl) (by intro p hp; cases hp) rfl (by decide)).mono ?_
  rintro e w4 ⟨rfl, hk4⟩
  rw [crc_start]
  have HB4 := (HK3.out.trans hk4).belowNo (Below.refl _ _)
  go_wp2
  go_ret
  exact ⟨rfl, HB4⟩
end Go.Proofs.Ytffoigacpnlkgaa
