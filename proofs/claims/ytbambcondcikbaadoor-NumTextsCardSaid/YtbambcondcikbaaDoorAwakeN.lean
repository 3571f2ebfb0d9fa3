/-
  awake of layer 16.
-/
import Derived.Test.YtbambcondcikbaaDoorNumE
import Derived.Test.YtbambcondcikbaaDoorDigA
import Derived.Lib.SlBytesConst
namespace Go.Proofs.YtbambcondcikbaaDoor
open Go.RowKit
set_option linter.unusedVariables false
set_option linter.unusedSimpArgs false

set_option maxHeartbeats 2000000 in
theorem awake16 (w : World) (htab : Pow10 w) : Calls Tryd.prog 8 #[] w fun e w' => e = .returned (.bool true) ∧ Below w.heap.size w w' := by
  have HP := Lib.hid htab
  clear htab
  have e1 : octS 8 4 = ([48, 49, 48, 0], true) := by decide
  have e2 : wideS (-1) 3 = ([255, 255, 255], true) := by decide
  have e3 : readS [32, 49, 48, 32] = (8, true) := by decide
  have h1 := octal_any 8 4 w (by decide)
  have h2 := fun w => wide_any (-1) 3 w (by decide)
  rw [e1] at h1
  rw [e2] at h2
  have H1 := Lib.hid h1; have H2 := Lib.hid h2; have E3 := Lib.hid e3
  clear h1 h2 e1 e2 e3
  go_enter Tryd.func8, Tryd.ntmps8
  go_wp2_with fail
  refine H1.out.mono ?_
  rintro e w1 ⟨a1, c1, rfl, HR1, H01, hlc1, hcm1, hk1⟩
  have HK1 := Lib.hid hk1
  clear hk1
  simp only [List.length_cons, List.length_nil] at hlc1
  go_wp2_with fail
  refine (H2.out _).mono ?_
  rintro e w2 ⟨a2, c2, rfl, HR2, H02, hlc2, hcm2, hk2⟩
  have HK2 := Lib.hid (HK1.out.trans hk2)
  have HR1' := Lib.hid (HR1.out.keptNo hk2)
  clear hk2 HR1 HK1
  have hcs := fun (w : World) (C : Array Value) (n c : Nat) => Lib.run_convert_bytes_const (P := Tryd.prog) w 26 5 C n c Tryd.underlying26 Tryd.underlying5
  go_wp2_with fail
  clear hcs
  have hk3 : Kept NoB w2 (w2.alloc (.cells #[.int .u8 32, .int .u8 49, .int .u8 48, .int .u8 32] 5 (4, 5))) := (Kept.refl _ _).alloc _
  have h3 := read_any (some ⟨w2.heap.size, 0, none⟩) 4 4 [32, 49, 48, 32] (w2.alloc (.cells #[.int .u8 32, .int .u8 49, .int .u8 48, .int .u8 32] 5 (4, 5))) (lit_reads (t := 5) (fr := (4, 5)) (cs := #[.int .u8 32, .int .u8 49, .int .u8 48, .int .u8 32]) _ (heap_alloc_new _ _) rfl) (by intro b hb; simp at hb; rcases hb with rfl | rfl | rfl | rfl <;> decide) rfl (by decide) (by decide)
  rw [E3.out] at h3
  refine h3.mono ?_
  rintro e w3 ⟨rfl, rfl⟩
  clear h3
  have hv1 := conv_reads (n := 4) (HR1'.out.keptNo hk3) rfl H01.out
  have hv2 := conv_reads (n := 3) (HR2.out.keptNo hk3) rfl H02.out
  have hs1 : strOfNums [48, 49, 48, 0] = ⟨#[48, 49, 48, 0]⟩ := rfl
  have hs2 : strOfNums [255, 255, 255] = ⟨#[255, 255, 255]⟩ := rfl
  rw [hs1] at hv1
  rw [hs2] at hv2
  have HK3 := Lib.hid (HK2.out.trans hk3)
  clear hk3 hs1 hs2
  generalize w2.alloc (.cells #[.int .u8 32, .int .u8 49, .int .u8 48, .int .u8 32] 5 (4, 5)) = w3 at hv1 hv2 HK3 ⊢
  have hd := digits_any (-5) (by decide) (by decide) w3 (HP.out.keptNo HK3.out)
  have hi5 : Lib.itoa (-5) = [45, 53] := by decide +kernel
  rw [hi5] at hd
  have HD := Lib.hid hd
  clear hd hi5
  go_wp2_with fail
  refine HD.out.mono ?_
  rintro e w4 ⟨rfl, hk4⟩
  have hfin := (HK3.out.trans hk4).belowNo (Below.refl _ _)
  clear hv1 hv2
  go_wp2
  go_ret
  exact ⟨rfl, hfin⟩
end Go.Proofs.YtbambcondcikbaaDoor
