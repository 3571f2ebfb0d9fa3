/-
  strconv.FormatUint at base 10; strconv.ParseUint of digits.
-/
import Derived.Test.YtclcgiochjibjaaGreatDoorCutA
import Derived.Lib.ItoaMem
namespace Go.Proofs.YtclcgiochjibjaaGreatDoor
open Go.RowKit Go.Sort
set_option linter.unusedVariables false
set_option linter.unusedSimpArgs false

theorem holds_zero0 (w : World) (T : TypeId) (nd : Nat) (hs : nd ≤ 24) : Holds (fun (b : UInt8) => Value.int .u8 (b.toNat : Int)) (w.alloc (.cells Lib.zeros24 T)) w.heap.size 0 (Array.replicate nd (0 : UInt8)) := fun j hj => by
  have hj' : j < nd := by simpa using hj
  refine ⟨?_, World.frozen?_alloc_new _ _ _ _⟩
  rw [World.cell?_alloc_new, Lib.zeros24_at _ (by omega), getElem!_pos _ j hj]
  simp
theorem kept_putRow (w : World) (o : Obj) (dk : Array UInt8) (off k : Nat) : Kept NoB w ((putRow (fun (b : UInt8) => Value.int .u8 (b.toNat : Int)) (w.alloc o) w.heap.size off dk).drewN k) := by
  obtain ⟨os', _, e⟩ := putRow_grow_new (fun (b : UInt8) => Value.int .u8 (b.toNat : Int)) w #[o] w.heap.size off dk (Nat.le_refl _)
  have e2 : (putRow (fun (b : UInt8) => Value.int .u8 (b.toNat : Int)) (w.alloc o) w.heap.size off dk).drewN k = Sort.grow (w.drewN k) os' := by
    rw [alloc_eq_grow, e]; rfl
  rw [e2]
  exact Kept.grow k os'

set_option maxHeartbeats 6400000 in
set_option maxRecDepth 100000 in
theorem fmtI_any (u : Nat) (hu64 : u < 18446744073709551616) (w : World) (htab : Pow10 w) :
    Calls Tryz.prog 46 #[.int .u64 u, .int .i64 10] w fun e w' => e = .returned (.string (strB (Lib.decDigits u))) ∧ Kept NoB w w' := by
  by_cases hs : u < 100
  · have HI := Lib.hid (fun W => Tryz.internal_strconv_small u hs W)
    have hlt : (u : Int) < 100 := by omega
    have hw : IntKind.i64.wrap (u : Int) = (u : Int) := by rw [IntWalk.i64_in _ (by omega)]
    have HE := Lib.hid (rfl : strB (Lib.decDigits u) = ⟨(Lib.decDigits u).toArray⟩)
    go_enter Tryz.func46, Tryz.ntmps46
    go_wp2_with fail
    refine (HI.out _).mono ?_
    rintro e w1 ⟨rfl, rfl⟩
    go_wp2
    go_ret
    exact ⟨rfl, Kept.refl _ _⟩
  · have hu1 : 1 ≤ u := by omega
    have hnd20 : Lib.nDigits u ≤ 20 := by have := Lib.numDigits_eq u hu1 hu64; split at this <;> omega
    have hge : ¬ (u : Int) < 100 := by omega
    have hal : Tryz.prog.arrayLen 93 = 24 := by simp [Program.arrayLen, Tryz.underlying93]
    have hsl : ∀ W, (Instr.sliceAt 93 (.pointer (some ⟨w.heap.size, 0, none⟩)) none (some (.int .i64 (Lib.nDigits u : Int))) none).run Tryz.prog W = .ok (.slice (some ⟨w.heap.size, 0, none⟩) (Lib.nDigits u) 24) W := fun W => by
      rw [run_sliceAt_array_h W 93 ⟨w.heap.size, 0, none⟩ (by simp [Program.arrayLen, Program.elem, Tryz.underlying93]) .i64 (Lib.nDigits u : Int) (by omega) (by rw [hal]; omega)]
      go_simp
    have hH0 := holds_zero0 w 93 (Lib.nDigits u) (by omega)
    have hfmt := Tryz.internal_strconv_formatBase10 w.heap.size 0 24 u (Array.replicate (Lib.nDigits u) 0) (w.alloc (.cells Lib.zeros24 93)) hH0 (by rw [Array.size_replicate]; exact Lib.lt_pow_nDigits u) hu64 (by rw [Array.size_replicate]; omega)
    rw [Array.size_replicate] at hfmt
    have HND := Lib.hid (fun W (h : Pow10 W) => Tryz.internal_strconv_numDigits u hu1 hu64 W h)
    have HT2 := Lib.hid (show Pow10 (w.alloc (.cells Lib.zeros24 93)) from Lib.tabIs_alloc htab _)
    have HH0 := Lib.hid hH0; have HF := Lib.hid hfmt
    have HL := Lib.hid (Lib.decDigits_length u)
    clear hH0 hal hfmt htab
    have hcv : ∀ (dk : Array UInt8) (v' k : Nat), Lib.FmtInv (Lib.nDigits u) u 0 v' dk → (convert 23 9 (.slice (some ⟨w.heap.size, 0, none⟩) (Lib.nDigits u) 24)).run Tryz.prog ((putRow (fun (b : UInt8) => Value.int .u8 (b.toNat : Int)) (w.alloc (.cells Lib.zeros24 93)) w.heap.size 0 dk).drewN k) = .ok (.string (strB (Lib.decDigits u))) ((putRow (fun (b : UInt8) => Value.int .u8 (b.toNat : Int)) (w.alloc (.cells Lib.zeros24 93)) w.heap.size 0 dk).drewN k) := by
      intro dk v' k hF
      have h := run_convert_bytes_back (P := Tryz.prog) ((putRow (fun (b : UInt8) => Value.int .u8 (b.toNat : Int)) (w.alloc (.cells Lib.zeros24 93)) w.heap.size 0 dk).drewN k) 23 9 5 ⟨w.heap.size, 0, none⟩ 24 (Lib.decDigits u) Tryz.underlying23 Tryz.underlying5 Tryz.underlying9 (fun j hj => by
        rw [Lib.row_is_numeral hF j hj, Lib.add_plain, World.cell?_drewN]
        exact cell?_putRow (fun (b : UInt8) => Value.int .u8 (b.toNat : Int)) _ w.heap.size 0 _ dk HH0.out (by rw [hF.size, Array.size_replicate]) j (by rw [hF.size]; rw [Lib.decDigits_length] at hj; exact hj))
      rw [Lib.decDigits_length] at h
      exact h
    have HCV := Lib.hid hcv
    clear hcv
    obtain ⟨nd, hnd⟩ : ∃ nd, nd = Lib.nDigits u := ⟨_, rfl⟩
    rw [← hnd] at HND HF HCV hsl hnd20
    clear hnd
    go_enter Tryz.func46, Tryz.ntmps46
    go_wp2_with fail
    refine (HND.out _ HT2.out).mono ?_
    rintro e w' ⟨rfl, rfl⟩
    go_wp2_with fail
    refine HF.out.mono ?_
    rintro e w2 ⟨rfl, k, v', dk, rfl, hF⟩
    have hc := HCV.out dk v' k hF
    have hk := kept_putRow w (.cells Lib.zeros24 93) dk 0 k
    have HK := Lib.hid hk
    clear hF hk
    go_wp2
    go_ret
    exact ⟨rfl, HK.out⟩
set_option maxHeartbeats 1000000 in
theorem fmtU_any (u : Nat) (hu64 : u < 18446744073709551616) (w : World) (htab : Pow10 w) :
    Calls Tryz.prog 27 #[.int .u64 u, .int .i64 10] w fun e w' => e = .returned (.string (strB (Lib.decDigits u))) ∧ Kept NoB w w' := by
  have HI := Lib.hid (fmtI_any u hu64 w htab)
  clear htab
  generalize strB (Lib.decDigits u) = X at *
  go_enter Tryz.func27, Tryz.ntmps27
  go_wp2_with fail
  refine HI.out.mono ?_
  rintro e w1 ⟨rfl, hk⟩
  go_wp2
  go_ret
  exact ⟨rfl, hk⟩
end Go.Proofs.YtclcgiochjibjaaGreatDoor
