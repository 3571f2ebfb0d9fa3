/-
  name.Join; awake.
-/
import Derived.Test.YtamoojalfpghhaaDoorRParts
namespace Go.Proofs.YtamoojalfpghhaaDoor
open Go.RowKit Go.Shelf
set_option linter.unusedVariables false
set_option linter.unusedSimpArgs false

def joinB (ps : List (List UInt8)) : List UInt8 := Lib.join ps [47]
theorem map_back (ps : List (List UInt8)) : (ps.map strB).map (·.data.toList) = ps := by
  rw [List.map_map]
  have : ((fun s : ByteArray => s.data.toList) ∘ strB) = id := by funext p; rfl
  rw [this, List.map_id]
theorem sjoin_any (ao : Option Addr) (cap B : Nat) (ps : List (List UInt8)) (w : World) (hr : RdS w B ao ps) (hc : ps.length ≤ cap) (hl : ps.length ≤ 1000000) (hj : (joinB ps).length ≤ 1000000000) :
    Calls Tryd.prog 18 #[.slice ao ps.length cap, .string ⟨#[47]⟩] w fun e w' => e = .returned (.string (strB (joinB ps))) ∧ Below w.heap.size w w' := by
  cases ps with
  | nil =>
    refine (Tryd.strings_Join_none ao cap ⟨#[47]⟩ w).mono ?_
    rintro e w' ⟨rfl, rfl⟩
    exact ⟨rfl, Below.refl _ _⟩
  | cons p q =>
    obtain ⟨g, off, rfl, hg, h0⟩ := hr 0 (by simp)
    have hx : ∀ (j : Nat) x, ((p :: q).map strB)[j]? = some x → w.cell? ⟨g, off + j, none⟩ = some (.string x) := by
      intro j x hjx
      have hjl : j < (p :: q).length := by
        have := (List.getElem?_eq_some_iff.1 hjx).1
        simpa using this
      obtain ⟨g2, off2, h1, _, h2⟩ := hr j hjl
      cases h1
      rw [h2]
      rw [List.getElem?_map, List.getElem?_eq_getElem hjl] at hjx
      simp at hjx
      rw [← hjx, List.getD_eq_getElem?_getD, List.getElem?_eq_getElem hjl]
      rfl
    have hjj : Lib.join (((p :: q).map strB).map (·.data.toList)) (⟨#[47]⟩ : ByteArray).data.toList = joinB (p :: q) := by rw [map_back]; rfl
    have hlen : ((p :: q).map strB).length = (p :: q).length := List.length_map _
    have := Tryd.strings_Join g off cap ((p :: q).map strB) ⟨#[47]⟩ w hx (World.block_lt_of_cell? w _ h0) (by rw [hlen]; omega) (by rw [hlen]; exact hc) (by rw [hjj]; omega)
    rw [hjj, hlen] at this
    exact this
set_option maxHeartbeats 1000000 in
theorem njoin_any (ao : Option Addr) (cap B : Nat) (ps : List (List UInt8)) (w : World) (hr : RdS w B ao ps) (hc : ps.length ≤ cap) (hl : ps.length ≤ 1000000) (hj : (joinB ps).length ≤ 1000000000) :
    Calls Tryd.prog 13 #[.slice ao ps.length cap] w fun e w' => e = .returned (.string (strB (joinB ps))) ∧ Below w.heap.size w w' := by
  have H := Lib.hid (sjoin_any ao cap B ps w hr hc hl hj)
  clear hr hj
  go_enter Tryd.func13, Tryd.ntmps13
  go_wp2_with fail
  refine H.out.mono ?_
  rintro e w1 ⟨rfl, hb⟩
  have HB := Lib.hid hb
  clear hb
  go_wp2
  go_ret
  exact ⟨rfl, HB.out⟩

theorem ps_ab : partsOf [97, 47, 46, 47, 98, 47] = some [[97], [98]] := by decide +kernel
theorem ps_up : partsOf [97, 47, 46, 46, 47, 98] = none := by decide +kernel
theorem ok_up : okN ⟨#[46, 46]⟩ = false := by decide +kernel
theorem jn_ab : strB (joinB [[97], [98]]) = ⟨#[97, 47, 98]⟩ := by decide +kernel
theorem row_ab (w : World) : RdS (w.alloc (.cells #[.string ⟨#[97]⟩, .string ⟨#[98]⟩] 9)) (w.heap.size + 1) (some ⟨w.heap.size, 0, none⟩) [[97], [98]] := by
  intro i hi
  refine ⟨w.heap.size, 0, rfl, by omega, ?_⟩
  rw [Nat.zero_add, cell_new (k := w.heap.size) i rfl]
  rcases (show i = 0 ∨ i = 1 by simp at hi; omega) with rfl | rfl <;> rfl
theorem Below.k {w w' : World} (h : Below w.heap.size w w') : Kept NoB w w' := Kept.ofBelow (Kept.refl NoB w) h
theorem Kept.b {w w' : World} (h : Kept NoB w w') : Below w.heap.size w w' := ⟨h.os, h.tape, h.output, h.size, fun i hi => h.block i hi (fun h => h)⟩
set_option maxRecDepth 20000 in
set_option maxHeartbeats 2000000 in
theorem awake_any (w : World) : Calls Tryd.prog 8 #[] w fun e w' => e = .returned (.bool true) ∧ Below w.heap.size w w' := by
  have H1 : Hid (∀ W, Calls Tryd.prog 6 #[.string ⟨#[97, 47, 46, 47, 98, 47]⟩] W (PartsP W [97, 47, 46, 47, 98, 47])) := Lib.hid fun W => parts_calls [97, 47, 46, 47, 98, 47] W (by decide)
  have H2 : Hid (∀ W, Calls Tryd.prog 6 #[.string ⟨#[97, 47, 46, 46, 47, 98]⟩] W (PartsP W [97, 47, 46, 46, 47, 98])) := Lib.hid fun W => parts_calls [97, 47, 46, 46, 47, 98] W (by decide)
  have H3 : Hid (∀ W, Calls Tryd.prog 7 #[.string ⟨#[46, 46]⟩] W fun e w' => e = .returned (.bool false) ∧ Below W.heap.size W w') := Lib.hid fun W => by
    have := ok_calls ⟨#[46, 46]⟩ W (by decide)
    rwa [ok_up] at this
  have hE : ((⟨#[97, 47, 98]⟩ : ByteArray).toList == [97, 47, 98]) = true := by decide +kernel
  go_enter Tryd.func8, Tryd.ntmps8
  go_wp2_with fail
  refine (H1.out _).mono ?_
  rintro e w1 (⟨hn, _⟩ | ⟨ps, ao, cap, hps, rfl, hown, hb1⟩)
  · rw [ps_ab] at hn; cases hn
  rw [ps_ab] at hps
  cases hps
  have hcap := own_cap hown
  have HR1 := Lib.hid (own_readsS hown rfl)
  have HB1 := Lib.hid (Below.k hb1)
  clear hown hb1
  go_wp2_with fail
  refine (H2.out _).mono ?_
  rintro e w2 (⟨_, rfl, hb2⟩ | ⟨ps, ao, cap, hps, _⟩)
  rotate_left
  · rw [ps_up] at hps; cases hps
  have HR2 := Lib.hid (HR1.out.keptNo (Below.k hb2))
  have HB2 := Lib.hid (HB1.out.trans (Below.k hb2))
  clear hb2
  go_wp2_with fail
  have hS := sameT_any ao cap [[97], [98]] (some ⟨w2.heap.size, 0, none⟩) 2 [[97], [98]] w1.heap.size _ _ (HR2.out.keptNo ((Kept.refl NoB w2).alloc _)) (row_ab w2) (by decide)
  refine hS.mono ?_
  rintro e w3 ⟨rfl, hk3⟩
  have HB3 := Lib.hid ((HB2.out.alloc (.cells #[.string ⟨#[97]⟩, .string ⟨#[98]⟩] 9)).trans hk3)
  have hdt : decide (([[97], [98]] : List (List UInt8)) = [[97], [98]]) = true := by decide
  rw [hdt]
  clear hS hk3
  go_wp2_with fail
  have hJ := njoin_any (some ⟨w3.heap.size, 0, none⟩) 2 _ [[97], [98]] _ (row_ab w3) (by decide) (by decide) (by decide +kernel)
  rw [jn_ab] at hJ
  refine hJ.mono ?_
  rintro e w4 ⟨rfl, hb4⟩
  have HB4 := Lib.hid ((HB3.out.alloc (.cells #[.string ⟨#[97]⟩, .string ⟨#[98]⟩] 9)).trans (Below.k hb4))
  clear hJ hb4
  go_wp2_with fail
  refine (H3.out _).mono ?_
  rintro e w5 ⟨rfl, hb5⟩
  have HB5 := Lib.hid (HB4.out.trans (Below.k hb5))
  clear hb5
  go_wp2
  go_ret
  exact ⟨rfl, HB5.out.b⟩
