/-
  What layer 3's statements ask of themselves first: a source and a sink of a few bytes.
-/
import Derived.Test.YtffoigacpnlkgaaFeedD
import Derived.Test.YtffoigacpnlkgaaAwake2
namespace Go.Proofs.Ytffoigacpnlkgaa
open Go.RowKit
set_option linter.unusedVariables false
set_option linter.unusedSimpArgs false

def NewK (w : World) (m : Nat) (e : Ending) (w' : World) : Prop :=
  ∃ R, e = .returned (.pointer (some ⟨R, 0, none⟩)) ∧ Snk w' 94 #[.slice none 0 0, .int .i64 m] R w.heap.size none 0 [] m ∧ R = w.heap.size ∧ Kept NoB w w'
set_option maxHeartbeats 1000000 in
theorem newk_any (w : World) (z : Int) (m : Nat) (hm : (m : Int) = if z < 0 then 0 else z) (hml : m ≤ 9223372036854775807) : Calls Try.prog 47 #[.int .i64 z] w (NewK w m) := by
  go_enter Try.func47, Try.ntmps47
  have key : ∀ y : Int, y = m → NewK w m (.returned (.pointer (some ⟨w.heap.size, 0, none⟩))) (w.alloc (.cells #[.slice none 0 0, .int .i64 y] 94)) := by
    rintro y rfl
    exact ⟨w.heap.size, rfl, ⟨heap_alloc_new _ _, rfl, rfl, World.ownsRow_nil _ _ _ _, (by intro k hk; simp [Value.ownBlock] at hk), Nat.le_refl _, Nat.zero_le _, hml, Nat.zero_le _, by decide, (by intro b hb; cases hb)⟩, rfl, (Kept.refl _ _).alloc _⟩
  by_cases hz : z < 0
  · rw [if_pos hz] at hm
    go_wp2
    go_ret
    exact key 0 hm.symm
  · rw [if_neg hz] at hm
    go_wp2
    go_ret
    exact key z hm.symm

theorem two_parts {W : World} {k n0 c0 n1 c1 : Nat} {a0 a1 : Option Addr} {p q : List Int} (hc0 : W.cell? ⟨k, 0, none⟩ = some (.slice a0 n0 c0)) (hc1 : W.cell? ⟨k, 1, none⟩ = some (.slice a1 n1 c1)) (hr0 : Reads W a0 p) (hr1 : Reads W a1 q) (hn0 : p.length = n0) (hn1 : q.length = n1)
    (h0 : n0 ≤ c0 ∧ c0 ≤ maxLen ∧ (a0 = none → c0 = 0)) (h1 : n1 ≤ c1 ∧ c1 ≤ maxLen ∧ (a1 = none → c1 = 0)) : Parts W (some ⟨k, 0, none⟩) [p, q] := by
  subst hn0 hn1
  refine .inr ⟨k, 0, rfl, World.block_lt_of_cell? W _ hc0, fun i hi => ?_⟩
  match i, hi with
  | 0, _ => exact ⟨a0, c0, hc0, hr0, h0.1, h0.2.1, h0.2.2⟩
  | 1, _ => exact ⟨a1, c1, hc1, hr1, h1.1, h1.2.1, h1.2.2⟩
theorem Kept.at {S : Nat → Prop} {a b : World} (h : Kept S a b) {k : Nat} {o : Obj} (ho : a.heap[k]? = some o) (hs : ¬ S k) : b.heap[k]? = some o := h.obj ho hs

set_option maxRecDepth 100000 in
set_option maxHeartbeats 4000000 in
theorem awake3 (w : World) : Calls Try.prog 43 #[] w fun e w' => e = .returned (.bool true) ∧ Below w.heap.size w w' := by
  have kc := fun (w : World) (C : Array Value) (n c : Nat) => Lib.run_convert_bytes_const (P := Try.prog) w 22 5 C n c Try.underlying22 Try.underlying5
  have kc2 : ∀ (w : World) (o : Obj) (C : Array Value) (n c : Nat), (convert 22 22 (.slice (some ⟨w.heap.size + 1, 0, none⟩) n c)).run Try.prog ((w.alloc o).alloc (.cells C 5)) =
      .ok (.slice (some ⟨w.heap.size + 1, 0, none⟩) n c) ((w.alloc o).alloc (.cells C 5 (C.size, C.size + 1))) := fun w o C n c => by
    have := kc (w.alloc o) C n c
    simpa using this
  go_enter Try.func43, Try.ntmps43
  go_wp2_with fail
  refine (news_any _ _ _ [97, 98, 99] _ _ [2] ?r1 (by intro b hb; simp at hb; omega) (by decide) ?r2 (by intro h; cases h) (by decide) (by intro z hz; simp at hz; omega)).mono ?_
  case r1 => exact lit_reads (t := 5) (fr := (3, 4)) (cs := #[.int .u8 97, .int .u8 98, .int .u8 99]) _ (by rw [heap_alloc_old _ _ (by simp)]; exact heap_alloc_new _ _) rfl
  case r2 =>
    intro i hi
    match i, hi with
    | 0, _ => exact ⟨_, 0, rfl, by simp, by rw [Nat.zero_add]; exact cell_new (cs := #[.int .i64 2]) 0 (by simp)⟩
  rintro e w1 ⟨S, ab, cb, az, cz, rfl, hS, hk1⟩
  have hsl : w.heap.size ≤ S := by have := hS.low; simp at this; omega
  have hk1' := (((Kept.refl NoB w).alloc _).alloc _).trans hk1
  have hsl1 := obj_lt hS.obj
  have HS := Lib.hid hS; have HB := Lib.hid (hk1'.belowNo (Below.refl _ _)); have HSl := Lib.hid hsl; have HSl1 := Lib.hid hsl1
  clear hS hk1 hk1' hsl hsl1 kc2
  go_wp2_with fail
  refine (newk_any _ 2 2 (by decide) (by decide)).mono ?_
  rintro e w2 ⟨R, rfl, hR, hRe, hk2⟩
  have hS2 := HS.out.keptNo hk2
  have hw12 := hk2.size
  have hRl := obj_lt hR.obj
  have HS2 := Lib.hid hS2; have HR := Lib.hid hR; have HB2 := Lib.hid (hk2.belowNo HB.out); have HRe := Lib.hid hRe; have HW12 := Lib.hid hw12; have HRl := Lib.hid hRl
  clear hS2 hR hRe hk2 hw12 hRl HS HB
  have hSS : Hid (∀ k, OneB S k → w.heap.size ≤ k) := fun k hk => by have := HSl.out; unfold OneB at hk; omega
  go_wp2_with fail
  refine (next_some _ (n := 2) HS2.out (by decide) (by decide)).mono ?_
  rintro e w3 ⟨a1, c1, rfl, HO1, HF1, HS3, HK3⟩
  have HB3 := Lib.hid (HK3.out.below HB2.out hSS.out)
  go_wp2_with fail
  refine (next_some _ (n := 1) HS3.out (by decide) (by decide)).mono ?_
  rintro e w4 ⟨a2, c2, rfl, HO2, HF2, HS4, HK4⟩
  have HB4 := Lib.hid (HK4.out.below HB3.out hSS.out)
  go_wp2_with fail
  refine (next_end _ HS4.out (by decide)).mono ?_
  rintro e w5 ⟨rfl, hk5⟩
  have HK5 := Lib.hid hk5
  have HB5 := Lib.hid (hk5.belowNo HB4.out)
  have hR5 : Snk w5 94 #[.slice none 0 0, .int .i64 (2 : Nat)] R w1.heap.size none 0 [] 2 := by
    have hne : ¬ OneB S R := by have := HSl1.out; have := HRe.out; unfold OneB; omega
    have hnn : ∀ k, (Value.slice none 0 0).ownBlock = some k → ¬ OneB S k := by intro k hk; simp [Value.ownBlock] at hk
    exact ((HR.out.kept HK3.out hne hnn).kept HK4.out hne hnn).keptNo hk5
  have HR5 := Lib.hid hR5
  have kc2 : ∀ (w : World) (o : Obj) (C : Array Value) (n c : Nat), (convert 22 22 (.slice (some ⟨w.heap.size + 1, 0, none⟩) n c)).run Try.prog ((w.alloc o).alloc (.cells C 5)) =
      .ok (.slice (some ⟨w.heap.size + 1, 0, none⟩) n c) ((w.alloc o).alloc (.cells C 5 (C.size, C.size + 1))) := fun w o C n c => by
    have := kc (w.alloc o) C n c
    simpa using this
  clear hk5 hR5
  go_wp2_with fail
  refine (swrite_any _ (HR5.out.keptNo ((((Kept.refl _ _).alloc _).alloc _).alloc _)) _ _ _ [[120], [121, 122]] rfl (by intro p hp b hb; simp at hp; rcases hp with rfl | rfl <;> simp at hb <;> omega) ?hp (by decide) (by decide)).mono ?_
  case hp =>
    intro W hk
    have hRl := obj_lt HR5.out.obj
    have hs : ∀ k, w5.heap.size ≤ k → ¬ OrB (OneB R) (OwnB (.slice none 0 0)) k := by
      intro k hk e
      rcases e with e | e
      · unfold OneB at e; omega
      · simp [OwnB, Value.ownBlock] at e
    have b0 := hk.obj (R := w5.heap.size) (by rw [heap_alloc_old _ _ (by simp; omega), heap_alloc_old _ _ (by simp)]; exact heap_alloc_new _ _) (hs _ (Nat.le_refl _))
    have b1 := hk.obj (R := w5.heap.size + 1) (by
      rw [heap_alloc_old _ _ (by simp)]
      have := heap_alloc_new (w5.alloc (.cells #[.int .u8 120] 5 (1, 2))) (.cells #[.int .u8 121, .int .u8 122] 5 (2, 3))
      simpa using this) (hs _ (by omega))
    have b2 := hk.obj (R := w5.heap.size + 1 + 1) (by
      have := heap_alloc_new ((w5.alloc (.cells #[.int .u8 120] 5 (1, 2))).alloc (.cells #[.int .u8 121, .int .u8 122] 5 (2, 3))) (.cells #[.slice (some ⟨w5.heap.size, 0, none⟩) 1 1, .slice (some ⟨w5.heap.size + 1, 0, none⟩) 2 2] 22)
      simpa using this) (hs _ (by omega))
    exact two_parts (a0 := some ⟨w5.heap.size, 0, none⟩) (a1 := some ⟨w5.heap.size + 1, 0, none⟩) (by rw [obj_cell b2 0]; rfl) (by rw [obj_cell b2 1]; rfl) (lit_reads _ b0 rfl) (lit_reads _ b1 rfl) rfl rfl ⟨by decide, by decide, (fun h => by cases h)⟩ ⟨by decide, by decide, (fun h => by cases h)⟩
  rintro e w6 ⟨rfl, cs6, a6, c6, hS6, hz6, hcs6, hK6, hO6⟩
  have hf6 : fill [] 2 [[120], [121, 122]] = [120, 121] := by decide
  rw [hf6] at hS6
  have hKt : Kept (OrB (OneB R) (OwnB (.slice none 0 0))) w5 w6 := ((((Kept.refl _ _).alloc _).alloc _).alloc _).trans hK6
  have hne5 := obj_lt HR5.out.obj
  have hSR : ∀ k, OrB (OneB R) (OwnB (.slice none 0 0)) k → k = R := by
    intro k e
    rcases e with e | e
    · exact e
    · simp [OwnB, Value.ownBlock] at e
  have hB6 := hKt.below HB5.out (by intro k e; have := hSR k e; have := HRe.out; have := HSl.out; have := HSl1.out; omega)
  have hr1 : Reads w6 a1 [97, 98] := by
    have h0 := own_reads HO1.out rfl
    have hb : ∀ a, a1 = some a → w2.heap.size ≤ a.block := fun a ha => HF1.out _ (own_block HO1.out ha)
    refine ((h0.kept HK4.out (fun a ha e => ?_)).keptNo HK5.out).kept hKt (fun a ha e => ?_)
    · have := hb a ha; have := HSl1.out; have := HW12.out; unfold OneB at e; omega
    · have := hb a ha; have := hSR _ e; have := HRl.out; omega
  have hr2 : Reads w6 a2 [99] := by
    have h0 := own_reads HO2.out rfl
    have hb : ∀ a, a2 = some a → w3.heap.size ≤ a.block := fun a ha => HF2.out _ (own_block HO2.out ha)
    refine (h0.keptNo HK5.out).kept hKt (fun a ha e => ?_)
    have := hb a ha; have := hSR _ e; have := HRl.out; have := HK3.out.size; omega
  have c1' := conv_reads (n := 2) hr1 rfl (own_nil HO1.out)
  have c2' := conv_reads (n := 1) hr2 rfl (own_nil HO2.out)
  have e1 : strOfNums [97, 98] = ⟨#[97, 98]⟩ := by decide
  have e2 : strOfNums [99] = ⟨#[99]⟩ := by decide
  rw [e1] at c1'
  rw [e2] at c2'
  have HS6 := Lib.hid hS6; have HB6 := Lib.hid hB6
  clear hf6 hKt hSR hB6 hS6 hr1 hr2 hK6 hO6 hcs6 hz6 kc kc2
  go_wp2_with fail
  refine (sbytes_any _ HS6.out).mono ?_
  rintro e w7 ⟨a7, c7, rfl, hr7, h07, hc7, hk7⟩
  have e7 : strOfNums [120, 121] = ⟨#[120, 121]⟩ := by decide
  have c7' : (convert 22 9 (.slice a7 2 c7)).run Try.prog w7 = .ok (.string ⟨#[120, 121]⟩) w7 := by have h := hc7.out; rw [e7] at h; exact h
  have hB7 := Lib.hid (hk7.belowNo HB6.out)
  clear hk7
  go_wp2
  go_ret
  exact ⟨rfl, hB7.out⟩
end Go.Proofs.Ytffoigacpnlkgaa
