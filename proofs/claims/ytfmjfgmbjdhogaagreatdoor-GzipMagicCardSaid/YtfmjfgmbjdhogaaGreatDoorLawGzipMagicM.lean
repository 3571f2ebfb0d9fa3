/-
  GzipMagic: bytes that are no member are told so, at once; those that may become one are told to go on.
-/
import Derived.Test.YtfmjfgmbjdhogaaGreatDoorMg28
namespace Go.Proofs.YtfmjfgmbjdhogaaGreatDoor
open Go.RowKit
set_option linter.unusedVariables false
set_option linter.unusedSimpArgs false
set_option maxRecDepth 20000

set_option maxHeartbeats 8000000 in
theorem gzipMagic_walk (bo : Option Addr) (n c : Nat) (b : List Int) (w : World) (hn : n = b.length) (hR : CurRow w bo c b) :
    Calls Tryz.prog 7 #[.slice bo n c] w fun e w' => e = .returned (.bool true) ∧ Below w.heap.size w w' := by
  have HAw := Lib.hid (fun (W : World) (hk : Kept NoB w W) => awake11_any W)
  by_cases hbig : 200 < n
  · have hb' : (200 : Int) < (n : Int) := by omega
    clear hn hR
    go_enter Tryz.func7, Tryz.ntmps7
    go_wp2_with fail
    refine (HAw.out w (Kept.refl _ _)).mono ?_
    rintro e w1 ⟨rfl, hk⟩
    have HK := Lib.hid hk
    clear hk
    go_wp2
    go_ret
    exact ⟨rfl, HK.out.belowNo (Below.refl _ _)⟩
  · have hb' : ¬ (200 : Int) < (n : Int) := by omega
    have HRH := Lib.hid (readhead_any w bo n c b hn hR (by omega))
    have HN := Lib.hid hn; have HR := Lib.hid hR
    have hfit := @hdS_fits b
    have hmag := @hdS_magic b
    have hsh := @hdS_short b
    have HFit := Lib.hid hfit; have HMag := Lib.hid hmag; have HSh := Lib.hid hsh
    clear hn hR hfit hmag hsh
    go_enter Tryz.func7, Tryz.ntmps7
    go_wp2_with fail
    refine HRH.out.mono ?_
    rintro e w3 ⟨a, k, g', n', rfl, hz1, hz2, hx, hk3⟩
    obtain ⟨er, her⟩ : ∃ x, x = (hdS b).s14.e := ⟨_, rfl⟩
    rw [← her]
    have hG1 : (w3.alloc (.cells gz0 42)).heap[w3.heap.size]? = some (.cells gz0 42 (0, 0)) := heap_alloc_new _ _
    have hk4 : Kept NoB w3 ((w3.alloc (.cells gz0 42)).setRow w3.heap.size (gzV a k g')) := by
      have h1 : Kept NoB w3 (w3.alloc (.cells gz0 42)) := (Kept.refl _ _).alloc _
      exact ⟨h1.os, h1.tape, h1.output, by simp [World.setRow], fun k hk hs => (setRow_other _ _ k _ (by omega)).trans (h1.block k hk hs)⟩
    have hone : (gzV a k g').all (·.oneCell') = true := by unfold gzV; rw [← Array.all_toList]; rfl
    unfold gz0 at hG1 hk4
    have HG1 := Lib.hid hG1; have HOne := Lib.hid hone; have HK4 := Lib.hid (hk3.trans hk4); have HEr := Lib.hid her; have HZ1 := Lib.hid hz1; have HZ2 := Lib.hid hz2
    clear hz1 hz2 hx hG1 hone HRH her hk3 hk4
    go_upto_region 4 with (refine wpList_store_row rfl 42 (.tmp 3) (.tmp 13) rfl w3.heap.size (gzV a k g') rfl rfl _ _ HG1.out infoGz rfl HOne.out ?_)
    generalize (w3.alloc (.cells #[.bool false, .bool false, .bool false, .slice none 0 0, .string ⟨#[]⟩, .string ⟨#[]⟩, .int .i64 0, .int .i64 0, .int .i64 0] 42)).setRow w3.heap.size (gzV a k g') = w4 at HK4 ⊢
    have hR4 := HR.out.keptNo HK4.out
    have hawk := HAw.out w4 HK4.out
    have HA4 := Lib.hid hawk
    have hfin : ∀ w5, Kept NoB w4 w5 → Below w.heap.size w w5 := fun w5 hk => (HK4.out.trans hk).belowNo (Below.refl _ _)
    have HFin := Lib.hid hfin
    have hisy : ∀ (h2 : 2 ≤ n) (h0 : b.getD 0 0 = 31) (h1 : b.getD 1 0 = 139), Calls Tryz.prog 21 #[.slice bo n c] w4 fun e w' => e = .returned (.bool true) ∧ w' = w4 := fun h2 h0 h1 => isg_yes w4 bo n c b HN.out hR4.rd h2 h0 h1
    have hisn : ∀ (h : n < 2 ∨ b.getD 0 0 ≠ 31 ∨ b.getD 1 0 ≠ 139), Calls Tryz.prog 21 #[.slice bo n c] w4 fun e w' => e = .returned (.bool false) ∧ w' = w4 := fun h => isg_no w4 bo n c b HN.out hR4.rd h
    have HIy := Lib.hid hisy; have HIn := Lib.hid hisn
    have HHc := Lib.hid (fun (h : 0 < b.length) => hR4.rd.at h)
    clear hawk hfin hisy hisn hR4
    have hnb : n ≤ 200 := by omega
    -- the magic bytes
    obtain ⟨x0, hx0⟩ : ∃ x, x = b.getD 0 0 := ⟨_, rfl⟩
    obtain ⟨x1, hx1⟩ : ∃ x, x = b.getD 1 0 := ⟨_, rfl⟩
    have HX0 := Lib.hid hx0; have HX1 := Lib.hid hx1
    by_cases hw : (0 < n ∧ x0 ≠ 31) ∨ (1 < n ∧ x1 ≠ 139)
    · have hee : er = 8 := by rw [HEr.out]; exact HMag.out (by rw [← HN.out, ← hx0, ← hx1]; exact hw)
      have hn0 : n' = 0 := HZ2.out (by rw [← HEr.out, hee]; decide)
      have hn1 : 0 < n := by rcases hw with h | h <;> omega
      have HI := Lib.hid (HIn.out (by
        rcases hw with h | h
        · exact .inr (.inl (by rw [← hx0]; exact h.2))
        · exact .inr (.inr (by rw [← hx1]; exact h.2))))
      obtain ⟨gb, o, rfl, _, hc⟩ := HHc.out (by rw [← HN.out]; exact hn1)
      have c0 := hc 0 (by rw [← HN.out]; exact hn1)
      rw [Nat.add_zero, ← hx0] at c0
      have hc1 : 1 < n → w4.cell? ⟨gb, o + 1, none⟩ = some (.int .u8 x1) := fun h => by rw [hx1]; exact hc 1 (by rw [← HN.out]; exact h)
      subst hn0
      have hn2 : (0 : Int) < (n : Int) := by omega
      clear hc hx0 hx1 HEr
      subst hee
      by_cases h0 : x0 = 31
      · have h1 : 1 < n ∧ x1 ≠ 139 := by rcases hw with h | h; exact absurd h0 h.2; exact h
        have c1 := hc1 h1.1
        have h1a : (1 : Int) < (n : Int) := by omega
        have h1b : (x1 == 139) = false := by simpa using h1.2
        have h1c : (x1 != 139) = true := by simpa using h1.2
        subst h0
        clear hw hc1 h1
        go_wp2_with fail
        refine HI.out.mono ?_
        rintro e w5 ⟨rfl, rfl⟩
        go_wp2_with fail
        refine HA4.out.mono ?_
        rintro e w6 ⟨rfl, hk6⟩
        have HK6 := Lib.hid hk6
        clear hk6
        go_wp2
        go_ret
        exact ⟨rfl, HFin.out _ HK6.out⟩
      · have h1b : (x0 == 31) = false := by simpa using h0
        have h1c : (x0 != 31) = true := by simpa using h0
        clear hw hc1 h0
        go_wp2_with fail
        refine HI.out.mono ?_
        rintro e w5 ⟨rfl, rfl⟩
        go_wp2_with fail
        refine HA4.out.mono ?_
        rintro e w6 ⟨rfl, hk6⟩
        have HK6 := Lib.hid hk6
        clear hk6
        go_wp2
        go_ret
        exact ⟨rfl, HFin.out _ HK6.out⟩
    · have hq0 : 0 < n → x0 = 31 := fun h => Classical.not_not.1 fun k => hw (.inl ⟨h, k⟩)
      have hq1 : 1 < n → x1 = 139 := fun h => Classical.not_not.1 fun k => hw (.inr ⟨h, k⟩)
      clear hw
      by_cases hs : n < 10
      · have hee : er = 2 ∨ er = 6 := by rw [HEr.out]; exact HSh.out (by rw [← HN.out, ← hx0]; exact hq0) (by rw [← HN.out, ← hx1]; exact hq1) (by rw [← HN.out]; exact hs)
        have hn0 : n' = 0 := HZ2.out (by rw [← HEr.out]; rcases hee with h | h <;> rw [h] <;> decide)
        subst hn0
        have hs2 : (n : Int) < 10 := by omega
        have hne8 : (er == 8) = false := by rcases hee with h | h <;> rw [h] <;> rfl
        clear hx0 hx1 HEr HZ1 HZ2
        have hcase : n = 0 ∨ n = 1 ∨ 2 ≤ n := by omega
        rcases hcase with h | h | h
        · subst h
          rcases hee with rfl | rfl
          all_goals
            go_wp2_with fail
            refine HA4.out.mono ?_
            rintro e w6 ⟨rfl, hk6⟩
            have HK6 := Lib.hid hk6
            clear hk6
            go_wp2
            go_ret
            exact ⟨rfl, HFin.out _ HK6.out⟩
        · subst h
          obtain ⟨gb, o, rfl, _, hc⟩ := HHc.out (by rw [← HN.out]; decide)
          have c0 := hc 0 (by rw [← HN.out]; decide)
          rw [Nat.add_zero, ← HX0.out, hq0 (by decide)] at c0
          clear hc hq0 hq1
          rcases hee with rfl | rfl
          all_goals
            go_wp2_with fail
            refine HA4.out.mono ?_
            rintro e w6 ⟨rfl, hk6⟩
            have HK6 := Lib.hid hk6
            clear hk6
            go_wp2
            go_ret
            exact ⟨rfl, HFin.out _ HK6.out⟩
        · obtain ⟨gb, o, rfl, _, hc⟩ := HHc.out (by rw [← HN.out]; omega)
          have c0 := hc 0 (by rw [← HN.out]; omega)
          have c1 := hc 1 (by rw [← HN.out]; omega)
          rw [Nat.add_zero, ← HX0.out, hq0 (by omega)] at c0
          rw [← HX1.out, hq1 (by omega)] at c1
          have g0 : (0 : Int) < (n : Int) := by omega
          have g1 : (1 : Int) < (n : Int) := by omega
          clear hc hq0 hq1
          rcases hee with rfl | rfl
          all_goals
            go_wp2_with fail
            refine HA4.out.mono ?_
            rintro e w6 ⟨rfl, hk6⟩
            have HK6 := Lib.hid hk6
            clear hk6
            go_wp2
            go_ret
            exact ⟨rfl, HFin.out _ HK6.out⟩
      · obtain ⟨gb, o, rfl, _, hc⟩ := HHc.out (by rw [← HN.out]; omega)
        have c0 := hc 0 (by rw [← HN.out]; omega)
        have c1 := hc 1 (by rw [← HN.out]; omega)
        rw [Nat.add_zero, ← HX0.out, hq0 (by omega)] at c0
        rw [← HX1.out, hq1 (by omega)] at c1
        have g0 : (0 : Int) < (n : Int) := by omega
        have g1 : (1 : Int) < (n : Int) := by omega
        have g2 : ¬ (n : Int) < 10 := by omega
        have HI := Lib.hid (HIy.out (by omega) (by rw [← HX0.out]; exact hq0 (by omega)) (by rw [← HX1.out]; exact hq1 (by omega)))
        have hnn : n' ≤ n ∧ ((er = 0 ∧ 10 ≤ n') ∨ (er ≠ 0 ∧ n' = 0)) := by
          by_cases h : er = 0
          · have h1 := HFit.out (by rw [← HEr.out]; exact h)
            have h2 := (HZ1.out (by rw [← HEr.out]; exact h)).2
            have h3 := HN.out
            omega
          · have h2 := HZ2.out (by rw [← HEr.out]; exact h)
            omega
        obtain ⟨hle, hnn⟩ := hnn
        have hle2 : (n' : Int) ≤ (n : Int) := by omega
        clear hc hq0 hq1 hx0 hx1 HEr HZ1 HZ2
        rcases hnn with ⟨rfl, h10⟩ | ⟨hne, rfl⟩
        · have h10' : (10 : Int) ≤ (n' : Int) := by omega
          go_wp2_with fail
          refine HI.out.mono ?_
          rintro e w5 ⟨rfl, rfl⟩
          go_wp2_with fail
          refine HA4.out.mono ?_
          rintro e w6 ⟨rfl, hk6⟩
          have HK6 := Lib.hid hk6
          clear hk6
          go_wp2
          go_ret
          exact ⟨rfl, HFin.out _ HK6.out⟩
        · have hne2 : (er == 0) = false := by simpa using hne
          clear hne
          go_wp2_with fail
          refine HI.out.mono ?_
          rintro e w5 ⟨rfl, rfl⟩
          go_wp2_with fail
          refine HA4.out.mono ?_
          rintro e w6 ⟨rfl, hk6⟩
          have HK6 := Lib.hid hk6
          clear hk6
          go_wp2
          go_ret
          exact ⟨rfl, HFin.out _ HK6.out⟩
theorem gzipMagic_law (v0 : Value) (w : World) (r0 : Arg w 22 v0) (hT : DeB w) : Calls Tryz.prog 7 #[v0] w fun e w' => e = .returned (.bool true) ∧ Below w.heap.size w w' := by
  obtain ⟨bo, cb, bs, rfl, hc, hm, hr, hb, h0⟩ := Arg.bytes Tryz.underlying22 r0
  exact gzipMagic_walk bo bs.length cb bs w rfl ⟨hr, hb, hc, hm, h0⟩
end Go.Proofs.YtfmjfgmbjdhogaaGreatDoor
