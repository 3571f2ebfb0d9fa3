/-
  Stage 17: text, Tame.
-/
import Derived.Test.YtnhfbpikfkncpaaHeadQ
import Derived.Test.YtnhfbpikfkncpaaHeadS
import Derived.Deep.RegionWith
namespace Go.Proofs.Ytnhfbpikfkncpaa
open Go.RowKit
set_option linter.unusedVariables false
set_option linter.unusedSimpArgs false

theorem str_atI (bs : List Int) (h : AllB bs) (L : Nat) (hL : L < (strOfNums bs).size) : (((strOfNums bs)[L]).toNat : Int) = bs.getD L 0 := by
  have hl : L < bs.length := by rw [strOfNums_size] at hL; exact hL
  have hb := h _ (List.getElem_mem hl)
  show (((strOfNums bs).data[L]).toNat : Int) = _
  have e : (strOfNums bs).data[L] = UInt8.ofNat (bs[L]).toNat := by
    have h1 : (strOfNums bs).data.toList[L]'(by simpa [strOfNums_data] using hl) = UInt8.ofNat (bs[L]).toNat := by
      simp [strOfNums_data]
    simpa using h1
  rw [e]
  have : bs.getD L 0 = bs[L] := by simp [List.getD, hl]
  rw [this]
  simp
  omega
theorem str_take (bs : List Int) (k : Nat) : (strOfNums bs).extract 0 k = strOfNums (bs.take k) := by
  have := str_extract3 bs 0 k
  rw [Nat.zero_add, List.drop_zero] at this
  exact this
/-- A text that goes into a field. -/
def txt (ss : List Int) (n : Nat) : List Int := (cutZ ss).take n
theorem txt_stop (ss : List Int) (n i : Nat) (hi : i < ss.length) (hp : ∀ j, j < i → ss.getD j 0 ≠ 0) (h : ss.getD i 0 = 0 ∨ i = n) (hn : i ≤ n) : txt ss n = ss.take i := by
  have hall : ∀ x ∈ ss.take i, (x != 0) = true := by
    intro x hx
    obtain ⟨j, hj, rfl⟩ := List.getElem_of_mem hx
    have hj2 : j < i := by rw [List.length_take] at hj; omega
    have := hp j hj2
    rw [List.getElem_take]
    simp only [bne_iff_ne, ne_eq]
    intro e
    exact this (by simp [List.getD, show j < ss.length by omega, e])
  have hs : ss = ss.take i ++ ss.drop i := (List.take_append_drop i ss).symm
  have hc : cutZ ss = ss.take i ++ cutZ (ss.drop i) := by
    conv => lhs; rw [hs]
    unfold cutZ
    rw [List.takeWhile_append_of_pos hall]
  have hl : (ss.take i).length = i := by rw [List.length_take]; omega
  unfold txt
  rw [hc]
  rcases h with h | h
  · have hd : cutZ (ss.drop i) = [] := by
      rw [List.drop_eq_getElem_cons hi]
      have : ss[i] = 0 := by rw [← h]; simp [List.getD, hi]
      unfold cutZ
      rw [List.takeWhile_cons, this]; rfl
    rw [hd, List.append_nil, List.take_of_length_le (by omega)]
  · subst h
    rw [List.take_append_of_le_length (by omega), List.take_of_length_le (by omega)]
theorem txt_all (ss : List Int) (n : Nat) (hp : ∀ j, j < ss.length → ss.getD j 0 ≠ 0) (hn : ss.length ≤ n) : txt ss n = ss := by
  have hall : ∀ x ∈ ss, (x != 0) = true := by
    intro x hx
    obtain ⟨j, hj, rfl⟩ := List.getElem_of_mem hx
    have := hp j hj
    simp only [bne_iff_ne, ne_eq]
    intro e
    exact this (by simp [List.getD, hj, e])
  have hc : cutZ ss = ss := by
    have := List.takeWhile_append_of_pos (l₂ := []) hall
    simpa [cutZ] using this
  unfold txt
  rw [hc, List.take_of_length_le hn]
set_option maxRecDepth 20000 in
set_option maxHeartbeats 4000000 in
theorem text17_any (ss : List Int) (n : Nat) (w : World) (hb : AllB ss) (hl : ss.length ≤ 1000000) : Calls Try.prog 28 #[.string (strOfNums ss), .int .i64 (n : Int)] w fun e w' => e = .returned (.string (strOfNums (txt ss n))) ∧ w = w' := by
  obtain ⟨L, hL⟩ : ∃ L, L = ss.length := ⟨_, rfl⟩
  have hsz : (strOfNums ss).size = L := by rw [strOfNums_size, hL]
  have hat := fun i hi => str_atI ss hb i hi
  have htk := str_take ss
  have HSt := Lib.hid (txt_stop ss n); have HAl := Lib.hid (txt_all ss n)
  have HAt := Lib.hid hat; have HTk := Lib.hid htk; have HL := Lib.hid hL; have HB := Lib.hid hb
  rw [← hL] at hl
  obtain ⟨S, hS⟩ : ∃ S, S = strOfNums ss := ⟨_, rfl⟩
  rw [← hS] at hsz HAt HTk ⊢
  have HS := Lib.hid hS
  clear hat htk hL hb hS
  go_enter Try.func28, Try.ntmps28
  go_wp2
  go_loopw [5] (fun v5 wr => ∃ i : Nat, v5 = .int .i64 (i : Int) ∧ i ≤ L ∧ i ≤ n ∧ Hid (∀ j, j < i → ss.getD j 0 ≠ 0) ∧ Hid (w = wr)) (fun v5 _ => L - (intOf v5).toNat)
  case atStart => exact ⟨0, rfl, by omega, by omega, Lib.hid (fun j hj => by omega), Lib.hid rfl⟩
  case round =>
    obtain ⟨i, rfl, hi, hin, HP, HW⟩ := hrel
    by_cases hlt : (i : Int) < (L : Int)
    · have hil : i < ss.length := by have := HL.out; omega
      have his : i < S.size := by omega
      have hz := HAt.out i his
      obtain ⟨z, hzz⟩ : ∃ z, z = ss.getD i 0 := ⟨_, rfl⟩
      rw [← hzz] at hz
      have HZ := Lib.hid hzz
      by_cases hc : z = 0 ∨ i = n
      · have HF : Hid (strOfNums (txt ss n) = S.extract 0 i) := Lib.hid (by rw [HTk.out, HSt.out i hil HP.out (by rw [← HZ.out]; exact hc) hin])
        clear hzz hil
        by_cases h0 : z = 0
        · subst h0
          go_wp2
          go_ret
          exact ⟨by rw [HF.out]; rfl, HW.out⟩
        · have h0b : (z == 0) = false := by simp [h0]
          have hin2 : i = n := by omega
          have hinb : ((i : Int) == (n : Int)) = true := by simp; omega
          clear h0 hc hin2
          go_wp2
          go_ret
          exact ⟨by rw [HF.out]; rfl, HW.out⟩
      · have h0b : (z == 0) = false := by have : ¬ z = 0 := fun h => hc (.inl h); simp [this]
        have hinb : ((i : Int) == (n : Int)) = false := by have : ¬ i = n := fun h => hc (.inr h); simp; omega
        have hlt2 : i < n := by have : ¬ i = n := fun h => hc (.inr h); omega
        have HPn : Hid (∀ j, j < i + 1 → ss.getD j 0 ≠ 0) := Lib.hid (fun j hj => by
          by_cases e : j = i
          · subst e; rw [← HZ.out]; exact fun h => hc (.inl h)
          · exact HP.out j (by omega))
        clear hzz hil hc
        go_wp2
        go_roundw
        case rel => exact ⟨i + 1, by go_num, by omega, by omega, HPn, HW⟩
        case measure => simp [intOf]; omega
    · have hie : i = L := by omega
      have HF : Hid (strOfNums (txt ss n) = S) := Lib.hid (by rw [HS.out, HAl.out (fun j hj => HP.out j (by have := HL.out; omega)) (by have := HL.out; omega)])
      clear hie
      go_wp2
      go_ret
      exact ⟨by rw [HF.out]; rfl, HW.out⟩
/-- The tamed block. -/
def tameH (h : HdP) : HdP := ⟨txt h.nm 100, txt h.lk 100, (if h.gn = true then [] else txt h.px 155), h.ty, h.gn, h.md % 2097152, h.us % 2097152, h.gr % 2097152, h.sz % 8589934592, h.tm % 8589934592, h.ma % 2097152, h.mi % 2097152⟩
theorem hd_tame_end {t : Array Value} {R : Nat} {D : HdP} {wz : World} {Q : Ending → World → Prop} (h2 : t.getD 2 undef = .pointer (some ⟨R, 0, none⟩))
    (hz : wz.heap[R]? = some (.cells (hdC D) 23 (0, 0))) (hq : Q (.returned (hdV D)) wz) : bodyPost Try.prog Try.f11 Q .ret ⟨t, []⟩ wz := by
  unfold hdC at hz
  obtain ⟨k0, k1, k2, k3, k4, k5, k6, k7, k8, k9, k10, k11⟩ := hd_cells hz
  have h2' : t[2]?.getD undef = .pointer (some ⟨R, 0, none⟩) := by simpa using h2
  refine bodyPost_ret (v := hdV D) ?_ rfl hq
  simp [results, Try.results11, go_sem, h2', k0, k1, k2, k3, k4, k5, k6, k7, k8, k9, k10, k11]
  rfl
theorem kept_own {w w1 w2 : World} {X : Nat} (h1 : Kept NoB w w1) (h2 : Kept (OneB X) w1 w2) (hX : w.heap.size ≤ X) : Kept NoB w w2 :=
  ⟨h2.os.trans h1.os, h2.tape.trans h1.tape, h2.output.trans h1.output, Nat.le_trans h1.size h2.size, fun k hk hs => (h2.block k (Nat.lt_of_lt_of_le hk h1.size) (fun e => absurd e (by intro e; have : k = X := e; omega))).trans (h1.block k hk hs)⟩
set_option maxRecDepth 100000 in
set_option maxHeartbeats 8000000 in
theorem tame17_any (h : HdP) (w : World) (k : HdOk h) (hl : h.nm.length ≤ 1000000 ∧ h.lk.length ≤ 1000000 ∧ h.px.length ≤ 1000000) : Calls Try.prog 11 #[hdV h] w fun e w' => e = .returned (hdV (tameH h)) ∧ Kept NoB w w' := by
  obtain ⟨X, hX⟩ : ∃ X, X = w.heap.size := ⟨_, rfl⟩
  obtain ⟨wA, hwA⟩ : ∃ y, y = w.alloc (.cells (hdC h) 23) := ⟨_, rfl⟩
  obtain ⟨R, hR⟩ : ∃ R, R = X + 1 := ⟨_, rfl⟩
  obtain ⟨wB, hwB⟩ : ∃ y, y = wA.alloc (.cells #[.string ⟨#[]⟩, .string ⟨#[]⟩, .string ⟨#[]⟩, .int .u8 0, .bool false, .int .i64 0, .int .i64 0, .int .i64 0, .int .i64 0, .int .i64 0, .int .i64 0, .int .i64 0] 23) := ⟨_, rfl⟩
  have hkA : Kept NoB w wA := by rw [hwA]; exact (Kept.refl NoB w).alloc _
  have hkB : Kept NoB w wB := by rw [hwB]; exact hkA.alloc _
  have hxA : wA.heap[X]? = some (.cells (hdC h) 23 (0, 0)) := by rw [hwA, hX]; exact heap_alloc_new _ _
  have hsA : wA.heap.size = R := by rw [hwA, hR, hX]; simp
  have hxB : wB.heap[X]? = some (.cells (hdC h) 23 (0, 0)) := by rw [hwB]; exact ((Kept.refl NoB wA).alloc _).obj hxA (fun h => h)
  have hrB : wB.heap[R]? = some (.cells #[.string ⟨#[]⟩, .string ⟨#[]⟩, .string ⟨#[]⟩, .int .u8 0, .bool false, .int .i64 0, .int .i64 0, .int .i64 0, .int .i64 0, .int .i64 0, .int .i64 0, .int .i64 0] 23 (0, 0)) := by rw [hwB, ← hsA]; exact heap_alloc_new _ _
  have hwA2 : w.alloc (.cells #[.string (strOfNums h.nm), .string (strOfNums h.lk), .string (strOfNums h.px), .int .u8 h.ty, .bool h.gn, .int .i64 h.md, .int .i64 h.us, .int .i64 h.gr, .int .i64 h.sz, .int .i64 h.tm, .int .i64 h.ma, .int .i64 h.mi] 23) = wA := by rw [hwA]; rfl
  have HT1 : Hid (∀ W, Calls Try.prog 28 #[.string (strOfNums h.nm), .int .i64 100] W fun e w' => e = .returned (.string (strOfNums (txt h.nm 100))) ∧ W = w') := Lib.hid (fun W => text17_any h.nm 100 W k.nm hl.1)
  have HT2 : Hid (∀ W, Calls Try.prog 28 #[.string (strOfNums h.lk), .int .i64 100] W fun e w' => e = .returned (.string (strOfNums (txt h.lk 100))) ∧ W = w') := Lib.hid (fun W => text17_any h.lk 100 W k.lk hl.2.1)
  have HT3 : Hid (∀ W, Calls Try.prog 28 #[.string (strOfNums h.px), .int .i64 155] W fun e w' => e = .returned (.string (strOfNums (txt h.px 155))) ∧ W = w') := Lib.hid (fun W => text17_any h.px 155 W k.px hl.2.2)
  have HXB := Lib.hid hxB; have HRB := Lib.hid hrB; have HKB := Lib.hid hkB; have HX := Lib.hid hX; have HWA := Lib.hid hwA2; have HWB := Lib.hid hwB; have HSA := Lib.hid hsA; have HR := Lib.hid hR
  clear hX hwA hR hwB hkA hkB hxA hsA hxB hrB hwA2
  unfold hdV
  go_enter Try.func11, Try.ntmps11
  go_upto_region 1 with fail
  rw [← HX.out, HWA.out, ← HWB.out, ← HR.out]
  have c0 : wB.cell? ⟨X, 0, none⟩ = some (.string (strOfNums h.nm)) := by rw [obj_cell HXB.out 0]; rfl
  have c1 : wB.cell? ⟨X, 1, none⟩ = some (.string (strOfNums h.lk)) := by rw [obj_cell HXB.out 1]; rfl
  have c2 : wB.cell? ⟨X, 2, none⟩ = some (.string (strOfNums h.px)) := by rw [obj_cell HXB.out 2]; rfl
  have f0 : ∀ i, wB.frozen? ⟨X, i, none⟩ = false := fun i => obj_free HXB.out i
  have hEnd : (((wB.drew.setCell ⟨X, 0, none⟩ (.string (strOfNums (txt h.nm 100)))).setCell ⟨X, 1, none⟩ (.string (strOfNums (txt h.lk 100)))).setCell ⟨X, 2, none⟩ (.string (strOfNums (txt h.px 155)))).heap[X]? = some (.cells (hdC ⟨txt h.nm 100, txt h.lk 100, txt h.px 155, h.ty, h.gn, h.md, h.us, h.gr, h.sz, h.tm, h.ma, h.mi⟩) 23 (0, 0)) := obj_set (obj_set (obj_set (w := wB.drew) HXB.out 0 _) 1 _) 2 _
  have hKe : Kept (OneB X) wB (((wB.drew.setCell ⟨X, 0, none⟩ (.string (strOfNums (txt h.nm 100)))).setCell ⟨X, 1, none⟩ (.string (strOfNums (txt h.lk 100)))).setCell ⟨X, 2, none⟩ (.string (strOfNums (txt h.px 155)))) := Kept.setCell (S := OneB X) (p := ⟨X, 2, none⟩) (Kept.setCell (S := OneB X) (p := ⟨X, 1, none⟩) (Kept.setCell (S := OneB X) (p := ⟨X, 0, none⟩) ((Kept.refl _ wB).drew) (.inl rfl) _) (.inl rfl) _) (.inl rfl) _
  have HEnd := Lib.hid hEnd; have HKe := Lib.hid hKe
  clear hEnd hKe
  go_cut [] from 3 to 14 (fun wy => Hid (wy.heap[X]? = some (.cells (hdC ⟨txt h.nm 100, txt h.lk 100, txt h.px 155, h.ty, h.gn, h.md, h.us, h.gr, h.sz, h.tm, h.ma, h.mi⟩) 23 (0, 0))) ∧ Hid (Kept (OneB X) wB wy))
  case first =>
    go_wp2_with fail
    go_region_with (first
      | (go_at_call 28; ((with_reducible refine (HT1.out _).mono ?_); rintro e wn ⟨rfl, rfl⟩))
      | (go_at_call 28; ((with_reducible refine (HT2.out _).mono ?_); rintro e wn ⟨rfl, rfl⟩))
      | (go_at_call 28; ((with_reducible refine (HT3.out _).mono ?_); rintro e wn ⟨rfl, rfl⟩)))
    all_goals (go_wp2; go_meet; exact ⟨HEnd.out, HKe.out⟩)
  case rest =>
  obtain ⟨HC, HKc⟩ := hcut
  obtain ⟨p3, hp3⟩ : ∃ p, p = (if h.gn = true then [] else txt h.px 155) := ⟨_, rfl⟩
  obtain ⟨gb, hgb⟩ : ∃ g, g = h.gn := ⟨_, rfl⟩
  clear c2
  have c4 : wc.cell? ⟨X, 4, none⟩ = some (.bool gb) := by rw [obj_cell HC.out 4, hgb]; rfl
  have c2 : wc.cell? ⟨X, 2, none⟩ = some (.string (strOfNums (txt h.px 155))) := by rw [obj_cell HC.out 2]; rfl
  have f1 : ∀ i, wc.frozen? ⟨X, i, none⟩ = false := fun i => obj_free HC.out i
  have HP3 : Hid (p3 = if gb = true then [] else txt h.px 155) := Lib.hid (by rw [hgb]; exact hp3)
  have HP3h := Lib.hid hp3
  clear hgb hp3 c0 c1 f0
  go_upto_if 16 with fail
  go_cut [] from 15 to 17 (fun wy => Hid (wy.heap[X]? = some (.cells (hdC ⟨txt h.nm 100, txt h.lk 100, p3, h.ty, h.gn, h.md, h.us, h.gr, h.sz, h.tm, h.ma, h.mi⟩) 23 (0, 0))) ∧ Hid (Kept (OneB X) wB wy))
  case first =>
    cases gb with
    | true =>
      have hp : p3 = [] := by rw [HP3.out]; rfl
      have HE := Lib.hid (obj_set HC.out 2 (.string (strOfNums p3)))
      have HKe := Lib.hid (Kept.setCell (S := OneB X) (p := ⟨X, 2, none⟩) HKc.out (.inl rfl) (.string (strOfNums p3)))
      subst hp
      go_wp2
      go_meet
      exact ⟨HE.out, HKe.out⟩
    | false =>
      have hp : p3 = txt h.px 155 := by rw [HP3.out]; rfl
      subst hp
      go_wp2
      go_meet
      exact ⟨HC.out, HKc.out⟩
  case rest =>
  clear HC HKc c4 f1 c2
  obtain ⟨HD, HKd⟩ := hcut
  go_upto_region 4 with fail
  obtain ⟨d0, d1, d2, d3, d4, d5, d6, d7, d8, d9, d10, d11⟩ := hd_cells (by have := HD.out; unfold hdC at this; exact this)
  have fD : ∀ i, wc.frozen? ⟨X, i, none⟩ = false := fun i => obj_free HD.out i
  have hm : ∀ n : Int, bits .and .i64 n 2097151 = n % 2097152 := fun n => i64_mask n 21 (by decide)
  have hM : ∀ n : Int, bits .and .i64 n 8589934591 = n % 8589934592 := fun n => i64_mask n 33 (by decide)
  have e5 := hm h.md; have e6 := hm h.us; have e7 := hm h.gr; have e8 := hM h.sz; have e9 := hM h.tm; have e10 := hm h.ma; have e11 := hm h.mi
  clear hm hM
  obtain ⟨m5, hm5⟩ : ∃ m, m = h.md % 2097152 := ⟨_, rfl⟩
  obtain ⟨m6, hm6⟩ : ∃ m, m = h.us % 2097152 := ⟨_, rfl⟩
  obtain ⟨m7, hm7⟩ : ∃ m, m = h.gr % 2097152 := ⟨_, rfl⟩
  obtain ⟨m8, hm8⟩ : ∃ m, m = h.sz % 8589934592 := ⟨_, rfl⟩
  obtain ⟨m9, hm9⟩ : ∃ m, m = h.tm % 8589934592 := ⟨_, rfl⟩
  obtain ⟨m10, hm10⟩ : ∃ m, m = h.ma % 2097152 := ⟨_, rfl⟩
  obtain ⟨m11, hm11⟩ : ∃ m, m = h.mi % 2097152 := ⟨_, rfl⟩
  rw [← hm5] at e5; rw [← hm6] at e6; rw [← hm7] at e7; rw [← hm8] at e8; rw [← hm9] at e9; rw [← hm10] at e10; rw [← hm11] at e11
  have HTm : Hid (tameH h = ⟨txt h.nm 100, txt h.lk 100, p3, h.ty, h.gn, m5, m6, m7, m8, m9, m10, m11⟩) := Lib.hid (by unfold tameH; rw [← HP3h.out, ← hm5, ← hm6, ← hm7, ← hm8, ← hm9, ← hm10, ← hm11])
  clear hm5 hm6 hm7 hm8 hm9 hm10 hm11
  go_upto_region 4 with fail
  go_cut [] from 18 to 33 (fun wy => Hid (wy.heap[X]? = some (.cells (hdC ⟨txt h.nm 100, txt h.lk 100, p3, h.ty, h.gn, m5, m6, m7, m8, h.tm, h.ma, h.mi⟩) 23 (0, 0))) ∧ Hid (Kept (OneB X) wB wy))
  case first =>
    have HE := Lib.hid (obj_set (obj_set (obj_set (obj_set HD.out 5 (.int .i64 m5)) 6 (.int .i64 m6)) 7 (.int .i64 m7)) 8 (.int .i64 m8))
    have HKe := Lib.hid (Kept.setCell (S := OneB X) (p := ⟨X, 8, none⟩) (Kept.setCell (S := OneB X) (p := ⟨X, 7, none⟩) (Kept.setCell (S := OneB X) (p := ⟨X, 6, none⟩) (Kept.setCell (S := OneB X) (p := ⟨X, 5, none⟩) HKd.out (.inl rfl) (.int .i64 m5)) (.inl rfl) (.int .i64 m6)) (.inl rfl) (.int .i64 m7)) (.inl rfl) (.int .i64 m8))
    go_wp2
    go_meet
    exact ⟨HE.out, HKe.out⟩
  case rest =>
  clear HD HKd d0 d1 d2 d3 d4 d5 d6 d7 d8 d9 d10 d11 fD
  obtain ⟨HD, HKd⟩ := hcut
  obtain ⟨d0, d1, d2, d3, d4, d5, d6, d7, d8, d9, d10, d11⟩ := hd_cells (by have := HD.out; unfold hdC at this; exact this)
  have fD : ∀ i, wc.frozen? ⟨X, i, none⟩ = false := fun i => obj_free HD.out i
  go_upto_region 5 with fail
  go_cut [] from 34 to 45 (fun wy => Hid (wy.heap[X]? = some (.cells (hdC (tameH h)) 23 (0, 0))) ∧ Hid (Kept (OneB X) wB wy))
  case first =>
    have HE := Lib.hid (obj_set (obj_set (obj_set HD.out 9 (.int .i64 m9)) 10 (.int .i64 m10)) 11 (.int .i64 m11))
    have HKe := Lib.hid (Kept.setCell (S := OneB X) (p := ⟨X, 11, none⟩) (Kept.setCell (S := OneB X) (p := ⟨X, 10, none⟩) (Kept.setCell (S := OneB X) (p := ⟨X, 9, none⟩) HKd.out (.inl rfl) (.int .i64 m9)) (.inl rfl) (.int .i64 m10)) (.inl rfl) (.int .i64 m11))
    go_wp2
    go_meet
    exact ⟨by rw [HTm.out]; exact HE.out, HKe.out⟩
  case rest =>
  clear HD HKd d0 d1 d2 d3 d4 d5 d6 d7 d8 d9 d10 d11 fD
  obtain ⟨HD, HKd⟩ := hcut
  obtain ⟨D, hD⟩ : ∃ D, D = tameH h := ⟨_, rfl⟩
  have HDh := Lib.hid hD
  rw [← hD] at HD
  clear hD
  have hxR : R ≠ X := by have := HR.out; omega
  have HRc := Lib.hid (HKd.out.obj HRB.out (fun e => hxR e))
  have HZ : Hid ((wc.setRow R (hdC D)).heap[R]? = some (.cells (hdC D) 23 (0, 0))) := Lib.hid (setRow_heap wc R _ (hdC D) _ _ HRc.out)
  have hwX : w.heap.size ≤ X := Nat.le_of_eq HX.out.symm
  have hwR : w.heap.size ≤ R := by rw [HR.out]; exact Nat.le_succ_of_le hwX
  have HKz := Lib.hid (kept_setRow (kept_own HKB.out HKd.out hwX) hwR (hdC D))
  clear hwX hwR
  clear hxR
  go_wp2_with (first | (refine wpList_load_row rfl 23 (.tmp 1) rfl X rfl 23 (hdC D) (0, 0) _ HD.out Try.underlying23 rfl infoHd ?_) | (refine wpList_store_row rfl 23 (.tmp 2) (.tmp 46) rfl R (hdC D) rfl rfl _ _ HRc.out infoHd rfl (hdC_one _) ?_))
  generalize wc.setRow R (hdC D) = wz at HZ HKz ⊢
  go_wp2
  refine hd_tame_end (R := R) (D := D) ?_ HZ.out ?_
  · rfl
  · exact ⟨by rw [HDh.out]; rfl, HKz.out⟩
end Go.Proofs.Ytnhfbpikfkncpaa
