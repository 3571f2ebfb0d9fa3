/-
  The document's side of maps: Holes, noughts, Pad, a line.
-/
import Derived.Test.YtbambcondcikbaaDoorRMapA
namespace Go.Proofs.YtbambcondcikbaaDoor
open Go.RowKit
set_option linter.unusedVariables false
set_option linter.unusedSimpArgs false

set_option maxRecDepth 20000 in
set_option maxHeartbeats 4000000 in
theorem rholes_any (size : Int) (ao : Option Addr) (n cap : Nat) (l : List Pc) (w : World) (h0 : -9223372036854775808 ≤ size) (h1 : size ≤ 9223372036854775807) (hn : n = l.length) (hr : RdP w w.heap.size ao l) (hi : IntP l) (hc : n ≤ cap) (hcm : cap ≤ maxLen) (hs : sumS l ≤ 9223372036854775807) :
    Calls Tryd.prog 23 #[.int .i64 size, .slice ao n cap] w fun e w' => e = .returned (.bool (holesS size l)) ∧ Kept NoB w w' := by
  have HO := Lib.hid (fun (W : World) (h : Kept NoB w W) => rmapok_any size ao n cap l W h0 h1 hn ((hr.kept h).room h.size) hi hc hcm)
  have HR := Lib.hid hr; have HN := Lib.hid hn
  have hcm2 : n ≤ 9223372036854775807 := by unfold maxLen at hcm; omega
  have HSt := Lib.hid (fun i (hi : i < n) => sumS_take l i (by omega))
  have hle : ∀ i, sumS (l.take i) ≤ sumS l := fun i => by
    have : sumS l = sumS (l.take i) + sumS (l.drop i) := by
      conv => lhs; rw [← List.take_append_drop i l]
      rw [sumS, List.map_append, List.sum_append]
      rfl
    omega
  obtain ⟨R, hR⟩ : ∃ R, R = holesS size l := ⟨_, rfl⟩
  have hR2 : R = (okS size l && decide ((sumS l : Int) < size)) := hR
  rw [← hR]
  obtain ⟨ok, hok⟩ : ∃ ok, ok = okS size l := ⟨_, rfl⟩
  rw [← hok] at HO hR2
  obtain ⟨T, hT⟩ : ∃ T, T = sumS l := ⟨_, rfl⟩
  rw [← hT] at hle hs hR2
  have HT := Lib.hid hT; have HLe := Lib.hid hle; have HR2 := Lib.hid hR2
  clear hr hn hcm hT hle hR hR2 hok hi
  go_enter Tryd.func23, Tryd.ntmps23
  go_wp2
  go_loopw [5, 6] (fun v5 v6 wr => ∃ i s : Nat, v5 = .int .i64 (s : Int) ∧ v6 = .int .i64 (i : Int) ∧ i ≤ n ∧ s ≤ T ∧ Hid (s = sumS (l.take i) ∧ Kept NoB w wr)) (fun _ v6 _ => n - (intOf v6).toNat)
  case atStart => exact ⟨0, 0, rfl, rfl, by omega, by omega, Lib.hid ⟨by simp [sumS], Kept.refl _ _⟩⟩
  case round =>
    obtain ⟨i, s, rfl, rfl, hi, hsT, HS⟩ := hrel
    by_cases hlt : (i : Int) < (n : Int)
    · have hin : i < n := by omega
      obtain ⟨b, off, bo, bc, rfl, hb, c0, c1, _⟩ := HR.out i (by have := HN.out; omega)
      have d1 := HS.out.2.cell c1
      have e1 := HSt.out i hin
      have e2 := HLe.out (i + 1)
      rw [show off + (i * 2 + 1) = off + i * 2 + 1 by omega] at d1
      rw [← HS.out.1] at e1
      obtain ⟨k, hk⟩ : ∃ k, k = (l.getD i (0, [])).2.length := ⟨_, rfl⟩
      rw [← hk] at d1 e1
      rw [e1] at e2
      have E1 := Lib.hid e1
      clear c0 c1 e1 hk
      go_wp2
      go_roundw
      case rel => exact ⟨i + 1, s + k, by go_num, by go_num, by omega, by omega, Lib.hid ⟨E1.out.symm, by first | exact HS.out.2.drewN _ | exact HS.out.2⟩⟩
      case measure => simp [intOf]; omega
    · have hie : i = n := by omega
      have HF : Hid (s = T) := Lib.hid (by
        have h := HS.out.1
        rw [hie, HN.out, List.take_length, ← HT.out] at h
        exact h)
      have HO2 := Lib.hid (HO.out wr HS.out.2)
      clear hie
      go_wp2_with fail
      with_reducible refine HO2.out.mono ?_
      rintro e w2 ⟨rfl, hk2⟩
      have HK2 := Lib.hid (HS.out.2.trans hk2)
      clear hk2
      cases ok with
      | false =>
        have HX : Hid (R = false) := Lib.hid (by rw [HR2.out]; rfl)
        go_wp2
        go_ret
        exact ⟨by rw [HX.out]; rfl, HK2.out⟩
      | true =>
        have HX : Hid (R = decide ((s : Int) < size)) := Lib.hid (by rw [HR2.out, HF.out]; rfl)
        go_wp2
        go_ret
        exact ⟨by rw [HX.out]; rfl, HK2.out⟩

theorem run_str_add (a b : List UInt8) (h : a.length + b.length ≤ 1000000000) (W : World) : (binOp .add 9 (.string (strB a)) (.string (strB b))).run Tryd.prog W = .ok (.string (strB (a ++ b))) W := by
  rw [← strB_app]
  exact run_string_add_sum (P := Tryd.prog) W _ _ (by rw [strB_size, strB_size]; omega)
theorem infoU5 : (Tryd.prog.info? 5).map (fun i => (i.zero, i.size, i.bytes)) = some (some (.int .u8 0), 1, 1) := by kernel_rfl
theorem own_full {w : World} {g n : Nat} {xs : List Value} (h : w.ownsRow 0 5 1 (.slice (some ⟨g, 0, none⟩) n n) n xs) : w.heap[g]? = some (.cells xs.toArray 5 (0, 0)) := by
  rcases h.2 with ⟨hv, _⟩ | ⟨g', cap, cur, hv, _, hg, h1, h2, h3, h4⟩
  · simp at hv
  · simp at hv
    obtain ⟨rfl, rfl⟩ := hv
    have e : cur.toList = xs := by
      rw [← h4, Nat.mul_one] at *
      exact (List.take_of_length_le (by rw [Array.length_toList]; omega)).symm
    rw [hg, ← e]
set_option maxHeartbeats 1000000 in
theorem rnoughts_any (n : Int) (w : World) (hn : n ≤ 2000000) (hlo : -9223372036854775808 ≤ n) : Calls Tryd.prog 38 #[.int .i64 n] w fun e w' => e = .returned (.string (strB (List.replicate n.toNat 0))) ∧ Kept NoB w w' := by
  obtain ⟨N, hN⟩ : ∃ N : Nat, N = n.toNat := ⟨_, rfl⟩
  rw [← hN]
  have hmx : max n 0 = (N : Int) := by omega
  have hN2 : N ≤ 2000000 := by omega
  have HN := Lib.hid hN
  clear hN hn hlo
  go_enter Tryd.func38, Tryd.ntmps38
  obtain ⟨i0, hi0, hz0, hz1, hz2⟩ := info_parts infoU5
  obtain ⟨w6, hrun, hown6, hg6⟩ := run_make_full (P := Tryd.prog) w 0 26 5 i0 (.int .u8 0) 1 Tryd.underlying26 hi0 hz0 hz1 .i64 .i64 N (by rw [hz2]; omega) (by unfold maxLen; omega) (Nat.zero_le _)
  have hk6 : Kept NoB w w6 := (Kept.refl NoB w).grown hg6 (fun _ _ e => by cases e)
  obtain ⟨g6, hg6e⟩ : ∃ g, g = w.heap.size := ⟨_, rfl⟩
  rw [← hg6e] at hrun hown6
  have hz6 : Reads w6 (some ⟨g6, 0, none⟩) (nb (List.replicate N 0)) := lit_reads (t := 5) (fr := (0, 0)) (nb (List.replicate N 0)) (own_full hown6) (by
    show (madeCells #[Value.int .u8 0] (N * 1)).toList = _
    rw [Nat.mul_one, toList_madeCells_one, nb, List.map_replicate, List.map_replicate]; rfl)
  have hcv := conv_reads (n := N) (cap := N) hz6 (by simp [nb]) (fun h => by cases h)
  rw [nb_str] at hcv
  have hrun : (Instr.makeSlice 26 (.int .i64 (N : Int)) (.int .i64 (N : Int))).run Tryd.prog w = .ok (.slice (some ⟨g6, 0, none⟩) N N) w6 := hrun
  have HK6 := Lib.hid hk6
  clear hk6 hz6 hown6 hg6 hg6e hi0 hz0 hz1 hz2
  go_wp2
  go_ret
  exact ⟨rfl, HK6.out⟩

theorem padN_of (n : Nat) : padN n = if n % 512 = 0 then 0 else 512 - n % 512 := by
  unfold padN; split <;> omega
set_option maxHeartbeats 1000000 in
theorem rpad_any (n : Nat) (w : World) (hn : n ≤ 1000000000000) :
    Calls Tryd.prog 39 #[.int .i64 (n : Int)] w fun e w' => e = .returned (.int .i64 (padN n : Int)) ∧ w = w' := by
  obtain ⟨r, hr⟩ : ∃ r, r = n % 512 := ⟨_, rfl⟩
  have h1 : (n : Int) % 512 = (r : Int) := by omega
  have h2 := padN_of n
  rw [← hr] at h2
  have h3 : ¬ (n : Int) < 0 := by omega
  have hr5 : r < 512 := by omega
  obtain ⟨q, hq⟩ : ∃ q, q = padN n := ⟨_, rfl⟩
  rw [← hq] at h2 ⊢
  clear hr hq
  by_cases hr0 : r = 0
  · rw [if_pos hr0] at h2
    have h4 : ((r : Int) == 0) = true := by rw [hr0]; rfl
    clear hr0
    subst h2
    go_enter Tryd.func39, Tryd.ntmps39
    go_wp2
    go_ret
    exact ⟨rfl, rfl⟩
  · rw [if_neg hr0] at h2
    have h4 : ((r : Int) == 0) = false := by simp; omega
    have h5 : 512 - (r : Int) = (q : Int) := by omega
    clear h2 hr0
    go_enter Tryd.func39, Tryd.ntmps39
    go_wp2
    go_ret
    exact ⟨by rw [← h5]; rfl, rfl⟩
end Go.Proofs.YtbambcondcikbaaDoor
