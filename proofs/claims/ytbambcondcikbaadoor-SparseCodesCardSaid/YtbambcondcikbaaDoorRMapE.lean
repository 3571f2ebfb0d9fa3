/-
  The document's side of maps: Map.
-/
import Derived.Test.YtbambcondcikbaaDoorRMapD
namespace Go.Proofs.YtbambcondcikbaaDoor
open Go.RowKit Go.Lib
set_option linter.unusedVariables false
set_option linter.unusedSimpArgs false

def RMapT (size : Int) (l : List Pc) (e : Ending) : Prop :=
  (okS size l = false ∧ e = .returned (.tuple #[.string (strB []), .bool false])) ∨ (okS size l = true ∧ e = .returned (.tuple #[.string (strB (mapB size l)), .bool true]))
/-- The lines of the first pieces. -/
def linesM (l : List Pc) : List UInt8 := l.flatMap fun p => lineB p.1 ++ lineB (p.2.length : Int)
theorem linesM_take (l : List Pc) (i : Nat) (h : i < l.length) : linesM (l.take (i + 1)) = linesM (l.take i) ++ itoa (l.getD i (0, [])).1 ++ [10] ++ itoa ((l.getD i (0, [])).2.length : Int) ++ [10] := by
  rw [take_getD l i h, linesM, List.flatMap_append]
  simp [linesM, lineB]
theorem dataM_take (l : List Pc) (i : Nat) (h : i < l.length) : dataB (l.take (i + 1)) = dataB (l.take i) ++ (l.getD i (0, [])).2 := by
  rw [take_getD l i h, dataB, List.flatMap_append]
  simp [dataB]
theorem linesM_len : ∀ (l : List Pc), (∀ p ∈ l, 0 ≤ p.1 ∧ p.1 ≤ 1099511627776 ∧ (p.2.length : Int) ≤ 1099511627776) → (linesM l).length ≤ 28 * l.length
  | [], _ => by simp [linesM]
  | p :: l, h => by
    have ih := linesM_len l (fun q hq => h q (List.mem_cons_of_mem _ hq))
    obtain ⟨h1, h2, h3⟩ := h p List.mem_cons_self
    have e1 := itoa_13 p.1 h1 h2
    have e2 := itoa_13 (p.2.length : Int) (by omega) h3
    have e : linesM (p :: l) = lineB p.1 ++ lineB (p.2.length : Int) ++ linesM l := by simp [linesM]
    rw [e]
    simp only [List.length_append, lineB, List.length_cons, List.length_nil]
    omega
theorem spans_lines (size : Int) (l : List Pc) : (spansS size l).flatMap spanB = linesM l ++ (if endsS size l then [] else lineB size ++ lineB 0) := by
  have e : ∀ l : List Pc, (l.map (fun p => (p.1, (p.2.length : Int)))).flatMap spanB = linesM l := by
    intro l
    induction l with
    | nil => rfl
    | cons p l ih =>
      rw [List.map_cons, List.flatMap_cons, ih]
      simp [linesM, spanB]
  rw [spansS, List.flatMap_append, e]
  split
  · simp
  · simp [spanB]
theorem ends_none (size : Int) (l : List Pc) (h : l.length = 0) : endsS size l = false := by
  rw [List.eq_nil_of_length_eq_zero h]; rfl
theorem head_len (size : Int) (l : List Pc) (h : (linesM l).length ≤ 28000) (h0 : 0 ≤ size) (h1 : size ≤ 1099511627776) (hl : l.length ≤ 1000) : ((spansS size l).flatMap spanB).length ≤ 28100 ∧ (headB size l).length ≤ 28200 := by
  have e1 := itoa_13 size h0 h1
  have e2 := itoa_13 0 (by omega) (by omega)
  have hs := spansM_len size l
  have e3 := itoa_13 ((spansS size l).length : Int) (by omega) (by omega)
  have e : ((spansS size l).flatMap spanB).length ≤ 28100 := by
    rw [spans_lines, List.length_append]
    split
    · simp; omega
    · simp only [List.length_append, lineB, List.length_cons, List.length_nil]; omega
  refine ⟨e, ?_⟩
  rw [headB, List.length_append, lineB, List.length_append]
  simp only [List.length_cons, List.length_nil]
  omega
theorem sumS_take_le (l : List Pc) (i : Nat) : sumS (l.take i) ≤ sumS l := by
  have : sumS l = sumS (l.take i) + sumS (l.drop i) := by
    conv => lhs; rw [← List.take_append_drop i l]
    rw [sumS, List.map_append, List.sum_append]
    rfl
  omega
set_option maxRecDepth 20000 in
set_option maxHeartbeats 4000000 in
theorem rmap_any (size : Int) (ao : Option Addr) (n cap : Nat) (l : List Pc) (w : World) (h0 : -9223372036854775808 ≤ size) (h1 : size ≤ 9223372036854775807) (hn : n = l.length) (hr : RdP w w.heap.size ao l) (hi : IntP l) (hc : n ≤ cap) (hcm : cap ≤ maxLen) (hs : sumS l ≤ 1000000) :
    Calls Tryd.prog 21 #[.int .i64 size, .slice ao n cap] w fun e w' => RMapT size l e ∧ Kept NoB w w' := by
  have HO := Lib.hid (rmapok_any size ao n cap l w h0 h1 hn hr hi hc hcm)
  have HR := Lib.hid hr; have HN := Lib.hid hn
  have hcm2 : n ≤ 9223372036854775807 := by unfold maxLen at hcm; omega
  obtain ⟨ok, hok⟩ : ∃ ok, ok = okS size l := ⟨_, rfl⟩
  rw [← hok] at HO
  have HOk := Lib.hid hok
  have HSum := Lib.hid hs
  clear hok hr hn hi hcm hs
  go_enter Tryd.func21, Tryd.ntmps21
  go_wp2_with fail
  with_reducible refine HO.out.mono ?_
  rintro e w1 ⟨rfl, hk1⟩
  have HK1 := Lib.hid hk1
  clear hk1
  cases ok with
  | false =>
    go_wp2
    go_ret2
    exact ⟨.inl ⟨HOk.out.symm, rfl⟩, HK1.out⟩
  | true =>
    have hok2 := HOk.out.symm
    have hok3 := hok2
    simp only [okS, Bool.and_eq_true, decide_eq_true_eq] at hok2
    obtain ⟨⟨⟨s0, s1⟩, s2⟩, s3⟩ := hok2
    have hnb : n ≤ 1000 := by have := HN.out; omega
    have heach := okG_each size l 0 (by omega) s3
    have HEach := Lib.hid (fun i (hi : i < n) => (by
      have hil : i < l.length := by have := HN.out; omega
      have := heach _ (List.getElem_mem hil)
      have e : l.getD i (0, []) = l[i] := by simp [List.getD, hil]
      rw [e]
      omega : 0 ≤ (l.getD i (0, [])).1 ∧ (l.getD i (0, [])).1 + ((l.getD i (0, [])).2.length : Int) ≤ size))
    have HLl := Lib.hid (fun i => (by
      have := linesM_len (l.take i) (fun p hp => by have := heach p (List.mem_of_mem_take hp); omega)
      rw [List.length_take] at this
      have hnl := HN.out
      omega : (linesM (l.take i)).length ≤ 28000))
    have HDl := Lib.hid (fun i => (by
      rw [data_len]
      have := sumS_take_le l i
      have := HSum.out
      omega : (dataB (l.take i)).length ≤ 1000000))
    have HSt := Lib.hid (fun i (hi : i < n) => linesM_take l i (by have := HN.out; omega))
    have HDt := Lib.hid (fun i (hi : i < n) => dataM_take l i (by have := HN.out; omega))
    have HEnd := Lib.hid (ends_last size l)
    have HT := Lib.hid hok3
    have HDig := Lib.hid (fun (z : Int) (W : World) (h0 : 0 ≤ z) (h1 : z ≤ 1099511627776) => rDigits_any z W (by omega) (by omega))
    have HI := Lib.hid (fun (z : Int) (h0 : 0 ≤ z) (h1 : z ≤ 1099511627776) => itoa_13 z h0 h1)
    clear hok3 HOk heach s2 s3
    have HHead := Lib.hid (head_len size l (by have h := HLl.out n; rw [HN.out, List.take_length] at h; exact h) s0 s1 (by have := HN.out; omega))
    go_wp2
    go_loopw [7, 8, 9] (fun v7 v8 v9 wr => ∃ (i : Nat) (s d : List UInt8), v7 = .string (strB s) ∧ v8 = .string (strB d) ∧ v9 = .int .i64 (i : Int) ∧ i ≤ n ∧ Hid (s = linesM (l.take i)) ∧ Hid (d = dataB (l.take i)) ∧ Hid (Kept NoB w wr)) (fun _ _ v9 _ => n - (RowKit.intOf v9).toNat)
    case atStart => exact ⟨0, [], [], rfl, rfl, rfl, by omega, Lib.hid rfl, Lib.hid rfl, HK1⟩
    case round =>
      obtain ⟨i, s, d, rfl, rfl, rfl, hi, HS, HD, HK⟩ := hrel
      have hsl := HLl.out i
      have hdl := HDl.out i
      rw [← HS.out] at hsl
      rw [← HD.out] at hdl
      by_cases hlt : (i : Int) < (n : Int)
      · have hin : i < n := by omega
        have hil : i < l.length := by rw [← HN.out]; exact hin
        obtain ⟨b, off, bo, bc', rfl, hb, c0, c1, hrd, hbn, hbc, _⟩ := HR.out i hil
        have d0 := HK.out.cell c0
        have d1 := HK.out.cell c1
        have hrd3 := hrd.keptNo HK.out
        obtain ⟨he1, he2⟩ := HEach.out i hin
        have hst := HSt.out i hin
        have hdt := HDt.out i hin
        have hdl2 := HDl.out (i + 1)
        rw [← HS.out] at hst
        rw [← HD.out] at hdt
        rw [show off + (i * 2 + 1) = off + i * 2 + 1 by omega] at d1
        obtain ⟨p, hp⟩ : ∃ p, p = l.getD i (0, []) := ⟨_, rfl⟩
        rw [← hp] at d0 d1 hrd3 he1 he2 hst hdt
        obtain ⟨z, hz⟩ : ∃ z, z = p.1 := ⟨_, rfl⟩
        obtain ⟨M, hM⟩ : ∃ M, M = p.2 := ⟨_, rfl⟩
        rw [← hz] at d0 he1 he2 hst
        rw [← hM] at d1 hrd3 he2 hst hdt
        obtain ⟨k, hk⟩ : ∃ k, k = M.length := ⟨_, rfl⟩
        rw [← hk] at d1 he2 hst
        rw [hdt] at hdl2
        rw [List.length_append, ← hk] at hdl2
        have hz2 : z ≤ 1099511627776 := by omega
        have hk2 : (k : Int) ≤ 1099511627776 := by omega
        have hg1 := fun W => HDig.out z W he1 hz2
        have hg2 := fun W => HDig.out (k : Int) W (by omega) hk2
        have hi1 := HI.out z he1 hz2
        have hi2 := HI.out (k : Int) (by omega) hk2
        obtain ⟨x, hx⟩ : ∃ x, x = itoa z := ⟨_, rfl⟩
        obtain ⟨y, hy⟩ : ∃ y, y = itoa (k : Int) := ⟨_, rfl⟩
        rw [← hx] at hg1 hi1 hst
        rw [← hy] at hg2 hi2 hst
        obtain ⟨S, hS⟩ : ∃ S, S = strB s := ⟨_, rfl⟩
        obtain ⟨X, hX⟩ : ∃ X : ByteArray, X = ⟨x.toArray⟩ := ⟨_, rfl⟩
        obtain ⟨Y, hY⟩ : ∃ Y : ByteArray, Y = ⟨y.toArray⟩ := ⟨_, rfl⟩
        have hX2 : X = strB x := hX
        have hY2 : Y = strB y := hY
        have b0 : (⟨#[10]⟩ : ByteArray).size = 1 := rfl
        have b1 : S.size ≤ 28000 := by rw [hS, strB_size]; exact hsl
        have b2 : X.size ≤ 13 := by rw [hX2, strB_size]; exact hi1
        have b3 : Y.size ≤ 13 := by rw [hY2, strB_size]; exact hi2
        have b4 : (S ++ X).size ≤ 30000 := by rw [ByteArray.size_append]; omega
        have b5 : (S ++ X ++ ⟨#[10]⟩).size ≤ 30001 := by rw [ByteArray.size_append, b0]; omega
        have b6 : (S ++ X ++ ⟨#[10]⟩ ++ Y).size ≤ 30020 := by rw [ByteArray.size_append]; omega
        have a1 := fun W => run_string_add_sum (P := Tryd.prog) W S X (by omega)
        have a2 := fun W => run_string_add_sum (P := Tryd.prog) W (S ++ X) ⟨#[10]⟩ (by omega)
        have a3 := fun W => run_string_add_sum (P := Tryd.prog) W (S ++ X ++ ⟨#[10]⟩) Y (by omega)
        have a4 := fun W => run_string_add_sum (P := Tryd.prog) W (S ++ X ++ ⟨#[10]⟩ ++ Y) ⟨#[10]⟩ (by omega)
        have HSt2 : Hid (S ++ X ++ ⟨#[10]⟩ ++ Y ++ ⟨#[10]⟩ = strB (linesM (l.take (i + 1)))) := Lib.hid (by
          rw [hst, hS, hX2, hY2, show (⟨#[10]⟩ : ByteArray) = strB [10] from rfl, strB_app, strB_app, strB_app, strB_app])
        have c1b : (strB d).size ≤ 1000000 := by rw [strB_size]; exact hdl
        have c2b : (strB M).size ≤ 1000000 := by rw [strB_size]; omega
        have a5 := fun W => run_string_add_sum (P := Tryd.prog) W (strB d) (strB M) (by omega)
        have HDt2 : Hid (strB d ++ strB M = strB (dataB (l.take (i + 1)))) := Lib.hid (by rw [hdt, strB_app])
        have HRd := Lib.hid hrd3; have HBn := Lib.hid hbn
        have hcv : ∀ W, Kept NoB wr W → (convert 26 9 (.slice bo k bc')).run Tryd.prog W = .ok (.string (strB M)) W := fun W hk3 => by
          rw [← nb_str]
          exact conv_reads (HRd.out.kept hk3 (fun _ _ h => h)) (by rw [nb_len]; exact hk) HBn.out
        have HCv := Lib.hid hcv
        rw [← hX] at hg1
        rw [← hY] at hg2
        have HG1 := Lib.hid hg1; have HG2 := Lib.hid hg2
        rw [← hS]
        clear c0 c1 hrd hrd3 hbn hil hp hz hM hst hdt hx hy hS hX hY hX2 hY2 hcv hg1 hg2 hk
        go_upto_region 7 with fail
        go_quiet (first
          | (go_at_call 10; with_reducible exact Calls.quiet_of_same ((HG1.out _).mono fun _ _ h => ⟨h.1, h.2.symm⟩))
          | (go_at_call 10; with_reducible exact Calls.quiet_of_same ((HG2.out _).mono fun _ _ h => ⟨h.1, h.2.symm⟩)))
        rw [HSt2.out]
        have hcv := HCv.out _ ((Kept.refl NoB wr).drewN nq)
        have hd1 : (wr.drewN nq).cell? ⟨b, off + i * 2 + 1, none⟩ = some (.slice bo k bc') := d1
        have HK2 := Lib.hid (HK.out.drewN nq)
        obtain ⟨wq, hwq⟩ : ∃ wq, wq = wr.drewN nq := ⟨_, rfl⟩
        obtain ⟨LN, hLN⟩ : ∃ LN, LN = linesM (l.take (i + 1)) := ⟨_, rfl⟩
        have HLN := Lib.hid hLN
        rw [← hwq] at hcv hd1 HK2 ⊢
        rw [← hLN]
        clear d0 d1 hwq a1 a2 a3 a4 b0 b1 b2 b3 b4 b5 b6 hLN
        go_wp2
        have HDt3 := Lib.hid HDt2.out
        rw [HDt2.out]
        obtain ⟨DN, hDN⟩ : ∃ DN, DN = dataB (l.take (i + 1)) := ⟨_, rfl⟩
        have HDN := Lib.hid hDN
        rw [← hDN]
        clear a5 hDN
        go_wp2
        go_roundw
        case rel => exact ⟨i + 1, LN, DN, rfl, rfl, by go_num, by omega, HLN, HDN, HK2⟩
        case measure => simp [RowKit.intOf]; omega
      · have hie : i = n := by omega
        have hsL : Hid (s = linesM l) := Lib.hid (by
          have h := HS.out
          rw [hie, HN.out, List.take_length] at h
          exact h)
        have hdL : Hid (d = dataB l) := Lib.hid (by
          have h := HD.out
          rw [hie, HN.out, List.take_length] at h
          exact h)
        obtain ⟨eb, heb⟩ : ∃ eb, eb = endsS size l := ⟨_, rfl⟩
        have HEb := Lib.hid heb
        clear heb hie
        go_upto_region 9 with fail
        go_cut [67] from 48 to 67 (fun v67 wx => v67 = .bool (!eb) ∧ Kept NoB wr wx)
        case first =>
          by_cases hn0 : n = 0
          · have y1 : ((n : Int) == 0) = true := by rw [hn0]; rfl
            have hf : Hid (eb = false) := Lib.hid (by rw [HEb.out]; exact ends_none size l (by have := HN.out; omega))
            clear hn0
            go_quiet (fail)
            go_wp2
            go_meet
            exact ⟨by rw [hf.out]; rfl, (Kept.refl NoB wr).drewN _⟩
          · have y1 : ((n : Int) == 0) = false := by simp; omega
            obtain ⟨m, hm⟩ : ∃ m, m = n - 1 := ⟨_, rfl⟩
            have hmn : m < n := by omega
            obtain ⟨b, off, bo, bc', rfl, hb, c0, c1, _, _, c2, c3⟩ := HR.out m (by have := HN.out; omega)
            have d0 := HK.out.cell c0
            have d1 := HK.out.cell c1
            obtain ⟨he1, he2⟩ := HEach.out m hmn
            have heq := HEnd.out n HN.out (by omega)
            rw [← hm, ← HEb.out] at heq
            rw [show off + (m * 2 + 1) = off + m * 2 + 1 by omega] at d1
            obtain ⟨z, hz⟩ : ∃ z, z = (l.getD m (0, [])).1 := ⟨_, rfl⟩
            obtain ⟨k, hk⟩ : ∃ k, k = (l.getD m (0, [])).2.length := ⟨_, rfl⟩
            rw [← hz] at d0 he1 he2 heq
            rw [← hk] at d1 he2 heq c2
            have hkb : k ≤ 9223372036854775807 := by unfold maxLen at c3; omega
            have hmi : (n : Int) - 1 = (m : Int) := by omega
            have hw1 : IntKind.i64.wrap ((n : Int) - 1) = (m : Int) := by rw [hmi]; exact IntWalk.i64_in _ (by omega)
            have hw2 : IntKind.i64.wrap (z + (k : Int)) = z + (k : Int) := IntWalk.i64_in _ (by omega)
            have hmn2 : (m : Int) < (n : Int) := by omega
            have HEq := Lib.hid heq
            have hdd : decide ((n : Int) = 0) = false := decide_eq_false (by omega)
            clear c0 c1 c2 c3 hz hk heq hm hn0 hmi
            by_cases hzz : z + (k : Int) = size
            · have hf : Hid (eb = true) := Lib.hid (by rw [HEq.out]; exact decide_eq_true hzz)
              have y2 : (z + (k : Int) == size) = true := by simp [hzz]
              have y3 : (z + (k : Int) != size) = false := by simp [hzz]
              clear hzz
              go_quiet (fail)
              go_wp2
              go_meet
              exact ⟨by rw [hf.out]; rfl, (Kept.refl NoB wr).drewN _⟩
            · have hf : Hid (eb = false) := Lib.hid (by rw [HEq.out]; exact decide_eq_false hzz)
              have y2 : (z + (k : Int) == size) = false := by simp [hzz]
              have y3 : (z + (k : Int) != size) = true := by simp [hzz]
              clear hzz
              go_quiet (fail)
              go_wp2
              go_meet
              exact ⟨by rw [hf.out]; rfl, (Kept.refl NoB wr).drewN _⟩
        case rest =>
        obtain ⟨rfl, hkx⟩ := hcut
        have HKx := Lib.hid (HK.out.trans hkx)
        clear hkx
        obtain ⟨cnt, hcnt⟩ : ∃ cnt, cnt = (spansS size l).length := ⟨_, rfl⟩
        obtain ⟨A, hA⟩ : ∃ A, A = (spansS size l).flatMap spanB := ⟨_, rfl⟩
        have hlines := spans_lines size l
        have hsp : cnt = n + (if endsS size l then 0 else 1) := by
          rw [hcnt, spansS, List.length_append, List.length_map, ← HN.out]
          split <;> simp
        rw [← hA, ← hsL.out, ← HEb.out] at hlines
        rw [← HEb.out] at hsp
        have HCnt := Lib.hid hcnt; have HA := Lib.hid hA; have HLines := Lib.hid hlines
        have hAl := HHead.out.1
        rw [← hA] at hAl
        have hcb : cnt ≤ 1001 := by rw [hsp]; split <;> omega
        clear hcnt hA hlines
        go_upto_if 67 with fail
        go_cut [6, 7] from 67 to 74 (fun v6 v7 wx => v6 = .int .i64 (cnt : Int) ∧ v7 = .string (strB A) ∧ Kept NoB wc wx)
        case first =>
          cases eb with
          | true =>
            have hX : Hid (cnt = n ∧ A = s) := Lib.hid ⟨by simpa using hsp, by simpa using HLines.out⟩
            clear hsp
            go_wp2
            go_meet
            exact ⟨by rw [hX.out.1], by rw [hX.out.2], Kept.refl NoB wc⟩
          | false =>
            have hX : Hid (cnt = n + 1 ∧ A = s ++ itoa size ++ [10, 48, 10]) := Lib.hid ⟨by simpa using hsp, by
              have h := HLines.out
              rw [h]
              have h0 : itoa 0 = [48] := by kernel_rfl
              simp [lineB, h0]⟩
            have hg := fun W => HDig.out size W s0 s1
            have hgl := HI.out size s0 s1
            obtain ⟨x, hx⟩ : ∃ x, x = itoa size := ⟨_, rfl⟩
            rw [← hx] at hg hgl hX
            have hg2 : ∀ W, Calls Tryd.prog 10 #[.int .i64 size] W fun e w' => e = .returned (.string (strB x)) ∧ W = w' := hg
            have b0 : (⟨#[10, 48, 10]⟩ : ByteArray).size = 3 := rfl
            have b1 : (strB s).size ≤ 28000 := by rw [strB_size]; exact hsl
            have b2 : (strB x).size ≤ 13 := by rw [strB_size]; exact hgl
            have b3 : (strB s ++ strB x).size ≤ 30000 := by rw [ByteArray.size_append]; omega
            have a1 := fun W => run_string_add_sum (P := Tryd.prog) W (strB s) (strB x) (by omega)
            have a2 := fun W => run_string_add_sum (P := Tryd.prog) W (strB s ++ strB x) ⟨#[10, 48, 10]⟩ (by omega)
            have HY : Hid (strB s ++ strB x ++ ⟨#[10, 48, 10]⟩ = strB A) := Lib.hid (by
              rw [hX.out.2, show (⟨#[10, 48, 10]⟩ : ByteArray) = strB [10, 48, 10] from rfl, strB_app, strB_app])
            have HG := Lib.hid hg2
            clear hsp hg hg2 hx
            go_wp2_with fail
            with_reducible refine (HG.out _).mono ?_
            rintro e w3 ⟨rfl, rfl⟩
            go_wp2
            go_meet
            exact ⟨by rw [hX.out.1]; go_num, by rw [← HY.out], Kept.refl NoB wc⟩
        case rest =>
        obtain ⟨rfl, rfl, hkx⟩ := hcut
        have HKy := Lib.hid (HKx.out.trans hkx)
        clear hkx hsp
        obtain ⟨H, hH⟩ : ∃ H, H = headB size l := ⟨_, rfl⟩
        have hHh : H = itoa (cnt : Int) ++ [10] ++ A := by rw [hH, headB, ← HCnt.out, ← HA.out]; simp [lineB]
        have hHl := HHead.out.2
        rw [← hH] at hHl
        have HH := Lib.hid hH
        have hmap : mapB size l = H ++ List.replicate (padN H.length) 0 ++ d := by rw [mapB, ← hH, ← hdL.out]
        have hg := fun W => HDig.out (cnt : Int) W (by omega) (by omega)
        have hgl := HI.out (cnt : Int) (by omega) (by omega)
        obtain ⟨x, hx⟩ : ∃ x, x = itoa (cnt : Int) := ⟨_, rfl⟩
        rw [← hx] at hg hgl hHh
        have hg2 : ∀ W, Calls Tryd.prog 10 #[.int .i64 (cnt : Int)] W fun e w' => e = .returned (.string (strB x)) ∧ W = w' := hg
        have b0 : (⟨#[10]⟩ : ByteArray).size = 1 := rfl
        have b1 : (strB A).size ≤ 28100 := by rw [strB_size]; exact hAl
        have b2 : (strB x).size ≤ 13 := by rw [strB_size]; exact hgl
        have b3 : (strB x ++ ⟨#[10]⟩).size ≤ 14 := by rw [ByteArray.size_append]; omega
        have a1 := fun W => run_string_add_sum (P := Tryd.prog) W (strB x) ⟨#[10]⟩ (by omega)
        have a2 := fun W => run_string_add_sum (P := Tryd.prog) W (strB x ++ ⟨#[10]⟩) (strB A) (by omega)
        have HY : Hid (strB x ++ ⟨#[10]⟩ ++ strB A = strB H) := Lib.hid (by
          rw [hHh, show (⟨#[10]⟩ : ByteArray) = strB [10] from rfl, strB_app, strB_app])
        have hsm : ((strB x).size : Int) + 1 + ((strB A).size : Int) = (H.length : Int) := by
          rw [strB_size, strB_size, hHh]
          simp only [List.length_append, List.length_cons, List.length_nil]
          omega
        have HSm := Lib.hid hsm
        have HG := Lib.hid hg2; have HMap := Lib.hid hmap
        clear hg hg2 hx hHh hH hmap hsm
        go_wp2_with fail
        with_reducible refine (HG.out _).mono ?_
        rintro e w3 ⟨rfl, rfl⟩
        go_wp2_with fail
        rw [HY.out, HSm.out]
        clear a1 a2 b0 b1 b2 b3
        obtain ⟨m, hm⟩ : ∃ m, m = H.length := ⟨_, rfl⟩
        have hsz : (strB H).size = m := by rw [strB_size, hm]
        rw [← hm] at hHl ⊢
        have HP := Lib.hid (fun W => rpad_any m W (by omega))
        have HMap2 := HMap.out
        rw [← hm] at HMap2
        obtain ⟨pd, hpd⟩ : ∃ pd, pd = padN m := ⟨_, rfl⟩
        have hpdb : pd ≤ 512 := by rw [hpd, padN]; omega
        rw [← hpd] at HP HMap2
        have hnt := fun W => rnoughts_any (pd : Int) W (by omega) (by omega)
        rw [Int.toNat_natCast] at hnt
        obtain ⟨z, hz⟩ : ∃ z, z = List.replicate pd (0 : UInt8) := ⟨_, rfl⟩
        have hzl : z.length ≤ 512 := by rw [hz, List.length_replicate]; exact hpdb
        rw [← hz] at hnt HMap2
        have HNt := Lib.hid hnt
        have b1 : (strB H).size ≤ 28200 := by omega
        have b2 : (strB z).size ≤ 512 := by rw [strB_size]; exact hzl
        have b3 : (strB d).size ≤ 1000000 := by rw [strB_size]; exact hdl
        have b4 : (strB H ++ strB z).size ≤ 30000 := by rw [ByteArray.size_append]; omega
        have a1 := fun W => run_string_add_sum (P := Tryd.prog) W (strB H) (strB z) (by omega)
        have a2 := fun W => run_string_add_sum (P := Tryd.prog) W (strB H ++ strB z) (strB d) (by omega)
        have HY2 : Hid (strB H ++ strB z ++ strB d = strB (mapB size l)) := Lib.hid (by rw [HMap2, strB_app, strB_app])
        clear hm hpd hz hnt HMap2
        go_wp2_with fail
        with_reducible refine (HP.out _).mono ?_
        rintro e w4 ⟨rfl, rfl⟩
        go_wp2_with fail
        with_reducible refine (HNt.out _).mono ?_
        rintro e w5 ⟨rfl, hk5⟩
        have HK5 := Lib.hid (HKy.out.trans hk5)
        clear hk5
        go_wp2
        go_ret2
        exact ⟨.inr ⟨HT.out, by rw [← HY2.out]; rfl⟩, HK5.out⟩
end Go.Proofs.YtbambcondcikbaaDoor
