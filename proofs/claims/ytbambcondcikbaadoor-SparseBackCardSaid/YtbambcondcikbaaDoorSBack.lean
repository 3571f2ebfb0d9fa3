/-
  SparseBack: holes stay holes, and bytes where they were, there and back.
-/
import Derived.Test.YtbambcondcikbaaDoorTameW
import Derived.Test.YtbambcondcikbaaDoorAwakeS
namespace Go.Proofs.YtbambcondcikbaaDoor
open Go.RowKit
set_option linter.unusedVariables false
set_option linter.unusedSimpArgs false

/-- One byte of an own row is changed. -/
theorem by_set {w0 w : World} {g l c : Nat} {L : List UInt8} (h : BySt w0 w (some ⟨g, 0, none⟩) l c L) (j : Nat) (hj : j < L.length) (z : UInt8) :
    w.frozen? ⟨g, j, none⟩ = false ∧ BySt w0 (w.setCell ⟨g, j, none⟩ (.int .u8 (z.toNat : Int))) (some ⟨g, 0, none⟩) l c (L.set j z) := by
  have hfz : w.frozen? ⟨g, j, none⟩ = false := h.own.frozenAt _
  refine ⟨hfz, by rw [List.length_set]; exact h.len, ?_, ?_, h.fresh⟩
  · have := (h.own.stored j (.int .u8 (z.toNat : Int))).1
    have e : bc (L.set j z) = (bc L).set j (.int .u8 (z.toNat : Int)) := by simp [bc, List.map_set]
    rw [e]
    exact this
  · exact Kept.setCell (p := ⟨g, j, none⟩) h.kept (.inr (h.fresh g rfl)) _
theorem pc_at {w0 w : World} {a : Option Addr} {l c : Nat} {qs : List PcQ} (h : PcSt w0 w a l c qs) (hl : 0 < qs.length) : ∃ g, a = some ⟨g, 0, none⟩ := by
  rcases h.own.2 with ⟨_, hz⟩ | ⟨g, cc, cur, hv, _⟩
  · have := h.len; omega
  · simp at hv
    exact ⟨g, hv.1⟩

set_option maxRecDepth 100000 in
set_option maxHeartbeats 16000000 in
theorem sparseBack_walk (ao : Option Addr) (n cap : Nat) (raw : List Pc) (size : Int) (w : World) (h0 : -9223372036854775808 ≤ size) (h1 : size ≤ 9223372036854775807) (hn : n = raw.length) (hr : RdP w w.heap.size ao raw) (hi : IntP raw) (hc : n ≤ cap) (hcm : cap ≤ maxLen) (htab : Pow10 w) (herr : ErrVars w) :
    Calls Tryd.prog 6 #[.slice ao n cap, .int .i64 size] w fun e w' => e = .returned (.bool true) ∧ Below w.heap.size w w' := by
  have HT := Lib.hid htab; have HE := Lib.hid herr
  have HFew := Lib.hid (few_any ao n cap raw w hn hr hc hcm)
  have HTam : Hid (∀ W, Kept NoB w W → Calls Tryd.prog 20 #[.slice ao n cap, .int .i64 size] W (TamR W raw size)) := Lib.hid (fun W h => tame_any ao n cap raw size W hn ((hr.kept h).room h.size) hi hc hcm h0 h1)
  have HAw : Hid (∀ W, Kept NoB w W → Calls Tryd.prog 17 #[] W fun e w' => e = .returned (.bool true) ∧ Kept NoB W w') := Lib.hid (fun W hk => awake19 W (HT.out.keptNo hk) (HE.out.keptNo hk))
  obtain ⟨hok, hz0, hz1, hl12, hsum, hint⟩ := tame_ok raw size
  obtain ⟨l, hl⟩ : ∃ l, l = tmL raw := ⟨_, rfl⟩
  obtain ⟨N, hN⟩ : ∃ N : Nat, tmZ raw size = (N : Int) := ⟨(tmZ raw size).toNat, by omega⟩
  have HTr : Hid (∀ W e w', TamR W raw size e w' → ∃ (qs : List PcQ) (a : Option Addr) (m c : Nat), m = qs.length ∧ e = .returned (.tuple #[.slice a m c, .int .i64 (N : Int)]) ∧ qs.map Prod.fst = l ∧ PcSt W w' a m c qs) := Lib.hid (fun W e w' ⟨qs, a, c, g1, g2, g3⟩ => ⟨qs, a, _, c, rfl, by rw [g1, hN], by rw [g2, hl], g3⟩)
  rw [hN] at hok hz1
  rw [← hl] at hok hl12 hsum hint
  have hN2 : N ≤ 20000 := by omega
  have HOk := Lib.hid hok; have HInt := Lib.hid hint; have HSum := Lib.hid hsum; have HL12 := Lib.hid hl12
  clear hl hN hok hz0 hz1 hl12 hsum hint htab herr hn hr hi hc hcm h0 h1
  obtain ⟨fw, hfw⟩ : ∃ fw, fw = fewS raw := ⟨_, rfl⟩
  rw [← hfw] at HFew
  clear hfw
  go_enter Tryd.func6, Tryd.ntmps6
  go_wp2_with fail
  with_reducible refine HFew.out.mono ?_
  rintro e w1 ⟨rfl, hk1⟩
  have HK1 := Lib.hid hk1
  clear hk1
  cases fw with
  | false =>
    go_wp2_with fail
    with_reducible refine (HAw.out _ HK1.out).mono ?_
    rintro e w2 ⟨rfl, hk2⟩
    have HK2 := Lib.hid (HK1.out.trans hk2)
    clear hk2
    go_wp2
    go_ret
    exact ⟨rfl, kept_b HK2.out⟩
  | true =>
    go_wp2_with fail
    with_reducible refine (HTam.out _ HK1.out).mono ?_
    intro e w2 hT2
    obtain ⟨qs, a2, m, c2, hm, rfl, hql, hP2⟩ := HTr.out _ _ _ hT2
    clear hT2
    have hml : m = l.length := by rw [hm, ← hql, List.length_map]
    have hm12 : m ≤ 12 := by rw [hml]; exact HL12.out
    have hcap := hP2.cap
    have hrd : RdP w2 w2.heap.size a2 l := by rw [← hql]; exact hP2.reads
    have HP2 := Lib.hid hP2; have HRd := Lib.hid hrd; have HMl := Lib.hid hml
    have HK2 := Lib.hid (HK1.out.trans hP2.kept)
    have hok := HOk.out
    have HEn := Lib.hid (spenc_any (N : Int) a2 m c2 l w2 (by omega) (by omega) hml hrd HInt.out hcap.1 hcap.2 (by have := HSum.out; omega) (HT.out.keptNo HK2.out))
    have HDe : Hid (∀ W, Kept NoB w2 W → Calls Tryd.prog 14 #[.int .i64 (N : Int), .slice a2 m c2] W (DenA W (N : Int) l)) := Lib.hid (fun W h => dense_any (N : Int) a2 m c2 l W (by omega) (by omega) hml ((hrd.kept h).room h.size) HInt.out hcap.1 hcap.2)
    have HOkc : Hid (∀ W, Kept NoB w2 W → Calls Tryd.prog 15 #[.int .i64 (N : Int), .slice a2 m c2] W fun e w' => e = .returned (.bool true) ∧ Kept NoB W w') := Lib.hid (fun W h => by
      rw [← hok]
      exact spok_any (N : Int) a2 m c2 l W (by omega) (by omega) hml ((hrd.kept h).room h.size) HInt.out hcap.1 hcap.2)
    have HHo : Hid (∀ W, Kept NoB w2 W → Calls Tryd.prog 16 #[.int .i64 (N : Int), .slice a2 m c2] W fun e w' => e = .returned (.bool (decide ((sumS l : Int) < (N : Int)))) ∧ Kept NoB W w') := Lib.hid (fun W h => by
      have h2 := holes_any (N : Int) a2 m c2 l W (by omega) (by omega) hml ((hrd.kept h).room h.size) HInt.out hcap.1 hcap.2
      have e : holesS (N : Int) l = decide ((sumS l : Int) < (N : Int)) := by rw [holesS, hok]; rfl
      rw [e] at h2
      exact h2)
    have HSm : Hid (∀ W (b5 : Option Addr) (m5 c5 : Nat), Kept NoB w2 W → m5 = l.length → RdP W W.heap.size b5 l → Calls Tryd.prog 26 #[.slice b5 m5 c5, .slice a2 m c2] W fun e w' => e = .returned (.bool true) ∧ Kept NoB W w') := Lib.hid (fun W b5 m5 c5 h hm5 hr5 => by
      have h2 := samePc_any b5 m5 c5 l a2 m c2 l W hm5 hml hr5 ((hrd.kept h).room h.size) (by rw [hm5]; have := HL12.out; omega) (by omega)
      rw [decide_eq_true rfl] at h2
      exact h2)
    have hmap := map_len (N : Int) l hok
    have hdy := dec_yes (N : Int) l hok
    obtain ⟨M, hM⟩ : ∃ M, M = mapB (N : Int) l := ⟨_, rfl⟩
    have hM0 : M ≠ [] := by
      intro e
      rw [hM] at e
      have := congrArg List.length e
      simp [mapB, headB, lineB] at this
    have HM := Lib.hid hM
    rw [← hM] at hmap hdy
    have HDy := Lib.hid hdy
    have hmap2 : M.length ≤ 51000 := by have := HSum.out; omega
    clear hm hql hml hcap hP2 hrd hok hM hmap hdy
    go_wp2_with fail
    with_reducible refine HEn.out.mono ?_
    rintro e w4 (⟨hno, _⟩ | ⟨a4, c4, _, rfl, hB⟩)
    · rw [HOk.out] at hno; cases hno
    rw [← HM.out] at hB ⊢
    obtain ⟨g4, rfl⟩ := hB.some hM0
    obtain ⟨ml, hmll⟩ : ∃ ml, ml = M.length := ⟨_, rfl⟩
    rw [← hmll] at hB ⊢
    have HB4 := Lib.hid hB
    have HK4 := Lib.hid hB.kept
    have HDec := Lib.hid (spdec_any (N : Int) g4 0 ml c4 M w4 (by omega) (by omega) hmll hB.reads hB.cap.1 hB.cap.2.1 (by omega) (HT.out.keptNo (HK2.out.trans HK4.out)) (HE.out.keptNo (HK2.out.trans HK4.out)))
    clear hB hM0 hmll
    go_wp2_with fail
    with_reducible refine HDec.out.mono ?_
    rintro e w5 (⟨hno, _⟩ | ⟨q5, a5, c5, hyes, rfl, hP5⟩)
    · rw [HDy.out] at hno; cases hno
    rw [HDy.out] at hyes
    have hq5 : l = q5.map Prod.fst := Option.some.inj hyes
    obtain ⟨m5, hm5⟩ : ∃ m5, m5 = q5.length := ⟨_, rfl⟩
    rw [← hm5] at hP5 ⊢
    have HR5 : Hid (RdP w5 w5.heap.size a5 l ∧ m5 = l.length) := Lib.hid ⟨by rw [hq5]; exact hP5.reads, by rw [hm5, hq5, List.length_map]⟩
    have HK5 := Lib.hid (HK4.out.trans hP5.kept)
    clear hyes hq5 hm5 hP5
    go_wp2_with fail
    with_reducible refine (HDe.out _ HK5.out).mono ?_
    rintro e w6 (⟨hno, _⟩ | ⟨g6, N6, _, hN6, rfl, hH6, hf6, hk6⟩)
    · have : decide ((N : Int) ≤ 1048576) = true := decide_eq_true (by omega)
      rw [HOk.out, this] at hno; cases hno
    have hN6' : N = N6 := by omega
    subst hN6'
    have HH6 := Lib.hid hH6; have HF6 := Lib.hid hf6
    have HK6 := Lib.hid (HK5.out.trans hk6)
    have HR6 := Lib.hid ((HR5.out.1.kept hk6).room hk6.size)
    clear hH6 hf6 hk6 hN6
    have hself : ((N : Int) == (N : Int)) = true := by simp
    go_wp2_with fail
    with_reducible refine (HSm.out _ a5 m5 c5 HK6.out HR5.out.2 HR6.out).mono ?_
    rintro e w7 ⟨rfl, hk7⟩
    have HJ7 := Lib.hid hk7
    have HK7 := Lib.hid (HK6.out.trans hk7)
    clear hk7
    go_wp2_with fail
    with_reducible refine (HOkc.out _ HK7.out).mono ?_
    rintro e w8 ⟨rfl, hk8⟩
    have HJ8 := Lib.hid (HJ7.out.trans hk8)
    have HK8 := Lib.hid (HK7.out.trans hk8)
    clear hk8
    have hB0 := by_empty (Kept.refl NoB w8)
    have hrd8 : Reads (w8.alloc (.cells #[] 5)) (some ⟨g6, 0, none⟩) (nb (denS N l)) := by
      have h := lit_reads (bs := nb (denS N l)) (t := 5) (fr := (0, 0)) (g := g6) HH6.out (by rw [← bc_nb])
      exact h.keptNo (HJ8.out.alloc _)
    have hbd := ok_bd HOk.out (rfl : (N : Int) = (N : Int))
    have hdl : N = (denS N l).length := by have := denT_len l N hbd l.length; rw [List.take_length] at this; exact this.symm
    have HB0 := Lib.hid hB0; have HRd8 := Lib.hid hrd8; have HDl := Lib.hid hdl; have HBd := Lib.hid hbd
    clear hB0 hrd8 hdl hbd
    go_wp2_with (at_builtin; refine wpList_by_row rfl (.tmp 73) (.tmp 74) rfl HB0.out rfl ⟨g6, 0, none⟩ N N (denS N l) HDl.out rfl HRd8.out (by omega) ?_)
    intro a9 c9 w9 hB9
    (try rw [Nat.zero_add] at hB9)
    (try rw [List.nil_append] at hB9)
    (try rw [Nat.zero_add])
    have HB9 := Lib.hid hB9
    clear hB9
    have HZl := Lib.hid (fun i (hi : i ≤ l.length) => zer_len l N HBd.out i hi)
    obtain ⟨T, hT⟩ : ∃ T, T = sumS l := ⟨_, rfl⟩
    have HTt := Lib.hid hT
    have HTle : Hid (∀ i, sumS (l.take i) ≤ T) := Lib.hid (fun i => by rw [hT]; exact sum_take_le l i)
    have hT720 : T ≤ 720 := by rw [hT]; exact HSum.out
    rw [← hT] at HHo
    clear hT
    go_wp2
    go_loopw [14, 15] (fun v14 v15 wr => ∃ (i s : Nat), v14 = .int .i64 (s : Int) ∧ v15 = .int .i64 (i : Int) ∧ i ≤ m ∧ s ≤ T ∧ Hid (s = sumS (l.take i)) ∧ Hid (BySt w8 wr a9 N c9 (zerS N l i))) (fun _ v15 _ => m - (intOf v15).toNat)
    case atStart => exact ⟨0, 0, rfl, rfl, by omega, by omega, Lib.hid (by simp [sumS]), HB9⟩
    case round =>
      obtain ⟨i, s, rfl, rfl, hi, hs, HSs, HBr⟩ := hrel
      by_cases hlt : (i : Int) < (m : Int)
      · have hil : i < l.length := by have := HMl.out; omega
        have HKr := Lib.hid (HK8.out.trans HBr.out.kept)
        obtain ⟨b, off, bo, bc0, rfl, hb, c0, c1, c4, c5, c6, c7⟩ := HRd.out i hil
        have hbdi := HBd.out i hil
        have hdat := den_at (N : Int) l N HOk.out rfl i hil
        have hsi := sumS_take l i hil
        have hsle := HTle.out (i + 1)
        have hpos : 0 < (l.getD i (0, [])).2.length := by
          have h := HOk.out
          simp only [okS, Bool.and_eq_true] at h
          have := okG_each (N : Int) l 0 (by omega) h.2 (l.getD i (0, [])) (by simp [List.getD, hil])
          cases hh : (l.getD i (0, [])).2 with
          | nil => exact absurd hh this.1
          | cons _ _ => simp
        obtain ⟨t, ht⟩ : ∃ t : Nat, (l.getD i (0, [])).1 = (t : Int) := ⟨(l.getD i (0, [])).1.toNat, by omega⟩
        rw [ht] at c0 hbdi hdat
        rw [Int.toNat_natCast] at hbdi hdat
        have hzi : zerS N l (i + 1) = splice (zerS N l i) t (List.replicate (l.getD i (0, [])).2.length 0) := by rw [zerS, ht, Int.toNat_natCast]
        rw [show off + (i * 2 + 1) = off + i * 2 + 1 by omega] at c1
        obtain ⟨B, hBB⟩ : ∃ B, B = (l.getD i (0, [])).2 := ⟨_, rfl⟩
        rw [← hBB] at c1 hbdi hdat c4 c6 hpos hzi hsi
        obtain ⟨k, hk⟩ : ∃ k, k = B.length := ⟨_, rfl⟩
        rw [← hk] at c1 hbdi hdat c6 hpos hzi hsi
        have HC4 := Lib.hid c4; have HC5 := Lib.hid c5; have HC7 := Lib.hid c7
        have HKb := Lib.hid hk; have HDat := Lib.hid hdat; have HZi := Lib.hid hzi; have HSi := Lib.hid hsi
        rw [hsi, ← HSs.out] at hsle
        have htk : t + k ≤ N := hbdi.1
        have d0 := HKr.out.cell c0
        have d1 := HKr.out.cell c1
        have HC01 := Lib.hid (⟨c0, c1⟩ : _ ∧ _)
        clear c0 c1 c4 c5 hbdi hdat ht hBB hk hzi hsi
        have hrdr := HRd8.out
        obtain ⟨S, hS⟩ : ∃ S, S = strB B := ⟨_, rfl⟩
        have v1 : ∀ j, (convert 26 9 (.slice (some ⟨g6, t, none⟩) k (N - t))).run Tryd.prog (wr.drewN j) = .ok (.string S) (wr.drewN j) := fun j => by
          have hrr : Reads (wr.drewN j) (some ⟨g6, 0, none⟩) (nb (denS N l)) := (lit_reads (bs := nb (denS N l)) (t := 5) (fr := (0, 0)) (g := g6) HH6.out (by rw [← bc_nb])).keptNo ((HJ8.out.trans HBr.out.kept).drewN j)
          have h2 := reads_take k (reads_drop t hrr)
          rw [addr_add, Nat.zero_add] at h2
          have e : ((nb (denS N l)).drop t).take k = nb B := by
            rw [← HDat.out]; simp [nb, List.map_take, List.map_drop]
          rw [e] at h2
          have h3 := conv_reads (n := k) (cap := N - t) h2 (by rw [nb_len]; exact HKb.out) (fun h => by cases h)
          rw [h3, nb_str, hS]
        have v2 : ∀ j, (convert 26 9 (.slice bo k bc0)).run Tryd.prog (wr.drewN j) = .ok (.string S) (wr.drewN j) := fun j => by
          have h3 := conv_reads (n := k) (cap := bc0) (HC4.out.keptNo (HKr.out.drewN j)) (by rw [nb_len]; exact HKb.out) HC5.out
          rw [h3, nb_str, hS]
        have hSS : (!S.toList == S.toList) = false := by simp
        have hw1 : IntKind.i64.wrap ((t : Int) + (k : Int)) = (t : Int) + (k : Int) := IntWalk.i64_in _ (by omega)
        obtain ⟨tk, htk2⟩ : ∃ tk : Nat, tk = t + k := ⟨_, rfl⟩
        have hw2 : IntKind.i64.wrap ((t : Int) + (k : Int)) = (tk : Int) := by rw [hw1]; omega
        have htk3 : tk ≤ N ∧ t < tk ∧ tk - t = k := by omega
        clear hS hw1 hrdr
        go_wp2_with fail
        go_quiet (fail)
        clear v1 v2 hw2 hSS
        have hX0 : (zerS N l i).length = N := HZl.out i (by omega)
        obtain ⟨X, hX⟩ : ∃ X, X = zerS N l i := ⟨_, rfl⟩
        rw [← hX] at HBr HZi hX0
        have hXne : X ≠ [] := by intro e; rw [e] at hX0; simp at hX0; omega
        obtain ⟨g9, rfl⟩ := HBr.out.some hXne
        have HX0 := Lib.hid hX0
        have HSt : Hid (BySt w8 wr (some ⟨g9, 0, none⟩) N c9 (splice X t (List.replicate 0 0))) := Lib.hid (by rw [zer_none]; exact HBr.out)
        have HZs := Lib.hid (fun j (hj : j < k) => zer_step X t j (by omega))
        have HC0 : Hid (∀ W, Kept NoB w8 W → W.cell? ⟨b, off + i * 2, none⟩ = some (.int .i64 (t : Int)) ∧ W.cell? ⟨b, off + i * 2 + 1, none⟩ = some (.slice bo k bc0)) := Lib.hid (fun W h => ⟨(HK8.out.trans h).cell HC01.out.1, (HK8.out.trans h).cell HC01.out.2⟩)
        clear hX hX0 hXne HBr d0 d1
        go_wp2
        go_loopw [16] (fun v16 wr => ∃ j : Nat, v16 = .int .i64 (j : Int) ∧ j ≤ k ∧ Hid (BySt w8 wr (some ⟨g9, 0, none⟩) N c9 (splice X t (List.replicate j 0)))) (fun v16 _ => k - (intOf v16).toNat)
        case atStart => exact ⟨0, rfl, by omega, Lib.hid (HSt.out.on ((Kept.refl NoB _).drewN _))⟩
        case round =>
          obtain ⟨j, rfl, hj, HBj⟩ := hrel
          obtain ⟨d0, d1⟩ := HC0.out wr HBj.out.kept
          by_cases hjk : (j : Int) < (k : Int)
          · have hLj : (splice X t (List.replicate j 0)).length = N := by rw [length_splice _ _ _ (by rw [HX0.out, List.length_replicate]; omega)]; exact HX0.out
            have hcz := by_cell HBj.out (t + j) (by rw [hLj]; omega)
            obtain ⟨hfz, hset⟩ := by_set HBj.out (t + j) (by rw [hLj]; omega) 0
            rw [HZs.out j (by omega)] at hset
            have HSet : Hid (BySt w8 (wr.setCell ⟨g9, t + j, none⟩ (.int .u8 0)) (some ⟨g9, 0, none⟩) N c9 (splice X t (List.replicate (j + 1) 0))) := Lib.hid hset
            clear hset hLj
            go_wp2
            go_roundw
            case rel => exact ⟨j + 1, by go_num, by omega, HSet⟩
            case measure => simp [intOf]; omega
          · have hjk2 : j = k := by omega
            have HBn : Hid (BySt w8 wr (some ⟨g9, 0, none⟩) N c9 (zerS N l (i + 1))) := Lib.hid (by rw [HZi.out, ← hjk2]; exact HBj.out)
            have HSn : Hid (s + k = sumS (l.take (i + 1))) := Lib.hid (by rw [HSi.out, ← HSs.out])
            clear hjk2
            go_wp2
            go_roundw
            case rel => exact ⟨i + 1, s + k, by go_num, by go_num, by omega, by omega, HSn, HBn⟩
            case measure => simp [intOf]; omega
      · have him : i = m := by omega
        have HFin : Hid (BySt w8 wr a9 N c9 (List.replicate N 0)) := Lib.hid (by
          have h := zer_all l N HBd.out
          rw [← HMl.out] at h
          have h2 := HBr.out
          rw [him, h] at h2
          exact h2)
        have HsT : Hid (s = T) := Lib.hid (by
          have h := HSs.out
          rw [him, HMl.out, List.take_length, ← HTt.out] at h
          exact h)
        clear him HBr HSs hs
        have hsT := HsT.out
        subst hsT
        obtain ⟨wL, hwL⟩ : ∃ wL, wL = wr := ⟨_, rfl⟩
        rw [← hwL] at HFin ⊢
        clear hwL
        have HKL := Lib.hid (HK8.out.trans HFin.out.kept)
        have HKw := Lib.hid (HK2.out.trans HKL.out)
        obtain ⟨Z, hZ⟩ : ∃ Z, Z = strB (List.replicate N 0) := ⟨_, rfl⟩
        have hcv : ∀ W, Kept NoB wL W → (convert 26 9 (.slice a9 N c9)).run Tryd.prog W = .ok (.string Z) W := fun W hW => by
          rw [conv_reads (n := N) (cap := c9) (HFin.out.reads.keptNo hW) (by rw [nb_len]; exact HFin.out.len) HFin.out.cap.2.2, nb_str, hZ]
        obtain ⟨i0, hi0, hz0, hz1, hz2⟩ := info_parts info5
        obtain ⟨wd, hwd⟩ : ∃ wd, wd = wL.drew := ⟨_, rfl⟩
        obtain ⟨wM, hrun, hownM, hgM⟩ := run_make_full (P := Tryd.prog) wd 0 26 5 i0 (.int .u8 0) 1 Tryd.underlying26 hi0 hz0 hz1 .i64 .i64 N (by rw [hz2]; omega) (by unfold maxLen; omega) (Nat.zero_le _)
        have hkM : Kept NoB wd wM := (Kept.refl NoB wd).grown hgM (fun _ _ e => by cases e)
        have hkd : Kept NoB wL wd := by rw [hwd]; exact (Kept.refl NoB wL).drew
        obtain ⟨gm, hgm⟩ : ∃ gm, gm = wd.heap.size := ⟨_, rfl⟩
        rw [← hgm] at hrun hownM
        have hcm : ∀ W, Kept NoB wM W → (convert 26 9 (.slice (some ⟨gm, 0, none⟩) N N)).run Tryd.prog W = .ok (.string Z) W := fun W hW => by
          have ho : BySt wd wM (some ⟨gm, 0, none⟩) N N (List.replicate N 0) := ⟨by simp, by
            have e : bc (List.replicate N 0) = (madeCells (Value.int .u8 0).cells (N * 1)).toList := by
              rw [Nat.mul_one]
              show _ = (madeCells #[Value.int .u8 0] N).toList
              rw [toList_madeCells_one]; simp [bc]
            rw [e]; exact hownM, hkM, fun k hk => by simp [Value.ownBlock] at hk; omega⟩
          rw [conv_reads (n := N) (cap := N) (ho.reads.keptNo hW) (by rw [nb_len]; simp) (fun h => by cases h), nb_str, hZ]
        have hZZ : (Z.toList == Z.toList) = true := by simp
        have hsg : (decide ((s : Int) < (N : Int)) == decide ((s : Int) < (N : Int))) = true := by simp
        obtain ⟨dd, hdd⟩ : ∃ dd, dd = decide ((s : Int) < (N : Int)) := ⟨_, rfl⟩
        rw [← hdd] at HHo hsg
        have hdd2 := hdd.symm
        have hdd3 : decide (s < N) = dd := by rw [hdd, Bool.eq_iff_iff, decide_eq_true_eq, decide_eq_true_eq]; omega
        have HWd := Lib.hid hwd
        clear hdd hgm hgM hownM hi0 hz0 hz1 hz2 hZ hwd
        go_wp2_with fail
        refine wp_region_noPanic ?_
        refine wp_region_held_drew (S := fun W => Kept NoB wL W) (by kernel_rfl) (Kept.drew (Kept.refl _ _)) (fun hHeld => ?_)
        rw [← HWd.out] at hHeld ⊢
        refine wpAnyH_take (i := 0) (v := ?_) (by rw [List.getElem?_toArray]; rfl) (by kernel_rfl) (by kernel_rfl) (by kernel_rfl) (fun _ _ _ h => h) (Or.inl ⟨by rfl, ?hyq1_⟩) (by assumption) ?restq1_
        case hyq1_ => (intro w hSw; (try dsimp only at hSw); go_simp; (try with_reducible rfl))
        try simp only [Act.put, List.setIfInBounds_toArray, List.set_cons_zero, List.set_cons_succ]
        refine wpAnyH_take (i := 1) (v := ?_) (by rw [List.getElem?_toArray]; rfl) (by kernel_rfl) (by kernel_rfl) (by kernel_rfl) (fun _ _ _ h => h) (Or.inl ⟨by rfl, ?hyq2_⟩) (by assumption) ?restq2_
        case hyq2_ => (intro w hSw; (try dsimp only at hSw); (try have e1 := hcv w hSw); go_simp; (try with_reducible rfl))
        try simp only [Act.put, List.setIfInBounds_toArray, List.set_cons_zero, List.set_cons_succ]
        refine wpAnyH_take (i := 2) (v := ?_) (by rw [List.getElem?_toArray]; rfl) (by kernel_rfl) (by kernel_rfl) (by kernel_rfl) (fun _ _ _ h => h) (Or.inl ⟨by rfl, ?hyq3_⟩) (by assumption) ?restq3_
        case hyq3_ => (intro w hSw; (try dsimp only at hSw); go_simp; (try with_reducible rfl))
        try simp only [Act.put, List.setIfInBounds_toArray, List.set_cons_zero, List.set_cons_succ]
        refine wpAnyH_ready (rs := [3]) (by kernel_rfl) (by simp) ?_
        refine AllReadyH.cons (by rw [List.getElem?_toArray]; rfl) (fun K hK => ?_) AllReadyH.nil
        go_simp
        refine hK.out _ _ (hHeld.trans hkM) (fun hHeld => ?_)
        clear hK K
        try simp only [Act.put, List.setIfInBounds_toArray, List.set_cons_zero, List.set_cons_succ]
        have hHeld : Kept NoB wM wM := Kept.refl _ _
        refine wpAnyH_mono2 (S' := fun W => Kept NoB wM W) (fun _ h => (hkd.trans hkM).trans h) ?_
        refine wpAnyH_take (i := 4) (v := ?_) (by rw [List.getElem?_toArray]; rfl) (by kernel_rfl) (by kernel_rfl) (by kernel_rfl) (fun _ _ _ h => h) (Or.inl ⟨by rfl, ?hyq4_⟩) (by assumption) ?restq4_
        case hyq4_ => (intro w hSw; (try dsimp only at hSw); (try have e1 := hcm w hSw); go_simp; (try with_reducible rfl))
        try simp only [Act.put, List.setIfInBounds_toArray, List.set_cons_zero, List.set_cons_succ]
        refine wpAnyH_take (i := 5) (v := ?_) (by rw [List.getElem?_toArray]; rfl) (by kernel_rfl) (by kernel_rfl) (by kernel_rfl) (fun _ _ _ h => h) (Or.inl ⟨by rfl, ?hyq5_⟩) (by assumption) ?restq5_
        case hyq5_ => (intro w hSw; (try dsimp only at hSw); go_simp; (try with_reducible rfl))
        try simp only [Act.put, List.setIfInBounds_toArray, List.set_cons_zero, List.set_cons_succ]
        refine wpAnyH_take (i := 6) (v := ?_) (by rw [List.getElem?_toArray]; rfl) (by kernel_rfl) (by kernel_rfl) (by kernel_rfl) (fun _ _ _ h => h) (Or.inl ⟨by rfl, ?hyq6_⟩) (by assumption) ?restq6_
        case hyq6_ => (intro w hSw; (try dsimp only at hSw); go_simp; (try with_reducible rfl))
        try simp only [Act.put, List.setIfInBounds_toArray, List.set_cons_zero, List.set_cons_succ]
        refine wpAnyH_take (i := 7) (v := ?_) (by rw [List.getElem?_toArray]; rfl) (by kernel_rfl) (by kernel_rfl) (by kernel_rfl) (fun _ _ _ h => h) (Or.inl ⟨by rfl, ?hyq7_⟩) (by assumption) ?restq7_
        case hyq7_ => (intro w hSw; (try dsimp only at hSw); go_simp; (try with_reducible rfl))
        try simp only [Act.put, List.setIfInBounds_toArray, List.set_cons_zero, List.set_cons_succ]
        refine wpAnyH_take (i := 8) (v := ?_) (by rw [List.getElem?_toArray]; rfl) (by kernel_rfl) (by kernel_rfl) (by kernel_rfl) (fun _ _ _ h => h) (Or.inl ⟨by rfl, ?hyq8_⟩) (by assumption) ?restq8_
        case hyq8_ => (intro w hSw; (try dsimp only at hSw); go_simp; (try with_reducible rfl))
        try simp only [Act.put, List.setIfInBounds_toArray, List.set_cons_zero, List.set_cons_succ]
        refine wpAnyH_take (i := 10) (v := ?_) (by rw [List.getElem?_toArray]; rfl) (by kernel_rfl) (by kernel_rfl) (by kernel_rfl) (fun _ _ _ h => h) (Or.inl ⟨by rfl, ?hyq9_⟩) (by assumption) ?restq9_
        case hyq9_ => (intro w hSw; (try dsimp only at hSw); go_simp; (try with_reducible rfl))
        try simp only [Act.put, List.setIfInBounds_toArray, List.set_cons_zero, List.set_cons_succ]
        refine wpAnyH_take (i := 11) (v := ?_) (by rw [List.getElem?_toArray]; rfl) (by kernel_rfl) (by kernel_rfl) (by kernel_rfl) (fun _ _ _ h => h) (Or.inl ⟨by rfl, ?hyq10_⟩) (by assumption) ?restq10_
        case hyq10_ => (intro w hSw; (try dsimp only at hSw); go_simp; (try with_reducible rfl))
        try simp only [Act.put, List.setIfInBounds_toArray, List.set_cons_zero, List.set_cons_succ]
        refine wpAnyH_take (i := 12) (v := ?_) (by rw [List.getElem?_toArray]; rfl) (by kernel_rfl) (by kernel_rfl) (by kernel_rfl) (fun _ _ _ h => h) (Or.inl ⟨by rfl, ?hyq11_⟩) (by assumption) ?restq11_
        case hyq11_ => (intro w hSw; (try dsimp only at hSw); go_simp; (try with_reducible rfl))
        try simp only [Act.put, List.setIfInBounds_toArray, List.set_cons_zero, List.set_cons_succ]
        refine wpAnyH_ready (rs := [9]) (by kernel_rfl) (by simp) ?_
        refine AllReadyH.cons (by rw [List.getElem?_toArray]; rfl) (fun K hK => ?_) AllReadyH.nil
        go_simp
        go_at_call 16
        (with_reducible refine (HHo.out _ (HKL.out.trans ((hkd.trans hkM).trans hHeld))).mono ?_)
        rintro e wn ⟨rfl, hkn⟩
        have hSn := hHeld.trans hkn
        go_wp2_with fail
        refine hK.out _ _ hSn (fun hHeld => ?_)
        clear hK K hSn
        try simp only [Act.put, List.setIfInBounds_toArray, List.set_cons_zero, List.set_cons_succ]
        refine wpAnyH_take (i := 13) (v := ?_) (by rw [List.getElem?_toArray]; rfl) (by kernel_rfl) (by kernel_rfl) (by kernel_rfl) (fun _ _ _ h => h) (Or.inl ⟨by rfl, ?hyq12_⟩) (by assumption) ?restq12_
        case hyq12_ => (intro w hSw; (try dsimp only at hSw); go_simp; (try with_reducible rfl))
        try simp only [Act.put, List.setIfInBounds_toArray, List.set_cons_zero, List.set_cons_succ]
        refine wpAnyH_take (i := 14) (v := ?_) (by rw [List.getElem?_toArray]; rfl) (by kernel_rfl) (by kernel_rfl) (by kernel_rfl) (fun _ _ _ h => h) (Or.inl ⟨by rfl, ?hyq13_⟩) (by assumption) ?restq13_
        case hyq13_ => (intro w hSw; (try dsimp only at hSw); go_simp; (try with_reducible rfl))
        try simp only [Act.put, List.setIfInBounds_toArray, List.set_cons_zero, List.set_cons_succ]
        refine wpAnyH_take (i := 15) (v := ?_) (by rw [List.getElem?_toArray]; rfl) (by kernel_rfl) (by kernel_rfl) (by kernel_rfl) (fun _ _ _ h => h) (Or.inl ⟨by rfl, ?hyq14_⟩) (by assumption) ?restq14_
        case hyq14_ => (intro w hSw; (try dsimp only at hSw); go_simp; (try with_reducible rfl))
        try simp only [Act.put, List.setIfInBounds_toArray, List.set_cons_zero, List.set_cons_succ]
        refine wpAnyH_ready (rs := [16]) (by kernel_rfl) (by simp) ?_
        refine AllReadyH.cons (by rw [List.getElem?_toArray]; rfl) (fun K hK => ?_) AllReadyH.nil
        go_simp
        go_at_call 17
        (with_reducible refine (HAw.out _ (HKw.out.trans ((hkd.trans hkM).trans hHeld))).mono ?_)
        rintro e wm ⟨rfl, hkm⟩
        have hSn := hHeld.trans hkm
        have HKm := Lib.hid (HKw.out.trans ((hkd.trans hkM).trans hSn))
        go_wp2_with fail
        refine hK.out _ _ hSn (fun hHeld => ?_)
        clear hK K hSn
        try simp only [Act.put, List.setIfInBounds_toArray, List.set_cons_zero, List.set_cons_succ]
        refine wpAnyH_take (i := 17) (v := ?_) (by rw [List.getElem?_toArray]; rfl) (by kernel_rfl) (by kernel_rfl) (by kernel_rfl) (fun _ _ _ h => h) (Or.inl ⟨by rfl, ?hyq15_⟩) (by assumption) ?restq15_
        case hyq15_ => (intro w hSw; (try dsimp only at hSw); go_simp; (try with_reducible rfl))
        try simp only [Act.put, List.setIfInBounds_toArray, List.set_cons_zero, List.set_cons_succ]
        refine wpAnyH_take (i := 18) (v := ?_) (by rw [List.getElem?_toArray]; rfl) (by kernel_rfl) (by kernel_rfl) (by kernel_rfl) (fun _ _ _ h => h) (Or.inl ⟨by rfl, ?hyq16_⟩) (by assumption) ?restq16_
        case hyq16_ => (intro w hSw; (try dsimp only at hSw); go_simp; (try with_reducible rfl))
        try simp only [Act.put, List.setIfInBounds_toArray, List.set_cons_zero, List.set_cons_succ]
        refine wpAnyH_done (by kernel_rfl) ?_ _
        refine NoPanic.normal ?_
        go_wp2
        go_ret
        exact ⟨rfl, kept_b HKm.out⟩

theorem sparseBack_law (v0 v1 : Value) (w : World) (r0 : Arg w 31 v0) (r1 : Arg w 3 v1) (htab : Pow10 w) (herr : ErrVars w) :
    Calls Tryd.prog 6 #[v0, v1] w fun e w' => e = .returned (.bool true) ∧ Below w.heap.size w w' := by
  obtain ⟨ao, cap, raw, rfl, hr, hc, hcm, _, hi⟩ := pcs_open r0
  obtain ⟨x1, rfl, hx1⟩ := r1.int Tryd.underlying3
  have hb := i64_bd hx1
  exact sparseBack_walk ao raw.length cap raw x1 w hb.1 hb.2 rfl hr hi hc hcm htab herr
end Go.Proofs.YtbambcondcikbaaDoor
