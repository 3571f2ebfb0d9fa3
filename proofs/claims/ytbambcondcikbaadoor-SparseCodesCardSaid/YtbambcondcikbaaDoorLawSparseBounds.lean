/-
  SparseBounds: as many pieces may be as the bound says, and no more.
-/
import Derived.Test.YtbambcondcikbaaDoorAwakeS
import Derived.Test.YtbambcondcikbaaDoorMask
namespace Go.Proofs.YtbambcondcikbaaDoor
open Go.RowKit
set_option linter.unusedVariables false
set_option linter.unusedSimpArgs false

/-- One piece more, in a plain region. -/
theorem wpList_pc1 {ops : Array Oper} {rest : List Oper} {o : Oper} {act : Act} {w : World} {Q : Exit → Act → World → Prop} (hgd : o.guard = none) (s x : Operand)
    (ho : o.op = .call { callee := .builtin .append, args := #[s, x], argTypes := #[31, 31] })
    {w0 : World} {a1 : Option Addr} {l1 c1 : Nat} {qs : List PcQ} (hS : PcSt w0 w a1 l1 c1 qs) (hs : act.eval s = .slice a1 l1 c1)
    (g cx : Nat) (q : PcQ) (hx : act.eval x = .slice (some ⟨g, 0, none⟩) 1 cx) (h0 : w.cell? ⟨g, 0, none⟩ = some (.int .i64 q.1.1)) (h1 : w.cell? ⟨g, 1, none⟩ = some (.slice q.2.1 q.1.2.length q.2.2))
    (hrd : PcRd w q) (hap : ∀ x, q.2.1 = some x → x.block < w.heap.size ∧ (Value.slice a1 l1 c1).ownBlock ≠ some x.block) (hn : l1 ≤ 1000000)
    (h : ∀ a2 c2 w', PcSt w0 w' a2 (l1 + 1) c2 (qs ++ [q]) → wpList Tryd.prog ops Q rest (act.put o.dst (.slice a2 (l1 + 1) c2)) w') : wpList Tryd.prog ops Q (o :: rest) act w := by
  obtain ⟨i0, hi, hz0, hz1, hz2⟩ := info_parts infoPc
  refine wpList_app w hgd s x 31 ho 30 i0 (.agg #[.int .i64 0, .slice none 0 0]) 2 32 Tryd.underlying31 hi hz0 hz1 hz2 rfl (by decide) _ l1 (pcells qs) hs hS.own ⟨g, 0, none⟩ 1 cx [.int .i64 q.1.1, .slice q.2.1 q.1.2.length q.2.2] hx rfl ?_ ?_ (by unfold maxLen; omega) (by omega) ?_
  · intro j u hu
    rw [addr_add, Nat.zero_add]
    match j with
    | 0 => simp at hu; subst hu; exact h0
    | 1 => simp at hu; subst hu; exact h1
    | j + 2 => simp at hu
  · intro u hu
    simp at hu
    rcases hu with rfl | rfl <;> rfl
  intro v' w' h2 h3 h4
  obtain ⟨a2, c2, rfl⟩ := kv_shape h2
  have hka : Kept (OwnB (Value.slice a1 l1 c1)) w w' := (Kept.refl _ w).grown h3 (fun k hk e => e)
  have hall : ∀ q2 ∈ qs ++ [q], PcRd w q2 ∧ ∀ x, q2.2.1 = some x → x.block < w.heap.size ∧ (Value.slice a1 l1 c1).ownBlock ≠ some x.block := by
    intro q2 hq
    rcases List.mem_append.1 hq with h | h
    · exact ⟨hS.rd q2 h, hS.ap q2 h⟩
    · simp at h; subst h; exact ⟨hrd, hap⟩
  refine h _ _ _ ⟨by rw [List.length_append, hS.len]; rfl, by simpa [pcells] using h2, hS.kept.grown h3 (fun k hk e => by have := hS.fresh k e; omega), ?_, ?_, ?_⟩
  · intro k hk
    rcases h4 k hk with h | h
    · exact hS.fresh k h
    · have := hS.kept.size; omega
  · intro q2 hq
    obtain ⟨⟨r1, r2⟩, h⟩ := hall q2 hq
    exact ⟨r1.kept hka (fun x hx e => (h x hx).2 e), r2⟩
  · intro q2 hq x hx
    obtain ⟨_, h⟩ := hall q2 hq
    obtain ⟨p1, p2⟩ := h x hx
    refine ⟨Nat.lt_of_lt_of_le p1 hka.size, fun e => ?_⟩
    rcases h4 _ e with h | h
    · exact p2 h
    · omega

theorem kept_b {w w' : World} (h : Kept NoB w w') : Below w.heap.size w w' := ⟨h.os, h.tape, h.output, h.size, fun i hi => h.block i hi (fun h => h)⟩
/-- Pieces of one byte, at each third place. -/
def pcR (n : Nat) : List Pc := (List.range n).map fun i => (((3 * i : Nat) : Int), [1])
theorem pcR_len (n : Nat) : (pcR n).length = n := by simp [pcR]
theorem pcR_step (n : Nat) : pcR (n + 1) = pcR n ++ [(((3 * n : Nat) : Int), [1])] := by simp [pcR, List.range_succ]
theorem pcR_sum (n : Nat) : sumS (pcR n) = n := by
  induction n with
  | zero => rfl
  | succ n ih =>
    rw [pcR_step, sumS, List.map_append, List.sum_append]
    have : ((pcR n).map fun p => p.2.length).sum = n := ih
    rw [this]; rfl
theorem pcR_ok (size : Int) (n : Nat) (h : 3 * (n : Int) ≤ size) : okG size 0 (pcR n) = true ∧ freeS (pcR n) ≤ 3 * (n : Int) := by
  induction n with
  | zero => exact ⟨rfl, by simp [freeS, pcR]⟩
  | succ n ih =>
    obtain ⟨h1, h2⟩ := ih (by omega)
    rw [pcR_step]
    refine ⟨?_, ?_⟩
    · rw [okG_split, h1]
      show (true && okG size (freeS (pcR n)) _) = true
      simp only [okG, Bool.true_and, Bool.and_true, Bool.and_eq_true, decide_eq_true_eq]
      refine ⟨⟨rfl, ?_⟩, ?_⟩
      · omega
      · simp; omega
    · rw [freeS, List.foldl_append]
      simp; omega
theorem pcR_okS (n : Nat) (h : n ≤ 1003) : okS 1099511627776 (pcR n) = decide (n ≤ 1000) := by
  have := (pcR_ok 1099511627776 n (by omega)).1
  simp only [okS, this, pcR_len]
  simp
theorem pcR_int (n : Nat) (h : n ≤ 1003) : IntP (pcR n) := by
  intro p hp
  simp only [pcR, List.mem_map, List.mem_range] at hp
  obtain ⟨i, hi, rfl⟩ := hp
  simp only
  omega
theorem map_len (size : Int) (l : List Pc) (h : okS size l = true) : (mapB size l).length ≤ 50000 + sumS l := by
  simp only [okS, Bool.and_eq_true, decide_eq_true_eq] at h
  obtain ⟨⟨⟨s0, s1⟩, s2⟩, s3⟩ := h
  have he := okG_each size l 0 (by omega) s3
  have hb : spanB_le (spansS size l) := by
    intro s hs
    rw [spansS] at hs
    rcases List.mem_append.1 hs with hs | hs
    · obtain ⟨p, hpl, rfl⟩ := List.mem_map.1 hs
      have := he p hpl
      simp only
      omega
    · split at hs
      · cases hs
      · simp at hs; subst hs; simp only; omega
  have hl : (spansS size l).length ≤ 1001 := by
    rw [spansS, List.length_append, List.length_map]
    split <;> simp <;> omega
  have h1 := spans_len _ hb
  have h2 := lineB_len ((spansS size l).length : Int) (by omega) (by omega)
  have h3 : padN (headB size l).length ≤ 511 := by unfold padN; omega
  have h4 : (headB size l).length ≤ 42063 := by rw [headB, List.length_append]; omega
  rw [mapB, List.length_append, List.length_append, List.length_replicate, data_len]
  omega
theorem dense_nil2 (n : Nat) (w : World) (h1 : n ≤ 1048576) : Calls Tryd.prog 14 #[.int .i64 (n : Int), .slice none 0 0] w fun e w' => (∃ g, e = .returned (.tuple #[.slice (some ⟨g, 0, none⟩) n n, .bool true])) ∧ Kept NoB w w' := by
  refine (dense_nil n w h1).mono ?_
  rintro e w' ⟨g, rfl, _, _, hk⟩
  exact ⟨⟨g, rfl⟩, hk⟩

set_option maxRecDepth 20000 in
set_option maxHeartbeats 8000000 in
theorem sparseBounds_law (v0 : Value) (w : World) (r0 : Arg w 3 v0) (htab : Pow10 w) (herr : ErrVars w) :
    Calls Tryd.prog 7 #[v0] w fun e w' => e = .returned (.bool true) ∧ Below w.heap.size w w' := by
  obtain ⟨x0, rfl, hx0⟩ := r0.int Tryd.underlying3
  have HT := Lib.hid htab; have HE := Lib.hid herr
  have hm := mask7 x0
  obtain ⟨n, hn⟩ : ∃ n : Nat, (n : Int) = x0 % 8 + 996 := ⟨(x0 % 8 + 996).toNat, by omega⟩
  have hn1 : 996 ≤ n ∧ n ≤ 1003 := by omega
  have HBig := Lib.hid (fun W => dense_big 1048577 W (by omega) (by omega))
  have HDn : Hid (∀ W, Calls Tryd.prog 14 #[.int .i64 1048576, .slice none 0 0] W fun e w' => (∃ g, e = .returned (.tuple #[.slice (some ⟨g, 0, none⟩) 1048576 1048576, .bool true])) ∧ Kept NoB W w') := Lib.hid (fun W => dense_nil2 1048576 W (by omega))
  have HO1 : Hid (∀ W, Calls Tryd.prog 15 #[.int .i64 1099511627777, .slice none 0 0] W fun e w' => e = .returned (.bool false) ∧ Kept NoB W w') := Lib.hid (fun W => by
    have h := spok_any 1099511627777 none 0 0 [] W (by omega) (by omega) rfl (rdp_nil W) intp_nil (by omega) (by unfold maxLen; omega)
    rw [ok_nil] at h
    exact h)
  have HO2 : Hid (∀ W, Calls Tryd.prog 15 #[.int .i64 1099511627776, .slice none 0 0] W fun e w' => e = .returned (.bool true) ∧ Kept NoB W w') := Lib.hid (fun W => by
    have h := spok_any 1099511627776 none 0 0 [] W (by omega) (by omega) rfl (rdp_nil W) intp_nil (by omega) (by unfold maxLen; omega)
    rw [ok_nil] at h
    exact h)
  have HAw : Hid (∀ W, Kept NoB w W → Calls Tryd.prog 17 #[] W fun e w' => e = .returned (.bool true) ∧ Kept NoB W w') := Lib.hid (fun W hk => awake19 W (htab.keptNo hk) (herr.keptNo hk))
  clear htab herr
  go_enter Tryd.func7, Tryd.ntmps7
  go_upto_region 2 with fail
  rw [← hn]
  clear hm hn hx0
  obtain ⟨hn1, hn2⟩ := hn1
  have HSt : Hid (PcSt w w none 0 0 []) := Lib.hid (PcSt.start (Kept.refl NoB w))
  go_wp2
  go_loopw [3, 4] (fun v3 v4 wr => ∃ (i : Nat) (a : Option Addr) (c : Nat) (qs : List PcQ), v4 = .int .i64 (i : Int) ∧ v3 = .slice a i c ∧ i ≤ n ∧ Hid (PcSt w wr a i c qs) ∧ Hid (qs.map Prod.fst = pcR i)) (fun _ v4 _ => n - (intOf v4).toNat)
  case atStart => exact ⟨0, none, 0, [], rfl, rfl, by omega, HSt, Lib.hid rfl⟩
  case round =>
    obtain ⟨i, a, c, qs, rfl, rfl, hi, HP, HQ⟩ := hrel
    by_cases hlt : (i : Int) < (n : Int)
    · have hin : i < n := by omega
      have HLow := Lib.hid (pc_low HP.out)
      obtain ⟨q, hq⟩ : ∃ q, q = wr.heap.size := ⟨_, rfl⟩
      obtain ⟨wA, hwA⟩ : ∃ wA, wA = wr.alloc (.cells #[.int .u8 1] 5) := ⟨_, rfl⟩
      have hkA : Kept NoB wr wA := by rw [hwA]; exact (Kept.refl NoB wr).alloc _
      have hsA : wA.heap.size = q + 1 := by rw [hwA, hq]; simp
      have hrA : Reads wA (some ⟨q, 0, none⟩) (nb [1]) := by
        rw [hwA, hq]; exact lit_reads (t := 5) (fr := (0, 0)) (cs := #[.int .u8 1]) _ (heap_alloc_new _ _) rfl
      obtain ⟨wB, hwB⟩ : ∃ wB, wB = wA.alloc (.cells #[.int .i64 (3 * (i : Int)), .slice (some ⟨q, 0, none⟩) 1 1] 30) := ⟨_, rfl⟩
      have hkB : Kept NoB wA wB := by rw [hwB]; exact (Kept.refl NoB wA).alloc _
      have hB0 : wB.cell? ⟨q + 1, 0, none⟩ = some (.int .i64 ((3 * i : Nat) : Int)) := by rw [hwB]; have h := cell_new (w := wA) (cs := #[.int .i64 (3 * (i : Int)), .slice (some ⟨q, 0, none⟩) 1 1]) (t := 30) 0 hsA.symm; rw [h]; simp
      have hB1 : wB.cell? ⟨q + 1, 1, none⟩ = some (.slice (some ⟨q, 0, none⟩) 1 1) := by rw [hwB]; exact cell_new 1 hsA.symm
      have HPB := Lib.hid (HP.out.on (hkA.trans hkB))
      have HRd : Hid (PcRd wB ((((3 * i : Nat) : Int), [1]), (some ⟨q, 0, none⟩, 1))) := Lib.hid ⟨hrA.keptNo hkB, (fun h => by cases h), Nat.le_refl _, by show 1 ≤ maxLen; unfold maxLen; omega⟩
      have HAp : Hid (∀ x, (some (⟨q, 0, none⟩ : Addr)) = some x → x.block < wB.heap.size ∧ (Value.slice a i c).ownBlock ≠ some x.block) := Lib.hid (fun x hx => by
        cases hx
        have h1 := hkB.size
        refine ⟨by show q < wB.heap.size; omega, fun e => ?_⟩
        have h2 : q < wr.heap.size := HLow.out q e
        omega)
      have HQ2 : Hid (∀ sl : Option Addr × Nat, (qs ++ [(((3 * (i : Int)), ([1] : List UInt8)), sl)]).map Prod.fst = pcR (i + 1)) := Lib.hid (fun sl => by rw [List.map_append, HQ.out, pcR_step]; simp)
      have HB0 := Lib.hid hB0; have HB1 := Lib.hid hB1
      have hib : i ≤ 1003 := by omega
      clear hkA hkB hrA hB0 hB1
      go_wp2_with (at_builtin; rw [← hq, ← hwA]; (try rw [hsA]); (try rw [← hwB]); refine wpList_pc1 rfl (.tmp 21) (.tmp 26) rfl HPB.out rfl (q + 1) 1 _ rfl HB0.out HB1.out HRd.out HAp.out (by omega) ?_)
      intro a2 c2 w2 h2
      have H2 := Lib.hid h2
      clear h2
      go_wp2
      go_roundw
      case rel => exact ⟨i + 1, a2, c2, _, by go_num, rfl, by omega, H2, Lib.hid (HQ2.out _)⟩
      case measure => simp [intOf]; omega
    · have hie : i = n := by omega
      subst hie
      obtain ⟨w3, hw3⟩ : ∃ w3, w3 = wr := ⟨_, rfl⟩
      rw [← hw3] at HP ⊢
      clear hw3
      have hcap := HP.out.cap
      have hrd := HP.out.reads
      rw [HQ.out] at hrd
      have HEn := Lib.hid (spenc_any 1099511627776 a i c (pcR i) w3 (by omega) (by omega) (pcR_len i).symm hrd (pcR_int i hn2) hcap.1 hcap.2 (by rw [pcR_sum]; omega) (HT.out.keptNo HP.out.kept))
      have HOk : Hid (∀ W, Kept NoB w3 W → Calls Tryd.prog 15 #[.int .i64 1099511627776, .slice a i c] W fun e w' => e = .returned (.bool (decide (i ≤ 1000))) ∧ Kept NoB W w') := Lib.hid (fun W hk => by
        rw [← pcR_okS i hn2]
        exact spok_any 1099511627776 a i c (pcR i) W (by omega) (by omega) (pcR_len i).symm ((hrd.kept hk).room hk.size) (pcR_int i hn2) hcap.1 hcap.2)
      have hoks := pcR_okS i hn2
      have HK3 := Lib.hid HP.out.kept
      have hml := map_len 1099511627776 (pcR i)
      rw [pcR_sum] at hml
      have hdy := dec_yes 1099511627776 (pcR i)
      obtain ⟨M, hM⟩ : ∃ M, M = mapB 1099511627776 (pcR i) := ⟨_, rfl⟩
      have hM0 : M ≠ [] := by
        intro e
        rw [hM] at e
        have := congrArg List.length e
        simp [mapB, headB, lineB] at this
      have HM := Lib.hid hM
      rw [← hM] at hml hdy
      clear hrd hcap hM
      by_cases h1000 : i ≤ 1000
      · have hd : decide (i ≤ 1000) = true := decide_eq_true h1000
        rw [hd] at HOk hoks
        have hdi : decide ((i : Int) ≤ 1000) = true := decide_eq_true (by omega)
        have hi1000 : (i : Int) ≤ 1000 := by omega
        have hml2 := hml hoks
        have hdy2 := hdy hoks
        clear hml hdy hd
        go_wp2_with fail
        with_reducible refine HEn.out.mono ?_
        rintro e w4 (⟨hok, _⟩ | ⟨a4, c4, _, rfl, hB⟩)
        · rw [hoks] at hok; cases hok
        rw [← HM.out] at hB ⊢
        obtain ⟨g4, rfl⟩ := hB.some hM0
        have HB4 := Lib.hid hB; have HDy := Lib.hid hdy2
        obtain ⟨ml, hmll⟩ : ∃ ml, ml = M.length := ⟨_, rfl⟩
        rw [← hmll] at hml2 HB4 ⊢
        have HMl := Lib.hid hmll
        clear hB hdy2 hM0 hoks hmll

        go_wp2_with fail
        with_reducible refine (HOk.out _ HB4.out.kept).mono ?_
        rintro e w5 ⟨rfl, hk5⟩
        have HJ5 := Lib.hid hk5
        have HK5 := Lib.hid (HB4.out.kept.trans hk5)
        clear hk5
        go_wp2_with fail
        with_reducible refine (HO1.out _).mono ?_
        rintro e w6 ⟨rfl, hk6⟩
        have HJ6 := Lib.hid (HJ5.out.trans hk6)
        have HK6 := Lib.hid (HK5.out.trans hk6)
        clear hk6
        go_wp2_with fail
        with_reducible refine (HO2.out _).mono ?_
        rintro e w7 ⟨rfl, hk7⟩
        have HJ7 := Lib.hid (HJ6.out.trans hk7)
        have HK7 := Lib.hid (HK6.out.trans hk7)
        clear hk7
        go_wp2_with fail
        with_reducible refine (HBig.out _).mono ?_
        rintro e w8 ⟨rfl, hk8⟩
        have HJ8 := Lib.hid (HJ7.out.trans hk8)
        have HK8 := Lib.hid (HK7.out.trans hk8)
        clear hk8
        go_wp2_with fail
        with_reducible refine (HDn.out _).mono ?_
        rintro e w9 ⟨⟨g9, rfl⟩, hk9⟩
        have HJ9 := Lib.hid (HJ8.out.trans hk9)
        have HK9 := Lib.hid (HK8.out.trans hk9)
        clear hk9

        have HK94 := HJ9
        have hK9w := HK3.out.trans HK9.out
        have hcap4 := HB4.out.cap
        have hDec : ∀ W, Kept NoB w4 W → Calls Tryd.prog 18 #[.int .i64 1099511627776, .slice (some ⟨g4, 0, none⟩) ml c4] W (DecR W 1099511627776 M) := fun W hk =>
          spdec_any 1099511627776 g4 0 ml c4 M W (by omega) (by omega) HMl.out (HB4.out.reads.keptNo hk) hcap4.1 hcap4.2.1 (by omega) (HT.out.keptNo (HK3.out.trans (HB4.out.kept.trans hk))) (HE.out.keptNo (HK3.out.trans (HB4.out.kept.trans hk)))
        have HDec := Lib.hid hDec
        clear hDec hcap4 hK9w
        go_wp2_with fail
        with_reducible refine (HDec.out _ (HK94.out)).mono ?_
        rintro e w10 (⟨hno, _⟩ | ⟨qs2, a10, c10, hyes, rfl, hP10⟩)
        · rw [HDy.out] at hno; cases hno
        have hql : qs2.length = i := by
          rw [HDy.out] at hyes
          have := congrArg (Option.map List.length) hyes
          simp only [Option.map_some, List.length_map, pcR_len, Option.some.injEq] at this
          exact this.symm
        rw [hql]
        have HK10 := Lib.hid (HK3.out.trans (HK9.out.trans hP10.kept))
        clear hyes hP10 hql
        go_wp2_with fail
        with_reducible refine (HAw.out _ HK10.out).mono ?_
        rintro e w11 ⟨rfl, hk11⟩
        have HK11 := Lib.hid (HK10.out.trans hk11)
        clear hk11
        go_wp2
        go_ret
        exact ⟨rfl, kept_b HK11.out⟩
      · have hd : decide (i ≤ 1000) = false := decide_eq_false h1000
        rw [hd] at HOk hoks
        have hdi : decide ((i : Int) ≤ 1000) = false := decide_eq_false (by omega)
        have hi1000 : ¬ (i : Int) ≤ 1000 := by omega
        clear hml hdy hd hM0
        go_wp2_with fail
        with_reducible refine HEn.out.mono ?_
        rintro e w4 (⟨_, rfl, hk4⟩ | ⟨a4, c4, hok, _⟩)
        case inr => rw [hoks] at hok; cases hok
        have HK4 := Lib.hid hk4
        clear hk4 hoks

        go_wp2_with fail
        with_reducible refine (HOk.out _ HK4.out).mono ?_
        rintro e w5 ⟨rfl, hk5⟩
        have HK5 := Lib.hid (HK4.out.trans hk5)
        clear hk5
        go_wp2_with fail
        with_reducible refine (HO1.out _).mono ?_
        rintro e w6 ⟨rfl, hk6⟩
        have HK6 := Lib.hid (HK5.out.trans hk6)
        clear hk6
        go_wp2_with fail
        with_reducible refine (HO2.out _).mono ?_
        rintro e w7 ⟨rfl, hk7⟩
        have HK7 := Lib.hid (HK6.out.trans hk7)
        clear hk7
        go_wp2_with fail
        with_reducible refine (HBig.out _).mono ?_
        rintro e w8 ⟨rfl, hk8⟩
        have HK8 := Lib.hid (HK7.out.trans hk8)
        clear hk8
        go_wp2_with fail
        with_reducible refine (HDn.out _).mono ?_
        rintro e w9 ⟨⟨g9, rfl⟩, hk9⟩
        have HK9 := Lib.hid (HK8.out.trans hk9)
        clear hk9

        go_wp2_with fail
        with_reducible refine (HAw.out _ (HK3.out.trans HK9.out)).mono ?_
        rintro e w11 ⟨rfl, hk11⟩
        have HK11 := Lib.hid ((HK3.out.trans HK9.out).trans hk11)
        clear hk11
        go_wp2
        go_ret
        exact ⟨rfl, kept_b HK11.out⟩
end Go.Proofs.YtbambcondcikbaaDoor
