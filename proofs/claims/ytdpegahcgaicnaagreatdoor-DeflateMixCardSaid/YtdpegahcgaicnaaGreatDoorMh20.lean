/-
  lens: inBounds, appendRuns.
  lens: Runs.
-/
import Derived.Test.YtdpegahcgaicnaaGreatDoorMh19
import Derived.Deep.CutBlock
namespace Go.Proofs.YtdpegahcgaicnaaGreatDoor
open Go.RowKit
set_option linter.unusedVariables false
set_option linter.unusedSimpArgs false

/-- Some runs have been appended. -/
structure ASt (w : World) (a : Option Addr) (c : Nat) (rs0 : List (Int × Int)) (w' : World) (rs : List (Int × Int)) (a' : Option Addr) (c' : Nat) : Prop where
  own : OwnR w' a' c' rs
  kept : Kept (OwnB (.slice a rs0.length c)) w w'
  fresh : ∀ k, (Value.slice a' rs.length c').ownBlock = some k → (Value.slice a rs0.length c).ownBlock = some k ∨ w.heap.size ≤ k
theorem ASt.app {w wr w2 : World} {a a' a2 : Option Addr} {c c' c2 len : Nat} {rs0 rs : List (Int × Int)} {s x : Int} {o : Obj} (h : ASt w a c rs0 wr rs a' c') (hlen : len = rs.length)
    (hown : w2.ownsRow 0 106 2 (.slice a2 (len + 1) c2) (len + 1) (rcells rs ++ [.int .i64 s, .int .i64 x])) (hgrow : (wr.alloc o).grownBy w2 (Value.slice a' len c').ownBlock)
    (hnew : ∀ k, (Value.slice a2 (len + 1) c2).ownBlock = some k → (Value.slice a' len c').ownBlock = some k ∨ wr.heap.size + 1 ≤ k) : ASt w a c rs0 w2 (rs ++ [(s, x)]) a2 c2 := by
  subst hlen
  have hl : (rs ++ [(s, x)]).length = rs.length + 1 := by simp
  refine ⟨?_, ?_, ?_⟩
  · unfold OwnR
    rw [hl, ← rcells_app]
    exact hown
  · exact (h.kept.alloc o).grown hgrow (fun k hk e => by
      rcases h.fresh k e with h1 | h1
      · exact h1
      · omega)
  · intro k hk
    rw [hl] at hk
    rcases hnew k hk with h1 | h1
    · exact h.fresh k h1
    · right; have := h.kept.size; omega
theorem ASt.start {w : World} {a : Option Addr} {c : Nat} {rs0 : List (Int × Int)} (h : OwnR w a c rs0) : ASt w a c rs0 w rs0 a c := ⟨h, Kept.refl _ _, fun k hk => .inl hk⟩
theorem news2 (w : World) (s x : Int) : ∀ (k : Nat) (u : Value), [Value.int .i64 s, .int .i64 x][k]? = some u → (w.alloc (.cells #[.int .i64 s, .int .i64 x] 106)).cell? ((⟨w.heap.size, 0, none⟩ : Addr).add k) = some u := by
  intro k u hk
  rw [addr_add, Nat.zero_add, cell_new k rfl]
  simpa using hk

set_option maxHeartbeats 1000000 in
theorem inBounds_any (a : Option Addr) (c : Nat) (l : List Int) (B : Nat) (w : World) (hr : RdI w B a l) (hm : l.length ≤ 1000000) :
    Calls Tryz.prog 100 #[.slice a l.length c] w fun e w' => e = .returned (.bool (decide (∀ z ∈ l, 0 ≤ z ∧ z ≤ 15))) ∧ w = w' := by
  have HR := Lib.hid hr
  obtain ⟨n, hn⟩ : ∃ n, n = l.length := ⟨_, rfl⟩
  have HN := Lib.hid hn
  have hm2 : n ≤ 1000000 := by omega
  rw [← hn]
  clear hr hn hm
  go_enter Tryz.func100, Tryz.ntmps100
  go_wp2
  go_loopw [7, 4] (fun v7 v4 wr => ∃ j : Nat, v7 = .int .i64 (j : Int) ∧ j ≤ n ∧ Hid ((∀ z ∈ l, 0 ≤ z ∧ z ≤ 15) ↔ ∀ z ∈ l.drop j, 0 ≤ z ∧ z ≤ 15) ∧ w = wr) (fun v7 _ _ => n - (intOf v7).toNat)
  case atStart => exact ⟨0, rfl, by omega, (by rw [List.drop_zero]; exact Iff.rfl), rfl⟩
  case round =>
    obtain ⟨j, rfl, hj, HI, rfl⟩ := hrel
    by_cases hlt : (j : Int) < n
    · obtain ⟨g, off, rfl, hgl, hc0⟩ := HR.out j (by have := HN.out; omega)
      have hi := HI.out
      rw [drop_getDz l j (by have := HN.out; omega)] at hi
      generalize l.getD j 0 = z at hc0 hi
      clear hgl HI
      by_cases hz : 0 ≤ z ∧ z ≤ 15
      · have HI2 : Hid ((∀ z ∈ l, 0 ≤ z ∧ z ≤ 15) ↔ ∀ z ∈ l.drop (j + 1), 0 ≤ z ∧ z ≤ 15) := hi.trans ⟨fun h y hy => h y (List.mem_cons_of_mem _ hy), fun h y hy => by
          rcases List.mem_cons.1 hy with rfl | h'
          · exact hz
          · exact h y h'⟩
        have h1 : ¬ z < 0 := by omega
        have h2 : ¬ 15 < z := by omega
        clear hi hz
        go_wp2
        go_roundw
        case rel => exact ⟨j + 1, by go_num, by omega, HI2, trivial⟩
        case measure => simp [intOf]; omega
      · have hno : ¬ ∀ z ∈ l, 0 ≤ z ∧ z ≤ 15 := fun h => hz (hi.1 h z List.mem_cons_self)
        have HNo := Lib.hid (decide_eq_false hno)
        have hc : z < 0 ∨ (¬ z < 0 ∧ 15 < z) := by omega
        clear hi hz hno
        rcases hc with h1 | ⟨h1, h2⟩
        all_goals
          go_wp2
          go_ret
          exact ⟨by rw [HNo.out]; rfl, rfl⟩
    · have hyes : ∀ z ∈ l, 0 ≤ z ∧ z ≤ 15 := by
        have hi := HI.out
        rw [List.drop_of_length_le (by have := HN.out; omega)] at hi
        exact hi.2 (fun z hz => by cases hz)
      have HYes := Lib.hid (decide_eq_true hyes)
      clear hyes
      go_wp2
      go_ret
      exact ⟨by rw [HYes.out]; rfl, rfl⟩

set_option maxRecDepth 20000 in
set_option maxHeartbeats 4000000 in
theorem appendRuns_any (a : Option Addr) (c : Nat) (rs0 : List (Int × Int)) (v : Int) (t : Nat) (w : World) (hown : OwnR w a c rs0) (hv : 0 ≤ v ∧ v ≤ 15) (ht : 1 ≤ t ∧ t ≤ 1000) (hl : rs0.length ≤ 1000) :
    Calls Tryz.prog 101 #[.slice a rs0.length c, .int .i64 v, .int .i64 (t : Int)] w fun e w' => ∃ rs' a' c', e = .returned (.slice a' (rs0 ++ rs').length c') ∧ Told v t rs' ∧ 1 ≤ rs'.length ∧ rs'.length ≤ t ∧ ASt w a c rs0 w' (rs0 ++ rs') a' c' := by
  have HOwn := Lib.hid hown
  obtain ⟨i0, hi, hz0, hz1, hz2⟩ := info_parts infoR
  obtain ⟨len0, hlen0⟩ : ∃ n, n = rs0.length := ⟨_, rfl⟩
  have HL0 := Lib.hid hlen0
  have hl0 : len0 ≤ 1000 := by omega
  rw [← hlen0]
  clear hown hlen0 hl
  go_enter Tryz.func101, Tryz.ntmps101
  go_upto_if 12 with fail
  go_cut [0, 2] from 12 to 19 (fun v0 v2 wx => ∃ (d : Nat) (rs' : List (Int × Int)) (a' : Option Addr) (c' len : Nat), v0 = .slice a' len c' ∧ v2 = .int .i64 ((t : Int) - (d : Int)) ∧ Hid (len = (rs0 ++ rs').length) ∧ d ≤ t ∧ Hid (rs'.length ≤ d ∧ (d ≠ 0 → rs' ≠ [])) ∧ (0 < v → 1 ≤ d) ∧ Hid (Told v d rs') ∧ Hid (ASt w a c rs0 wx (rs0 ++ rs') a' c'))
  case first =>
    by_cases hv0 : 0 < v
    · have hrow := (HOwn.out : w.ownsRow 0 106 2 (.slice a rs0.length c) rs0.length (rcells rs0)).alloc (.cells #[.int .i64 v, .int .i64 0] 106)
      rw [← HL0.out] at hrow
      have HRow := Lib.hid hrow; have HNw := Lib.hid (news2 w v 0)
      clear hrow
      go_wp2_with (at_builtin; refine wpList_app _ rfl _ _ 118 rfl 106 i0 (.agg #[.int .i64 0, .int .i64 0]) 2 16 Tryz.underlying118 hi hz0 hz1 hz2 rfl (by decide) _ len0 (rcells rs0) rfl HRow.out ⟨w.heap.size, 0, none⟩ 1 1 [.int .i64 v, .int .i64 0] rfl rfl HNw.out ?d2 ?d3 ?d4 ?_)
      case d2 => first | rfl | (intro u hu; simp at hu; rcases hu with rfl | rfl <;> rfl) | (simp [Value.oneCell'])
      case d3 => unfold maxLen; omega
      case d4 => omega
      intro v' w2 hown' hgrow hnew
      obtain ⟨a2, c2, rfl⟩ := own_shape2 hown'
      have hst := (ASt.start HOwn.out).app HL0.out hown' hgrow hnew
      have HSt := Lib.hid hst
      clear hst hown' hgrow hnew
      go_wp2
      go_meet
      exact ⟨1, [(v, 0)], a2, c2, len0 + 1, rfl, rfl, Lib.hid (show len0 + 1 = (rs0 ++ [(v, 0)]).length by rw [HL0.out]; simp), ht.1, ⟨by simp, fun _ h => by cases h⟩, fun _ => by omega, Lib.hid (show Told v 1 [(v, 0)] by have := (Told.nil v).one hv; simpa using this), HSt.out⟩
    · go_wp2
      go_meet
      exact ⟨0, [], a, c, len0, rfl, by simp, Lib.hid (show len0 = (rs0 ++ []).length by rw [HL0.out, List.append_nil]), by omega, ⟨by simp, fun h => absurd rfl h⟩, fun h => by omega, Told.nil v, (by rw [List.append_nil]; exact ASt.start HOwn.out)⟩
  case rest =>
  obtain ⟨d0, rs1, a1, c1, len1, rfl, rfl, HL1, hd0, HR1, hvd0, HT1, HS1⟩ := hcut
  have HSpan := Lib.hid (fun s w => span_any s w)
  go_wp2
  go_loopw [0, 2, 7, 8, 9, 10] (fun v0 v2 v7 v8 v9 v10 wr => ∃ (d : Nat) (rs' : List (Int × Int)) (a' : Option Addr) (c' len : Nat), v0 = .slice a' len c' ∧ v2 = .int .i64 ((t : Int) - (d : Int)) ∧ Hid (len = (rs0 ++ rs').length) ∧ d ≤ t ∧ Hid (rs'.length ≤ d ∧ (d ≠ 0 → rs' ≠ [])) ∧ (0 < v → 1 ≤ d) ∧ Hid (Told v d rs') ∧ Hid (ASt w a c rs0 wr (rs0 ++ rs') a' c')) (fun _ v2 _ _ _ _ _ => (intOf v2).toNat)
  case atStart => exact ⟨d0, rs1, a1, c1, len1, rfl, rfl, HL1, hd0, HR1, hvd0, HT1, HS1⟩
  case round =>
    clear HL1 hd0 HR1 hvd0 HT1 HS1
    obtain ⟨d, rs', a', c', len, rfl, rfl, HL, hd, HR, hvd, HT, HS⟩ := hrel
    have hlen : len ≤ 2000 := by have h1 := HL.out; have h2 := HR.out.1; have h3 := HL0.out; rw [List.length_append] at h1; omega
    have hrow := HS.out.own
    unfold OwnR at hrow
    rw [← HL.out] at hrow
    have HRow := Lib.hid hrow
    clear hrow
    by_cases hdt : d < t
    · obtain ⟨R, hR⟩ : ∃ R : Nat, (R : Int) = (t : Int) - (d : Int) := ⟨t - d, by omega⟩
      have hR1 : 1 ≤ R ∧ R ≤ 1000 := by omega
      have HRe := Lib.hid hR
      rw [← hR]
      clear hR
      have hcase : (0 < v ∧ 3 ≤ R) ∨ (0 < v ∧ R < 3) ∨ (v = 0 ∧ 11 ≤ R) ∨ (v = 0 ∧ 3 ≤ R ∧ R < 11) ∨ (v = 0 ∧ R < 3) := by omega
      rcases hcase with ⟨hv1, hr1⟩ | ⟨hv1, hr1⟩ | ⟨rfl, hr1⟩ | ⟨rfl, hr1, hr2⟩ | ⟨rfl, hr1⟩
      · have hsp : ∀ w, Calls Tryz.prog 103 #[.int .i64 16] w fun e w' => e = .returned (.tuple #[.int .i64 3, .int .i64 2]) ∧ w = w' := fun w => by
          exact span_any 16 w
        have HSp1 := Lib.hid hsp
        clear hsp HSpan
        obtain ⟨m, hm⟩ : ∃ m : Nat, m = min (R - 3) 3 := ⟨_, rfl⟩
        have hmin : (if (3 : Int) < (R : Int) - 3 then (3 : Int) else (R : Int) - 3) = (m : Int) := by split <;> omega
        have hmM : m ≤ 3 ∧ 3 + m ≤ R := by omega
        have hT2 : Told v (d + (3 + m)) (rs' ++ [(16, (m : Int))]) := HT.out.again (hvd hv1) hmM.1
        have HT2 := Lib.hid hT2; have HV := Lib.hid hvd
        clear hT2 hm hvd
        have h3 : (3 : Int) ≤ R := by omega
        go_wp2_with fail
        refine (HSp1.out _).mono ?_
        rintro e w2 ⟨rfl, rfl⟩
        have hrow2 := HRow.out.alloc (.cells #[.int .i64 16, .int .i64 (m : Int)] 106)
        have HRow2 := Lib.hid hrow2; have HNw := Lib.hid (news2 wr 16 (m : Int))
        clear hrow2
        go_wp2_with (at_builtin; refine wpList_app _ rfl _ _ 118 rfl 106 i0 (.agg #[.int .i64 0, .int .i64 0]) 2 16 Tryz.underlying118 hi hz0 hz1 hz2 rfl (by decide) _ len (rcells (rs0 ++ rs')) rfl HRow2.out ⟨wr.heap.size, 0, none⟩ 1 1 [.int .i64 16, .int .i64 (m : Int)] rfl rfl HNw.out ?d2 ?d3 ?d4 ?_)
        case d2 => first | rfl | (intro u hu; simp at hu; rcases hu with rfl | rfl <;> rfl) | (simp [Value.oneCell'])
        case d3 => unfold maxLen; omega
        case d4 => omega
        intro v' w2 hown' hgrow hnew
        obtain ⟨a2, c2, rfl⟩ := own_shape2 hown'
        have hst := HS.out.app HL.out hown' hgrow hnew
        rw [List.append_assoc] at hst
        have HSt := Lib.hid hst
        have HL2 : Hid (len + 1 = (rs0 ++ (rs' ++ [(16, (m : Int))])).length) := by
          have h1 := HL.out
          rw [List.length_append] at h1
          show len + 1 = _
          rw [List.length_append, List.length_append]
          simp
          omega
        have HR2 : Hid ((rs' ++ [((16 : Int), ((m : Int) : Int))]).length ≤ d + (3 + m) ∧ (d + (3 + m) ≠ 0 → rs' ++ [((16 : Int), ((m : Int) : Int))] ≠ [])) := by
          refine ⟨?_, fun _ h => ?_⟩
          · have := HR.out.1
            rw [List.length_append]
            simp
            omega
          · have := congrArg List.length h
            simp at this
        clear hst hown' hgrow hnew
        go_wp2
        go_roundw
        case rel => exact ⟨d + (3 + m), rs' ++ [(16, (m : Int))], a2, c2, len + 1, rfl, by have := HRe.out; congr 1; omega, HL2, by have := HRe.out; omega, HR2, fun h => by have := HV.out h; omega, HT2, HSt⟩
        case measure => simp [intOf]; omega
      · have hsp : ∀ w, Calls Tryz.prog 103 #[.int .i64 v] w fun e w' => e = .returned (.tuple #[.int .i64 1, .int .i64 0]) ∧ w = w' := fun w => by
          have h := span_any v w; rw [show spanL v = 1 by unfold spanL; rw [if_neg (by omega), if_neg (by omega), if_neg (by omega)], show spanB v = 0 by unfold spanB; rw [if_neg (by omega), if_neg (by omega), if_neg (by omega)]] at h; exact h
        have HSp1 := Lib.hid hsp
        clear hsp HSpan
        obtain ⟨m, hm⟩ : ∃ m : Nat, m = min (R - 1) 0 := ⟨_, rfl⟩
        have hmin : (if (0 : Int) < (R : Int) - 1 then (0 : Int) else (R : Int) - 1) = 0 := by split <;> omega
        have hmin2 : (if (1 : Int) < (R : Int) then (0 : Int) else (R : Int) - 1) = 0 := by split <;> omega
        have hmM : m ≤ 0 ∧ 1 + m ≤ R := by omega
        have hT2 : Told v (d + (1 + m)) (rs' ++ [(v, 0)]) := by rw [show 1 + m = 1 by omega]; exact HT.out.one hv
        have HT2 := Lib.hid hT2; have HV := Lib.hid hvd
        clear hT2 hm hvd
        have h3 : ¬ (3 : Int) ≤ R := by omega
        have hv0 : (v == 0) = false := by simp; omega
        go_wp2_with fail
        refine (HSp1.out _).mono ?_
        rintro e w2 ⟨rfl, rfl⟩
        have hrow2 := HRow.out.alloc (.cells #[.int .i64 v, .int .i64 0] 106)
        have HRow2 := Lib.hid hrow2; have HNw := Lib.hid (news2 wr v 0)
        clear hrow2
        go_wp2_with (at_builtin; refine wpList_app _ rfl _ _ 118 rfl 106 i0 (.agg #[.int .i64 0, .int .i64 0]) 2 16 Tryz.underlying118 hi hz0 hz1 hz2 rfl (by decide) _ len (rcells (rs0 ++ rs')) rfl HRow2.out ⟨wr.heap.size, 0, none⟩ 1 1 [.int .i64 v, .int .i64 0] rfl rfl HNw.out ?d2 ?d3 ?d4 ?_)
        case d2 => first | rfl | (intro u hu; simp at hu; rcases hu with rfl | rfl <;> rfl) | (simp [Value.oneCell'])
        case d3 => unfold maxLen; omega
        case d4 => omega
        intro v' w2 hown' hgrow hnew
        obtain ⟨a2, c2, rfl⟩ := own_shape2 hown'
        have hst := HS.out.app HL.out hown' hgrow hnew
        rw [List.append_assoc] at hst
        have HSt := Lib.hid hst
        have HL2 : Hid (len + 1 = (rs0 ++ (rs' ++ [(v, 0)])).length) := by
          have h1 := HL.out
          rw [List.length_append] at h1
          show len + 1 = _
          rw [List.length_append, List.length_append]
          simp
          omega
        have HR2 : Hid ((rs' ++ [((v : Int), (0 : Int))]).length ≤ d + (1 + m) ∧ (d + (1 + m) ≠ 0 → rs' ++ [((v : Int), (0 : Int))] ≠ [])) := by
          refine ⟨?_, fun _ h => ?_⟩
          · have := HR.out.1
            rw [List.length_append]
            simp
            omega
          · have := congrArg List.length h
            simp at this
        clear hst hown' hgrow hnew
        go_wp2
        go_roundw
        case rel => exact ⟨d + (1 + m), rs' ++ [(v, 0)], a2, c2, len + 1, rfl, by have := HRe.out; congr 1; omega, HL2, by have := HRe.out; omega, HR2, fun h => by have := HV.out h; omega, HT2, HSt⟩
        case measure => simp [intOf]; omega
      · have hsp : ∀ w, Calls Tryz.prog 103 #[.int .i64 18] w fun e w' => e = .returned (.tuple #[.int .i64 11, .int .i64 7]) ∧ w = w' := fun w => by
          exact span_any 18 w
        have HSp1 := Lib.hid hsp
        clear hsp HSpan
        obtain ⟨m, hm⟩ : ∃ m : Nat, m = min (R - 11) 127 := ⟨_, rfl⟩
        have hmin : (if (127 : Int) < (R : Int) - 11 then (127 : Int) else (R : Int) - 11) = (m : Int) := by split <;> omega
        have hmM : m ≤ 127 ∧ 11 + m ≤ R := by omega
        have hT2 : Told 0 (d + (11 + m)) (rs' ++ [(18, (m : Int))]) := HT.out.many hmM.1
        have HT2 := Lib.hid hT2; have HV := Lib.hid hvd
        clear hT2 hm hvd
        have h3 : (11 : Int) ≤ R := by omega
        go_wp2_with fail
        refine (HSp1.out _).mono ?_
        rintro e w2 ⟨rfl, rfl⟩
        have hrow2 := HRow.out.alloc (.cells #[.int .i64 18, .int .i64 (m : Int)] 106)
        have HRow2 := Lib.hid hrow2; have HNw := Lib.hid (news2 wr 18 (m : Int))
        clear hrow2
        go_wp2_with (at_builtin; refine wpList_app _ rfl _ _ 118 rfl 106 i0 (.agg #[.int .i64 0, .int .i64 0]) 2 16 Tryz.underlying118 hi hz0 hz1 hz2 rfl (by decide) _ len (rcells (rs0 ++ rs')) rfl HRow2.out ⟨wr.heap.size, 0, none⟩ 1 1 [.int .i64 18, .int .i64 (m : Int)] rfl rfl HNw.out ?d2 ?d3 ?d4 ?_)
        case d2 => first | rfl | (intro u hu; simp at hu; rcases hu with rfl | rfl <;> rfl) | (simp [Value.oneCell'])
        case d3 => unfold maxLen; omega
        case d4 => omega
        intro v' w2 hown' hgrow hnew
        obtain ⟨a2, c2, rfl⟩ := own_shape2 hown'
        have hst := HS.out.app HL.out hown' hgrow hnew
        rw [List.append_assoc] at hst
        have HSt := Lib.hid hst
        have HL2 : Hid (len + 1 = (rs0 ++ (rs' ++ [(18, (m : Int))])).length) := by
          have h1 := HL.out
          rw [List.length_append] at h1
          show len + 1 = _
          rw [List.length_append, List.length_append]
          simp
          omega
        have HR2 : Hid ((rs' ++ [((18 : Int), ((m : Int) : Int))]).length ≤ d + (11 + m) ∧ (d + (11 + m) ≠ 0 → rs' ++ [((18 : Int), ((m : Int) : Int))] ≠ [])) := by
          refine ⟨?_, fun _ h => ?_⟩
          · have := HR.out.1
            rw [List.length_append]
            simp
            omega
          · have := congrArg List.length h
            simp at this
        clear hst hown' hgrow hnew
        go_wp2
        go_roundw
        case rel => exact ⟨d + (11 + m), rs' ++ [(18, (m : Int))], a2, c2, len + 1, rfl, by have := HRe.out; congr 1; omega, HL2, by have := HRe.out; omega, HR2, fun h => by have := HV.out h; omega, HT2, HSt⟩
        case measure => simp [intOf]; omega
      · have hsp : ∀ w, Calls Tryz.prog 103 #[.int .i64 17] w fun e w' => e = .returned (.tuple #[.int .i64 3, .int .i64 3]) ∧ w = w' := fun w => by
          exact span_any 17 w
        have HSp1 := Lib.hid hsp
        clear hsp HSpan
        obtain ⟨m, hm⟩ : ∃ m : Nat, m = min (R - 3) 7 := ⟨_, rfl⟩
        have hmin : (if (7 : Int) < (R : Int) - 3 then (7 : Int) else (R : Int) - 3) = (m : Int) := by split <;> omega
        have hmM : m ≤ 7 ∧ 3 + m ≤ R := by omega
        have hT2 : Told 0 (d + (3 + m)) (rs' ++ [(17, (m : Int))]) := HT.out.few hmM.1
        have HT2 := Lib.hid hT2; have HV := Lib.hid hvd
        clear hT2 hm hvd
        have h3 : ¬ (11 : Int) ≤ R := by omega
        have h4 : (3 : Int) ≤ R := by omega
        have hx : (R : Int) - 3 = (m : Int) := by have := hmin; split at this <;> omega
        have h7 : ¬ (7 : Int) < (m : Int) := by omega
        clear hmin
        go_wp2_with fail
        refine (HSp1.out _).mono ?_
        rintro e w2 ⟨rfl, rfl⟩
        have hrow2 := HRow.out.alloc (.cells #[.int .i64 17, .int .i64 (m : Int)] 106)
        have HRow2 := Lib.hid hrow2; have HNw := Lib.hid (news2 wr 17 (m : Int))
        clear hrow2
        go_wp2_with (at_builtin; refine wpList_app _ rfl _ _ 118 rfl 106 i0 (.agg #[.int .i64 0, .int .i64 0]) 2 16 Tryz.underlying118 hi hz0 hz1 hz2 rfl (by decide) _ len (rcells (rs0 ++ rs')) rfl HRow2.out ⟨wr.heap.size, 0, none⟩ 1 1 [.int .i64 17, .int .i64 (m : Int)] rfl rfl HNw.out ?d2 ?d3 ?d4 ?_)
        case d2 => first | rfl | (intro u hu; simp at hu; rcases hu with rfl | rfl <;> rfl) | (simp [Value.oneCell'])
        case d3 => unfold maxLen; omega
        case d4 => omega
        intro v' w2 hown' hgrow hnew
        obtain ⟨a2, c2, rfl⟩ := own_shape2 hown'
        have hst := HS.out.app HL.out hown' hgrow hnew
        rw [List.append_assoc] at hst
        have HSt := Lib.hid hst
        have HL2 : Hid (len + 1 = (rs0 ++ (rs' ++ [(17, (m : Int))])).length) := by
          have h1 := HL.out
          rw [List.length_append] at h1
          show len + 1 = _
          rw [List.length_append, List.length_append]
          simp
          omega
        have HR2 : Hid ((rs' ++ [((17 : Int), ((m : Int) : Int))]).length ≤ d + (3 + m) ∧ (d + (3 + m) ≠ 0 → rs' ++ [((17 : Int), ((m : Int) : Int))] ≠ [])) := by
          refine ⟨?_, fun _ h => ?_⟩
          · have := HR.out.1
            rw [List.length_append]
            simp
            omega
          · have := congrArg List.length h
            simp at this
        clear hst hown' hgrow hnew
        go_wp2
        go_roundw
        case rel => exact ⟨d + (3 + m), rs' ++ [(17, (m : Int))], a2, c2, len + 1, rfl, by have := HRe.out; congr 1; omega, HL2, by have := HRe.out; omega, HR2, fun h => by have := HV.out h; omega, HT2, HSt⟩
        case measure => simp [intOf]; omega
      · have hsp : ∀ w, Calls Tryz.prog 103 #[.int .i64 0] w fun e w' => e = .returned (.tuple #[.int .i64 1, .int .i64 0]) ∧ w = w' := fun w => by
          exact span_any 0 w
        have HSp1 := Lib.hid hsp
        clear hsp HSpan
        obtain ⟨m, hm⟩ : ∃ m : Nat, m = min (R - 1) 0 := ⟨_, rfl⟩
        have hmin : (if (0 : Int) < (R : Int) - 1 then (0 : Int) else (R : Int) - 1) = 0 := by split <;> omega
        have hmin2 : (if (1 : Int) < (R : Int) then (0 : Int) else (R : Int) - 1) = 0 := by split <;> omega
        have hmM : m ≤ 0 ∧ 1 + m ≤ R := by omega
        have hT2 : Told 0 (d + (1 + m)) (rs' ++ [(0, 0)]) := by rw [show 1 + m = 1 by omega]; exact HT.out.one hv
        have HT2 := Lib.hid hT2; have HV := Lib.hid hvd
        clear hT2 hm hvd
        have h3 : ¬ (11 : Int) ≤ R := by omega
        have h4 : ¬ (3 : Int) ≤ R := by omega
        go_wp2_with fail
        refine (HSp1.out _).mono ?_
        rintro e w2 ⟨rfl, rfl⟩
        have hrow2 := HRow.out.alloc (.cells #[.int .i64 0, .int .i64 0] 106)
        have HRow2 := Lib.hid hrow2; have HNw := Lib.hid (news2 wr 0 0)
        clear hrow2
        go_wp2_with (at_builtin; refine wpList_app _ rfl _ _ 118 rfl 106 i0 (.agg #[.int .i64 0, .int .i64 0]) 2 16 Tryz.underlying118 hi hz0 hz1 hz2 rfl (by decide) _ len (rcells (rs0 ++ rs')) rfl HRow2.out ⟨wr.heap.size, 0, none⟩ 1 1 [.int .i64 0, .int .i64 0] rfl rfl HNw.out ?d2 ?d3 ?d4 ?_)
        case d2 => first | rfl | (intro u hu; simp at hu; rcases hu with rfl | rfl <;> rfl) | (simp [Value.oneCell'])
        case d3 => unfold maxLen; omega
        case d4 => omega
        intro v' w2 hown' hgrow hnew
        obtain ⟨a2, c2, rfl⟩ := own_shape2 hown'
        have hst := HS.out.app HL.out hown' hgrow hnew
        rw [List.append_assoc] at hst
        have HSt := Lib.hid hst
        have HL2 : Hid (len + 1 = (rs0 ++ (rs' ++ [(0, 0)])).length) := by
          have h1 := HL.out
          rw [List.length_append] at h1
          show len + 1 = _
          rw [List.length_append, List.length_append]
          simp
          omega
        have HR2 : Hid ((rs' ++ [((0 : Int), (0 : Int))]).length ≤ d + (1 + m) ∧ (d + (1 + m) ≠ 0 → rs' ++ [((0 : Int), (0 : Int))] ≠ [])) := by
          refine ⟨?_, fun _ h => ?_⟩
          · have := HR.out.1
            rw [List.length_append]
            simp
            omega
          · have := congrArg List.length h
            simp at this
        clear hst hown' hgrow hnew
        go_wp2
        go_roundw
        case rel => exact ⟨d + (1 + m), rs' ++ [(0, 0)], a2, c2, len + 1, rfl, by have := HRe.out; congr 1; omega, HL2, by have := HRe.out; omega, HR2, fun h => by have := HV.out h; omega, HT2, HSt⟩
        case measure => simp [intOf]; omega
    · have hdt' : d = t := by omega
      subst hdt'
      have hz : (d : Int) - (d : Int) = 0 := by omega
      rw [hz]
      clear hz
      go_wp2
      go_ret
      refine ⟨rs', a', c', by rw [← HL.out]; rfl, HT.out, ?_, HR.out.1, HS.out⟩
      have := HR.out.2 (by omega)
      exact List.length_pos_iff.2 this
end Go.Proofs.YtdpegahcgaicnaaGreatDoor

namespace Go.Proofs.YtdpegahcgaicnaaGreatDoor
open Go.RowKit
set_option linter.unusedVariables false
set_option linter.unusedSimpArgs false

def okL (l : List Int) : Prop := l.length ≤ 320 ∧ ∀ z ∈ l, 0 ≤ z ∧ z ≤ 15
theorem take_more (l : List Int) (p e : Nat) (z : Int) (h : l.take e = l.take p ++ List.replicate (e - p) z) (he : e < l.length) (hpe : p ≤ e) (hz : l.getD e 0 = z) : l.take (e + 1) = l.take p ++ List.replicate (e + 1 - p) z := by
  have hg : l[e] = z := by rw [← hz]; simp [List.getD, he]
  rw [List.take_succ_eq_append_getElem he, h, hg, show e + 1 - p = (e - p) + 1 by omega, List.replicate_succ', List.append_assoc]
/-- What Runs tells. -/
def RunsP (l : List Int) (w : World) (e : Ending) (w' : World) : Prop :=
  ∃ (rs : List (Int × Int)) (a : Option Addr) (c : Nat), e = .returned (.slice a rs.length c) ∧ OwnR w' a c rs ∧ Kept NoB w w' ∧ (∀ k, (Value.slice a rs.length c).ownBlock = some k → w.heap.size ≤ k) ∧
    (okL l → Tells l rs ∧ rs.length ≤ l.length ∧ (l ≠ [] → rs ≠ [])) ∧ (¬ okL l → rs = [])

set_option maxRecDepth 20000 in
set_option maxHeartbeats 4000000 in
theorem runs_any (a : Option Addr) (c : Nat) (l : List Int) (B : Nat) (w : World) (hr : RdI w B a l) (hm : l.length ≤ 1000000) :
    Calls Tryz.prog 74 #[.slice a l.length c] w (RunsP l w) := by
  have HR := Lib.hid hr
  have hib := inBounds_any a c l B w hr hm
  obtain ⟨n, hn⟩ : ∃ n, n = l.length := ⟨_, rfl⟩
  have HN := Lib.hid hn
  have hm2 : n ≤ 1000000 := by omega
  rw [← hn] at hib ⊢
  have hnone : ¬ okL l → RunsP l w (.returned (.slice none 0 0)) w := fun h => ⟨[], none, 0, rfl, World.ownsRow_nil _ _ _ _, Kept.refl _ _, fun k hk => by simp [Value.ownBlock] at hk, fun h' => absurd h' h, fun _ => rfl⟩
  have HNone := Lib.hid hnone; have HIb := Lib.hid hib
  clear hr hn hm hnone hib
  by_cases h320 : 320 < n
  · have hno : ¬ okL l := fun h => by have := h.1; have := HN.out; omega
    have HNo := Lib.hid hno
    clear hno
    go_enter Tryz.func74, Tryz.ntmps74
    go_wp2
    go_ret
    exact HNone.out HNo.out
  · by_cases hall : ∀ z ∈ l, 0 ≤ z ∧ z ≤ 15
    · have hok : okL l := ⟨by have := HN.out; omega, hall⟩
      have hib := HIb.out
      rw [decide_eq_true hall] at hib
      have HIb2 := Lib.hid hib; have HOk := Lib.hid hok
      clear hib hall hok HIb HNone
      go_enter Tryz.func74, Tryz.ntmps74
      go_wp2_with fail
      refine HIb2.out.mono ?_
      rintro e w1 ⟨rfl, rfl⟩
      clear HIb2
      go_wp2
      go_loopw [3, 4, 5] (fun v3 v4 v5 wr => ∃ (p : Nat) (rs : List (Int × Int)) (a' : Option Addr) (c' : Nat), v3 = .slice a' rs.length c' ∧ v4 = .int .i64 (p : Int) ∧ p ≤ n ∧ Hid (Tells (l.take p) rs) ∧ Hid (rs.length ≤ p ∧ (p ≠ 0 → rs ≠ [])) ∧ Hid (OwnR wr a' c' rs) ∧ Hid (Kept NoB w wr) ∧ Hid (∀ k, (Value.slice a' rs.length c').ownBlock = some k → w.heap.size ≤ k)) (fun _ v4 _ _ => n - (intOf v4).toNat)
      case atStart => exact ⟨0, [], none, 0, rfl, rfl, by omega, (by rw [List.take_zero]; exact Tells.nil), ⟨by simp, fun h => absurd rfl h⟩, World.ownsRow_nil _ _ _ _, Kept.refl _ _, (fun k hk => by simp [Value.ownBlock] at hk)⟩
      case round =>
        obtain ⟨p, rs, a', c', rfl, rfl, hp, HT, HL, HO, HK, HF⟩ := hrel
        by_cases hlt : (p : Int) < n
        · obtain ⟨g, off, rfl, hgl, hcp⟩ := HR.out p (by have := HN.out; omega)
          have hcp' := HK.out.cell hcp
          obtain ⟨z, hz⟩ : ∃ z, z = l.getD p 0 := ⟨_, rfl⟩
          rw [← hz] at hcp'
          have hz15 : 0 ≤ z ∧ z ≤ 15 := by
            have hpl : p < l.length := by have := HN.out; omega
            have : z = l[p] := by rw [hz]; simp [List.getD, hpl]
            rw [this]; exact HOk.out.2 _ (List.getElem_mem hpl)
          have HZ := Lib.hid hz
          clear hz hcp hgl
          go_upto_block 2 with fail
          go_cut [5] from 20 to 36 (fun v5 wx => ∃ e : Nat, v5 = .int .i64 (e : Int) ∧ p < e ∧ e ≤ n ∧ Hid (l.take e = l.take p ++ List.replicate (e - p) z) ∧ Hid (Kept NoB wr wx))
          case first =>
            go_wp2_with fail
            go_loopw [5] (fun v5 wx => ∃ e : Nat, v5 = .int .i64 (e : Int) ∧ p < e ∧ e ≤ n ∧ Hid (l.take e = l.take p ++ List.replicate (e - p) z) ∧ Hid (Kept NoB wr wx)) (fun v5 _ => n - (intOf v5).toNat)
            case atStart => exact ⟨p + 1, by go_num, by omega, by omega, take_more l p p z (by simp) (by have := HN.out; omega) (Nat.le_refl _) HZ.out.symm, Kept.refl _ _⟩
            case round =>
              rename_i wx
              obtain ⟨e, rfl, hpe, hen, HE, HKx⟩ := hrel
              have hcpx := HKx.out.cell hcp'
              by_cases hel : e < n
              · obtain ⟨g2, off2, hg2, _, hce⟩ := HR.out e (by have := HN.out; omega)
                cases hg2
                have hcex := HKx.out.cell (HK.out.cell hce)
                obtain ⟨x, hx⟩ : ∃ x, x = l.getD e 0 := ⟨_, rfl⟩
                rw [← hx] at hcex
                have hd : decide ((e : Int) < (n : Int)) = true := decide_eq_true (by omega)
                have HX := Lib.hid hx
                clear hx hce
                by_cases hxz : x = z
                · have htk := take_more l p e z HE.out (by have := HN.out; omega) (by omega) (by rw [← HX.out]; exact hxz)
                  have HTk := Lib.hid htk
                  have hb : (x == z) = true := by simp; exact hxz
                  clear htk
                  go_upto_region 7 with fail
                  go_quiet (fail)
                  go_wp2
                  go_roundw
                  case rel => exact ⟨e + 1, by go_num, by omega, by omega, HTk.out, HKx.out.drewN _⟩
                  case measure => simp [intOf]; omega
                · have hb : (x == z) = false := by simp; exact hxz
                  clear hxz
                  go_upto_region 7 with fail
                  go_quiet (fail)
                  go_wp2
                  go_meet
                  exact ⟨e, rfl, hpe, hen, HE, HKx.out.drewN _⟩
              · have hd : decide ((e : Int) < (n : Int)) = false := decide_eq_false (by omega)
                go_upto_region 7 with fail
                go_quiet (fail)
                go_wp2
                go_meet
                exact ⟨e, rfl, hpe, hen, HE, HKx.out.drewN _⟩
          case rest =>
          obtain ⟨e, rfl, hpe, hen, HE, HKx⟩ := hcut
          have hcpx := HKx.out.cell hcp'
          obtain ⟨t, ht⟩ : ∃ t : Nat, t = e - p := ⟨_, rfl⟩
          have hsub : (e : Int) - (p : Int) = (t : Int) := by omega
          have hrl : rs.length ≤ 1000 := by have := HL.out.1; omega
          have hap := appendRuns_any a' c' rs z t wc (HKx.out.row HO.out (fun _ _ h => h)) hz15 (by omega) hrl
          have HAp := Lib.hid hap; have HTt := Lib.hid ht
          clear hap ht
          go_wp2_with fail
          refine HAp.out.mono ?_
          rintro ee w2 ⟨rs', a2, c2, rfl, htold, hr1, hr2, hst⟩
          have htl : l.take e = l.take p ++ List.replicate t z := by rw [HTt.out]; exact HE.out
          have hT2 : Tells (l.take e) (rs ++ rs') := by rw [htl]; exact HT.out.more htold
          have hK2 : Kept NoB w w2 := (HK.out.trans HKx.out).trans' hst.kept (fun k hk e => absurd hk (by have := HF.out k e; omega))
          have hF2 : ∀ k, (Value.slice a2 (rs ++ rs').length c2).ownBlock = some k → w.heap.size ≤ k := fun k hk => by
            rcases hst.fresh k hk with h | h
            · exact HF.out k h
            · have := (HK.out.trans HKx.out).size; omega
          have hL2 : (rs ++ rs').length ≤ e ∧ (e ≠ 0 → rs ++ rs' ≠ []) := by
            refine ⟨?_, fun _ h => ?_⟩
            · have := HL.out.1
              have := HTt.out
              rw [List.length_append]
              omega
            · have := congrArg List.length h
              rw [List.length_append] at this
              simp at this
              rw [this.2] at hr1
              simp at hr1
          have HT2 := Lib.hid hT2; have HK2 := Lib.hid hK2; have HF2 := Lib.hid hF2; have HL2 := Lib.hid hL2; have HO2 := Lib.hid hst.own
          obtain ⟨q, hq⟩ : ∃ q, q = rs ++ rs' := ⟨_, rfl⟩
          rw [← hq] at HT2 HF2 HL2 HO2 ⊢
          clear hT2 hK2 hF2 hL2 hst htold hr1 hr2 htl hq hcpx hcp'
          go_wp2
          go_roundw
          case rel => exact ⟨e, q, a2, c2, rfl, rfl, hen, HT2, HL2, HO2, HK2, HF2⟩
          case measure => simp [intOf]; omega
        · have hpn : p = n := by omega
          subst hpn
          go_wp2
          go_ret
          refine ⟨rs, a', c', rfl, HO.out, HK.out, HF.out, fun _ => ⟨?_, ?_, ?_⟩, fun h => absurd HOk.out h⟩
          · have := HT.out
            rw [HN.out, List.take_length] at this
            exact this
          · rw [← HN.out]; exact HL.out.1
          · intro hne
            exact HL.out.2 (by rw [HN.out]; intro h; exact hne (List.eq_nil_of_length_eq_zero h))
    · have hno : ¬ okL l := fun h => hall h.2
      have hib := HIb.out
      rw [decide_eq_false hall] at hib
      have HIb2 := Lib.hid hib; have HNo := Lib.hid hno
      clear hno hib hall HIb
      go_enter Tryz.func74, Tryz.ntmps74
      go_wp2_with fail
      refine HIb2.out.mono ?_
      rintro e w1 ⟨rfl, rfl⟩
      go_wp2
      go_ret
      exact HNone.out HNo.out
end Go.Proofs.YtdpegahcgaicnaaGreatDoor
