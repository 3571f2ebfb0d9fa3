/-
  small, Same, digits of layer 18.
-/
import Derived.Test.YtclcgiochjibjaaGreatDoorAwakeX
import Derived.BigQuiet
import Derived.Laws.StructEq
import Derived.ChangeKeysEq
namespace Go.Proofs.YtclcgiochjibjaaGreatDoor
open Go.RowKit
set_option linter.unusedVariables false
set_option linter.unusedSimpArgs false

theorem take_snoc (rs : List KVb) (i : Nat) (h : i < rs.length) : rs.take (i + 1) = rs.take i ++ [rs.getD i ([], [])] := by
  rw [List.take_succ_eq_append_getElem h]
  simp [List.getD, h]

def SmallR (rs : List KVb) (e : Ending) : Prop := ∃ b, e = .returned (.bool b) ∧ (b = true → rs.length ≤ 15 ∧ ∀ p ∈ rs, p.1.length ≤ 300 ∧ p.2.length ≤ 300)
set_option maxRecDepth 20000 in
set_option maxHeartbeats 4000000 in
theorem small_any (ao : Option Addr) (n cap : Nat) (rs : List KVb) (w : World) (hn : n = rs.length) (hr : RdK w w.heap.size ao rs) (hc : n ≤ cap) (hcm : cap ≤ maxLen) :
    Calls Tryz.prog 4 #[.slice ao n cap] w fun e w' => SmallR rs e ∧ w = w' := by
  have HR := Lib.hid hr; have HN := Lib.hid hn
  have hcm2 : n ≤ 9223372036854775807 := by unfold maxLen at hcm; omega
  have HSt := Lib.hid (fun i (hi : i < n) => take_snoc rs i (by omega))
  clear hr hn hc hcm
  go_enter Tryz.func4, Tryz.ntmps4
  go_wp2
  go_loopw [3] (fun v3 wr => ∃ i : Nat, v3 = .int .i64 (i : Int) ∧ i ≤ n ∧ i ≤ 15 ∧ Hid (∀ p ∈ rs.take i, p.1.length ≤ 300 ∧ p.2.length ≤ 300) ∧ w = wr) (fun v3 _ => n - (intOf v3).toNat)
  case atStart => exact ⟨0, rfl, by omega, by omega, Lib.hid (by simp), rfl⟩
  case round =>
    obtain ⟨i, rfl, hi, hi15, HS, rfl⟩ := hrel
    by_cases hlt : (i : Int) < (n : Int)
    · by_cases h15 : (15 : Int) ≤ (i : Int)
      · go_wp2
        go_ret
        exact ⟨⟨false, rfl, fun h => by cases h⟩, rfl⟩
      · have hin : i < n := by omega
        obtain ⟨b, off, rfl, hb, d0, d1⟩ := HR.out i (by have := HN.out; omega)
        have e1 := HSt.out i hin
        obtain ⟨r, hr⟩ : ∃ r, r = rs.getD i ([], []) := ⟨_, rfl⟩
        rw [← hr] at d0 d1 e1
        rw [show off + (i * 2 + 1) = off + i * 2 + 1 by omega] at d1
        have E1 := Lib.hid e1
        have z1 := strB_size r.1
        have z2 := strB_size r.2
        clear hr e1
        generalize strB r.1 = A at *
        generalize strB r.2 = B at *
        by_cases h1 : (300 : Int) < (A.size : Int)
        · clear z1 z2
          go_wp2
          go_ret
          exact ⟨⟨false, rfl, fun h => by cases h⟩, rfl⟩
        · by_cases h2 : (300 : Int) < (B.size : Int)
          · clear z1 z2
            go_wp2
            go_ret
            exact ⟨⟨false, rfl, fun h => by cases h⟩, rfl⟩
          · have HX : Hid (∀ p ∈ rs.take (i + 1), p.1.length ≤ 300 ∧ p.2.length ≤ 300) := Lib.hid (by
              rw [E1.out]
              intro p hp
              rcases List.mem_append.1 hp with h | h
              · exact HS.out p h
              · simp at h; subst h; omega)
            clear z1 z2
            go_wp2
            go_roundw
            case rel => exact ⟨i + 1, by go_num, by omega, by omega, HX, trivial⟩
            case measure => simp [intOf]; omega
    · have hie : i = n := by omega
      have HX : Hid (rs.length ≤ 15 ∧ ∀ p ∈ rs, p.1.length ≤ 300 ∧ p.2.length ≤ 300) := Lib.hid (by
        have h := HS.out
        rw [hie, HN.out, List.take_length] at h
        exact ⟨by have := HN.out; omega, h⟩)
      clear hie
      go_wp2
      go_ret
      exact ⟨⟨true, rfl, fun _ => HX.out⟩, rfl⟩


set_option maxRecDepth 20000 in
theorem kv_neq (W : World) (a b c d : ByteArray) : (binOp .neq 28 (.agg #[.string a, .string b]) (.agg #[.string c, .string d])).run Tryz.prog W = .ok (.bool (!(a.toList == c.toList && b.toList == d.toList))) W := by
  have hs : Tryz.prog.cellsOf 9 = 1 := by kernel_rfl
  rw [run_neq_struct, run_equalIn_agg _ _ _ _ _ (by kernel_rfl) (by kernel_rfl)]
  rw [Program.fieldsOf, Tryz.underlying28]
  have hpt : ∀ (xs : Array Value) (off : Nat) (v : Value) (W : World), xs[off]? = some v → (part 9 xs off).run Tryz.prog W = .ok v W := by
    intro xs off v W h
    exact run_part_plain W (by kernel_rfl) h
  have p1 := hpt #[.string a, .string b] 0 (.string a) W rfl
  have p2 := hpt #[.string c, .string d] 0 (.string c) W rfl
  have p3 := hpt #[.string a, .string b] 1 (.string b) W rfl
  have p4 := hpt #[.string c, .string d] 1 (.string d) W rfl
  have q1 : (Op.equalIn 9999 9 (.string a) (.string c)).run Tryz.prog W = .ok (a.toList == c.toList) W := run_equalIn_string (P := Tryz.prog) W 9998 9 a c Tryz.underlying9
  have q2 : (Op.equalIn 9999 9 (.string b) (.string d)).run Tryz.prog W = .ok (b.toList == d.toList) W := run_equalIn_string (P := Tryz.prog) W 9998 9 b d Tryz.underlying9
  simp only [Op.eqFields]
  rw [if_pos (by decide), if_pos (by decide)]
  simp only [Sem.run_bind, p1, p2, p3, p4, q1, Result.andThen_ok, Sem.run_ite]
  cases (a.toList == c.toList) with
  | false => simp
  | true =>
    simp only [Bool.not_true, Bool.false_eq_true, if_false, q2, Result.andThen_ok]
    cases (b.toList == d.toList) <;> simp
theorem kv_eq (a b : KVb) : ((strB a.1).toList == (strB b.1).toList && (strB a.2).toList == (strB b.2).toList) = decide (a = b) := by
  rw [strB_list, strB_list, strB_list, strB_list]
  obtain ⟨a1, a2⟩ := a
  obtain ⟨b1, b2⟩ := b
  by_cases h1 : a1 = b1 <;> by_cases h2 : a2 = b2 <;> simp [h1, h2]
set_option maxRecDepth 20000 in
set_option maxHeartbeats 4000000 in
theorem same_any (ao : Option Addr) (n cap : Nat) (ra : List KVb) (bo : Option Addr) (m cbp : Nat) (rb : List KVb) (w : World) (hn : n = ra.length) (hm : m = rb.length) (hr : RdK w w.heap.size ao ra) (hs : RdK w w.heap.size bo rb) (hc : n ≤ 1000000) (hcm : m ≤ 1000000) :
    Calls Tryz.prog 10 #[.slice ao n cap, .slice bo m cbp] w fun e w' => e = .returned (.bool (decide (ra = rb))) ∧ Kept NoB w w' := by
  have HR := Lib.hid hr; have HN := Lib.hid hn; have HS := Lib.hid hs; have HM := Lib.hid hm
  obtain ⟨R, hR⟩ : ∃ R, R = decide (ra = rb) := ⟨_, rfl⟩
  rw [← hR]
  have HRR := Lib.hid hR
  clear hr hn hs hm hR
  by_cases hnm : n = m
  · subst hnm
    have HTk := Lib.hid (fun i (hi : i < n) => (⟨take_snoc ra i (by have := HN.out; omega), take_snoc rb i (by have := HM.out; omega)⟩ : _ ∧ _))
    have hself : ((n : Int) == (n : Int)) = true := by simp
    go_enter Tryz.func10, Tryz.ntmps10
    go_wp2
    go_loopw [5] (fun v5 wr => ∃ i : Nat, v5 = .int .i64 (i : Int) ∧ i ≤ n ∧ Hid (ra.take i = rb.take i) ∧ Hid (Kept NoB w wr)) (fun v5 _ => n - (intOf v5).toNat)
    case atStart => exact ⟨0, rfl, by omega, Lib.hid (by simp), Kept.refl _ _⟩
    case round =>
      obtain ⟨i, rfl, hi, HE, HK⟩ := hrel
      by_cases hlt : (i : Int) < (n : Int)
      · have hin : i < n := by omega
        obtain ⟨b, off, rfl, hb, c0, c1⟩ := HR.out i (by have := HN.out; omega)
        obtain ⟨b2, off2, rfl, hb2, c2, c3⟩ := HS.out i (by have := HM.out; omega)
        have d0 := HK.out.cell c0
        have d1 := HK.out.cell c1
        have d2 := HK.out.cell c2
        have d3 := HK.out.cell c3
        obtain ⟨e1, e2⟩ := HTk.out i hin
        obtain ⟨r, hr⟩ : ∃ r, r = ra.getD i ([], []) := ⟨_, rfl⟩
        obtain ⟨q, hq⟩ : ∃ q, q = rb.getD i ([], []) := ⟨_, rfl⟩
        rw [← hr] at d0 d1 e1
        rw [← hq] at d2 d3 e2
        rw [show off + (i * 2 + 1) = off + i * 2 + 1 by omega] at d1
        rw [show off2 + (i * 2 + 1) = off2 + i * 2 + 1 by omega] at d3
        have hkv := kv_eq r q
        have hne := fun W => kv_neq W (strB r.1) (strB r.2) (strB q.1) (strB q.2)
        have HQ : Hid (ra.getD i ([], []) = r ∧ rb.getD i ([], []) = q) := Lib.hid ⟨hr.symm, hq.symm⟩
        have E1 := Lib.hid e1; have E2 := Lib.hid e2
        clear c0 c1 c2 c3 hr hq e1 e2
        generalize strB r.1 = A1 at *
        generalize strB r.2 = A2 at *
        generalize strB q.1 = B1 at *
        generalize strB q.2 = B2 at *
        by_cases heq : r = q
        · rw [decide_eq_true heq] at hkv
          rw [hkv] at hne
          have HX : Hid (ra.take (i + 1) = rb.take (i + 1)) := Lib.hid (by rw [E1.out, E2.out, HE.out, heq])
          clear heq
          go_wp2
          go_quiet (fail)
          go_wp2
          go_roundw
          case rel => exact ⟨i + 1, by go_num, by omega, HX, HK.out.drewN _⟩
          case measure => simp [intOf]; omega
        · rw [decide_eq_false heq] at hkv
          rw [hkv] at hne
          have HX : Hid (R = false) := Lib.hid (by
            rw [HRR.out]
            apply decide_eq_false
            intro e
            apply heq
            rw [← HQ.out.1, ← HQ.out.2, e])
          clear heq
          go_wp2
          go_quiet (fail)
          go_wp2
          go_ret
          exact ⟨by rw [HX.out]; rfl, HK.out.drewN _⟩
      · have hie : i = n := by omega
        have HX : Hid (R = true) := Lib.hid (by
          have h := HE.out
          rw [hie] at h
          rw [HRR.out]
          apply decide_eq_true
          have h1 : ra.take n = ra := by rw [HN.out, List.take_length]
          have h2 : rb.take n = rb := by rw [HM.out, List.take_length]
          rw [← h1, ← h2]; exact h)
        clear hie
        go_wp2
        go_ret
        exact ⟨by rw [HX.out]; rfl, HK.out⟩
  · have hne : ((n : Int) == (m : Int)) = false := by simp; omega
    have HX : Hid (R = false) := Lib.hid (by
      rw [HRR.out]
      apply decide_eq_false
      intro e
      apply hnm
      rw [HN.out, HM.out, e])
    go_enter Tryz.func10, Tryz.ntmps10
    go_wp2
    go_ret
    exact ⟨by rw [HX.out]; rfl, Kept.refl _ _⟩
end Go.Proofs.YtclcgiochjibjaaGreatDoor
