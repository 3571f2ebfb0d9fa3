/-
  The document's Codes.
  CanonKinds: which rows of lengths are codes, and which codes they are, is as the document says.
  law5.Good tells as many lengths as there are weights, up to sixty.
  Lengths told by runs: what a run more makes; what all make. No Go in sight.
  slices.Repeat of one number.
-/
import Derived.Test.YtpdlkmacdmnamaaMb13
import Derived.Laws.AppendOwnNone
import Derived.Laws.CopyOwn
import Derived.Deep.RegionLaw
import Derived.OwnWalk
namespace Go.Proofs.Ytpdlkmacdmnamaa
open Go.RowKit
set_option linter.unusedVariables false
set_option linter.unusedSimpArgs false

/-- The codes of all lengths below m, and of the first i places of length m. -/
def outP (ls : List Int) (m i : Nat) : List Int := (List.range ls.length).map (fun p : Nat => if 0 < ls.getD p 0 ∧ (ls.getD p 0 < (m : Int) ∨ (ls.getD p 0 = (m : Int) ∧ p < i)) then codeAt ls p else 0)
theorem outP_len (ls : List Int) (m i : Nat) : (outP ls m i).length = ls.length := by simp [outP]
theorem outP_zero (ls : List Int) : outP ls 1 0 = List.replicate ls.length 0 := by
  apply List.ext_getElem (by simp [outP])
  intro p h1 h2
  simp only [outP, List.getElem_map, List.getElem_range, List.getElem_replicate]
  rw [if_neg (by omega)]
theorem outP_set (ls : List Int) (m i : Nat) (hm : 1 ≤ m) (h : i < ls.length) (hz : ls.getD i 0 = (m : Int)) : outP ls m (i + 1) = (outP ls m i).set i (codeAt ls i) := by
  apply List.ext_getElem (by simp [outP])
  intro p h1 h2
  rw [List.getElem_set]
  simp only [outP, List.getElem_map, List.getElem_range]
  by_cases e : i = p
  · subst e
    rw [if_pos rfl, if_pos ⟨by omega, .inr ⟨hz, by omega⟩⟩]
  · rw [if_neg e]
    by_cases h3 : 0 < ls.getD p 0 ∧ (ls.getD p 0 < (m : Int) ∨ (ls.getD p 0 = (m : Int) ∧ p < i))
    · rw [if_pos h3, if_pos ⟨h3.1, by omega⟩]
    · rw [if_neg h3, if_neg (fun h4 => h3 ⟨h4.1, by omega⟩)]
theorem outP_same (ls : List Int) (m i : Nat) (hz : ¬ ls.getD i 0 = (m : Int)) : outP ls m (i + 1) = outP ls m i := by
  unfold outP
  apply List.map_congr_left
  intro p _
  by_cases e : p = i
  · subst e
    by_cases h3 : 0 < ls.getD p 0 ∧ ls.getD p 0 < (m : Int)
    · rw [if_pos ⟨h3.1, .inl h3.2⟩, if_pos ⟨h3.1, .inl h3.2⟩]
    · rw [if_neg (fun h4 => h3 ⟨h4.1, by omega⟩), if_neg (fun h4 => h3 ⟨h4.1, by omega⟩)]
  · by_cases h3 : 0 < ls.getD p 0 ∧ (ls.getD p 0 < (m : Int) ∨ (ls.getD p 0 = (m : Int) ∧ p < i))
    · rw [if_pos h3, if_pos ⟨h3.1, by omega⟩]
    · rw [if_neg h3, if_neg (fun h4 => h3 ⟨h4.1, by omega⟩)]
theorem outP_next (ls : List Int) (m : Nat) : outP ls m ls.length = outP ls (m + 1) 0 := by
  unfold outP
  apply List.map_congr_left
  intro p hp
  have hpl := List.mem_range.1 hp
  by_cases h3 : 0 < ls.getD p 0 ∧ (ls.getD p 0 < (m : Int) ∨ (ls.getD p 0 = (m : Int) ∧ p < ls.length))
  · rw [if_pos h3, if_pos ⟨h3.1, by omega⟩]
  · rw [if_neg h3, if_neg (fun h4 => h3 ⟨h4.1, by omega⟩)]
theorem outP_all (ls : List Int) (hs : Small 15 ls) : outP ls 16 0 = codesL ls := by
  unfold outP codesL codesP
  apply List.map_congr_left
  intro p hp
  have hpl := List.mem_range.1 hp
  have hb := hs.getD p hpl
  rw [if_pos hpl]
  by_cases h0 : 0 < ls.getD p 0
  · rw [if_pos ⟨h0, by omega⟩]
  · rw [if_neg (fun h => h0 h.1)]; unfold codeAt; rw [if_neg h0]
/-- The code that the document's way has when it comes to length m. -/
def codeB (ls : List Int) (m : Nat) : Int := if m ≤ 1 then 0 else fC (cntsL ls) (m - 1) + ((ls.count ((m - 1 : Nat) : Int) : Nat) : Int)
theorem codeB_twice (ls : List Int) (m : Nat) (hm : 1 ≤ m) (h16 : m ≤ 16) : codeB ls m * 2 = fC (cntsL ls) m := by
  unfold codeB
  by_cases h : m ≤ 1
  · have : m = 1 := by omega
    subst this
    rw [if_pos (by omega)]; rfl
  · obtain ⟨k, rfl⟩ : ∃ k, m = k + 1 := ⟨m - 1, by omega⟩
    rw [if_neg h, Nat.add_sub_cancel, fC_succ _ k (by omega), cnts_get _ _ (by omega)]
theorem codeB_next (ls : List Int) (m : Nat) (hm : 1 ≤ m) : codeB ls (m + 1) = fC (cntsL ls) m + ((ls.count (m : Int) : Nat) : Int) := by
  unfold codeB
  rw [if_neg (by omega), Nat.add_sub_cancel]
theorem codeB_bd (ls : List Int) (hl : ls.length ≤ 320) (m : Nat) (h16 : m ≤ 16) : 0 ≤ codeB ls m ∧ codeB ls m ≤ 60000000 := by
  unfold codeB
  split
  · omega
  · have h1 := fC_bd (cntsL ls) (cnts_bd ls hl) (m - 1) (by omega)
    have h2 := List.count_le_length (l := ls) (a := ((m - 1 : Nat) : Int))
    omega

theorem rcodes_no (a : Option Addr) (c B : Nat) (ls : List Int) (w : World) (hr : RdI w B a ls) (hall : AllI ls) (hl9 : ls.length ≤ 1000000) (h : errS ls ≠ 0) :
    Calls Try.prog 54 #[.slice a ls.length c] w fun e w' => e = .returned (.tuple #[.slice none 0 0, .int .i64 (errS ls)]) ∧ Kept NoB w w' := by
  have HCt := Lib.hid (rkind_any a c B ls w hr hall hl9)
  have hR : ∀ k, kindA ls = k → errS ls = if k = 0 then 1 else if k = 4 ∨ k = 5 then 3 else 0 := fun k h => by unfold errS; rw [h]
  have HR := Lib.hid hR
  obtain ⟨R, hRe⟩ : ∃ R, R = errS ls := ⟨_, rfl⟩
  rw [← hRe] at HR h ⊢
  obtain ⟨n, hn⟩ : ∃ n, n = ls.length := ⟨_, rfl⟩
  rw [← hn] at HCt ⊢
  clear hr hR hRe hn hall hl9
  rcases kindA_of ls with h1 | h1 | h1 | h1 | h1 | h1
  all_goals
    rw [h1] at HCt
    have hk := HR.out _ h1
    simp only [Int.reduceEq, or_false, or_true, if_true, if_false, or_self, false_or, true_or] at hk
    first
      | exact absurd hk h
      | (have HK := Lib.hid hk
         clear h1 hk HR h
         go_enter Try.func54, Try.ntmps54
         go_wp2_with fail
         refine HCt.out.mono ?_
         rintro e w1 ⟨rfl, hk⟩
         have HK1 := Lib.hid hk
         clear hk
         go_wp2
         go_ret2
         exact ⟨by rw [HK.out]; rfl, HK1.out⟩)

set_option maxRecDepth 20000 in
set_option maxHeartbeats 3000000 in
theorem rcodes_yes (a : Option Addr) (c B : Nat) (ls : List Int) (w : World) (hr : RdI w B a ls) (hall : AllI ls) (h : errS ls = 0) :
    Calls Try.prog 54 #[.slice a ls.length c] w (CodesP w (codesL ls)) := by
  obtain ⟨hmay, _⟩ := err_ok h
  have hl := hmay.len
  have hs := hmay.small
  have HCt := Lib.hid (rkind_any a c B ls w hr hall (by omega))
  have hkk : kindA ls = 1 ∨ kindA ls = 2 ∨ kindA ls = 3 := by
    have h1 := kindA_of ls
    unfold errS at h
    by_cases h0 : kindA ls = 0
    · rw [if_pos h0] at h; omega
    · rw [if_neg h0] at h
      by_cases h4 : kindA ls = 4 ∨ kindA ls = 5
      · rw [if_pos h4] at h; omega
      · omega
  obtain ⟨kd, hkd⟩ : ∃ kd, kd = kindA ls := ⟨_, rfl⟩
  rw [← hkd] at HCt hkk
  have k0 : (kd == 0) = false := by simp; omega
  have k4 : (kd == 4) = false := by simp; omega
  have k5 : (kd == 5) = false := by simp; omega
  have HR := Lib.hid hr; have HS := Lib.hid hs
  obtain ⟨Z, hZ⟩ : ∃ Z, Z = codesL ls := ⟨_, rfl⟩
  have HZ := Lib.hid hZ
  rw [← hZ]
  obtain ⟨n, hn⟩ : ∃ n, n = ls.length := ⟨_, rfl⟩
  have HN := Lib.hid hn
  rw [← hn] at hl HCt ⊢
  obtain ⟨i0, hi, hz0, hz1, hz2⟩ := info_parts infoU
  clear hr hs hn hZ hkd hkk h hmay hall
  go_enter Try.func54, Try.ntmps54
  go_wp2_with fail
  refine HCt.out.mono ?_
  rintro e w1 ⟨rfl, hk⟩
  have HK1 := Lib.hid hk
  clear hk
  go_wp2_with (at_make; refine wpList_make_full _ rfl _ _ _ rfl 0 47 i0 (.int .u32 0) 1 Try.underlying91 hi hz0 hz1 .i64 .i64 _ _ n rfl rfl rfl rfl (by rw [hz2]; omega) (by unfold maxLen; omega) (Nat.zero_le _) ?_)
  intro w4 hown hgrow
  rw [toList_madeCells_one] at hown
  have hk34 : Kept NoB w1 w4 := (Kept.refl _ _).grown hgrow (fun k _ e => by cases e)
  have hown0 : w4.ownsRow 0 47 1 (.slice (some ⟨w1.heap.size, 0, none⟩) n n) n ((outP ls 1 0).map (.int .u32)) := by
    rw [outP_zero, ← HN.out, List.map_replicate]; exact hown
  have HK6 := Lib.hid (HK1.out.trans hk34); have HO := Lib.hid hown0
  have hwW := HK1.out.size
  obtain ⟨D, hD⟩ : ∃ D, D = w1.heap.size := ⟨_, rfl⟩
  rw [← hD] at HO hwW ⊢
  have HD := Lib.hid hwW
  clear hown hgrow hk34 hown0 hD hwW k0 k4 k5
  go_wp2
  go_loopw [6, 5, 7] (fun v6 v5 _v7 wr => ∃ (m : Nat), v6 = .int .i64 (m : Int) ∧ v5 = .int .u32 (codeB ls m) ∧ 1 ≤ m ∧ m ≤ 16 ∧ Hid (wr.ownsRow 0 47 1 (.slice (some ⟨D, 0, none⟩) n n) n ((outP ls m 0).map (.int .u32))) ∧ Hid (Kept NoB w wr)) (fun v6 _ _ _ => 17 - (intOf v6).toNat)
  case atStart => exact ⟨1, rfl, rfl, by omega, by omega, HO, HK6⟩
  case round =>
    clear HO HK6
    obtain ⟨m, rfl, rfl, hm1, hm16, HO, HK⟩ := hrel
    have hl3 : ls.length ≤ 320 := by rw [← HN.out]; exact hl
    by_cases hlt : (m : Int) ≤ 15
    · have hb := codeB_bd ls hl3 m hm16
      have htw := codeB_twice ls m hm1 hm16
      obtain ⟨x, hx⟩ : ∃ x, x = codeB ls m := ⟨_, rfl⟩
      rw [← hx] at hb htw ⊢
      clear hx
      go_wp2
      clear htw
      go_loopw [7, 5] (fun v7 v5 wr => ∃ (j : Nat), v7 = .int .i64 (j : Int) ∧ v5 = .int .u32 (fC (cntsL ls) m + (((ls.take j).count (m : Int) : Nat) : Int)) ∧ j ≤ n ∧ Hid (wr.ownsRow 0 47 1 (.slice (some ⟨D, 0, none⟩) n n) n ((outP ls m j).map (.int .u32))) ∧ Hid (Kept NoB w wr)) (fun v7 _ _ => n - (intOf v7).toNat)
      case atStart => exact ⟨0, rfl, by simp, by omega, HO, HK⟩
      case round =>
        clear HO HK
        obtain ⟨j, rfl, rfl, hjn, HO, HK⟩ := hrel
        have hfb := fC_bd (cntsL ls) (cnts_bd ls hl3) m hm16
        have hcl := List.count_le_length (l := ls.take j) (a := (m : Int))
        rw [List.length_take] at hcl
        by_cases hlt2 : (j : Int) < n
        · have hjl : j < ls.length := by have := HN.out; omega
          obtain ⟨g, off, rfl, _, hc0⟩ := HR.out j hjl
          have hc := HK.out.cell hc0
          have hbz := HS.out.getD j hjl
          by_cases hzm : ls.getD j 0 = (m : Int)
          · have hset := outP_set ls m j hm1 hjl hzm
            have hcode : codeAt ls j = fC (cntsL ls) m + (((ls.take j).count (m : Int) : Nat) : Int) := by
              unfold codeAt; rw [if_pos (by omega), hzm, Int.toNat_natCast]
            have hnext : (ls.take (j + 1)).count (m : Int) = (ls.take j).count (m : Int) + 1 := by
              have := count_step ls j hjl
              rw [hzm] at this; exact this.symm
            have hud : ∃ u, wr.cell? ⟨D, j, none⟩ = some u := by
              rw [HO.out.cellAt j (by omega)]
              exact ⟨_, List.getElem?_eq_getElem (by simp [outP_len]; omega)⟩
            obtain ⟨u, hu⟩ := hud
            have hfd := HO.out.frozenAt j
            obtain ⟨y, hy⟩ : ∃ y, y = fC (cntsL ls) m + (((ls.take j).count (m : Int) : Nat) : Int) := ⟨_, rfl⟩
            have hyn : fC (cntsL ls) m + (((ls.take (j + 1)).count (m : Int) : Nat) : Int) = y + 1 := by rw [hnext, hy]; omega
            have hyb : 0 ≤ y ∧ y ≤ 60000000 := by omega
            rw [← hy] at hcode ⊢
            obtain ⟨s1, _⟩ := HO.out.stored j (.int .u32 y)
            rw [← List.map_set, ← hcode, ← hset] at s1
            have hK2 : Kept NoB w (wr.setCell ⟨D, j, none⟩ (.int .u32 y)) := Kept.setCell (p := ⟨D, j, none⟩) HK.out (.inr HD.out) _
            rw [hcode] at s1
            have HO2 := Lib.hid s1; have HK2 := Lib.hid hK2; have HYn := Lib.hid hyn
            rw [hzm] at hc
            have ew : IntKind.u32.wrap (y + 1) = y + 1 := IntWalk.u32_in _ (by omega)
            clear hset hcode hnext hy hyn s1 hK2 hfb hcl hc0 hzm hbz hjl
            go_wp2
            go_roundw
            case rel => exact ⟨j + 1, by go_num, by rw [HYn.out], by omega, HO2, HK2⟩
            case measure => simp [intOf]; omega
          · have hsame := outP_same ls m j hzm
            have hnext : (ls.take (j + 1)).count (m : Int) = (ls.take j).count (m : Int) := by
              rw [take_snoc ls j hjl, List.count_append]
              have : (ls.getD j 0 == (m : Int)) = false := by simpa using hzm
              simp only [List.count_singleton, this]; simp
            have hO := HO.out
            rw [← hsame] at hO
            have HO2 := Lib.hid hO
            have HNx := Lib.hid hnext
            obtain ⟨z, hz⟩ : ∃ z, z = ls.getD j 0 := ⟨_, rfl⟩
            rw [← hz] at hc hzm
            have g1 : (z == (m : Int)) = false := by simpa using hzm
            clear hsame hnext hO hfb hcl hc0 hbz hz
            go_wp2
            go_roundw
            case rel => exact ⟨j + 1, by go_num, by rw [HNx.out], by omega, HO2, HK⟩
            case measure => simp [intOf]; omega
        · have hjn2 : j = n := by omega
          subst hjn2
          have htk : ls.take j = ls := List.take_of_length_le (by have := HN.out; omega)
          have hO := HO.out
          have e1 := outP_next ls m
          rw [← HN.out] at e1
          rw [e1] at hO
          have HO2 := Lib.hid hO
          have hcb := codeB_next ls m hm1
          rw [htk, ← hcb]
          clear htk hO e1 hcb hfb hcl
          go_wp2
          go_roundw
          case rel => exact ⟨m + 1, by go_num, rfl, by omega, by omega, HO2, HK⟩
          case measure => simp [intOf]; omega
    · have hm : m = 16 := by omega
      subst hm
      have hzl : Z.length = n := by rw [HZ.out]; unfold codesL; rw [codesP_len]; exact HN.out.symm
      have hO := HO.out
      rw [outP_all ls HS.out, ← HZ.out] at hO
      have HOf := Lib.hid hO; have HZl := Lib.hid hzl
      clear hzl hO HO
      go_wp2
      go_ret2
      exact ⟨some ⟨D, 0, none⟩, n, by rw [HZl.out]; rfl, by rw [HZl.out]; exact HOf.out, HK.out⟩
end Go.Proofs.Ytpdlkmacdmnamaa

namespace Go.Proofs.Ytpdlkmacdmnamaa
open Go.RowKit
set_option linter.unusedVariables false
set_option linter.unusedSimpArgs false

theorem mask15 (n : Int) : bits .and .i64 n 15 = n % 16 := i64_mask n 4 (by decide)
theorem LensP.reads3 {w w' : World} {zs : List Int} {e : Ending} (h : LensP w zs e w') : ∃ a c, e = .returned (.tuple #[.slice a zs.length c, .int .i64 0]) ∧ RdI w' w'.heap.size a zs ∧ Kept NoB w w' ∧ (a = none → zs.length = 0 ∧ c = 0) := by
  obtain ⟨a, c, rfl, ho, hk⟩ := h
  refine ⟨a, c, rfl, ?_, hk, ?_⟩
  · intro i hi
    rcases ho.2 with ⟨_, hz⟩ | ⟨g, cc, cur, hv, _⟩
    · omega
    · simp at hv
      obtain ⟨rfl, rfl⟩ := hv
      have hc : w'.cell? ⟨g, i, none⟩ = some (.int .i64 (zs.getD i 0)) := by
        rw [ho.cellAt i (by omega)]; simp [List.getD, hi]
      exact ⟨g, 0, rfl, World.block_lt_of_cell? w' _ hc, by rw [Nat.zero_add]; exact hc⟩
  · rintro rfl
    rcases ho.2 with ⟨hv, hz⟩ | ⟨g, cc, cur, hv, _⟩
    · simp at hv; exact ⟨hz, hv.2⟩
    · simp at hv
theorem wpList_app_none {P : Program} {w : World} {ops : Array Oper} {rest : List Oper} {o : Oper} {a : Act} {Q : Exit → Act → World → Prop} (hgd : o.guard = none) (s x : Operand) (t : TypeId)
    (ho : o.op = .call { callee := .builtin .append, args := #[s, x], argTypes := #[t, t] })
    (e : TypeId) (i : TypeInfo) (size : Nat) (ht : P.underlying t = some (.slice e)) (hi : P.info? e = some i)
    (v : Value) (n : Nat) (xs : List Value) (hs : a.eval s = v) (hown : w.ownsRow 0 e size v n xs) (hx : a.eval x = .slice none 0 0)
    (h : wpList P ops Q rest (a.put o.dst v) w) : wpList P ops Q (o :: rest) a w :=
  wpList_plain hgd fun _ hK => by
    have hr := run_append_owned_none (P := P) (w := w) 0 t o.type e i size ht hi v n xs hown
    unfold Oper.wp execOp
    simp only [ho, resolve, invoke, builtin, Sem.run_bind, Sem.run_pure, Result.andThen_ok, List.map_toArray, List.map_cons, List.map_nil, hs, hx, hr]
    exact hK _ _ h

set_option maxRecDepth 20000 in
set_option maxHeartbeats 2000000 in
theorem good_calls2 (ao : Option Addr) (ca B : Nat) (ws : List Int) (w : World) (hx : RdI w B ao ws) :
    Calls Try.prog 22 #[.slice ao ws.length ca] w fun e w' => ∃ a c Z, (GoodP Z ∧ (a = none → Z.length = 0 ∧ c = 0)) ∧ e = .returned (.slice a Z.length c) ∧ RdI w' w'.heap.size a Z ∧ Kept NoB w w' := by
  have HX := Lib.hid hx
  have m1 := mask65535
  obtain ⟨i0, hi, hz0, hz1, hz2⟩ := info_parts infoI
  obtain ⟨n, hn⟩ : ∃ n, n = ws.length := ⟨_, rfl⟩
  have HN := Lib.hid hn
  rw [← hn]
  obtain ⟨P, hP⟩ : ∃ P, P = min n 60 := ⟨_, rfl⟩
  obtain ⟨A, hA⟩ : ∃ A, A = (List.range P).map (fun i => ws.getD i 0 % 65536 % 300) := ⟨_, rfl⟩
  have hAl : A.length = P := by rw [hA]; simp
  have hAb : Small 299 A := by
    intro z hz
    rw [hA] at hz
    obtain ⟨i, hi, e⟩ := List.mem_map.1 hz
    rw [← e]
    omega
  have hP60 : P ≤ 60 := by omega
  have HA := Lib.hid hA; have HAl := Lib.hid hAl; have HAb := Lib.hid hAb; have HP := Lib.hid hP
  clear hx hn hA hAl hAb hP
  go_enter Try.func22, Try.ntmps22
  go_wp2
  go_loopw [4, 3] (fun v4 v3 wr => ∃ (i : Nat) (a3 : Option Addr) (c3 : Nat), v4 = .int .i64 (i : Int) ∧ v3 = .slice a3 i c3 ∧ i ≤ P ∧ Hid (IntSt w wr a3 i c3 (A.take i))) (fun v4 _ _ => P - (intOf v4).toNat)
  case atStart => exact ⟨0, none, 0, rfl, rfl, by omega, Lib.hid (IntSt.nil w)⟩
  case round =>
    obtain ⟨i, a3, c3, rfl, rfl, hiP, HS⟩ := hrel
    by_cases hlt : i < P
    · have hin : (i : Int) < n := by have := HP.out; omega
      have hi12 : (i : Int) < 60 := by omega
      have hst := range_take (fun i => ws.getD i 0 % 65536 % 300) P i hlt
      rw [← HA.out] at hst
      obtain ⟨g, off, rfl, _, hc0⟩ := HX.out i (by have := HN.out; omega)
      have hc := HS.out.kept.cell hc0
      obtain ⟨z, hz⟩ : ∃ z, z = ws.getD i 0 := ⟨_, rfl⟩
      rw [← hz] at hc hst
      have HSt := Lib.hid hst
      clear hc0 hz hst
      have hrow := HS.out.own
      obtain ⟨cs, hcs⟩ : ∃ cs, cs = (A.take i).map (Value.int .i64) := ⟨_, rfl⟩
      rw [← hcs] at hrow
      have HRow := Lib.hid (hrow.alloc (.cells #[.int .i64 (z % 65536 % 300)] 3)); have HCs := Lib.hid hcs
      clear hrow hcs
      go_wp2_with (at_builtin; refine wpList_app _ rfl _ _ 23 rfl 3 i0 (.int .i64 0) 1 8 Try.underlying23 hi hz0 hz1 hz2 rfl (by decide) _ i cs rfl HRow.out ⟨wr.heap.size, 0, none⟩ 1 1 [.int .i64 (z % 65536 % 300)] rfl rfl (cell_one_new _ _ _) ?d2 ?d3 ?d4 ?_)
      case d2 => first | rfl | (intro u hu; simp at hu; subst hu; rfl)
      case d3 => unfold maxLen; omega
      case d4 => omega
      intro v' w2 hown' hgrow hnew
      obtain ⟨a2, c2, rfl⟩ := own_shape2 hown'
      rw [HCs.out] at hown'
      have hs2 := HS.out.app hown' hgrow hnew
      rw [← HSt.out] at hs2
      have HS2 := Lib.hid hs2
      clear hown' hgrow hnew hs2
      go_wp2
      go_roundw
      case rel => exact ⟨i + 1, a2, c2, by go_num, rfl, by omega, HS2⟩
      case measure => simp [intOf]; omega
    · have hiP2 : i = P := by omega
      subst hiP2
      have hsa := HS.out
      rw [List.take_of_length_le (by rw [HAl.out]; exact Nat.le_refl _)] at hsa
      have hl1 : Calls Try.prog 27 #[.slice a3 i c3, .int .i64 15] wr fun e w' => ∃ a c Z, ((GoodP Z ∧ (a = none → Z.length = 0 ∧ c = 0)) ∧ Z.length = i) ∧ e = .returned (.tuple #[.slice a i c, .int .i64 0]) ∧ RdI w' w'.heap.size a Z ∧ Kept NoB wr w' := by
        have hok : LensOkP A 15 := ⟨by rw [HAl.out]; omega, by omega, fun z hz => by have := HAb.out z hz; omega, by
          have := leaves_len A 0
          rw [HAl.out] at this
          have h2 : (2 : Nat) ^ (15 : Int).toNat = 32768 := by decide
          rw [h2]; omega⟩
        have hcall := lens_yes a3 c3 _ A 15 wr hsa.reads hok
        rw [HAl.out] at hcall
        refine hcall.mono ?_
        rintro e w' ⟨lv, hs, hL⟩
        obtain ⟨h1, h2⟩ := good_of A lv (by rw [HAl.out]; omega) HAb.out hs hok
        rw [HAl.out] at h1 h2
        obtain ⟨aa, c, h3, h4, h5, h6⟩ := hL.reads3
        have e15 : (15 : Int).toNat = 15 := rfl
        rw [e15] at h3 h4 h6
        rw [h2] at h3
        exact ⟨aa, c, _, ⟨⟨h1, h6⟩, h2⟩, h3, h4, h5⟩
      have HL1 := Lib.hid hl1; have HSk := Lib.hid hsa.kept
      have g1 : ((i : Int) < n ∧ ¬ (i : Int) < 60) ∨ ¬ (i : Int) < n := by have := HP.out; omega
      clear hsa hl1 HS
      rcases g1 with ⟨g1, g2⟩ | g1
      all_goals
        go_wp2_with fail
        refine HL1.out.mono ?_
        rintro e w2 ⟨a5, c5, Z, hZ, rfl, hr, hk⟩
        have HZ := Lib.hid hZ; have HR := Lib.hid hr; have HK := Lib.hid (HSk.out.trans hk)
        clear hZ hr hk
        go_wp2
        go_ret
        exact ⟨a5, c5, Z, HZ.out.1, by rw [HZ.out.2]; rfl, HR.out, HK.out⟩

/-- A row of lengths that stands in a world. -/
structure RowC (w : World) (a : Option Addr) (c : Nat) (ls : List Int) : Prop where
  rd : RdI w w.heap.size a ls
  all : AllI ls
  len : ls.length ≤ 400
theorem GoodP.allI {Z : List Int} (h : GoodP Z) : AllI Z := fun z hz => by have := h.small z hz; omega

end Go.Proofs.Ytpdlkmacdmnamaa

namespace Go.Proofs.Ytpdlkmacdmnamaa
open Go.RowKit
set_option linter.unusedVariables false
set_option linter.unusedSimpArgs false

set_option maxRecDepth 20000 in
set_option maxHeartbeats 2000000 in
theorem good_calls3 (ao : Option Addr) (ca B : Nat) (ws : List Int) (w : World) (hx : RdI w B ao ws) :
    Calls Try.prog 22 #[.slice ao ws.length ca] w fun e w' => ∃ a c Z, (GoodP Z ∧ (a = none → Z.length = 0 ∧ c = 0)) ∧ e = .returned (.slice a Z.length c) ∧ RdI w' w'.heap.size a Z ∧ Kept NoB w w' ∧ Z.length = min ws.length 60 := by
  have HX := Lib.hid hx
  have m1 := mask65535
  obtain ⟨i0, hi, hz0, hz1, hz2⟩ := info_parts infoI
  obtain ⟨n, hn⟩ : ∃ n, n = ws.length := ⟨_, rfl⟩
  have HN := Lib.hid hn
  rw [← hn]
  obtain ⟨P, hP⟩ : ∃ P, P = min n 60 := ⟨_, rfl⟩
  obtain ⟨A, hA⟩ : ∃ A, A = (List.range P).map (fun i => ws.getD i 0 % 65536 % 300) := ⟨_, rfl⟩
  have hAl : A.length = P := by rw [hA]; simp
  have hAb : Small 299 A := by
    intro z hz
    rw [hA] at hz
    obtain ⟨i, hi, e⟩ := List.mem_map.1 hz
    rw [← e]
    omega
  have hP60 : P ≤ 60 := by omega
  have HA := Lib.hid hA; have HAl := Lib.hid hAl; have HAb := Lib.hid hAb; have HP := Lib.hid hP
  clear hx hn hA hAl hAb hP
  go_enter Try.func22, Try.ntmps22
  go_wp2
  go_loopw [4, 3] (fun v4 v3 wr => ∃ (i : Nat) (a3 : Option Addr) (c3 : Nat), v4 = .int .i64 (i : Int) ∧ v3 = .slice a3 i c3 ∧ i ≤ P ∧ Hid (IntSt w wr a3 i c3 (A.take i))) (fun v4 _ _ => P - (intOf v4).toNat)
  case atStart => exact ⟨0, none, 0, rfl, rfl, by omega, Lib.hid (IntSt.nil w)⟩
  case round =>
    obtain ⟨i, a3, c3, rfl, rfl, hiP, HS⟩ := hrel
    by_cases hlt : i < P
    · have hin : (i : Int) < n := by have := HP.out; omega
      have hi12 : (i : Int) < 60 := by omega
      have hst := range_take (fun i => ws.getD i 0 % 65536 % 300) P i hlt
      rw [← HA.out] at hst
      obtain ⟨g, off, rfl, _, hc0⟩ := HX.out i (by have := HN.out; omega)
      have hc := HS.out.kept.cell hc0
      obtain ⟨z, hz⟩ : ∃ z, z = ws.getD i 0 := ⟨_, rfl⟩
      rw [← hz] at hc hst
      have HSt := Lib.hid hst
      clear hc0 hz hst
      have hrow := HS.out.own
      obtain ⟨cs, hcs⟩ : ∃ cs, cs = (A.take i).map (Value.int .i64) := ⟨_, rfl⟩
      rw [← hcs] at hrow
      have HRow := Lib.hid (hrow.alloc (.cells #[.int .i64 (z % 65536 % 300)] 3)); have HCs := Lib.hid hcs
      clear hrow hcs
      go_wp2_with (at_builtin; refine wpList_app _ rfl _ _ 23 rfl 3 i0 (.int .i64 0) 1 8 Try.underlying23 hi hz0 hz1 hz2 rfl (by decide) _ i cs rfl HRow.out ⟨wr.heap.size, 0, none⟩ 1 1 [.int .i64 (z % 65536 % 300)] rfl rfl (cell_one_new _ _ _) ?d2 ?d3 ?d4 ?_)
      case d2 => first | rfl | (intro u hu; simp at hu; subst hu; rfl)
      case d3 => unfold maxLen; omega
      case d4 => omega
      intro v' w2 hown' hgrow hnew
      obtain ⟨a2, c2, rfl⟩ := own_shape2 hown'
      rw [HCs.out] at hown'
      have hs2 := HS.out.app hown' hgrow hnew
      rw [← HSt.out] at hs2
      have HS2 := Lib.hid hs2
      clear hown' hgrow hnew hs2
      go_wp2
      go_roundw
      case rel => exact ⟨i + 1, a2, c2, by go_num, rfl, by omega, HS2⟩
      case measure => simp [intOf]; omega
    · have hiP2 : i = P := by omega
      subst hiP2
      have hsa := HS.out
      rw [List.take_of_length_le (by rw [HAl.out]; exact Nat.le_refl _)] at hsa
      have hl1 : Calls Try.prog 27 #[.slice a3 i c3, .int .i64 15] wr fun e w' => ∃ a c Z, ((GoodP Z ∧ (a = none → Z.length = 0 ∧ c = 0)) ∧ Z.length = i) ∧ e = .returned (.tuple #[.slice a i c, .int .i64 0]) ∧ RdI w' w'.heap.size a Z ∧ Kept NoB wr w' := by
        have hok : LensOkP A 15 := ⟨by rw [HAl.out]; omega, by omega, fun z hz => by have := HAb.out z hz; omega, by
          have := leaves_len A 0
          rw [HAl.out] at this
          have h2 : (2 : Nat) ^ (15 : Int).toNat = 32768 := by decide
          rw [h2]; omega⟩
        have hcall := lens_yes a3 c3 _ A 15 wr hsa.reads hok
        rw [HAl.out] at hcall
        refine hcall.mono ?_
        rintro e w' ⟨lv, hs, hL⟩
        obtain ⟨h1, h2⟩ := good_of A lv (by rw [HAl.out]; omega) HAb.out hs hok
        rw [HAl.out] at h1 h2
        obtain ⟨aa, c, h3, h4, h5, h6⟩ := hL.reads3
        have e15 : (15 : Int).toNat = 15 := rfl
        rw [e15] at h3 h4 h6
        rw [h2] at h3
        exact ⟨aa, c, _, ⟨⟨h1, h6⟩, h2⟩, h3, h4, h5⟩
      have HL1 := Lib.hid hl1; have HSk := Lib.hid hsa.kept
      have g1 : ((i : Int) < n ∧ ¬ (i : Int) < 60) ∨ ¬ (i : Int) < n := by have := HP.out; omega
      clear hsa hl1 HS
      rcases g1 with ⟨g1, g2⟩ | g1
      all_goals
        go_wp2_with fail
        refine HL1.out.mono ?_
        rintro e w2 ⟨a5, c5, Z, hZ, rfl, hr, hk⟩
        have HZ := Lib.hid hZ; have HR := Lib.hid hr; have HK := Lib.hid (HSk.out.trans hk)
        clear hZ hr hk
        go_wp2
        go_ret
        exact ⟨a5, c5, Z, HZ.out.1, by rw [HZ.out.2]; rfl, HR.out, HK.out, by rw [HZ.out.2]; exact HP.out⟩

end Go.Proofs.Ytpdlkmacdmnamaa

namespace Go.Proofs.Ytpdlkmacdmnamaa
set_option linter.unusedVariables false

/-- How often a symbol's value stands at least, how many more it may, and what it is. -/
def spanL (s : Int) : Nat := if s = 16 then 3 else if s = 17 then 3 else if s = 18 then 11 else 1
def spanB (s : Int) : Nat := if s = 16 then 2 else if s = 17 then 3 else if s = 18 then 7 else 0
def spanM (s : Int) : Int := if s = 16 then 3 else if s = 17 then 7 else if s = 18 then 127 else 0
def valS (l : List Int) (s : Int) : Int := if s = 16 then l.getD (l.length - 1) 0 else if 16 < s then 0 else s
/-- May a run stand behind l? -/
def okRun (l : List Int) (s x : Int) : Prop := 0 ≤ s ∧ s ≤ 18 ∧ 0 ≤ x ∧ x ≤ spanM s ∧ (s = 16 → l ≠ [])
instance (l : List Int) (s x : Int) : Decidable (okRun l s x) := by unfold okRun; infer_instance
def moreL (l : List Int) (s x : Int) : List Int := l ++ List.replicate (spanL s + x.toNat) (valS l s)
theorem moreL_len (l : List Int) (s x : Int) : (moreL l s x).length = l.length + (spanL s + x.toNat) := by simp [moreL]
/-- All runs behind l, of no more than n lengths. -/
def runAll (n : Int) : List Int → List (Int × Int) → Option (List Int)
  | l, [] => some l
  | l, (s, x) :: r => if okRun l s x ∧ ((moreL l s x).length : Int) ≤ n then runAll n (moreL l s x) r else none
/-- What Flat tells: the lengths and the error. -/
def flatS (n : Int) (rs : List (Int × Int)) : List Int × Int :=
  if n < 0 ∨ 320 < n then ([], 1) else match runAll n [] rs with
    | some l => if (l.length : Int) = n then (l, 0) else ([], 6)
    | none => ([], 6)
theorem runAll_len (n : Int) : ∀ (rs : List (Int × Int)) (l xs : List Int), (l.length : Int) ≤ n → runAll n l rs = some xs → (xs.length : Int) ≤ n := by
  intro rs
  induction rs with
  | nil => intro l xs hl h; cases h; exact hl
  | cons r rs ih =>
    intro l xs hl h
    obtain ⟨s, x⟩ := r
    unfold runAll at h
    split at h
    · rename_i hc; exact ih _ _ hc.2 h
    · cases h
theorem valS_lt (l : List Int) (hl : ∀ z ∈ l, 0 ≤ z ∧ z ≤ 15) (s : Int) (h : 0 ≤ s ∧ s ≤ 18) : 0 ≤ valS l s ∧ valS l s ≤ 15 := by
  unfold valS
  split
  · by_cases h0 : l.length - 1 < l.length
    · have : l.getD (l.length - 1) 0 = l[l.length - 1] := by simp [List.getD, h0]
      rw [this]; exact hl _ (List.getElem_mem h0)
    · have : l.getD (l.length - 1) 0 = 0 := by simp [List.getD, List.getElem?_eq_none (Nat.le_of_not_lt h0)]
      omega
  · split <;> omega
end Go.Proofs.Ytpdlkmacdmnamaa

namespace Go.Proofs.Ytpdlkmacdmnamaa
open Go.RowKit
set_option linter.unusedVariables false
set_option linter.unusedSimpArgs false

theorem u64_mask32 (c : Nat) (hc : c ≤ 1000) : bits .and .u64 (c : Int) 4294967295 = (c : Int) := by
  show IntKind.u64.wrap ((BitVec.ofInt 64 (c : Int) &&& BitVec.ofInt 64 4294967295).toNat : Int) = _
  have h1 : (BitVec.ofInt 64 (c : Int)).toNat = c := by rw [BitVec.toNat_ofInt]; omega
  have h2 : (BitVec.ofInt 64 4294967295).toNat = 2 ^ 32 - 1 := by decide
  rw [BitVec.toNat_and, h1, h2, Nat.and_two_pow_sub_one_eq_mod, IntKind.wrap_u64]
  omega
theorem mul64_any (c : Nat) (w : World) (hc : c ≤ 1000) : Calls Try.prog 71 #[.int .u64 1, .int .u64 (c : Int)] w fun e w' => e = .returned (.tuple #[.int .u64 0, .int .u64 (c : Int)]) ∧ w = w' := by
  have e1 : bits .and .u64 (1 : Int) 4294967295 = 1 := by decide +kernel
  have e0 : bits .and .u64 (0 : Int) 4294967295 = 0 := by decide +kernel
  have e2 := u64_mask32 c hc
  have e3 : (c : Int) / 4294967296 = 0 := by omega
  go_enter Try.func71, Try.ntmps71
  go_wp2
  go_ret2
  exact ⟨rfl, rfl⟩
theorem mul_any (c : Nat) (w : World) (hc : c ≤ 1000) : Calls Try.prog 66 #[.int .u64 1, .int .u64 (c : Int)] w fun e w' => e = .returned (.tuple #[.int .u64 0, .int .u64 (c : Int)]) ∧ w = w' := by
  have h := mul64_any c w hc
  have H := Lib.hid h
  clear h
  go_enter Try.func66, Try.ntmps66
  go_wp2_with fail
  refine H.out.mono ?_
  rintro e w1 ⟨rfl, rfl⟩
  go_wp2
  go_ret2
  exact ⟨rfl, rfl⟩

/-- A row of N, whose first n are v, the others 0. -/
def repC (v : Int) (N n : Nat) : List Value := List.replicate n (Value.int .i64 v) ++ List.replicate (N - n) (Value.int .i64 0)
theorem repC_len (v : Int) (N n : Nat) (h : n ≤ N) : (repC v N n).length = N := by simp [repC]; omega
theorem repC_full (v : Int) (N : Nat) : repC v N N = List.replicate N (Value.int .i64 v) := by simp [repC]
theorem repC_none (v : Int) (N : Nat) : repC v N 0 = List.replicate N (Value.int .i64 0) := by simp [repC]
theorem repC_at (v : Int) (N n j : Nat) (h : j < n) : (repC v N n)[j]? = some (Value.int .i64 v) := by
  unfold repC
  rw [List.getElem?_append_left (by simpa using h), List.getElem?_replicate, if_pos h]
theorem rep_splice (v : Int) (N n k : Nat) (h3 : n + k ≤ N) : splice (repC v N n) n (List.replicate k (Value.int .i64 v)) = repC v N (n + k) := by
  unfold splice repC
  rw [List.take_left' (by simp), List.length_replicate, ← List.append_assoc, List.replicate_append_replicate]
  congr 1
  rw [List.drop_append, List.drop_of_length_le (by simp), List.nil_append, List.drop_replicate]
  congr 1
  simp
  omega

set_option maxRecDepth 20000 in
set_option maxHeartbeats 400000 in
theorem repeat_any (g : Nat) (v : Int) (N : Nat) (w : World) (hc : w.cell? ⟨g, 0, none⟩ = some (.int .i64 v)) (hN : 1 ≤ N ∧ N ≤ 1000) :
    Calls Try.prog 57 #[.slice (some ⟨g, 0, none⟩) 1 1, .int .i64 (N : Int)] w fun e w' => ∃ G, e = .returned (.slice (some ⟨G, 0, none⟩) N N) ∧ Hid (w'.heap[G]? = some (.cells (List.replicate N (Value.int .i64 v)).toArray 3 (0, 0))) ∧ w.heap.size ≤ G ∧ Below w.heap.size w w' := by
  obtain ⟨i0, hi, hz0, hz1, hz2⟩ := info_parts infoI
  have HM := Lib.hid (mul_any N w hN.2)
  have hsz : (Try.prog.info? 3).map (·.size) = some 1 := by rw [hi]; simp [hz1]
  go_enter Try.func57, Try.ntmps57
  go_wp2_with fail
  refine HM.out.mono ?_
  rintro e w1 ⟨rfl, rfl⟩
  have hN64 : ¬ (9223372036854775807 : Int) < (N : Int) := by omega
  go_wp2_with (at_make; refine wpList_make_full _ rfl _ _ _ rfl 0 3 i0 (.int .i64 0) 1 Try.underlying23 hi hz0 hz1 .i64 .i64 _ _ N rfl rfl rfl rfl (by rw [hz2]; omega) (by unfold maxLen; omega) (Nat.zero_le _) ?_)
  intro w2 hown hgrow
  obtain ⟨G, hG⟩ : ∃ G, G = w.heap.size := ⟨_, rfl⟩
  rw [← hG] at hown ⊢
  have hcells : w2.heap[G]? = some (.cells (repC v N 0).toArray 3 (0, 0)) := by
    rcases hown.2 with ⟨hv, _⟩ | ⟨g', c', cur, hv, _, hg', h1, h2, h3, h4⟩
    · simp at hv
    · simp at hv
      obtain ⟨rfl, rfl⟩ := hv
      rw [hg']
      have e : cur = (List.replicate N (Value.int .i64 0)).toArray := by
        apply Array.ext'
        rw [List.take_of_length_le (by simp; omega), toList_madeCells_one] at h4
        rw [h4]
      rw [e, repC_none]
  have hb2 : Below w.heap.size w w2 := (Below.refl _ w).grown hgrow (Nat.le_refl _) (fun k e => by cases e)
  have hcell2 : w2.cell? ⟨g, 0, none⟩ = some (.int .i64 v) := (hb2.cell (show (⟨g, 0, none⟩ : Addr).block < w.heap.size from World.block_lt_of_cell? w _ hc)).trans hc
  have hGe := Nat.le_of_eq hG.symm
  have HG := Lib.hid hG
  clear hown hgrow hG hc
  go_wp2_with (with_reducible refine wpList_copy_splice rfl (.tmp 31) (.tmp 32) 23 23 rfl 3 Try.underlying23 hsz _ _ _ _ _ _ rfl rfl G 0 _ 3 hcells [.int .i64 v] (show 1 = min 1 N by omega) (fun _ => ⟨rfl, _, rfl, ?q1⟩) ?q2 ?q3 w.heap.size w hb2 hGe ?_)
  case q1 => intro j u hj; match j with
    | 0 => simp at hj; subst hj; rw [addr_add]; exact hcell2
    | j + 1 => simp at hj
  case q2 => rw [repC_len v N 0 (by omega)]; simp; omega
  case q3 => intro u hu; simp at hu; subst hu; rfl
  intro w3 hg3 hb3
  have hg3' := hg3.out
  rw [show [Value.int .i64 v] = List.replicate 1 (Value.int .i64 v) from rfl, rep_splice v N 0 1 (by omega)] at hg3'
  have HG3 := Lib.hid hg3'
  clear hg3 hg3' hcells hb2 hcell2
  go_wp2
  go_loopw [8] (fun v8 wr => ∃ n : Nat, v8 = .int .i64 (n : Int) ∧ 1 ≤ n ∧ n ≤ N ∧ Hid (wr.heap[G]? = some (.cells (repC v N n).toArray 3 (0, 0))) ∧ Hid (Below w.heap.size w wr)) (fun v8 _ => N - (intOf v8).toNat)
  case atStart => exact ⟨1, rfl, by omega, by omega, HG3, hb3⟩
  case round =>
    obtain ⟨n, rfl, hn1, hnN, HR, HBl⟩ := hrel
    by_cases hlt : (n : Int) < N
    · obtain ⟨k, hk⟩ : ∃ k, k = min n (N - n) := ⟨_, rfl⟩
      obtain ⟨m, hm⟩ : ∃ m, m = N - n := ⟨_, rfl⟩
      have hsub : (N : Int) - (n : Int) = (m : Int) := by omega
      have hHR : wr.drew.heap[G]? = some (.cells (repC v N n).toArray 3 (0, 0)) := HR.out
      have hHB : Below w.heap.size w wr.drew := HBl.out.drew
      have hne : ¬ N = n := by omega
      have hnN2 : ¬ (N : Int) < (n : Int) := by omega
      have hln : (List.replicate k (Value.int .i64 v)).length = k := List.length_replicate
      have q1 : (List.replicate k (Value.int .i64 v)).length = Nat.min n (N - n) := by rw [hln, hk]
      have q2 : 0 < (List.replicate k (Value.int .i64 v)).length → (some ⟨G, n, none⟩ : Option Addr) = some ⟨G, n, none⟩ ∧ ∃ ad, (some ⟨G, 0, none⟩ : Option Addr) = some ad ∧ ∀ j u, (List.replicate k (Value.int .i64 v))[j]? = some u → wr.drew.cell? (ad.add j) = some u := fun _ => by
        refine ⟨rfl, _, rfl, fun j u hj => ?_⟩
        rw [List.getElem?_replicate] at hj
        split at hj
        · rename_i hjk
          cases hj
          rw [addr_add, Nat.zero_add, cell_of_row _ G j _ _ (0, 0) hHR]
          have := repC_at v N n j (by have := hk; omega)
          simpa using this
        · cases hj
      have q3 : n + (List.replicate k (Value.int .i64 v)).length ≤ (repC v N n).length := by rw [hln, repC_len v N n hnN]; omega
      have q4 : ∀ u ∈ List.replicate k (Value.int .i64 v), u.oneCell' = true := fun u hu => by rw [List.eq_of_mem_replicate hu]; rfl
      have hsp := rep_splice v N n k (by omega)
      have hrun := run_copy_row (P := Try.prog) wr.drew 23 23 3 3 G n (N - n) (N - n) ⟨G, 0, none⟩ n N (repC v N n).toArray 3 (List.replicate k (Value.int .i64 v)) Try.underlying23 hsz hHR q1 (by obtain ⟨_, ad, e, h⟩ := q2 (by rw [hln]; omega); cases e; exact h) (by simpa using q3) q4
      rw [hln] at hrun
      obtain ⟨w4, hw4⟩ : ∃ w4, w4 = wr.drew.setRow G ((repC v N n).toArray.toList.take n ++ List.replicate k (Value.int .i64 v) ++ (repC v N n).toArray.toList.drop (n + k)).toArray := ⟨_, rfl⟩
      rw [← hw4] at hrun
      have hg4 : w4.heap[G]? = some (.cells (repC v N (n + k)).toArray 3 (0, 0)) := by
        rw [hw4, ← hsp]
        unfold splice
        rw [hln, ← List.append_assoc]
        exact setRow_heap _ G _ _ _ _ hHR
      have hb4 : Below w.heap.size w w4 := by rw [hw4]; exact below_setRow hHB hGe _
      have hkN : n + k ≤ N := by omega
      have hk1 : 1 ≤ k := by omega
      have HG4 := Lib.hid hg4; have HB4 := Lib.hid hb4; have HK := Lib.hid hk
      clear hsp hln q1 q2 q3 q4 hHR hHB hk hm hw4 hg4 hb4 hsub HR HBl
      go_upto_region 9 with fail
      go_region
      clear hrun
      go_wp2
      go_roundw
      case rel => exact ⟨n + k, by go_num, by omega, by have := HK.out; omega, HG4.out, HB4.out⟩
      case measure => have := HK.out; simp [intOf]; omega
    · have hnN' : n = N := by omega
      subst hnN'
      have hr := HR.out
      rw [repC_full] at hr
      have HR2 := Lib.hid hr
      clear hr HR
      go_wp2
      go_ret
      exact ⟨G, rfl, HR2, hGe, HBl.out⟩
end Go.Proofs.Ytpdlkmacdmnamaa
