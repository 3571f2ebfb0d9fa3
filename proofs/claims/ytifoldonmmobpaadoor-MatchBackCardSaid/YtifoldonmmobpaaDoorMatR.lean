/-
  law7.Rows: bytes that come again.
-/
import Derived.Test.YtifoldonmmobpaaDoorMatN
import Derived.Test.YtifoldonmmobpaaDoorOwnB
import Derived.Test.YtifoldonmmobpaaDoorInts
namespace Go.Proofs.YtifoldonmmobpaaDoor
open Go.RowKit
set_option linter.unusedVariables false
set_option linter.unusedSimpArgs false

theorem mask3 (n : Int) : bits .and .i64 n 3 = n % 4 := i64_mask n 2 (by decide)
theorem maskF (n : Int) : bits .and .i64 n 15 = n % 16 := i64_mask n 4 (by decide)
theorem mask24 (n : Int) : bits .and .i64 n 16777215 = n % 16777216 := i64_mask n 24 (by decide)
theorem BySt.drewN {w0 w : World} {a : Option Addr} {l c : Nat} {L : List UInt8} (h : BySt w0 w a l c L) (k : Nat) : BySt w0 (w.drewN k) a l c L := h.on (Kept.drewN (Kept.refl _ _) k)
/-- Nothing appended. -/
theorem wpList_by_none {w : World} {ops : Array Oper} {rest : List Oper} {o : Oper} {act : Act} {Q : Exit → Act → World → Prop} (hgd : o.guard = none) (s x : Operand)
    (ho : o.op = .call { callee := .builtin .append, args := #[s, x], argTypes := #[22, 22] })
    {w0 : World} {a : Option Addr} {l c : Nat} {L : List UInt8} (hS : BySt w0 w a l c L) (hs : act.eval s = .slice a l c) (hx : act.eval x = .slice none 0 0)
    (h : wpList Tryd.prog ops Q rest (act.put o.dst (.slice a l c)) w) : wpList Tryd.prog ops Q (o :: rest) act w := by
  obtain ⟨i, hi, hz, hsz, hby⟩ := info_parts info5
  refine wpList_plain hgd fun _ hK => ?_
  have hr := run_append_owned_none (P := Tryd.prog) (w := w) 0 22 o.type 5 i 1 Tryd.underlying22 hi (.slice a l c) l (bc L) hS.own
  unfold Oper.wp execOp
  simp only [ho, resolve, invoke, builtin, Sem.run_bind, Sem.run_pure, Result.andThen_ok, List.map_toArray, List.map_cons, List.map_nil, hs, hx, hr]
  exact hK _ _ h
/-- One byte appended. -/
theorem wpList_by_one {w : World} {ops : Array Oper} {rest : List Oper} {o : Oper} {act : Act} {Q : Exit → Act → World → Prop} (hgd : o.guard = none) (s x : Operand)
    (ho : o.op = .call { callee := .builtin .append, args := #[s, x], argTypes := #[22, 22] })
    {w0 : World} {a : Option Addr} {l c : Nat} {L : List UInt8} (hS : BySt w0 w a l c L) (hs : act.eval s = .slice a l c) (b : UInt8) (z : Int) (hz : z = (b.toNat : Int)) (hx : act.eval x = .slice (some ⟨w.heap.size, 0, none⟩) 1 1) (hn : l + 1 ≤ 100000000)
    (h : ∀ a2 c2 w', BySt w0 w' a2 (l + 1) c2 (L ++ [b]) → wpList Tryd.prog ops Q rest (act.put o.dst (.slice a2 (l + 1) c2)) w') : wpList Tryd.prog ops Q (o :: rest) act (w.alloc (.cells #[.int .u8 z] 5)) :=
  wpList_by_row hgd s x ho (hS.on ((Kept.refl _ w).alloc _)) hs ⟨w.heap.size, 0, none⟩ 1 1 [b] rfl hx (lit_reads (t := 5) (fr := (0, 0)) (cs := #[.int .u8 z]) _ (heap_alloc_new _ _) (by rw [hz]; rfl)) hn h

set_option maxRecDepth 20000 in
set_option maxHeartbeats 4000000 in
theorem rows7_any (bo : Option Addr) (bl cb : Nat) (B : List UInt8) (lo : Option Addr) (nl cl : Nat) (zs : List Int) (w : World) (hbl : bl = B.length) (hrb : Reads w bo (nb B)) (hbn : bo = none → cb = 0) (hbc : bl ≤ cb) (hbm : cb ≤ maxLen) (hl : RdI w w.heap.size lo zs) (hnl : nl = zs.length) (hlc : nl ≤ cl) (hcm : cl ≤ maxLen) :
    Calls Tryd.prog 9 #[.slice bo bl cb, .slice lo nl cl] w fun e w' => ∃ (x : List UInt8) (a : Option Addr) (m c : Nat), e = .returned (.slice a m c) ∧ m ≤ 200 ∧ BySt w w' a m c x := by
  unfold maxLen at hbm hcm
  have HBl := Lib.hid hbl; have HRb := Lib.hid hrb; have HBn := Lib.hid hbn; have HL := Lib.hid hl; have HNl := Lib.hid hnl
  clear hbl hrb hbn hl hnl
  go_enter Tryd.func9, Tryd.ntmps9
  go_wp2_with fail
  go_loopw [5, 6] (fun v5 v6 wr => ∃ (x : List UInt8) (a : Option Addr) (m c i : Nat), v5 = .slice a m c ∧ v6 = .int .i64 (i : Int) ∧ i ≤ nl ∧ m ≤ 200 ∧ Hid (BySt w wr a m c x)) (fun _ v6 _ => nl - (intOf v6).toNat)
  case atStart => exact ⟨[], none, 0, 0, 0, rfl, rfl, by omega, by omega, Lib.hid (BySt.nil w)⟩
  case round =>
    obtain ⟨x, a, m, c, i, rfl, rfl, hi, hm, HS⟩ := hrel
    by_cases hgo : i < nl ∧ i < 40 ∧ m < 130
    · obtain ⟨h1, h2, h3⟩ := hgo
      obtain ⟨g, off, rfl, hgl, hc0⟩ := HL.out i (by have := HNl.out; omega)
      have hc0' := HS.out.kept.cell hc0
      generalize zs.getD i 0 = z at hc0'
      have hmz := mask24 z
      obtain ⟨X, hX⟩ : ∃ X : Nat, (X : Int) = z % 16777216 := ⟨(z % 16777216).toNat, by omega⟩
      rw [← hX] at hmz
      have hXb : X < 16777216 := by omega
      have h1' : (i : Int) < (nl : Int) := by omega
      have h2' : (i : Int) < 40 := by omega
      have h3' : (m : Int) < 130 := by omega
      clear hgl hc0 hX
      have hm3 := mask3 (X : Int)
      obtain ⟨r, hr⟩ : ∃ r : Nat, (r : Int) = (X : Int) % 4 := ⟨((X : Int) % 4).toNat, by omega⟩
      rw [← hr] at hm3
      by_cases hA : r = 0 ∨ m = 0
      · have hmF := maskF ((X : Int) / 4)
        obtain ⟨k0, hk0⟩ : ∃ k0 : Nat, (k0 : Int) = (X : Int) / 4 % 16 := ⟨((X : Int) / 4 % 16).toNat, by omega⟩
        rw [← hk0] at hmF
        have hk16 : k0 < 16 := by omega
        obtain ⟨k, hk⟩ : ∃ k, k = min bl k0 := ⟨_, rfl⟩
        have hkk : min (bl : Int) (k0 : Int) = (k : Int) := by omega
        have hkb : k < 16 ∧ k ≤ bl := by omega
        have hkc : (k : Int) ≤ (cb : Int) := by omega
        obtain ⟨y, hy⟩ : ∃ y : UInt8, IntKind.u8.wrap ((X : Int) / 256) = (y.toNat : Int) := ⟨UInt8.ofNat (X / 256), by
          rw [UInt8.toNat_ofNat']
          show ((X : Int) / 256) % 256 = _
          omega⟩
        have hAB : ((r : Int) == 0) = true ∨ (((r : Int) == 0) = false ∧ ((m : Int) == 0) = true) := by
          rcases hA with h | h
          · exact .inl (by simp [h])
          · by_cases h2 : r = 0
            · exact .inl (by simp [h2])
            · exact .inr ⟨by simp [h2], by simp [h]⟩
        clear hk0 hk hr hA h1 h2 h3
        cases bo with
        | none =>
          have hcb : cb = 0 := HBn.out rfl
          have hbl0 : bl = 0 := by omega
          have hkz : min (bl : Int) (k0 : Int) = 0 := by omega
          subst hcb
          clear hbc hkb hkk hkc hbl0
          rcases hAB with g1 | ⟨g1, g2⟩
          all_goals
            go_wp2_with (at_builtin; first | refine wpList_by_none rfl (.tmp 39) (.tmp 47) rfl HS.out rfl rfl ?_ | refine wpList_by_one rfl (.tmp 49) (.tmp 53) rfl HS.out rfl y _ rfl rfl (by omega) ?_)
            intro a3 c3 w3 hS3
            have HS3 := Lib.hid hS3
            clear hS3 HS hc0'
            go_wp2
            go_roundw
            case rel => exact ⟨x ++ [y], a3, m + 1, c3, i + 1, rfl, by go_num, by omega, by omega, HS3⟩
            case measure => simp [intOf]; omega
        | some ad =>
          have hrk : ∀ W, Kept NoB w W → Reads W (some ad) (nb (B.take k)) := fun W h => by
            have := reads_take k (HRb.out.keptNo h)
            rwa [nb, ← List.map_take] at this
          have hkl : k = (B.take k).length := by rw [List.length_take, ← HBl.out]; omega
          have HRk := Lib.hid hrk; have HKl := Lib.hid hkl
          clear hrk hkl
          rcases hAB with g1 | ⟨g1, g2⟩
          all_goals
            go_wp2_with (at_builtin; refine wpList_by_row rfl (.tmp 39) (.tmp 47) rfl HS.out rfl ad cb k (B.take k) HKl.out rfl (HRk.out wr HS.out.kept) (by omega) ?_)
            intro a2 c2 w2 hS2
            have HS2 := Lib.hid hS2
            clear hS2 HS hc0'
            go_wp2_with (at_builtin; refine wpList_by_one rfl (.tmp 49) (.tmp 53) rfl HS2.out rfl y _ rfl rfl (by omega) ?_)
            intro a3 c3 w3 hS3
            have HS3 := Lib.hid hS3
            clear hS3 HS2
            go_wp2
            go_roundw
            case rel => exact ⟨x ++ (B.take k ++ [y]), a3, m + k + 1, c3, i + 1, rfl, by go_num, by omega, by omega, HS3⟩
            case measure => simp [intOf]; omega
      · have g1 : ((r : Int) == 0) = false := by simp; omega
        have g2 : ((m : Int) == 0) = false := by simp; omega
        have hm0 : 0 < m := by omega
        obtain ⟨A, hAA⟩ : ∃ A : Nat, (A : Int) = (X : Int) / 4 % (m : Int) := ⟨((X : Int) / 4 % (m : Int)).toNat, Int.toNat_of_nonneg (Int.emod_nonneg _ (by omega))⟩
        have hAm : A < m := by have := Int.emod_lt_of_pos ((X : Int) / 4) (show (0 : Int) < m by omega); omega
        have hA2 : (X : Int) / 4 % (m : Int) = (A : Int) := hAA.symm
        have hA3 : ((X : Int) / 4).tmod (m : Int) = (A : Int) := by rw [Int.tmod_eq_emod_of_nonneg (by omega)]; exact hAA.symm
        have hm63 := mask63 ((X : Int) / 4096)
        obtain ⟨q, hq⟩ : ∃ q : Nat, (q : Int) = (X : Int) / 4096 % 64 := ⟨((X : Int) / 4096 % 64).toNat, by omega⟩
        rw [← hq] at hm63
        have hq64 : q < 64 := by omega
        have hmz0 : ¬ m = 0 := by omega
        clear hAA hq hr hA h1 h2 h3
        go_wp2_with fail
        go_loopw [5, 10] (fun v5 v10 wq => ∃ (y : List UInt8) (a' : Option Addr) (l' c' k : Nat), v5 = .slice a' l' c' ∧ v10 = .int .i64 (k : Int) ∧ k ≤ q + 1 ∧ l' = m + k ∧ Hid (BySt w wq a' l' c' y)) (fun _ v10 _ => q + 1 - (intOf v10).toNat)
        case atStart => exact ⟨x, a, m, c, 0, rfl, rfl, by omega, by omega, HS⟩
        case round =>
          clear HS
          obtain ⟨y, a', l', c', k, rfl, rfl, hkq, hlk, HS⟩ := hrel
          by_cases hlt : k ≤ q
          · have hlt' : (k : Int) ≤ (q : Int) := by omega
            have hlt2 : (k : Int) < (q : Int) + 1 := by omega
            obtain ⟨g', o', rfl, hg', hrd⟩ := HS.out.rowB (by have := HS.out.len; omega)
            obtain ⟨u, hu⟩ : ∃ u, u = A + k := ⟨_, rfl⟩
            have hc := hrd u (by have := HS.out.len; omega)
            rw [Nat.zero_add] at hc
            have hwu : IntKind.i64.wrap ((A : Int) + (k : Int)) = (u : Int) := by rw [hu]; exact (IntWalk.i64_in _ (by omega)).trans (by omega)
            have hul : (u : Int) < (l' : Int) := by omega
            obtain ⟨b, hb⟩ : ∃ b, b = y.getD u 0 := ⟨_, rfl⟩
            rw [← hb] at hc
            have hlb : l' ≤ 300 := by omega
            have HLk := Lib.hid hlk; have HU := Lib.hid hu
            clear hrd hu hlk hb
            go_wp2_with (at_builtin; refine wpList_by_one rfl (.tmp 69) (.tmp 76) rfl HS.out rfl b _ rfl rfl (by omega) ?_)
            intro a3 c3 w3 hS3
            have HS3 := Lib.hid hS3
            clear hS3 HS hc
            go_wp2
            go_roundw
            case rel => exact ⟨y ++ [b], a3, l' + 1, c3, k + 1, rfl, by go_num, by omega, by have := HLk.out; omega, HS3⟩
            case measure => simp [intOf]; omega
          · have hlt' : ¬ (k : Int) ≤ (q : Int) := by omega
            have hlt2 : ¬ (k : Int) < (q : Int) + 1 := by omega
            have HLk := Lib.hid hlk
            clear hlk
            go_wp2
            go_roundw
            case rel => exact ⟨y, a', l', c', i + 1, rfl, by go_num, by omega, by have := HLk.out; omega, HS⟩
            case measure => simp [intOf]; omega
    · have hex : ¬ (i : Int) < (nl : Int) ∨ ((i : Int) < (nl : Int) ∧ ¬ (i : Int) < 40) ∨ ((i : Int) < (nl : Int) ∧ (i : Int) < 40 ∧ ¬ (m : Int) < 130) := by omega
      clear hgo
      rcases hex with h1 | ⟨h1, h2⟩ | ⟨h1, h2, h3⟩
      all_goals
        go_wp2
        go_ret
        exact ⟨x, a, m, c, rfl, hm, HS.out⟩
end Go.Proofs.YtifoldonmmobpaaDoor
