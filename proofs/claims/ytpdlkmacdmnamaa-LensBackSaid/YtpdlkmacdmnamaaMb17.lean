/-
  law8.Heads: lengths that a head may have.
  The reader of bits: a contract for each of its methods.
  The reader of bits: Take, Align, At, Bytes, NewReader.
-/
import Derived.Test.YtpdlkmacdmnamaaMb16
import Derived.Deep.CutBlock
import Derived.Test.YtpdlkmacdmnamaaRows
import Derived.Deep.DeepCutAuto
namespace Go.Proofs.Ytpdlkmacdmnamaa
open Go.RowKit
set_option linter.unusedVariables false
set_option linter.unusedSimpArgs false

/-- The own row of 257 lengths, on the way. -/
structure LitZ (w wr : World) (G : Nat) (Z : List Int) : Prop where
  own : wr.ownsRow 0 3 1 (.slice (some ⟨G, 0, none⟩) 257 257) 257 (Z.map (.int .i64))
  small : Small 15 Z
  kept : Kept NoB w wr
  fresh : w.heap.size ≤ G
theorem LitZ.len {w wr : World} {G : Nat} {Z : List Int} (h : LitZ w wr G Z) : Z.length = 257 := by
  have := h.own.1
  rw [List.length_map] at this
  omega
theorem LitZ.on {w wr wx : World} {G : Nat} {Z : List Int} (h : LitZ w wr G Z) (hk : Kept NoB wr wx) : LitZ w wx G Z := ⟨hk.row h.own (fun _ _ h => h), h.small, h.kept.trans hk, h.fresh⟩
theorem LitZ.cell {w wr : World} {G : Nat} {Z : List Int} (h : LitZ w wr G Z) (i : Nat) (hi : i < 257) : wr.cell? ⟨G, i, none⟩ = some (.int .i64 (Z.getD i 0)) := by
  have hl := h.len
  rw [h.own.cellAt i (by omega)]
  simp [List.getD, hl, hi]
theorem LitZ.put {w wr : World} {G : Nat} {Z : List Int} (h : LitZ w wr G Z) (i : Nat) (z : Int) (hz : 0 ≤ z ∧ z ≤ 15) : LitZ w (wr.setCell ⟨G, i, none⟩ (.int .i64 z)) G (Z.set i z) := by
  refine ⟨?_, ?_, Kept.setCell (p := ⟨G, i, none⟩) h.kept (.inr h.fresh) _, h.fresh⟩
  · rw [List.map_set]
    exact (h.own.stored i (.int .i64 z)).1
  · intro b hb
    rcases List.mem_or_eq_of_mem_set hb with h1 | h1
    · exact h.small b h1
    · rw [h1]; exact hz
theorem LitZ.lt {w wr : World} {G : Nat} {Z : List Int} (h : LitZ w wr G Z) : G < wr.heap.size := World.block_lt_of_cell? wr _ (h.cell 0 (by omega))
theorem LitZ.onS {w wr wx : World} {G : Nat} {Z : List Int} {S : Nat → Prop} (h : LitZ w wr G Z) (hk : Kept S wr wx) (hs : ¬ S G) (hk2 : Kept NoB w wx) : LitZ w wx G Z := ⟨hk.row h.own (fun k e => by simp [Value.ownBlock] at e; exact e ▸ hs), h.small, hk2, h.fresh⟩
theorem small_getD {Z : List Int} {m : Int} (h : Small m Z) (hm : 0 ≤ m) (i : Nat) : 0 ≤ Z.getD i 0 ∧ Z.getD i 0 ≤ m := by
  by_cases hi : i < Z.length
  · have : Z.getD i 0 = Z[i] := by simp [List.getD, hi]
    rw [this]; exact h _ (List.getElem_mem hi)
  · have : Z.getD i 0 = 0 := by simp [List.getD, List.getElem?_eq_none (Nat.le_of_not_lt hi)]
    omega
/-- A row of m small numbers that is read. -/
def RdS (w : World) (a : Option Addr) (m : Nat) : Prop := ∀ i, i < m → ∃ g o z, a = some ⟨g, o, none⟩ ∧ g < w.heap.size ∧ w.cell? ⟨g, o + i, none⟩ = some (.int .i64 z) ∧ 0 ≤ z ∧ z ≤ 15
theorem RdS.of {w : World} {a : Option Addr} {X : List Int} (h : RdI w w.heap.size a X) (hs : Small 15 X) : RdS w a X.length := by
  intro i hi
  obtain ⟨g, o, h1, h2, h3⟩ := h i hi
  have := small_getD hs (by decide) i
  exact ⟨g, o, _, h1, h2, h3, this.1, this.2⟩
theorem RdS.kept {w w' : World} {a : Option Addr} {m : Nat} (h : RdS w a m) (hk : Kept NoB w w') : RdS w' a m := by
  intro i hi
  obtain ⟨g, o, z, h1, h2, h3, h4⟩ := h i hi
  exact ⟨g, o, z, h1, Nat.lt_of_lt_of_le h2 hk.size, hk.cell h3, h4⟩
theorem RdS.set {w : World} {a : Option Addr} {m : Nat} (h : RdS w a m) (p : Addr) (z : Int) (hz : 0 ≤ z ∧ z ≤ 15) : RdS (w.setCell p (.int .i64 z)) a m := by
  intro i hi
  obtain ⟨g, o, y, h1, h2, h3, h4⟩ := h i hi
  by_cases e : p = ⟨g, o + i, none⟩
  · subst e
    exact ⟨g, o, z, h1, by simpa using h2, World.cell?_setCell_same _ _ _ h3, hz.1, hz.2⟩
  · exact ⟨g, o, y, h1, by simpa using h2, (World.cell?_setCell_other _ _ _ _ e).trans h3, h4⟩
theorem RdS.list {w : World} {a : Option Addr} {m : Nat} (h : RdS w a m) : ∃ X : List Int, X.length = m ∧ RdI w w.heap.size a X ∧ Small 15 X := by
  have hz : ∀ i, ∃ z : Int, i < m → (∃ g o, a = some ⟨g, o, none⟩ ∧ g < w.heap.size ∧ w.cell? ⟨g, o + i, none⟩ = some (.int .i64 z)) ∧ 0 ≤ z ∧ z ≤ 15 := by
    intro i
    by_cases hi : i < m
    · obtain ⟨g, o, z, h1, h2, h3, h4⟩ := h i hi
      exact ⟨z, fun _ => ⟨⟨g, o, h1, h2, h3⟩, h4⟩⟩
    · exact ⟨0, fun h => absurd h hi⟩
  obtain ⟨f, hf⟩ := Classical.axiomOfChoice hz
  refine ⟨(List.range m).map f, by simp, ?_, ?_⟩
  · intro i hi
    have him : i < m := by simpa using hi
    obtain ⟨⟨g, o, h1, h2, h3⟩, _⟩ := hf i him
    exact ⟨g, o, h1, h2, by rw [h3]; simp [List.getD, him]⟩
  · intro z hz
    obtain ⟨i, hi, rfl⟩ := List.mem_map.1 hz
    exact (hf i (by simpa using hi)).2
theorem lone_kind : kindA ((List.replicate 257 (0 : Int)).set 256 1) = 2 := by
  unfold kindA
  rw [if_pos ⟨by rw [List.length_set, List.length_replicate]; decide, fun z hz => by
    rcases List.mem_or_eq_of_mem_set hz with h | h
    · rw [List.eq_of_mem_replicate h]; decide
    · rw [h]; decide⟩]
  decide +kernel
theorem good_kind {Z : List Int} (h : GoodP Z) : kindA Z = 1 ∨ kindA Z = 2 ∨ kindA Z = 3 := by
  unfold kindA
  rw [if_pos ⟨by have := h.few; omega, h.small⟩]
  have hr := h.ref
  unfold refS at hr
  rcases kindS_of Z with k | k | k | k | k <;> simp [k] at hr ⊢
theorem head_yes {lit dist : List Int} (h1 : lit.length = 257) (h2 : lit.getD 256 0 = 1) (h3 : fullB lit = true) (h4 : 1 ≤ dist.length ∧ dist.length ≤ 30) (h5 : kindA dist = 1 ∨ kindA dist = 2 ∨ kindA dist = 3) : headB lit dist = true := by
  unfold headB mayB
  rw [h1, h2, h3, decide_eq_true (show (257 ≤ 257 ∧ 257 ≤ 286 ∧ 1 ≤ dist.length ∧ dist.length ≤ 30) by omega)]
  unfold fullB
  rcases h5 with h | h | h <;> simp [h]
theorem zero_kind : kindA [0] = 1 := by
  unfold kindA
  rw [if_pos ⟨by simp, fun z hz => by simp at hz; rw [hz]; decide⟩]
  decide +kernel
theorem RdI.take {w : World} {B : Nat} {a : Option Addr} {zs : List Int} (h : RdI w B a zs) (n : Nat) : RdI w B a (zs.take n) := by
  intro i hi
  rw [List.length_take] at hi
  obtain ⟨g, o, h1, h2, h3⟩ := h i (by omega)
  refine ⟨g, o, h1, h2, ?_⟩
  rw [h3]
  simp [List.getD, List.getElem?_take, show i < n by omega]
/-- Lengths that a head may have, told in two rows. -/
def HeadsP (w : World) (e : Ending) (w' : World) : Prop :=
  ∃ (G : Nat) (lit : List Int) (da : Option Addr) (dc : Nat) (dist : List Int), e = .returned (.tuple #[.slice (some ⟨G, 0, none⟩) 257 257, .slice da dist.length dc]) ∧ LitZ w w' G lit ∧ RdI w' w'.heap.size da dist ∧ Small 15 dist ∧ headB lit dist = true
set_option maxRecDepth 20000 in
set_option maxHeartbeats 8000000 in
theorem heads_any (ao : Option Addr) (ca : Nat) (ws : List Int) (bo : Option Addr) (cb : Nat) (ds : List Int) (w : World) (hx : RdI w w.heap.size ao ws) (hy : RdI w w.heap.size bo ds) (hdc : ds.length ≤ cb) (hdm : cb ≤ maxLen) :
    Calls Try.prog 6 #[.slice ao ws.length ca, .slice bo ds.length cb] w (HeadsP w) := by
  obtain ⟨i0, hi, hz0, hz1, hz2⟩ := info_parts infoI
  have HX := Lib.hid hx; have HY := Lib.hid hy
  clear hx hy
  obtain ⟨n, hn⟩ : ∃ n, n = ws.length := ⟨_, rfl⟩
  obtain ⟨nd, hnd⟩ : ∃ n, n = ds.length := ⟨_, rfl⟩
  have HN := Lib.hid hn; have HNd := Lib.hid hnd
  rw [← hnd] at hdc
  unfold maxLen at hdm
  rw [← hn, ← hnd]
  clear hn hnd
  go_enter Try.func6, Try.ntmps6
  go_wp2_with (at_make; refine wpList_make_full _ rfl _ _ _ rfl 0 3 i0 (.int .i64 0) 1 Try.underlying23 hi hz0 hz1 .i64 .i64 _ _ 257 rfl rfl rfl rfl (by rw [hz2]; omega) (by unfold maxLen; omega) (Nat.zero_le _) ?_)
  intro w1 hown hgrow
  obtain ⟨G, hG⟩ : ∃ G, G = w.heap.size := ⟨_, rfl⟩
  rw [← hG] at hown ⊢
  have hL0 : LitZ w w1 G (List.replicate 257 0) := ⟨by
    rw [List.map_replicate, ← toList_madeCells_one]; exact hown, (fun b hb => by rw [List.eq_of_mem_replicate hb]; decide), (Kept.refl NoB w).grown hgrow (fun _ _ e => by cases e), by rw [hG]; exact Nat.le_refl _⟩
  have HL0 := Lib.hid hL0
  have HGd := Lib.hid (good_calls3 ao ca w.heap.size ws w1 (fun i hi => by
    obtain ⟨g, o, h1, h2, h3⟩ := HX.out i hi
    exact ⟨g, o, h1, h2, hL0.kept.cell h3⟩))
  rw [← HN.out] at HGd
  clear hown hgrow hG hL0
  go_wp2_with fail
  with_reducible refine HGd.out.mono ?_
  rintro e w2 ⟨xa, xc, X, ⟨hgd, hxn⟩, rfl, hxr, hk2, hxl⟩
  have HL1 := Lib.hid (HL0.out.on hk2)
  have hrs := RdS.of hxr hgd.small
  obtain ⟨m, hm⟩ : ∃ m, m = X.length := ⟨_, rfl⟩
  have hm60 : m ≤ 60 := by have := hgd.few; omega
  rw [← hm] at hrs
  have HRs := Lib.hid hrs
  rw [← hm]
  clear hgd hxr hk2 hm HL0 HGd hxn hrs hxl
  go_wp2_with fail
  go_loopw [8] (fun v8 wr => ∃ (i : Nat) (Z : List Int), v8 = .int .i64 (i : Int) ∧ i ≤ m ∧ Hid (LitZ w wr G Z) ∧ Hid (RdS wr xa m)) (fun v8 _ => m - (intOf v8).toNat)
  case atStart => exact ⟨0, _, rfl, by omega, HL1, HRs⟩
  case round =>
    obtain ⟨i, Z, rfl, him, HL, HR⟩ := hrel
    by_cases hlt : i < m
    · obtain ⟨g, o, z, rfl, hg, hc, hz⟩ := HR.out i hlt
      have hlt2 : (i : Int) < m := by omega
      have hcl := HL.out.cell (4 * i + 1) (by omega)
      have hfl := HL.out.own.frozenAt (4 * i + 1)
      have HL2 := Lib.hid (HL.out.put (4 * i + 1) z hz)
      have HR2 := Lib.hid (HR.out.set ⟨G, 4 * i + 1, none⟩ z hz)
      have e4 : (i : Int) * 4 + 1 = ((4 * i + 1 : Nat) : Int) := by omega
      have b4 : ((4 * i + 1 : Nat) : Int) < 257 := by omega
      obtain ⟨k, hk⟩ : ∃ k, k = 4 * i + 1 := ⟨_, rfl⟩
      rw [← hk] at hcl hfl HL2 HR2 e4 b4
      clear hg hz hk HL HR
      go_wp2
      go_roundw
      case rel => exact ⟨i + 1, _, by go_num, by omega, HL2, HR2⟩
      case measure => simp [intOf]; omega
    · have hge : ¬ (i : Int) < m := by omega
      have hcl := HL.out.cell 256 (by omega)
      have hfl := HL.out.own.frozenAt 256
      have hl2 := HL.out.put 256 1 (by decide)
      have h256 : (Z.set 256 1).getD 256 0 = 1 := getD_set_eq _ _ _ (by rw [HL.out.len]; decide)
      obtain ⟨X2, hx1, hx2, hx3⟩ := (HR.out.set ⟨G, 256, none⟩ 1 (by decide)).list
      have hkd := rkind_any xa xc _ X2 _ hx2 (fun z hz => by have := hx3 z hz; omega) (by omega)
      rw [hx1] at hkd
      have hkc := kindA_of X2
      obtain ⟨Y, hY⟩ : ∃ Y, Y = Z.set 256 1 := ⟨_, rfl⟩
      rw [← hY] at hl2 h256
      have HL2 := Lib.hid hl2; have H256 := Lib.hid h256; have HKd := Lib.hid hkd
      clear hl2 h256 hx1 hx2 hx3 hkd hY
      generalize kindA X2 = k at HKd hkc
      go_wp2_with fail
      with_reducible refine HKd.out.mono ?_
      rintro e w4 ⟨rfl, hk4⟩
      have HL4 := Lib.hid (HL2.out.on hk4)
      clear hk4 HL2 HKd HL HR hcl hfl
      go_upto_region 9 with fail
      go_cut [40] from 35 to 41 (fun v wx => v = .bool (decide (k = 3 ∨ k = 2)) ∧ w4 = wx)
      case first =>
        rcases hkc with rfl | rfl | rfl | rfl | rfl | rfl
        all_goals
          go_wp2
          go_meet
          exact ⟨rfl, rfl⟩
      case rest =>
      obtain ⟨rfl, rfl⟩ := hcut
      go_upto_if 40 with fail
      go_cut [] from 35 to 73 (fun wx => ∃ Z, Hid (LitZ w wx G Z) ∧ Hid (Z.getD 256 0 = 1))
      case first =>
        by_cases k3 : k = 3
        · subst k3
          go_wp2_with fail
          go_loopw [10] (fun v10 wr => ∃ (i : Nat) (Z : List Int), v10 = .int .i64 (i : Int) ∧ i ≤ 256 ∧ Hid (LitZ w wr G Z) ∧ Hid (Z.getD 256 0 = 1)) (fun v10 _ => 256 - (intOf v10).toNat)
          case atStart => exact ⟨0, Y, rfl, by omega, HL4, H256⟩
          case round =>
            rename_i wx
            obtain ⟨i, Z, rfl, hi6, HL, HZ⟩ := hrel
            by_cases hlt : i < 256
            · have hlt2 : (i : Int) < 256 := by omega
              have hcl := HL.out.cell i (by omega)
              have hzb := small_getD HL.out.small (by decide) i
              obtain ⟨z, hz⟩ : ∃ z, z = Z.getD i 0 := ⟨_, rfl⟩
              rw [← hz] at hcl hzb
              clear hz
              by_cases hp : 0 < z
              · have hfl := HL.out.own.frozenAt i
                have hmb : 0 ≤ (if 15 < z + 1 then 15 else z + 1) ∧ (if 15 < z + 1 then 15 else z + 1) ≤ 15 := by split <;> omega
                have HL2 := Lib.hid (HL.out.put i _ hmb)
                have hz2 : (Z.set i (if 15 < z + 1 then 15 else z + 1)).getD 256 0 = 1 := by rw [getD_set_ne _ _ _ _ (by omega)]; exact HZ.out
                have HZ2 := Lib.hid hz2
                clear hz2
                go_wp2
                go_roundw
                case rel => exact ⟨i + 1, _, by go_num, by omega, HL2, HZ2⟩
                case measure => simp [intOf]; omega
              · go_wp2
                go_roundw
                case rel => exact ⟨i + 1, Z, by go_num, by omega, HL, HZ⟩
                case measure => simp [intOf]; omega
            · have hge2 : ¬ (i : Int) < 256 := by omega
              go_wp2
              go_meet
              exact ⟨Z, HL, HZ⟩
        · by_cases k2 : k = 2
          · subst k2
            go_wp2_with fail
            go_loopw [10] (fun v10 wr => ∃ (i : Nat) (Z : List Int), v10 = .int .i64 (i : Int) ∧ i ≤ 256 ∧ Hid (LitZ w wr G Z) ∧ Hid (Z.getD 256 0 = 1)) (fun v10 _ => 256 - (intOf v10).toNat)
            case atStart => exact ⟨0, Y, rfl, by omega, HL4, H256⟩
            case round =>
              rename_i wx
              obtain ⟨i, Z, rfl, hi6, HL, HZ⟩ := hrel
              by_cases hlt : i < 256
              · have hlt2 : (i : Int) < 256 := by omega
                have hcl := HL.out.cell i (by omega)
                have hzb := small_getD HL.out.small (by decide) i
                obtain ⟨z, hz⟩ : ∃ z, z = Z.getD i 0 := ⟨_, rfl⟩
                rw [← hz] at hcl hzb
                clear hz
                by_cases hp : 0 < z
                · have hfl := HL.out.own.frozenAt i
                  have hmb : 0 ≤ (if 15 < z + 1 then 15 else z + 1) ∧ (if 15 < z + 1 then 15 else z + 1) ≤ 15 := by split <;> omega
                  have HL2 := Lib.hid (HL.out.put i _ hmb)
                  have hz2 : (Z.set i (if 15 < z + 1 then 15 else z + 1)).getD 256 0 = 1 := by rw [getD_set_ne _ _ _ _ (by omega)]; exact HZ.out
                  have HZ2 := Lib.hid hz2
                  clear hz2
                  go_wp2
                  go_roundw
                  case rel => exact ⟨i + 1, _, by go_num, by omega, HL2, HZ2⟩
                  case measure => simp [intOf]; omega
                · go_wp2
                  go_roundw
                  case rel => exact ⟨i + 1, Z, by go_num, by omega, HL, HZ⟩
                  case measure => simp [intOf]; omega
              · have hge2 : ¬ (i : Int) < 256 := by omega
                go_wp2_with fail
                go_loopw [11] (fun v11 wr => ∃ (i : Nat) (Z : List Int), v11 = .int .i64 (i : Int) ∧ i ≤ 256 ∧ Hid (LitZ w wr G Z) ∧ Hid (Z.getD 256 0 = 1)) (fun v11 _ => 256 - (intOf v11).toNat)
                case atStart => exact ⟨0, Z, rfl, by omega, HL, HZ⟩
                case round =>
                  rename_i wy
                  clear HL HZ hge2 hlt
                  obtain ⟨i, Z, rfl, hi6, HL, HZ⟩ := hrel
                  by_cases hlt : i < 256
                  · have hlt2 : (i : Int) < 256 := by omega
                    have hcl := HL.out.cell i (by omega)
                    have hzb := small_getD HL.out.small (by decide) i
                    obtain ⟨z, hz⟩ : ∃ z, z = Z.getD i 0 := ⟨_, rfl⟩
                    rw [← hz] at hcl hzb
                    clear hz
                    have hfl := HL.out.own.frozenAt i
                    have hmb : 0 ≤ (if 1 < z then 1 else z) ∧ (if 1 < z then 1 else z) ≤ 15 := by split <;> omega
                    have HL2 := Lib.hid (HL.out.put i _ hmb)
                    have hz2 : (Z.set i (if 1 < z then 1 else z)).getD 256 0 = 1 := by rw [getD_set_ne _ _ _ _ (by omega)]; exact HZ.out
                    have HZ2 := Lib.hid hz2
                    clear hz2
                    go_wp2
                    go_roundw
                    case rel => exact ⟨i + 1, _, by go_num, by omega, HL2, HZ2⟩
                    case measure => simp [intOf]; omega
                  · have hge2 : ¬ (i : Int) < 256 := by omega
                    go_wp2
                    go_meet
                    exact ⟨Z, HL, HZ⟩
          · have kd : decide (k = 3 ∨ k = 2) = false := decide_eq_false (by omega)
            go_wp2
            go_meet
            exact ⟨Y, HL4, H256⟩
      case rest =>
      obtain ⟨Z, HL, HZ⟩ := hcut
      have hkl : ∀ W, Kept NoB wc W → Calls Try.prog 23 #[.slice (some ⟨G, 0, none⟩) 257 257] W fun e w' => e = .returned (.int .i64 (kindA Z)) ∧ Kept NoB W w' := fun W hW => by
        have hr : RdI W W.heap.size (some ⟨G, 0, none⟩) Z := own_readsI (HL.out.on hW).own HL.out.len
        have h := rkind_any _ 257 _ Z W hr (fun z hz => by have := HL.out.small z hz; omega) (by rw [HL.out.len]; omega)
        rw [HL.out.len] at h
        exact h
      have hkc := kindA_of Z
      have hff : fullB Z = decide (kindA Z = 3 ∨ kindA Z = 2) := rfl
      clear HL4 H256
      generalize kindA Z = k2 at hkl hkc hff
      have HKl := Lib.hid hkl; have HFf := Lib.hid hff
      clear hkl hff
      go_upto_region 20 with fail
      go_cut [80] from 73 to 81 (fun v wx => ∃ b : Bool, v = .bool b ∧ Hid (b = !decide (k2 = 3 ∨ k2 = 2)) ∧ Hid (Kept NoB wc wx))
      case first =>
        rcases hkc with rfl | rfl | rfl | rfl | rfl | rfl
        case inr.inr.inr.inl =>
          go_wp2_with fail
          with_reducible refine (HKl.out _ (Kept.refl _ _)).mono ?_
          rintro e w5 ⟨rfl, hk5⟩
          have HK5 := Lib.hid hk5
          clear hk5
          go_wp2
          go_meet
          exact ⟨_, rfl, Lib.hid rfl, HK5⟩
        all_goals
          go_wp2_with fail
          with_reducible refine (HKl.out _ (Kept.refl _ _)).mono ?_
          rintro e w5 ⟨rfl, hk5⟩
          have HK5 := Lib.hid hk5
          clear hk5
          go_wp2_with fail
          with_reducible refine (HKl.out _ HK5.out).mono ?_
          rintro e w6 ⟨rfl, hk6⟩
          have HK6 := Lib.hid (HK5.out.trans hk6)
          clear hk6
          go_wp2
          go_meet
          exact ⟨_, rfl, Lib.hid rfl, HK6⟩
      case rest =>
      obtain ⟨b, rfl, HB, HKc⟩ := hcut
      go_upto_if 80 with fail
      go_cut [6] from 81 to 84 (fun v wx => ∃ (G2 : Nat) (Z2 : List Int), v = .slice (some ⟨G2, 0, none⟩) 257 257 ∧ Hid (LitZ w wx G2 Z2) ∧ Hid (fullB Z2 = true ∧ Z2.getD 256 0 = 1))
      case first =>
        cases b with
        | false =>
          have HF2 : Hid (fullB Z = true ∧ Z.getD 256 0 = 1) := Lib.hid ⟨by have := HB.out; rw [HFf.out]; cases hh : decide (k2 = 3 ∨ k2 = 2) with | true => rfl | false => rw [hh] at this; exact absurd this (by decide), HZ.out⟩
          have HL2 := Lib.hid (HL.out.on HKc.out)
          go_wp2
          go_meet
          exact ⟨G, Z, rfl, HL2, HF2⟩
        | true =>
          have HKw := Lib.hid (HL.out.kept.trans HKc.out)
          clear HL HZ HKl HFf HKc HB
          obtain ⟨G2, hG2⟩ : ∃ G, G = wc.heap.size := ⟨_, rfl⟩
          go_wp2_with (at_make; refine wpList_make_full _ rfl _ _ _ rfl 0 3 i0 (.int .i64 0) 1 Try.underlying23 hi hz0 hz1 .i64 .i64 _ _ 257 rfl rfl rfl rfl (by rw [hz2]; omega) (by unfold maxLen; omega) (Nat.zero_le _) ?_)
          intro w5 hown hgrow
          rw [← hG2] at hown ⊢
          have hL0 : LitZ w w5 G2 (List.replicate 257 0) := ⟨by
            rw [List.map_replicate, ← toList_madeCells_one]; exact hown, (fun b hb => by rw [List.eq_of_mem_replicate hb]; decide), HKw.out.grown hgrow (fun _ _ e => by cases e), by rw [hG2]; exact HKw.out.size⟩
          have hcl := hL0.cell 256 (by omega)
          have hfl := hL0.own.frozenAt 256
          have HL2 := Lib.hid (hL0.put 256 1 (by decide))
          clear hown hgrow hG2 hL0
          go_wp2
          go_meet
          exact ⟨G2, _, rfl, HL2, Lib.hid ⟨by unfold fullB; rw [lone_kind]; rfl, getD_set_eq _ _ _ (by rw [List.length_replicate]; decide)⟩⟩
      case rest =>
      obtain ⟨G2, Z2, rfl, HL2, HF2⟩ := hcut
      clear HKl HFf HKc HB hkc HL HZ
      obtain ⟨p, hp⟩ : ∃ p, p = min nd 30 := ⟨_, rfl⟩
      have hpi : (if (30 : Int) < (nd : Int) then 30 else (nd : Int)) = (p : Int) := by split <;> omega
      have hpn : p ≤ nd := by omega
      have hp30 : p ≤ 30 := by omega
      have HP := Lib.hid hp
      have hgd : ∀ W, Kept NoB wc W → Calls Try.prog 22 #[.slice bo p cb] W fun e w' => ∃ a c Z, (GoodP Z ∧ (a = none → Z.length = 0 ∧ c = 0)) ∧ e = .returned (.slice a Z.length c) ∧ RdI w' w'.heap.size a Z ∧ Kept NoB W w' ∧ Z.length = p := fun W hW => by
        have hr : RdI W w.heap.size bo (ds.take p) := (HY.out.keptNo (HL2.out.kept.trans hW)).take p
        have h := good_calls3 bo cb w.heap.size (ds.take p) W hr
        have hl : (ds.take p).length = p := by rw [List.length_take, ← HNd.out]; omega
        rw [hl] at h
        refine h.mono ?_
        rintro e w' ⟨a, c, Z, h1, h2, h3, h4, h5⟩
        exact ⟨a, c, Z, h1, h2, h3, h4, by omega⟩
      have HGd := Lib.hid hgd
      clear hp hgd
      go_upto_region 23 with fail
      go_cut [12] from 84 to 96 (fun v wx => ∃ (da : Option Addr) (dc : Nat) (dist : List Int), v = .slice da dist.length dc ∧ Hid (LitZ w wx G2 Z2) ∧ Hid (RdI wx wx.heap.size da dist) ∧ Hid (GoodP dist) ∧ dist.length ≤ 30)
      case first =>
        have hal := (Kept.refl NoB wc).alloc (.cells #[] 3)
        have HC := Lib.hid (HGd.out _ hal)
        clear hal
        go_wp2_with fail
        with_reducible refine HC.out.mono ?_
        rintro e w5 ⟨a5, c5, D, ⟨hD, hDn⟩, rfl, hDr, hDk, hDl⟩
        have hlw := HL2.out.on (((Kept.refl NoB wc).alloc (.cells #[] 3)).trans hDk)
        have hgk : GoodP D ∧ D.length = p := ⟨hD, hDl⟩
        have HLw := Lib.hid hlw; have HG := Lib.hid hgk; have HDr := Lib.hid hDr; have HDn := Lib.hid hDn
        have hst := (emp_sa (Kept.refl NoB wc) wc.heap.size rfl).onK hDk
        obtain ⟨g2, hg2⟩ : ∃ g2, g2 = wc.heap.size := ⟨_, rfl⟩
        rw [← hg2] at hst ⊢
        have HSt := Lib.hid hst; have HG2 := Lib.hid hg2
        have hd30 : D.length ≤ 30 := by omega
        obtain ⟨d, hd⟩ : ∃ d, d = D.length := ⟨_, rfl⟩
        have HD := Lib.hid hd
        rw [← hd] at HDn hd30 ⊢
        clear hlw hgk hD hDn hDr hDk hDl hst hg2 hd HC HGd HX HY
        cases a5 with
        | none =>
          obtain ⟨hm0, hc0⟩ := HDn.out rfl
          subst hm0
          subst hc0
          go_wp2_with (at_builtin; refine wpList_app_none rfl _ _ 23 rfl 3 i0 1 Try.underlying23 hi _ 0 [] rfl HSt.out.own rfl ?_)
          go_meet
          have hD0 : D = [] := List.eq_nil_of_length_eq_zero HD.out.symm
          subst hD0
          exact ⟨some ⟨g2, 0, none⟩, 0, [], rfl, HLw, Lib.hid (fun i hi => absurd hi (Nat.not_lt_zero i)), Lib.hid HG.out.1, by decide⟩
        | some ad =>
          have hrn : ∀ j u, (D.map (Value.int .i64))[j]? = some u → w5.cell? (ad.add j) = some u := by
            intro j u hu
            have hj : j < D.length := by have := (List.getElem?_eq_some_iff.1 hu).1; simpa using this
            obtain ⟨g, off, he, _, hc⟩ := HDr.out j hj
            cases he
            rw [addr_add, hc, ← hu]
            simp [List.getD, hj]
          have HRn := Lib.hid hrn
          clear hrn
          go_wp2_with (at_builtin; refine wpList_intsA rfl _ _ rfl HSt.out rfl ad d c5 D rfl HD.out.symm HRn.out (by omega) ?_)
          intro a6 c6 w6 hs6 hk6
          have HS6 := Lib.hid hs6
          have HL6 := Lib.hid (HLw.out.onS hk6 (fun e => by have := HL2.out.lt; have := HG2.out; simp [OwnB, Value.ownBlock] at e; omega) (HL2.out.kept.trans hs6.kept))
          clear hs6 hk6
          go_wp2
          go_meet
          exact ⟨a6, c6, D, by rw [← HD.out], HL6, Lib.hid HS6.out.reads, Lib.hid HG.out.1, by rw [← HD.out]; exact hd30⟩
      case rest =>
      obtain ⟨da, dc, dist, rfl, HLw, HDr, HGd, hd30⟩ := hcut
      by_cases h0 : dist.length = 0
      · have hn := Lib.hid (HLw.out.on ((Kept.refl NoB wc).alloc (.cells #[.int .i64 0] 3)))
        have hr := Lib.hid (rd_new wc [0] #[.int .i64 0] rfl)
        go_wp2
        go_ret2
        exact ⟨G2, Z2, some ⟨wc.heap.size, 0, none⟩, 1, [0], rfl, hn.out, by simpa using hr.out, fun z hz => by simp at hz; rw [hz]; decide, head_yes hn.out.len HF2.out.2 HF2.out.1 ⟨by decide, by decide⟩ (.inl zero_kind)⟩
      · obtain ⟨d, hd⟩ : ∃ d, d = dist.length := ⟨_, rfl⟩
        have HD := Lib.hid hd
        rw [← hd] at h0 hd30 ⊢
        clear hd
        have hdz : ¬ (d : Int) = 0 := by omega
        have hdz2 : ((d : Int) == 0) = false := by simp [h0]
        go_wp2
        go_ret2
        exact ⟨G2, Z2, da, dc, dist, by rw [HD.out]; rfl, HLw.out, HDr.out, HGd.out.small, head_yes HLw.out.len HF2.out.2 HF2.out.1 ⟨by have := HD.out; omega, by have := HD.out; omega⟩ (good_kind HGd.out)⟩
end Go.Proofs.Ytpdlkmacdmnamaa

namespace Go.Proofs.Ytpdlkmacdmnamaa
open Go.RowKit
set_option linter.unusedVariables false

set_option maxHeartbeats 400000 in
theorem lowest_any (n : Int) (w : World) (h0 : 0 ≤ n) (h1 : n ≤ 32) :
    Calls Try.prog 37 #[.int .i64 n] w fun e w' => e = .returned (.int .u64 (IntKind.u64.wrap (IntKind.u64.wrap (2 ^ n.toNat) - 1))) ∧ w = w' := by
  go_enter Try.func37, Try.ntmps37
  go_wp2
  go_ret
  exact ⟨rfl, rfl⟩

/-- A reader: its bytes, in a row of its own, and how many bits were taken. -/
def Rdr (w : World) (R : Nat) (ao : Option Addr) (cap : Nat) (bs : List Int) (at_ : Nat) : Prop :=
  w.heap[R]? = some (.cells #[.slice ao bs.length cap, .int .i64 at_] 67 (0, 0)) ∧ w.ownsRow 0 5 1 (.slice ao bs.length cap) bs.length (bs.map (.int .u8)) ∧
  bs.length ≤ 1000000000000000 ∧ at_ ≤ 8 * bs.length ∧ ∀ b ∈ bs, 0 ≤ b ∧ b < 256

set_option maxHeartbeats 400000 in
theorem left_any (w : World) (R : Nat) (ao : Option Addr) (cap : Nat) (bs : List Int) (at_ : Nat) (h : Rdr w R ao cap bs at_) :
    Calls Try.prog 38 #[.pointer (some ⟨R, 0, none⟩)] w fun e w' => e = .returned (.int .i64 (8 * bs.length - at_)) ∧ Kept NoB w w' := by
  obtain ⟨ho, hr, hl, ha, hb⟩ := h
  have c0 : w.cell? ⟨R, 0, none⟩ = some (.slice ao bs.length cap) := by simpa using obj_cell ho 0
  have c1 : w.cell? ⟨R, 1, none⟩ = some (.int .i64 at_) := by simpa using obj_cell ho 1
  clear ho hr hb
  go_enter Try.func38, Try.ntmps38
  go_wp2
  go_quiet (fail)
  go_wp2
  go_ret
  exact ⟨rfl, (Kept.refl _ _).drewN _⟩

def min3 (n L : Int) : Int := if L < (if 32 < (if n < 0 then 0 else n) then 32 else if n < 0 then 0 else n) then L else if 32 < (if n < 0 then 0 else n) then 32 else if n < 0 then 0 else n


theorem min3_bd (n L : Int) (k : Nat) (hk : min3 n L = k) (hL : 0 ≤ L) : k ≤ 32 ∧ (k : Int) ≤ L ∧ (k : Int) ≤ max n 0 := by unfold min3 at hk; omega

set_option maxHeartbeats 1000000 in
theorem peek_any (w : World) (R : Nat) (ao : Option Addr) (cap : Nat) (bs : List Int) (at_ : Nat) (n : Int) (h : Rdr w R ao cap bs at_) (k : Nat) (hk : min3 n (8 * bs.length - at_) = k) :
    Calls Try.prog 39 #[.pointer (some ⟨R, 0, none⟩), .int .i64 n] w fun e w' => e = .returned (.tuple #[.int .u32 (bitsAt bs at_ k : Nat), .int .i64 k]) ∧ Kept NoB w w' := by
  have hh := h.2.2.2.1
  have hkk := min3_bd _ _ _ hk (by omega)
  have HK := Lib.hid hk; clear hk
  have H := Lib.hid h; clear h
  go_enter Try.func39, Try.ntmps39
  go_upto_region 1 with fail
  go_cut [6] (fun s wx => s = .int .i64 k ∧ Kept NoB w wx)
  case first =>
    go_wp2_with (go_at_call 38; refine (left_any _ _ _ _ _ _ H.out).mono ?_; rintro e w' ⟨rfl, hk1⟩)
    all_goals go_meet
    all_goals exact ⟨by have hq := HK.out; congr 1; unfold min3 at hq; omega, hk1⟩
  case rest =>
    obtain ⟨rfl, hk1⟩ := hcut
    by_cases h0 : k = 0
    · subst h0
      go_wp2
      go_ret2
      exact ⟨by simp [bitsAt], hk1⟩
    · have hz : ((k : Int) == 0) = false := by simp; omega
      obtain ⟨ho, hr, hl, ha, hb⟩ := H.out
      have ho := hk1.obj ho (fun h => h)
      have hr := hk1.row hr (fun _ _ h => h)
      have c0 : wc.cell? ⟨R, 0, none⟩ = some (.slice ao bs.length cap) := by simpa using obj_cell ho 0
      have c1 : wc.cell? ⟨R, 1, none⟩ = some (.int .i64 at_) := by simpa using obj_cell ho 1
      have HB := Lib.hid hb; clear hb
      clear ho
      go_upto_region 4 with fail
      go_cut [7, 8] (fun s t wx => s = .int .i64 (at_ / 8 : Nat) ∧ t = .int .i64 (at_ % 8 : Nat) ∧ ∃ n, wx = wc.drewN n)
      case first =>
        have q1 : IntKind.i64.wrap ((at_ : Int) / 8) = (at_ : Int) / 8 := IntWalk.i64_in _ (by omega)
        have q2 : wrap64 ((at_ : Int) / 8) = (at_ : Int) / 8 := IntWalk.wrap64_in _ (by omega)
        go_quiet (fail)
        go_wp2
        go_meet
        exact ⟨by go_num, by go_num, _, rfl⟩
      case rest =>
        obtain ⟨rfl, rfl, nd, hw⟩ := hcut
        obtain ⟨f, hf⟩ : ∃ f, f = at_ / 8 := ⟨_, rfl⟩
        obtain ⟨t, ht⟩ : ∃ t, t = at_ % 8 := ⟨_, rfl⟩
        rw [← hf, ← ht]
        have hft : at_ = 8 * f + t := by omega
        have ht8 : t < 8 := by omega
        have hlen : 8 * f + t + k ≤ 8 * bs.length := by omega
        clear hf ht
        subst hft
        subst hw
        have hrd : (wc.drewN nd).ownsRow 0 5 1 (.slice ao bs.length cap) bs.length (bs.map (.int .u8)) := hr
        obtain ⟨wd, hwd⟩ : ∃ wd, wd = wc.drewN nd := ⟨_, rfl⟩
        have c0 : wd.cell? ⟨R, 0, none⟩ = some (.slice ao bs.length cap) := by rw [hwd]; exact c0
        have hk1 : Kept NoB w wd := by rw [hwd]; exact hk1.drewN _
        rw [← hwd] at hrd ⊢
        clear hwd
        obtain ⟨g, rfl⟩ : ∃ g, ao = some ⟨g, 0, none⟩ := by
          rcases hrd.2 with ⟨_, hz⟩ | ⟨g, c, cur, hv, _⟩
          · omega
          · simp at hv; exact ⟨g, hv.1⟩
        have hcells : ∀ i, i < bs.length → wd.cell? ⟨g, i, none⟩ = some (.int .u8 (bs.getD i 0)) := fun i hi => by
          rw [hrd.cellAt i (by omega)]; simp [List.getD, hi]
        have HC := Lib.hid hcells; clear hcells hrd hr
        have hlm : 8 * bs.length ≤ 8000000000000000 := by omega
        go_wp2
        go_loop [9, 33] (fun v i => ∃ j : Nat, 8 * j < t + k + 8 ∧ i = .int .i64 j ∧ v = .int .u64 (num ((bs.drop f).take j) : Nat)) (fun _ i => (100 - intOf i).toNat)
        case atStart => exact ⟨0, by omega, rfl, by simp [num]⟩
        case round =>
          obtain ⟨j, hj, rfl, rfl⟩ := hrel
          by_cases hlt : 8 * j < t + k
          · have hc := HC.out (f + j) (by omega)
            have hbd := HB.out
            have hg := AllB.getD hbd (f + j)
            generalize hz : bs.getD (f + j) 0 = z at hc hg
            have HZ := Lib.hid hz; clear hz
            clear hbd
            go_wp2
            go_round
            case rel =>
              exact ⟨j + 1, by omega, by go_num, by rw [or_step bs HB.out f j (by omega) (by omega) z HZ.out]⟩
            case measure => simp [intOf]; omega
          · have hnl : ¬ ((j : Int) < ((t : Int) + k + 7) / 8) := by omega
            go_wp2
            have hj2 : t + k ≤ 8 * j := by omega
            have q1 := wrap_pow k (by omega)
            have hlt2 : num ((bs.drop f).take j) < 18446744073709551616 := num_take_lt _ (AllB.drop HB.out f) j (by omega)
            have HL := Lib.hid hlt2; clear hlt2
            go_quiet ((go_at_call 37; exact Calls.quiet_of_same ((lowest_any _ _ (by omega) (by omega)).mono fun _ _ h => ⟨h.1, h.2.symm⟩)))
            go_wp2
            go_ret2
            refine ⟨?_, hk1.drewN _⟩
            rw [and_mask _ t k HL.out (by omega), bitsAt_window bs HB.out f t k j hj2]
            rfl
end Go.Proofs.Ytpdlkmacdmnamaa

namespace Go.Proofs.Ytpdlkmacdmnamaa
open Go.RowKit
set_option linter.unusedVariables false

theorem Rdr.moved {w w' : World} {R : Nat} {ao : Option Addr} {cap : Nat} {bs : List Int} {p q : Nat} (h : Rdr w R ao cap bs p) (hk : Kept NoB w w') (hq : q ≤ 8 * bs.length) :
    Rdr (w'.setCell ⟨R, 1, none⟩ (.int .i64 q)) R ao cap bs q := by
  obtain ⟨ho, hr, hl, ha, hb⟩ := h
  have ho' := hk.obj ho (fun h => h)
  have hr' := hk.row hr (fun _ _ h => h)
  have hne := row_ne hr' ho' (by decide)
  refine ⟨?_, ?_, hl, hq, hb⟩
  · simpa using obj_set ho' 1 (.int .i64 q)
  · exact ((Kept.refl (OneB R) w').setCell (p := ⟨R, 1, none⟩) (.inl rfl) _).row hr' (fun k hk' e => hne k hk' e)
theorem Rdr.kept {S : Nat → Prop} {w w' : World} {R : Nat} {ao : Option Addr} {cap : Nat} {bs : List Int} {p : Nat} (h : Rdr w R ao cap bs p) (hk : Kept S w w') (h1 : ¬ S R) (h2 : ∀ k, (Value.slice ao bs.length cap).ownBlock = some k → ¬ S k) : Rdr w' R ao cap bs p :=
  ⟨hk.obj h.1 h1, hk.row h.2.1 h2, h.2.2⟩
theorem Rdr.keptNo {w w' : World} {R : Nat} {ao : Option Addr} {cap : Nat} {bs : List Int} {p : Nat} (h : Rdr w R ao cap bs p) (hk : Kept NoB w w') : Rdr w' R ao cap bs p :=
  h.kept hk (fun h => h) (fun _ _ h => h)

set_option maxHeartbeats 1000000 in
theorem take_yes (w : World) (R : Nat) (ao : Option Addr) (cap : Nat) (bs : List Int) (p : Nat) (n : Nat) (h : Rdr w R ao cap bs p) (hn : n ≤ 32) (hle : p + n ≤ 8 * bs.length) :
    Calls Try.prog 18 #[.pointer (some ⟨R, 0, none⟩), .int .i64 n] w fun e w' => e = .returned (.tuple #[.int .u32 (bitsAt bs p n : Nat), .bool true]) ∧ Rdr w' R ao cap bs (p + n) ∧ Kept (OneB R) w w' := by
  have hh := h.2.2.2.1
  have hm : min3 n (8 * bs.length - p) = n := by unfold min3; omega
  have HM := Lib.hid hm; clear hm
  have hlm : bs.length ≤ 1000000000000000 := h.2.2.1
  have H := Lib.hid h; clear h
  go_enter Try.func18, Try.ntmps18
  go_wp2_with (go_at_call 38; refine (left_any _ _ _ _ _ _ H.out).mono ?_; rintro e w1 ⟨rfl, hk1⟩)
  refine (peek_any _ _ _ _ _ _ _ (H.out.keptNo hk1) n HM.out).mono ?_
  rintro e w2 ⟨rfl, hk2⟩
  have hk := hk1.trans hk2
  have hr2 := H.out.keptNo hk
  have c1 : w2.cell? ⟨R, 1, none⟩ = some (.int .i64 p) := by simpa using obj_cell hr2.1 1
  have f1 : w2.frozen? ⟨R, 1, none⟩ = false := obj_free hr2.1 1
  have HR := Lib.hid hr2; clear hr2
  go_wp2
  go_ret2
  refine ⟨rfl, ?_, ?_⟩
  · exact HR.out.moved (Kept.refl _ _) hle
  · exact Kept.setCell (S := OneB R) (p := ⟨R, 1, none⟩) (hk.mono (fun _ _ h => h.elim)) (.inl rfl) _

set_option maxHeartbeats 1000000 in
theorem take_no (w : World) (R : Nat) (ao : Option Addr) (cap : Nat) (bs : List Int) (p : Nat) (n : Int) (h : Rdr w R ao cap bs p) (hn : n < 0 ∨ 32 < n ∨ 8 * bs.length < p + n) :
    Calls Try.prog 18 #[.pointer (some ⟨R, 0, none⟩), .int .i64 n] w fun e w' => e = .returned (.tuple #[.int .u32 0, .bool false]) ∧ Kept NoB w w' := by
  have hh := h.2.2.2.1
  have hlm : bs.length ≤ 1000000000000000 := h.2.2.1
  have H := Lib.hid h; clear h
  by_cases c1 : n < 0
  · clear hn
    go_enter Try.func18, Try.ntmps18
    go_wp2
    go_ret2
    exact ⟨rfl, Kept.refl _ _⟩
  · by_cases c2 : 32 < n
    · clear hn
      go_enter Try.func18, Try.ntmps18
      go_wp2
      go_ret2
      exact ⟨rfl, Kept.refl _ _⟩
    · have c3 : 8 * (bs.length : Int) - p < n := by omega
      clear hn
      go_enter Try.func18, Try.ntmps18
      go_wp2_with (go_at_call 38; refine (left_any _ _ _ _ _ _ H.out).mono ?_; rintro e w1 ⟨rfl, hk1⟩)
      go_ret2
      exact ⟨rfl, hk1⟩

set_option maxHeartbeats 1000000 in
theorem at_any (w : World) (R : Nat) (ao : Option Addr) (cap : Nat) (bs : List Int) (p : Nat) (h : Rdr w R ao cap bs p) :
    Calls Try.prog 14 #[.pointer (some ⟨R, 0, none⟩)] w fun e w' => e = .returned (.int .i64 p) ∧ Kept NoB w w' := by
  have c1 : w.cell? ⟨R, 1, none⟩ = some (.int .i64 p) := by simpa using obj_cell h.1 1
  clear h
  go_enter Try.func14, Try.ntmps14
  go_wp2
  go_ret
  exact ⟨rfl, Kept.refl _ _⟩

def up8 (p : Nat) : Nat := (p + 7) / 8 * 8
end Go.Proofs.Ytpdlkmacdmnamaa
