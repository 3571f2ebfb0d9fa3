/-
  Writer.Put: the lowest n bits of a number, behind what is there.
-/
import Derived.Test.YtokdlmpnokmniaaBitsC
import Derived.Test.YtokdlmpnokmniaaPutN
import Derived.BigRegion
namespace Go.Proofs.Ytokdlmpnokmniaa
open Go.RowKit
set_option linter.unusedVariables false

/-- What Put leaves: x is what was put, in n bits. -/
def PutP (w : World) (R : Nat) (v0 : Value) (bs : List Int) (s x n : Nat) (e : Ending) (w' : World) : Prop :=
  ∃ ao' cap' bs', e = .returned (.bool true) ∧ Wtr w' R ao' cap' bs' (s + n) ∧ num bs' = num bs + x * 2 ^ s ∧ Kept (OrB (OneB R) (OwnB v0)) w w' ∧
    (∀ k, (Value.slice ao' bs'.length cap').ownBlock = some k → v0.ownBlock = some k ∨ w.heap.size ≤ k)

/-- What holds at the head of a round: m bits are put. -/
def PutR (w : World) (R : Nat) (v0 : Value) (bs : List Int) (s V n : Nat) (rest left : Value) (wr : World) (m : Nat) (ao' : Option Addr) (cap' : Nat) (bs' : List Int) : Prop :=
  m ≤ n ∧ rest = .int .u64 (V / 2 ^ m : Nat) ∧ left = .int .i64 (n - m : Nat) ∧ Wtr wr R ao' cap' bs' (s + m) ∧ num bs' = num bs + V % 2 ^ m * 2 ^ s ∧ Kept (OrB (OneB R) (OwnB v0)) w wr ∧
    (∀ k, (Value.slice ao' bs'.length cap').ownBlock = some k → v0.ownBlock = some k ∨ w.heap.size ≤ k)

/-- What holds in a round when there is a byte for the next bits. -/
def PutM (w : World) (R : Nat) (v0 : Value) (N T : Nat) (wx : World) (ao2 : Option Addr) (cap2 : Nat) (bs2 : List Int) : Prop :=
  wx.heap[R]? = some (.cells #[.slice ao2 bs2.length cap2, .int .i64 T] 76 (0, 0)) ∧ wx.ownsRow 0 5 1 (.slice ao2 bs2.length cap2) bs2.length (bs2.map (.int .u8)) ∧
    AllB bs2 ∧ bs2.length = T / 8 + 1 ∧ num bs2 = N ∧ Kept (OrB (OneB R) (OwnB v0)) w wx ∧
    (∀ k, (Value.slice ao2 bs2.length cap2).ownBlock = some k → v0.ownBlock = some k ∨ w.heap.size ≤ k)
def PutMx (w : World) (R : Nat) (v0 : Value) (N T : Nat) (wx : World) : Prop := ∃ ao2 cap2 bs2, PutM w R v0 N T wx ao2 cap2 bs2

theorem drew_heap (w : World) : w.drew.heap = w.heap := rfl
theorem put_round {w wc : World} {R : Nat} {v0 : Value} {bs bs2 : List Int} {s V n m T q L l r now g cap2 : Nat} {z : Int} (hM : PutM w R v0 (num bs + V % 2 ^ m * 2 ^ s) T wc (some ⟨g, 0, none⟩) cap2 bs2)
    (hNlt : num bs + V % 2 ^ m * 2 ^ s < 2 ^ T) (hT : T = s + m) (hq : q = T % 8) (hL : L = T / 8) (hl : l = n - m) (hm : m ≤ n) (hr : r = V / 2 ^ m) (hrl : r < 2 ^ l) (hnow : now = 8 - q ∧ 8 - q ≤ l ∨ now = l ∧ l ≤ 8 - q)
    (hz : bs2.getD L 0 = z) (hs : s ≤ 900000000000) (hn : n ≤ 32) (h1n : 1 ≤ now) :
    PutR w R v0 bs s V n (.int .u64 ((r : Int) / 2 ^ now)) (.int .i64 ((l : Int) - now))
      ((wc.setCell ⟨g, L, none⟩ (.int .u8 (bits .or .u8 z (IntKind.u64.wrap ((r : Int) * 2 ^ q) % 256)))).setCell ⟨R, 1, none⟩ (.int .i64 ((T : Int) + now))).drew
      (m + now) (some ⟨g, 0, none⟩) cap2 (bs2.set L (putByte z r q)) := by
  obtain ⟨h1, h2, h3, h4, h5, h6, h7⟩ := hM
  have e8 : bits .or .u8 z (IntKind.u64.wrap ((r : Int) * 2 ^ q) % 256) = putByte z r q := by unfold putByte; rw [IntKind.wrap_u8']
  have eT : ((T : Int) + now) = ((T + now : Nat) : Int) := by push_cast; rfl
  have ps := put_step bs2 h3 L q r l now (by omega) (by omega) (by rw [h5, show 8 * L + q = T from by omega]; exact hNlt) hrl hnow
  rw [hz, show 8 * L + q = T from by omega, h5] at ps
  have hlen : (bs2.set L (putByte z r q)).length = bs2.length := List.length_set
  have hne := row_ne h2 h1 (by decide) g rfl
  rw [e8, eT]
  have st := h2.stored L (.int .u8 (putByte z r q))
  have k1 : Kept (OneB g) wc (wc.setCell ⟨g, L, none⟩ (.int .u8 (putByte z r q))) := Kept.setCell (S := OneB g) (p := ⟨g, L, none⟩) (Kept.refl _ _) (.inl rfl) _
  have o1 := k1.obj h1 (fun e => hne e.symm)
  refine ⟨by omega, ?_, ?_, ⟨?_, ?_, ps.1, by rw [hlen]; omega, ?_, by omega⟩, ?_, ?_, ?_⟩
  · rw [hr, Nat.pow_add, ← Nat.div_div_eq_div_mul]; push_cast; rfl
  · congr 1; omega
  · rw [hlen]
    have := obj_set o1 1 (.int .i64 (T + now : Nat))
    rw [show s + (m + now) = T + now from by omega]
    simpa [drew_heap] using this
  · rw [hlen]
    have := (Kept.setCell (S := OneB R) (p := ⟨R, 1, none⟩) (Kept.refl _ (wc.setCell ⟨g, L, none⟩ (.int .u8 (putByte z r q)))) (.inl rfl) (.int .i64 (T + now : Nat))).row st.1 (fun k hk e => by
      simp [Value.ownBlock] at hk; exact hne (hk.trans e))
    rw [List.map_set]
    exact this
  · rw [show s + (m + now) = T + now from by omega]; exact ps.2.2
  · rw [ps.2.1, ← put_parts V m now, hr, hT, Nat.add_mul, Nat.pow_add, Nat.mul_assoc, Nat.mul_comm (2 ^ m) (2 ^ s)]; omega
  · refine Kept.drew (Kept.setCell (p := ⟨R, 1, none⟩) (Kept.setCell (p := ⟨g, L, none⟩) h6 ?_ _) (.inl (.inl rfl)) _)
    rcases h7 g rfl with h | h
    · exact .inl (.inr h)
    · exact .inr h
  · intro k hk
    exact h7 k (by simpa [Value.ownBlock] using hk)

theorem low_eq (v n : Nat) (hv : v < 4294967296) (hn : n ≤ 32) : bits .and .u64 (v : Int) (IntKind.u64.wrap (IntKind.u64.wrap (2 ^ n) - 1)) = ((v % 2 ^ n : Nat) : Int) := by
  rw [wrap_pow n hn]
  have h1 : (1 : Nat) ≤ 2 ^ n := Nat.one_le_two_pow
  have h2 : 2 ^ n ≤ 2 ^ 32 := pow_le_pow2 hn
  have hw : IntKind.u64.wrap ((2 : Int) ^ n - 1) = ((2 ^ n - 1 : Nat) : Int) := by
    rw [IntKind.wrap_u64]
    have e : ((2 : Int) ^ n - 1) = ((2 ^ n - 1 : Nat) : Int) := by rw [Int.natCast_sub h1]; push_cast; rfl
    rw [e]
    omega
  rw [hw, u64_and_nat _ _ (by omega) (by omega), Nat.and_two_pow_sub_one_eq_mod]

set_option maxRecDepth 20000 in
set_option maxHeartbeats 2000000 in
theorem put_any (w : World) (R : Nat) (ao : Option Addr) (cap : Nat) (bs : List Int) (s v n : Nat) (h : Wtr w R ao cap bs s) (hv : v < 4294967296) (hn : n ≤ 32) (hs : s ≤ 900000000000) :
    Calls Try.prog 40 #[.pointer (some ⟨R, 0, none⟩), .int .u32 v, .int .i64 n] w (PutP w R (.slice ao bs.length cap) bs s (v % 2 ^ n) n) := by
  obtain ⟨i0, hi, hz0, hz1, hz2⟩ := info_parts info5
  have HL := Lib.hid (low_eq v n hv hn)
  have HV : Hid (v % 2 ^ n < 2 ^ n) := Nat.mod_lt _ (Nat.pow_pos (by decide))
  have H := Lib.hid h; clear h
  go_enter Try.func40, Try.ntmps40
  go_wp2_with (go_at_call 39; refine (lowest_any _ _ (by omega) (by omega)).mono ?_; rintro e w' ⟨rfl, rfl⟩)
  rw [HL.out]
  generalize hV : v % 2 ^ n = V at HV HL ⊢
  have HVE := Lib.hid hV; clear hV HL
  go_loopw [7, 8] (fun rest left wr => ∃ m ao' cap' bs', PutR w R (.slice ao bs.length cap) bs s V n rest left wr m ao' cap' bs') (fun _ left _ => (intOf left).toNat)
  case atStart =>
    exact ⟨0, ao, cap, bs, by omega, by simp, by simp, by simpa using H.out, by simp [Nat.mod_one], Kept.refl _ _, fun k hk => .inl hk⟩
  case round =>
    obtain ⟨m, ao', cap', bs', hm, rfl, rfl, hW, hN, hK, hO⟩ := hrel
    obtain ⟨T, hT⟩ : ∃ T, T = s + m := ⟨_, rfl⟩
    have hTm : T ≤ 900000000032 := by omega
    rw [← hT] at hW
    obtain ⟨q, hq⟩ : ∃ q, q = T % 8 := ⟨_, rfl⟩
    have hq8 : q < 8 := by omega
    have hmod : (T : Int) % 8 = q := by omega
    obtain ⟨l, hl⟩ : ∃ l, l = n - m := ⟨_, rfl⟩
    have hr : V / 2 ^ m < 2 ^ (n - m) := div_lt_left V m n HV.out hm
    rw [← hl] at hr ⊢
    obtain ⟨r, hrr⟩ : ∃ r, r = V / 2 ^ m := ⟨_, rfl⟩
    rw [← hrr] at hr ⊢
    have hl32 : l ≤ 32 := by omega
    have HQ := Lib.hid hq; clear hq
    have HT := Lib.hid hT; clear hT
    have HLL := Lib.hid hl; clear hl
    have HRR := Lib.hid hrr; clear hrr
    have HR := Lib.hid hr; clear hr
    have HN := Lib.hid hN; clear hN
    have HW := Lib.hid hW
    have c0 : wr.cell? ⟨R, 0, none⟩ = some (.slice ao' bs'.length cap') := by simpa using obj_cell hW.1 0
    have c1 : wr.cell? ⟨R, 1, none⟩ = some (.int .i64 T) := by simpa using obj_cell hW.1 1
    have f0 : wr.frozen? ⟨R, 0, none⟩ = false := obj_free hW.1 0
    clear hW
    by_cases hlt : 0 < l
    · go_upto_if 31 with fail
      go_cut [9] from 23 to 40 (fun s9 wx => s9 = .int .i64 q ∧ PutMx w R (.slice ao bs.length cap) (num bs') T wx)
      case first =>
        by_cases hq0 : q = 0
        · have ht : ((T : Int) % 8 == 0) = true := by simp; omega
          have hown := HW.out.2.1
          have hlen := HW.out.2.2.2.1
          have hlb : bs'.length ≤ 112500000004 := by omega
          have HLen := Lib.hid hlen; clear hlen
          go_wp2_with (at_builtin; refine wpList_app _ rfl _ _ 23 rfl 5 i0 (.int .u8 0) 1 1 Try.underlying23 hi hz0 hz1 hz2 rfl (by decide) _ _ _ rfl (hown.alloc _) ⟨wr.heap.size, 0, none⟩ 1 1 [.int .u8 0] rfl rfl ?c1 ?c2 ?c3 ?c4 ?_)
          case c1 => exact cell_one_new _ _ _
          case c2 => intro u hu; simp at hu; subst hu; rfl
          case c3 => unfold maxLen; omega
          case c4 => omega
          intro v' w1 hown' hgrow hnew
          obtain ⟨ao2, cap2, rfl⟩ := own_shape hown'
          have hob := HW.out.1
          have hne := row_ne hown hob (by decide)
          have hob1 : w1.heap[R]? = some (.cells #[.slice ao' bs'.length cap', .int .i64 T] 76 (0, 0)) := by
            rw [hgrow.block R (by have := obj_lt hob; simp; omega) (fun e => hne R e.symm rfl), heap_alloc_old _ _ (obj_lt hob)]
            exact hob
          have d0 : w1.cell? ⟨R, 0, none⟩ = some (.slice ao' bs'.length cap') := by simpa using obj_cell hob1 0
          have g0 : w1.frozen? ⟨R, 0, none⟩ = false := obj_free hob1 0
          have F : PutMx w R (.slice ao bs.length cap) (num bs') T (w1.setCell ⟨R, 0, none⟩ (.slice ao2 (bs'.length + 1) cap2)) := by
            refine ⟨ao2, cap2, bs' ++ [0], ?_, ?_, HW.out.2.2.1.snoc 0 (by decide), ?_, num_zero_last _, ?_, ?_⟩
            · simpa using obj_set hob1 0 (.slice ao2 (bs'.length + 1) cap2)
            · have := (Kept.setCell (S := OneB R) (p := ⟨R, 0, none⟩) (Kept.refl _ w1) (.inl rfl) (.slice ao2 (bs'.length + 1) cap2)).row hown' (fun k hk e => row_ne hown' hob1 (by decide) k hk e)
              simpa using this
            · have := HLen.out; have := HQ.out; simp; omega
            · refine Kept.setCell (p := ⟨R, 0, none⟩) ?_ (.inl (.inl rfl)) _
              refine (hK.alloc _).grown hgrow ?_
              intro k hk e
              rcases hO k e with h1 | h1
              · exact .inr h1
              · omega
            · intro k hk
              have hk2 : (Value.slice ao2 (bs'.length + 1) cap2).ownBlock = some k := by
                cases ao2 with
                | none => simp [Value.ownBlock] at hk
                | some a => simpa [Value.ownBlock] using hk
              rcases hnew k hk2 with h1 | h1
              · exact hO k h1
              · have := hK.size; exact .inr (by omega)
          have HF := Lib.hid F; clear F
          clear hown' hgrow hnew hob1 hob hne
          go_wp2
          go_meet
          exact ⟨by go_num, HF.out⟩
        · have ht : ((T : Int) % 8 == 0) = false := by simp; omega
          go_wp2
          go_meet
          obtain ⟨h1, h2, h3, h4, h5, h6⟩ := HW.out
          exact ⟨by go_num, ao', cap', bs', h1, h2, h3, by have := HQ.out; omega, rfl, hK, hO⟩
      case rest =>
        obtain ⟨rfl, ao2, cap2, bs2, hM⟩ := hcut
        obtain ⟨h1, h2, h3, h4, h5, h6, h7⟩ := hM
        obtain ⟨g, rfl⟩ : ∃ g, ao2 = some ⟨g, 0, none⟩ := by
          rcases h2.2 with ⟨_, hz⟩ | ⟨g, c, cur, hv, _⟩
          · omega
          · simp at hv; exact ⟨g, hv.1⟩
        obtain ⟨L, hL⟩ : ∃ L, L = T / 8 := ⟨_, rfl⟩
        have hne := row_ne h2 h1 (by decide) g rfl
        have hcellz : wc.cell? ⟨g, L, none⟩ = some (.int .u8 (bs2.getD L 0)) := by
          rw [h2.cellAt L (by omega)]; simp [List.getD, show L < bs2.length from by omega]
        have hfz : wc.frozen? ⟨g, L, none⟩ = false := h2.frozenAt L
        have hzb := AllB.getD h3 L
        have d0 : wc.cell? ⟨R, 0, none⟩ = some (.slice (some ⟨g, 0, none⟩) bs2.length cap2) := by simpa using obj_cell h1 0
        have d1 : wc.cell? ⟨R, 1, none⟩ = some (.int .i64 T) := by simpa using obj_cell h1 1
        have g1 : wc.frozen? ⟨R, 1, none⟩ = false := obj_free h1 1
        have hlen : bs2.length = L + 1 := by omega
        have HM : Hid (PutM w R (.slice ao bs.length cap) (num bs') T wc (some ⟨g, 0, none⟩) cap2 bs2) := ⟨h1, h2, h3, h4, h5, h6, h7⟩
        rw [hlen] at d0
        have HLL2 := Lib.hid hL; clear hL
        have HLen := Lib.hid hlen; clear hlen
        generalize hz : bs2.getD L 0 = z at hcellz hzb
        have HZ := Lib.hid hz; clear hz
        have hLb : L ≤ 112500000004 := by have := HLL2.out; omega
        clear h1 h2 h3 h4 h5 h6 h7
        obtain ⟨now, hnow⟩ : ∃ now, now = 8 - q ∧ 8 - q ≤ l ∨ now = l ∧ l ≤ 8 - q := by
          by_cases hmn : l < 8 - q
          · exact ⟨l, .inr ⟨rfl, by omega⟩⟩
          · exact ⟨8 - q, .inl ⟨rfl, by omega⟩⟩
        have hnl : 1 ≤ now ∧ now ≤ l ∧ now ≤ 8 := by omega
        have HNow := Lib.hid hnow; clear hnow
        go_upto_region 9 with fail
        go_cut [10] from 41 to 44 (fun s wx => s = .int .i64 now ∧ wx = wc)
        case first =>
          by_cases hmn : l < 8 - q
          · have hmn' : (l : Int) < 8 - (q : Int) := by omega
            go_wp2
            go_meet
            exact ⟨by have := HNow.out; go_num, rfl⟩
          · have hmn' : ¬ ((l : Int) < 8 - (q : Int)) := by omega
            go_wp2
            go_meet
            exact ⟨by have := HNow.out; go_num, rfl⟩
        case rest =>
          obtain ⟨rfl, hwx⟩ := hcut
          subst hwx
          go_wp2
          go_region
          all_goals go_wp2
          go_roundw
          case rel =>
            have hWn := HW.out.2.2.2.2.1
            rw [HN.out] at hWn
            have hM2 := HM.out
            rw [HN.out] at hM2
            exact ⟨m + now, _, _, _, put_round hM2 hWn HT.out HQ.out HLL2.out HLL.out hm HRR.out HR.out HNow.out HZ.out hs hn hnl.1⟩
          case measure => simp [intOf]; omega
    · have hl0 : l = 0 := by omega
      go_wp2
      go_ret
      refine ⟨ao', cap', bs', rfl, ?_, ?_, hK, hO⟩
      · have := HW.out
        rw [HT.out, show s + m = s + n from by have := HLL.out; omega] at this
        exact this
      · rw [HN.out, show m = n from by have := HLL.out; omega, Nat.mod_eq_of_lt HV.out, HVE.out]
end Go.Proofs.Ytokdlmpnokmniaa
