/-
  Writer.Put: the lowest n bits of a number, behind what is there.
  canon.Write: the codes of places, one behind the other, or nothing.
  How a head is written, on paper: what is put, and that it is read as it was.
  What is put for tokens by two codes, on paper, and that it is read.
  Put: a token behind bytes, in memory of its own.
  Tokens in memory.
-/
import Derived.Test.YtfmjfgmbjdhogaaGreatDoorMg11
import Derived.BigRegion
namespace Go.Proofs.YtfmjfgmbjdhogaaGreatDoor
open Go.RowKit
set_option linter.unusedVariables false

def PutP (w : World) (R : Nat) (v0 : Value) (bs : List Int) (s x n : Nat) (e : Ending) (w' : World) : Prop :=
  ∃ ao' cap' bs', e = .returned (.bool true) ∧ Wtr w' R ao' cap' bs' (s + n) ∧ num bs' = num bs + x * 2 ^ s ∧ Kept (OrB (OneB R) (OwnB v0)) w w' ∧
    (∀ k, (Value.slice ao' bs'.length cap').ownBlock = some k → v0.ownBlock = some k ∨ w.heap.size ≤ k)

def PutR (w : World) (R : Nat) (v0 : Value) (bs : List Int) (s V n : Nat) (rest left : Value) (wr : World) (m : Nat) (ao' : Option Addr) (cap' : Nat) (bs' : List Int) : Prop :=
  m ≤ n ∧ rest = .int .u64 (V / 2 ^ m : Nat) ∧ left = .int .i64 (n - m : Nat) ∧ Wtr wr R ao' cap' bs' (s + m) ∧ num bs' = num bs + V % 2 ^ m * 2 ^ s ∧ Kept (OrB (OneB R) (OwnB v0)) w wr ∧
    (∀ k, (Value.slice ao' bs'.length cap').ownBlock = some k → v0.ownBlock = some k ∨ w.heap.size ≤ k)

def PutM (w : World) (R : Nat) (v0 : Value) (N T : Nat) (wx : World) (ao2 : Option Addr) (cap2 : Nat) (bs2 : List Int) : Prop :=
  wx.heap[R]? = some (.cells #[.slice ao2 bs2.length cap2, .int .i64 T] 96 (0, 0)) ∧ wx.ownsRow 0 5 1 (.slice ao2 bs2.length cap2) bs2.length (bs2.map (.int .u8)) ∧
    AllB bs2 ∧ bs2.length = T / 8 + 1 ∧ num bs2 = N ∧ Kept (OrB (OneB R) (OwnB v0)) w wx ∧
    (∀ k, (Value.slice ao2 bs2.length cap2).ownBlock = some k → v0.ownBlock = some k ∨ w.heap.size ≤ k)
def PutMx (w : World) (R : Nat) (v0 : Value) (N T : Nat) (wx : World) : Prop := ∃ ao2 cap2 bs2, PutM w R v0 N T wx ao2 cap2 bs2

theorem drew_heap (w : World) : w.drew.heap = w.heap := rfl
theorem put_round {w wc : World} {R : Nat} {v0 : Value} {bs bs2 : List Int} {s V n m T q L l r now g cap2 : Nat} {z : Int} (hM : PutM w R v0 (num bs + V % 2 ^ m * 2 ^ s) T wc (some ⟨g, 0, none⟩) cap2 bs2)
    (hNlt : num bs + V % 2 ^ m * 2 ^ s < 2 ^ T) (hT : T = s + m) (hq : q = T % 8) (hL : L = T / 8) (hl : l = n - m) (hm : m ≤ n) (hr : r = V / 2 ^ m) (hrl : r < 2 ^ l) (hnow : now = 8 - q ∧ 8 - q ≤ l ∨ now = l ∧ l ≤ 8 - q)
    (hz : bs2.getD L 0 = z) (hs : s ≤ 900000000000) (hn : n ≤ 32) (h1n : 1 ≤ now) :
    PutR w R v0 bs s V n (.int .u64 ((r : Int) / 2 ^ now)) (.int .i64 ((l : Int) - now))
      ((wc.setCell ⟨g, L, none⟩ (.int .u8 (bits .or .u8 z (IntKind.u64.wrap ((r : Int) * 2 ^ q) % 256)))).setCell ⟨R, 1, none⟩ (.int .i64 ((T : Int) + now))).drew
      (m + now) (some ⟨g, 0, none⟩) cap2 (bs2.set L (putByte z r q)) := by
  obtain ⟨h1, h2, h3, h4, h5, h6, h7⟩ := hM
  have e8 : bits .or .u8 z (IntKind.u64.wrap ((r : Int) * 2 ^ q) % 256) = putByte z r q := by unfold putByte; rw [IntKind.wrap_u8']
  have eT : ((T : Int) + now) = ((T + now : Nat) : Int) := by push_cast; rfl
  have ps := put_step bs2 h3 L q r l now (by omega) (by omega) (by rw [h5, show 8 * L + q = T from by omega]; exact hNlt) hrl hnow
  rw [hz, show 8 * L + q = T from by omega, h5] at ps
  have hlen : (bs2.set L (putByte z r q)).length = bs2.length := List.length_set
  have hne := row_ne h2 h1 (by decide) g rfl
  rw [e8, eT]
  have st := h2.stored L (.int .u8 (putByte z r q))
  have k1 : Kept (OneB g) wc (wc.setCell ⟨g, L, none⟩ (.int .u8 (putByte z r q))) := Kept.setCell (S := OneB g) (p := ⟨g, L, none⟩) (Kept.refl _ _) (.inl rfl) _
  have o1 := k1.obj h1 (fun e => hne e.symm)
  refine ⟨by omega, ?_, ?_, ⟨?_, ?_, ps.1, by rw [hlen]; omega, ?_, by omega⟩, ?_, ?_, ?_⟩
  · rw [hr, Nat.pow_add, ← Nat.div_div_eq_div_mul]; push_cast; rfl
  · congr 1; omega
  · rw [hlen]
    have := obj_set o1 1 (.int .i64 (T + now : Nat))
    rw [show s + (m + now) = T + now from by omega]
    simpa [drew_heap] using this
  · rw [hlen]
    have := (Kept.setCell (S := OneB R) (p := ⟨R, 1, none⟩) (Kept.refl _ (wc.setCell ⟨g, L, none⟩ (.int .u8 (putByte z r q)))) (.inl rfl) (.int .i64 (T + now : Nat))).row st.1 (fun k hk e => by
      simp [Value.ownBlock] at hk; exact hne (hk.trans e))
    rw [List.map_set]
    exact this
  · rw [show s + (m + now) = T + now from by omega]; exact ps.2.2
  · rw [ps.2.1, ← put_parts V m now, hr, hT, Nat.add_mul, Nat.pow_add, Nat.mul_assoc, Nat.mul_comm (2 ^ m) (2 ^ s)]; omega
  · refine Kept.drew (Kept.setCell (p := ⟨R, 1, none⟩) (Kept.setCell (p := ⟨g, L, none⟩) h6 ?_ _) (.inl (.inl rfl)) _)
    rcases h7 g rfl with h | h
    · exact .inl (.inr h)
    · exact .inr h
  · intro k hk
    exact h7 k (by simpa [Value.ownBlock] using hk)

theorem low_eq (v n : Nat) (hv : v < 4294967296) (hn : n ≤ 32) : bits .and .u64 (v : Int) (IntKind.u64.wrap (IntKind.u64.wrap (2 ^ n) - 1)) = ((v % 2 ^ n : Nat) : Int) := by
  rw [wrap_pow n hn]
  have h1 : (1 : Nat) ≤ 2 ^ n := Nat.one_le_two_pow
  have h2 : 2 ^ n ≤ 2 ^ 32 := pow_le_pow2 hn
  have hw : IntKind.u64.wrap ((2 : Int) ^ n - 1) = ((2 ^ n - 1 : Nat) : Int) := by
    rw [IntKind.wrap_u64]
    have e : ((2 : Int) ^ n - 1) = ((2 ^ n - 1 : Nat) : Int) := by rw [Int.natCast_sub h1]; push_cast; rfl
    rw [e]
    omega
  rw [hw, u64_and_nat _ _ (by omega) (by omega), Nat.and_two_pow_sub_one_eq_mod]

set_option maxRecDepth 20000 in
set_option maxHeartbeats 2000000 in
theorem put_any (w : World) (R : Nat) (ao : Option Addr) (cap : Nat) (bs : List Int) (s v n : Nat) (h : Wtr w R ao cap bs s) (hv : v < 4294967296) (hn : n ≤ 32) (hs : s ≤ 900000000000) :
    Calls Tryz.prog 84 #[.pointer (some ⟨R, 0, none⟩), .int .u32 v, .int .i64 n] w (PutP w R (.slice ao bs.length cap) bs s (v % 2 ^ n) n) := by
  obtain ⟨i0, hi, hz0, hz1, hz2⟩ := info_parts info5
  have HL := Lib.hid (low_eq v n hv hn)
  have HV : Hid (v % 2 ^ n < 2 ^ n) := Nat.mod_lt _ (Nat.pow_pos (by decide))
  have H := Lib.hid h; clear h
  go_enter Tryz.func84, Tryz.ntmps84
  go_wp2_with (go_at_call 113; refine (lowest_any _ _ (by omega) (by omega)).mono ?_; rintro e w' ⟨rfl, rfl⟩)
  rw [HL.out]
  generalize hV : v % 2 ^ n = V at HV HL ⊢
  have HVE := Lib.hid hV; clear hV HL
  go_loopw [7, 8] (fun rest left wr => ∃ m ao' cap' bs', PutR w R (.slice ao bs.length cap) bs s V n rest left wr m ao' cap' bs') (fun _ left _ => (intOf left).toNat)
  case atStart =>
    exact ⟨0, ao, cap, bs, by omega, by simp, by simp, by simpa using H.out, by simp [Nat.mod_one], Kept.refl _ _, fun k hk => .inl hk⟩
  case round =>
    obtain ⟨m, ao', cap', bs', hm, rfl, rfl, hW, hN, hK, hO⟩ := hrel
    obtain ⟨T, hT⟩ : ∃ T, T = s + m := ⟨_, rfl⟩
    have hTm : T ≤ 900000000032 := by omega
    rw [← hT] at hW
    obtain ⟨q, hq⟩ : ∃ q, q = T % 8 := ⟨_, rfl⟩
    have hq8 : q < 8 := by omega
    have hmod : (T : Int) % 8 = q := by omega
    obtain ⟨l, hl⟩ : ∃ l, l = n - m := ⟨_, rfl⟩
    have hr : V / 2 ^ m < 2 ^ (n - m) := div_lt_left V m n HV.out hm
    rw [← hl] at hr ⊢
    obtain ⟨r, hrr⟩ : ∃ r, r = V / 2 ^ m := ⟨_, rfl⟩
    rw [← hrr] at hr ⊢
    have hl32 : l ≤ 32 := by omega
    have HQ := Lib.hid hq; clear hq
    have HT := Lib.hid hT; clear hT
    have HLL := Lib.hid hl; clear hl
    have HRR := Lib.hid hrr; clear hrr
    have HR := Lib.hid hr; clear hr
    have HN := Lib.hid hN; clear hN
    have HW := Lib.hid hW
    have c0 : wr.cell? ⟨R, 0, none⟩ = some (.slice ao' bs'.length cap') := by simpa using obj_cell hW.1 0
    have c1 : wr.cell? ⟨R, 1, none⟩ = some (.int .i64 T) := by simpa using obj_cell hW.1 1
    have f0 : wr.frozen? ⟨R, 0, none⟩ = false := obj_free hW.1 0
    clear hW
    by_cases hlt : 0 < l
    · go_upto_if 31 with fail
      go_cut [9] from 23 to 40 (fun s9 wx => s9 = .int .i64 q ∧ PutMx w R (.slice ao bs.length cap) (num bs') T wx)
      case first =>
        by_cases hq0 : q = 0
        · have ht : ((T : Int) % 8 == 0) = true := by simp; omega
          have hown := HW.out.2.1
          have hlen := HW.out.2.2.2.1
          have hlb : bs'.length ≤ 112500000004 := by omega
          have HLen := Lib.hid hlen; clear hlen
          go_wp2_with (at_builtin; refine wpList_app _ rfl _ _ 22 rfl 5 i0 (.int .u8 0) 1 1 Tryz.underlying22 hi hz0 hz1 hz2 rfl (by decide) _ _ _ rfl (hown.alloc _) ⟨wr.heap.size, 0, none⟩ 1 1 [.int .u8 0] rfl rfl ?c1 ?c2 ?c3 ?c4 ?_)
          case c1 => exact cell_one_new _ _ _
          case c2 => intro u hu; simp at hu; subst hu; rfl
          case c3 => unfold maxLen; omega
          case c4 => omega
          intro v' w1 hown' hgrow hnew
          obtain ⟨ao2, cap2, rfl⟩ := own_shape hown'
          have hob := HW.out.1
          have hne := row_ne hown hob (by decide)
          have hob1 : w1.heap[R]? = some (.cells #[.slice ao' bs'.length cap', .int .i64 T] 96 (0, 0)) := by
            rw [hgrow.block R (by have := obj_lt hob; simp; omega) (fun e => hne R e.symm rfl), heap_alloc_old _ _ (obj_lt hob)]
            exact hob
          have d0 : w1.cell? ⟨R, 0, none⟩ = some (.slice ao' bs'.length cap') := by simpa using obj_cell hob1 0
          have g0 : w1.frozen? ⟨R, 0, none⟩ = false := obj_free hob1 0
          have F : PutMx w R (.slice ao bs.length cap) (num bs') T (w1.setCell ⟨R, 0, none⟩ (.slice ao2 (bs'.length + 1) cap2)) := by
            refine ⟨ao2, cap2, bs' ++ [0], ?_, ?_, HW.out.2.2.1.snoc 0 (by decide), ?_, num_zero_last _, ?_, ?_⟩
            · simpa using obj_set hob1 0 (.slice ao2 (bs'.length + 1) cap2)
            · have := (Kept.setCell (S := OneB R) (p := ⟨R, 0, none⟩) (Kept.refl _ w1) (.inl rfl) (.slice ao2 (bs'.length + 1) cap2)).row hown' (fun k hk e => row_ne hown' hob1 (by decide) k hk e)
              simpa using this
            · have := HLen.out; have := HQ.out; simp; omega
            · refine Kept.setCell (p := ⟨R, 0, none⟩) ?_ (.inl (.inl rfl)) _
              refine (hK.alloc _).grown hgrow ?_
              intro k hk e
              rcases hO k e with h1 | h1
              · exact .inr h1
              · omega
            · intro k hk
              have hk2 : (Value.slice ao2 (bs'.length + 1) cap2).ownBlock = some k := by
                cases ao2 with
                | none => simp [Value.ownBlock] at hk
                | some a => simpa [Value.ownBlock] using hk
              rcases hnew k hk2 with h1 | h1
              · exact hO k h1
              · have := hK.size; exact .inr (by omega)
          have HF := Lib.hid F; clear F
          clear hown' hgrow hnew hob1 hob hne
          go_wp2
          go_meet
          exact ⟨by go_num, HF.out⟩
        · have ht : ((T : Int) % 8 == 0) = false := by simp; omega
          go_wp2
          go_meet
          obtain ⟨h1, h2, h3, h4, h5, h6⟩ := HW.out
          exact ⟨by go_num, ao', cap', bs', h1, h2, h3, by have := HQ.out; omega, rfl, hK, hO⟩
      case rest =>
        obtain ⟨rfl, ao2, cap2, bs2, hM⟩ := hcut
        obtain ⟨h1, h2, h3, h4, h5, h6, h7⟩ := hM
        obtain ⟨g, rfl⟩ : ∃ g, ao2 = some ⟨g, 0, none⟩ := by
          rcases h2.2 with ⟨_, hz⟩ | ⟨g, c, cur, hv, _⟩
          · omega
          · simp at hv; exact ⟨g, hv.1⟩
        obtain ⟨L, hL⟩ : ∃ L, L = T / 8 := ⟨_, rfl⟩
        have hne := row_ne h2 h1 (by decide) g rfl
        have hcellz : wc.cell? ⟨g, L, none⟩ = some (.int .u8 (bs2.getD L 0)) := by
          rw [h2.cellAt L (by omega)]; simp [List.getD, show L < bs2.length from by omega]
        have hfz : wc.frozen? ⟨g, L, none⟩ = false := h2.frozenAt L
        have hzb := AllB.getD h3 L
        have d0 : wc.cell? ⟨R, 0, none⟩ = some (.slice (some ⟨g, 0, none⟩) bs2.length cap2) := by simpa using obj_cell h1 0
        have d1 : wc.cell? ⟨R, 1, none⟩ = some (.int .i64 T) := by simpa using obj_cell h1 1
        have g1 : wc.frozen? ⟨R, 1, none⟩ = false := obj_free h1 1
        have hlen : bs2.length = L + 1 := by omega
        have HM : Hid (PutM w R (.slice ao bs.length cap) (num bs') T wc (some ⟨g, 0, none⟩) cap2 bs2) := ⟨h1, h2, h3, h4, h5, h6, h7⟩
        rw [hlen] at d0
        have HLL2 := Lib.hid hL; clear hL
        have HLen := Lib.hid hlen; clear hlen
        generalize hz : bs2.getD L 0 = z at hcellz hzb
        have HZ := Lib.hid hz; clear hz
        have hLb : L ≤ 112500000004 := by have := HLL2.out; omega
        clear h1 h2 h3 h4 h5 h6 h7
        obtain ⟨now, hnow⟩ : ∃ now, now = 8 - q ∧ 8 - q ≤ l ∨ now = l ∧ l ≤ 8 - q := by
          by_cases hmn : l < 8 - q
          · exact ⟨l, .inr ⟨rfl, by omega⟩⟩
          · exact ⟨8 - q, .inl ⟨rfl, by omega⟩⟩
        have hnl : 1 ≤ now ∧ now ≤ l ∧ now ≤ 8 := by omega
        have HNow := Lib.hid hnow; clear hnow
        go_upto_region 9 with fail
        go_cut [10] from 41 to 44 (fun s wx => s = .int .i64 now ∧ wx = wc)
        case first =>
          by_cases hmn : l < 8 - q
          · have hmn' : (l : Int) < 8 - (q : Int) := by omega
            go_wp2
            go_meet
            exact ⟨by have := HNow.out; go_num, rfl⟩
          · have hmn' : ¬ ((l : Int) < 8 - (q : Int)) := by omega
            go_wp2
            go_meet
            exact ⟨by have := HNow.out; go_num, rfl⟩
        case rest =>
          obtain ⟨rfl, hwx⟩ := hcut
          subst hwx
          go_wp2
          go_region
          all_goals go_wp2
          go_roundw
          case rel =>
            have hWn := HW.out.2.2.2.2.1
            rw [HN.out] at hWn
            have hM2 := HM.out
            rw [HN.out] at hM2
            exact ⟨m + now, _, _, _, put_round hM2 hWn HT.out HQ.out HLL2.out HLL.out hm HRR.out HR.out HNow.out HZ.out hs hn hnl.1⟩
          case measure => simp [intOf]; omega
    · have hl0 : l = 0 := by omega
      go_wp2
      go_ret
      refine ⟨ao', cap', bs', rfl, ?_, ?_, hK, hO⟩
      · have := HW.out
        rw [HT.out, show s + m = s + n from by have := HLL.out; omega] at this
        exact this
      · rw [HN.out, show m = n from by have := HLL.out; omega, Nat.mod_eq_of_lt HV.out, HVE.out]
end Go.Proofs.YtfmjfgmbjdhogaaGreatDoor

namespace Go.Proofs.YtfmjfgmbjdhogaaGreatDoor
open Go.RowKit
set_option linter.unusedVariables false
set_option linter.unusedSimpArgs false

def putsN : List (Nat × Nat) → Nat
  | [] => 0
  | (x, n) :: r => x + putsN r * 2 ^ n
def wdN : List (Nat × Nat) → Nat
  | [] => 0
  | (_, n) :: r => n + wdN r
theorem wdN_append : ∀ a b, wdN (a ++ b) = wdN a + wdN b
  | [], b => by simp [wdN]
  | (x, n) :: r, b => by rw [List.cons_append, wdN, wdN, wdN_append r b]; omega
theorem putsN_append : ∀ a b, putsN (a ++ b) = putsN a + putsN b * 2 ^ wdN a
  | [], b => by simp [putsN, wdN]
  | (x, n) :: r, b => by
    rw [List.cons_append, putsN, putsN, wdN, putsN_append r b, Nat.add_mul, Nat.pow_add, Nat.add_assoc]
    congr 2
    rw [Nat.mul_assoc, Nat.mul_comm (2 ^ wdN r) (2 ^ n)]
theorem putsN_drop : ∀ (a : List (Nat × Nat)) (k : Nat), (∀ y ∈ a, y.1 < 2 ^ y.2) → putsN a / 2 ^ wdN (a.take k) = putsN (a.drop k)
  | a, 0, _ => by simp [wdN]
  | [], k + 1, _ => by simp [putsN, wdN]
  | (x, n) :: r, k + 1, h => by
    have h1 : x < 2 ^ n := h (x, n) (List.mem_cons_self ..)
    rw [List.take_succ_cons, List.drop_succ_cons, wdN, putsN, Nat.pow_add, ← Nat.div_div_eq_div_mul, Nat.add_mul_div_right _ _ (Nat.two_pow_pos n), Nat.div_eq_of_lt h1, Nat.zero_add]
    exact putsN_drop r k (fun y hy => h y (List.mem_cons_of_mem _ hy))
def wordZ (ls : List Int) (z : Int) : Nat × Nat := (revN (ls.getD z.toNat 0).toNat (codeAt ls z.toNat).toNat, (ls.getD z.toNat 0).toNat)
theorem wordZ_lt (ls : List Int) (z : Int) : (wordZ ls z).1 < 2 ^ (wordZ ls z).2 := revN_lt _ _
def HasC (ls : List Int) (z : Int) : Prop := ∃ k : Nat, z = (k : Int) ∧ k < ls.length ∧ 0 < ls.getD k 0
theorem Kept.transO {S T : Nat → Prop} {a b c : World} (h : Kept S a b) (k : Kept T b c) (hs : ∀ i, i < a.heap.size → T i → S i) : Kept S a c :=
  ⟨k.os.trans h.os, k.tape.trans h.tape, k.output.trans h.output, Nat.le_trans h.size k.size, fun i hi hn => (k.block i (Nat.lt_of_lt_of_le hi h.size) (fun t => hn (hs i hi t))).trans (h.block i hi hn)⟩
def WroteP (w : World) (R : Nat) (v0 : Value) (bs : List Int) (s : Nat) (ps : List (Nat × Nat)) (w' : World) (ao' : Option Addr) (cap' : Nat) (bs' : List Int) : Prop :=
  Wtr w' R ao' cap' bs' (s + wdN ps) ∧ num bs' = num bs + putsN ps * 2 ^ s ∧ Kept (OrB (OneB R) (OwnB v0)) w w' ∧ (∀ k, (Value.slice ao' bs'.length cap').ownBlock = some k → v0.ownBlock = some k ∨ w.heap.size ≤ k)

end Go.Proofs.YtfmjfgmbjdhogaaGreatDoor

namespace Go.Proofs.YtfmjfgmbjdhogaaGreatDoor
open Go.RowKit
set_option linter.unusedVariables false
set_option linter.unusedSimpArgs false

theorem revN_lowH (n v : Nat) : revN n v = revN n (v % 2 ^ n) := by
  apply Nat.eq_of_testBit_eq
  intro i
  rw [revN_bit, revN_bit, Nat.testBit_mod_two_pow]
  by_cases h : i < n
  · have : n - 1 - i < n := by omega
    simp [h, this]
  · simp [h]
structure Puts (bs : List Int) (s : Nat) (ps : List (Nat × Nat)) : Prop where
  num : ∃ A, A < 2 ^ s ∧ num bs = A + putsN ps * 2 ^ s
  lt : ∀ y ∈ ps, y.1 < 2 ^ y.2
  len : s + wdN ps ≤ 8 * bs.length
theorem Puts.at {bs : List Int} {s : Nat} {pre rest : List (Nat × Nat)} {v k : Nat} (h : Puts bs s (pre ++ (v, k) :: rest)) (T : Nat) (hT : k ≤ T) : bitsAt bs (s + wdN pre) T % 2 ^ k = v := by
  obtain ⟨A, hA, hn⟩ := h.num
  have hv : v < 2 ^ k := h.lt (v, k) (by simp)
  have hd := putsN_drop (pre ++ (v, k) :: rest) pre.length h.lt
  rw [List.take_left, List.drop_left, putsN] at hd
  unfold bitsAt
  rw [hn, Nat.pow_add, ← Nat.div_div_eq_div_mul, Nat.add_mul_div_right _ _ (Nat.two_pow_pos s), Nat.div_eq_of_lt hA, Nat.zero_add, hd, Nat.mod_mod_of_dvd _ (Nat.pow_dvd_pow 2 hT), Nat.add_mul_mod_self_right, Nat.mod_eq_of_lt hv]
theorem Puts.is {bs : List Int} {s : Nat} {pre rest : List (Nat × Nat)} {v k : Nat} (h : Puts bs s (pre ++ (v, k) :: rest)) : bitsAt bs (s + wdN pre) k = v := by
  have := h.at k (Nat.le_refl _)
  rw [Nat.mod_eq_of_lt (bitsAt_lt bs _ k)] at this
  exact this
theorem Puts.room {bs : List Int} {s : Nat} {pre rest : List (Nat × Nat)} (h : Puts bs s (pre ++ rest)) : s + wdN pre + wdN rest ≤ 8 * bs.length := by
  have := h.len
  rw [wdN_append] at this
  omega
theorem Puts.read {bs : List Int} {s : Nat} {pre rest : List (Nat × Nat)} {L : List Int} {k : Nat} (h : Puts bs s (pre ++ wordZ L (k : Int) :: rest)) (hs : Small 15 L) (hl : L.length ≤ 320) (hok : refS L = 0) (hkl : k < L.length) (h0 : 0 < L.getD k 0) {T : Nat}
    (hT : min3 15 (8 * bs.length - (s + wdN pre : Nat)) = T) : ReadS L T (bitsAt bs (s + wdN pre) T) (s + wdN pre) (k : Int) 0 (s + wdN pre + (L.getD k 0).toNat) := by
  have hbk := hs.getD k hkl
  obtain ⟨n, hlk⟩ : ∃ n : Nat, L.getD k 0 = (n : Int) := ⟨(L.getD k 0).toNat, by omega⟩
  have hcb := codeAt_bd L hl hs k hkl
  obtain ⟨ck, hck⟩ : ∃ ck : Nat, codeAt L k = (ck : Int) := ⟨(codeAt L k).toNat, by omega⟩
  have hclt := code_lt L hs hl hok k n hkl hlk (by omega)
  have hword : wordZ L (k : Int) = (revN n ck, n) := by unfold wordZ; rw [Int.toNat_natCast, hlk, hck, Int.toNat_natCast, Int.toNat_natCast]
  rw [hword] at h
  have hroom := h.room
  rw [wdN] at hroom
  have hnT : n ≤ T := by unfold min3 at hT; omega
  rw [hlk, Int.toNat_natCast]
  have hv : codeN (bitsAt bs (s + wdN pre) T) n = ck := by
    rw [← revN_code, revN_lowH, h.at T hnT]
    exact revN_revN n ck (by omega)
  refine .inl ⟨n, k, by omega, hnT, hkl, hlk, by rw [hck, hv], ?_, rfl, rfl, rfl⟩
  intro m hm1 hm2 j hj hzj e
  obtain ⟨d, rfl⟩ : ∃ d, n = m + d := ⟨n - m, by omega⟩
  have hne : j ≠ k := by
    rintro rfl
    rw [hlk] at hzj; omega
  have hfr := (code_free L hl hs j k hj hkl hne (by omega) d (by rw [hzj, hlk]; omega)).1
  rw [hck, ← hv, codeN_pre_int, ← e] at hfr
  exact hfr rfl
def wordsR (code : List Int) (rs : List (Int × Int)) : List (Nat × Nat) := rs.flatMap fun y => [wordZ code y.1, (y.2.toNat, spanB y.1)]
theorem wordsR_cons (code : List Int) (y : Int × Int) (rs : List (Int × Int)) : wordsR code (y :: rs) = wordZ code y.1 :: (y.2.toNat, spanB y.1) :: wordsR code rs := by simp [wordsR]
theorem Puts.row {bs : List Int} {s N : Nat} {code F : List Int} (hs : Small 15 code) (hl : code.length ≤ 320) (hok : refS code = 0) (hF : F.length = N) : ∀ (rs : List (Int × Int)) (l : List Int) (pre post : List (Nat × Nat)), Puts bs s (pre ++ (wordsR code rs ++ post)) →
    (∀ y ∈ rs, HasC code y.1) → runAll (N : Int) l rs = some F → RowR code bs N (s + wdN pre) l (s + wdN (pre ++ wordsR code rs)) F 0
  | [], l, pre, post, h, hc, hr => by
    rw [runAll] at hr
    cases hr
    simp only [wordsR, List.flatMap_nil, List.append_nil]
    exact .done (by omega)
  | (z, x) :: r, l, pre, post, h, hc, hr => by
    rw [runAll] at hr
    split at hr
    · rename_i hok2
      obtain ⟨ho, hN⟩ := hok2
      obtain ⟨k, rfl, hkl, h0⟩ := hc (z, x) (by simp)
      rw [wordsR_cons] at h ⊢
      rw [List.cons_append, List.cons_append] at h
      obtain ⟨T, hT⟩ : ∃ T : Nat, min3 15 (8 * bs.length - (s + wdN pre : Nat)) = T := by
        have := h.room
        obtain ⟨T, h, _⟩ := min3_at (8 * bs.length) (s + wdN pre) (by omega)
        exact ⟨T, by simpa using h⟩
      have hrd := h.read hs hl hok hkl h0 hT
      have hwz : (wordZ code (k : Int)).2 = (code.getD k 0).toNat := by unfold wordZ; rw [Int.toNat_natCast]
      have e1 : pre ++ wordZ code (k : Int) :: (x.toNat, spanB (k : Int)) :: (wordsR code r ++ post) = (pre ++ [wordZ code (k : Int)]) ++ (x.toNat, spanB (k : Int)) :: (wordsR code r ++ post) := by simp
      have e2 : pre ++ wordZ code (k : Int) :: (x.toNat, spanB (k : Int)) :: (wordsR code r ++ post) = (pre ++ [wordZ code (k : Int), (x.toNat, spanB (k : Int))]) ++ (wordsR code r ++ post) := by simp
      have e4 : pre ++ wordZ code (k : Int) :: (x.toNat, spanB (k : Int)) :: wordsR code r = (pre ++ [wordZ code (k : Int), (x.toNat, spanB (k : Int))]) ++ wordsR code r := by simp
      have w1 : s + wdN (pre ++ [wordZ code (k : Int)]) = s + wdN pre + (code.getD k 0).toNat := by
        rw [wdN_append, ← hwz]
        have : wdN [wordZ code (k : Int)] = (wordZ code (k : Int)).2 := by simp [wdN]
        omega
      have w2 : s + wdN (pre ++ [wordZ code (k : Int), (x.toNat, spanB (k : Int))]) = s + wdN pre + (code.getD k 0).toNat + spanB (k : Int) := by
        rw [wdN_append, ← hwz]
        have : wdN [wordZ code (k : Int), (x.toNat, spanB (k : Int))] = (wordZ code (k : Int)).2 + spanB (k : Int) := by simp [wdN]
        omega
      have hx := (e1 ▸ h).is
      rw [w1] at hx
      have hxx : ((x.toNat : Nat) : Int) = x := by have := ho.2.2.1; omega
      have hrm := (e2 ▸ h).room
      rw [w2] at hrm
      have hml := moreL_len l (k : Int) x
      have hsp := spanL_pos (k : Int)
      have ih := Puts.row hs hl hok hF r (moreL l (k : Int) x) (pre ++ [wordZ code (k : Int), (x.toNat, spanB (k : Int))]) post (e2 ▸ h) (fun y hy => hc y (List.mem_cons_of_mem _ hy)) hr
      rw [w2, ← e4] at ih
      exact .step (by omega) hT hrd (by omega) (by rw [hx, hxx]; exact ho) (by rw [hx, hxx]; exact hN) (by rw [hx, hxx]; exact ih)
    · cases hr
theorem ord_ne : ∀ i, i < 19 → ∀ j, j < 19 → i ≠ j → (ordL.getD i 0).toNat ≠ (ordL.getD j 0).toNat := by decide +kernel
theorem ord_inv : ∀ j, j < 19 → ∃ i, i < 19 ∧ (ordL.getD i 0).toNat = j := by decide +kernel
theorem ord_lt : ∀ i, i < 19 → (ordL.getD i 0).toNat < 19 := by decide +kernel
theorem getD_setH (Z : List Int) (i j : Nat) (z : Int) (h : i < Z.length) : (Z.set i z).getD j 0 = if i = j then z else Z.getD j 0 := by
  by_cases e : i = j
  · subst e; simp [List.getD, h]
  · simp [List.getD, List.getElem?_set, e]
theorem rep0 (n j : Nat) : (List.replicate n (0 : Int)).getD j 0 = 0 := by
  unfold List.getD
  rw [List.getElem?_replicate]
  split <;> rfl
theorem codeT_at (bs : List Int) (p : Nat) : ∀ n, n ≤ 19 → ∀ i, i < 19 → (codeT bs p n).getD (ordL.getD i 0).toNat 0 = if i < n then ((bitsAt bs (p + 3 * i) 3 : Nat) : Int) else 0
  | 0, _, i, hi => by
    rw [if_neg (Nat.not_lt_zero i), codeT]
    exact rep0 _ _
  | n + 1, h, i, hi => by
    rw [codeT, getD_setH _ _ _ _ (by rw [codeT_len]; exact ord_lt n (by omega)), codeT_at bs p n (by omega) i hi]
    by_cases e : n = i
    · subst e; rw [if_pos rfl, if_pos (by omega)]
    · rw [if_neg (ord_ne n (by omega) i hi e)]
      by_cases h2 : i < n
      · rw [if_pos h2, if_pos (by omega)]
      · rw [if_neg h2, if_neg (by omega)]
def wordsC (code : List Int) (n : Nat) : List (Nat × Nat) := (List.range n).map fun i => ((code.getD (ordL.getD i 0).toNat 0).toNat, 3)
theorem wordsC_snoc (code : List Int) (n : Nat) : wordsC code (n + 1) = wordsC code n ++ [((code.getD (ordL.getD n 0).toNat 0).toNat, 3)] := by simp [wordsC, List.range_succ]
theorem wordsC_wd (code : List Int) : ∀ n, wdN (wordsC code n) = 3 * n
  | 0 => by simp [wordsC, wdN]
  | n + 1 => by rw [wordsC_snoc, wdN_append, wordsC_wd code n]; simp [wdN]; omega
theorem wordsC_split (code : List Int) : ∀ n i, i < n → ∃ r, wordsC code n = wordsC code i ++ ((code.getD (ordL.getD i 0).toNat 0).toNat, 3) :: r
  | 0, i, h => absurd h (Nat.not_lt_zero i)
  | n + 1, i, h => by
    by_cases e : i = n
    · subst e; exact ⟨[], by rw [wordsC_snoc]⟩
    · obtain ⟨r, hr⟩ := wordsC_split code n i (by omega)
      exact ⟨r ++ [((code.getD (ordL.getD n 0).toNat 0).toNat, 3)], by rw [wordsC_snoc, hr]; simp⟩
def headW (lit dist code : List Int) (told : Nat) (rs : List (Int × Int)) : List (Nat × Nat) :=
  [(lit.length - 257, 5), (dist.length - 1, 5), (told - 4, 4)] ++ wordsC code told ++ wordsR code rs
structure CodeW (code : List Int) (told : Nat) (rs : List (Int × Int)) (F : List Int) : Prop where
  len : code.length = 19
  small : Small 7 code
  full : fullB code = true
  lo : 4 ≤ told
  hi : told ≤ 19
  rest : ∀ i, told ≤ i → i < 19 → code.getD (ordL.getD i 0).toNat 0 = 0
  has : ∀ y ∈ rs, HasC code y.1
  runs : runAll (F.length : Int) [] rs = some F
theorem codeT_eq {bs : List Int} {s told : Nat} {code : List Int} {pre post : List (Nat × Nat)} (h : Puts bs s (pre ++ wordsC code told ++ post)) (hl : code.length = 19) (hs : Small 7 code) (hi : told ≤ 19) (hr : ∀ i, told ≤ i → i < 19 → code.getD (ordL.getD i 0).toNat 0 = 0) : codeT bs (s + wdN pre) told = code := by
  apply List.ext_getElem (by rw [codeT_len, hl])
  intro j h1 h2
  obtain ⟨i, hi19, hij⟩ := ord_inv j (by rw [codeT_len] at h1; exact h1)
  have hc := codeT_at bs (s + wdN pre) told hi i hi19
  rw [hij] at hc
  have e1 : (codeT bs (s + wdN pre) told).getD j 0 = (codeT bs (s + wdN pre) told)[j] := by simp [List.getD, h1]
  have e2 : code.getD j 0 = code[j] := by simp [List.getD, h2]
  rw [← e1, ← e2, hc]
  by_cases ht : i < told
  · rw [if_pos ht]
    obtain ⟨r, hr⟩ := wordsC_split code told i ht
    rw [hr] at h
    have hx := (show Puts bs s ((pre ++ wordsC code i) ++ ((code.getD (ordL.getD i 0).toNat 0).toNat, 3) :: (r ++ post)) by simpa using h).is
    rw [wdN_append, wordsC_wd, ← Nat.add_assoc] at hx
    rw [hx, hij]
    have := hs _ (List.getElem_mem h2)
    rw [e2]; omega
  · rw [if_neg ht, ← hij]
    exact (hr i (by omega) hi19).symm
theorem head_backG {bs : List Int} {s told : Nat} {lit dist code : List Int} {rs : List (Int × Int)} {pre post : List (Nat × Nat)} (h : Puts bs s (pre ++ headW lit dist code told rs ++ post)) (hc : CodeW code told rs (lit ++ dist)) (hb : headB lit dist = true) : HeadR bs (s + wdN pre) lit dist 0 (s + wdN (pre ++ headW lit dist code told rs)) := by
  unfold headB at hb
  obtain ⟨hb1, hb2⟩ := Bool.and_eq_true_iff.1 hb
  obtain ⟨l1, l2, l3, l4⟩ := of_decide_eq_true hb1
  have hlo := hc.lo
  have hhi := hc.hi
  unfold headW at h
  have x1 := (show Puts bs s (pre ++ (lit.length - 257, 5) :: ([(dist.length - 1, 5), (told - 4, 4)] ++ wordsC code told ++ wordsR code rs ++ post)) by simpa using h).is
  have x2 := (show Puts bs s ((pre ++ [(lit.length - 257, 5)]) ++ (dist.length - 1, 5) :: ([(told - 4, 4)] ++ wordsC code told ++ wordsR code rs ++ post)) by simpa using h).is
  have x3 := (show Puts bs s ((pre ++ [(lit.length - 257, 5), (dist.length - 1, 5)]) ++ (told - 4, 4) :: (wordsC code told ++ wordsR code rs ++ post)) by simpa using h).is
  have x4 := codeT_eq (pre := pre ++ [(lit.length - 257, 5), (dist.length - 1, 5), (told - 4, 4)]) (post := wordsR code rs ++ post) (by simpa using h) hc.len hc.small hhi hc.rest
  have h5 : Puts bs s ((pre ++ ([(lit.length - 257, 5), (dist.length - 1, 5), (told - 4, 4)] ++ wordsC code told)) ++ (wordsR code rs ++ post)) := by simpa using h
  have x5 := Puts.row (N := lit.length + dist.length) (F := lit ++ dist) (small7_15 hc.small) (by rw [hc.len]; decide) (full_ref hc.full) (by simp) rs [] (pre ++ ([(lit.length - 257, 5), (dist.length - 1, 5), (told - 4, 4)] ++ wordsC code told)) post
    h5 hc.has (by have := hc.runs; rw [List.length_append] at this; exact this)
  have hr := h5.room
  have w0 : wdN (pre ++ [(lit.length - 257, 5), (dist.length - 1, 5), (told - 4, 4)]) = wdN pre + 14 := by rw [wdN_append]; rfl
  have w1 : wdN (pre ++ ([(lit.length - 257, 5), (dist.length - 1, 5), (told - 4, 4)] ++ wordsC code told)) = wdN pre + (14 + 3 * told) := by rw [wdN_append, wdN_append, wordsC_wd]; rfl
  have w2 : wdN (pre ++ [(lit.length - 257, 5)]) = wdN pre + 5 := by rw [wdN_append]; rfl
  have w3 : wdN (pre ++ [(lit.length - 257, 5), (dist.length - 1, 5)]) = wdN pre + 10 := by rw [wdN_append]; rfl
  rw [w1] at x5 hr
  rw [w0, ← Nat.add_assoc] at x4
  rw [w2, ← Nat.add_assoc] at x2
  rw [w3, ← Nat.add_assoc] at x3
  unfold HeadR
  rw [x1, x2, x3, if_neg (by omega), if_neg (by omega), if_neg (by omega)]
  rw [show told - 4 + 4 = told by omega, x4, if_neg (by rw [hc.full]; decide)]
  rw [show lit.length - 257 + 257 = lit.length by omega, show dist.length - 1 + 1 = dist.length by omega]
  refine ⟨lit ++ dist, s + wdN (pre ++ headW lit dist code told rs), 0, ?_, ?_⟩
  · rw [show s + wdN pre + 14 + 3 * told = s + (wdN pre + (14 + 3 * told)) by omega]
    have e : pre ++ ([(lit.length - 257, 5), (dist.length - 1, 5), (told - 4, 4)] ++ wordsC code told) ++ wordsR code rs = pre ++ headW lit dist code told rs := by unfold headW; simp
    rw [e] at x5
    exact x5
  · rw [if_pos rfl, List.take_left, List.drop_left, if_pos hb2]
    exact ⟨rfl, rfl, rfl, rfl⟩
end Go.Proofs.YtfmjfgmbjdhogaaGreatDoor

namespace Go.Proofs.YtfmjfgmbjdhogaaGreatDoor
open Go.RowKit
set_option linter.unusedVariables false
set_option linter.unusedSimpArgs false

inductive TokW (lit dist : List Int) : Tk → List (Nat × Nat) → Prop
  | one (c : Int) : 0 ≤ c → c < 256 → HasC lit c → TokW lit dist ⟨0, 0, c⟩ [wordZ lit c]
  | long (j u : Nat) : j < 30 → u < 2 ^ de j → HasC lit 285 → HasC dist (j : Int) → TokW lit dist ⟨258, ((db j + u : Nat) : Int), 0⟩ [wordZ lit 285, (0, 0), wordZ dist (j : Int), (u, de j)]
  | copy (i v j u : Nat) : i < 28 → v < 2 ^ le4 i → lb i + v ≤ 257 → j < 30 → u < 2 ^ de j → HasC lit ((257 + i : Nat) : Int) → HasC dist (j : Int) →
      TokW lit dist ⟨((lb i + v : Nat) : Int), ((db j + u : Nat) : Int), 0⟩ [wordZ lit ((257 + i : Nat) : Int), (v, le4 i), wordZ dist (j : Int), (u, de j)]
theorem Puts.sym {bs : List Int} {s : Nat} {pre rest : List (Nat × Nat)} {L : List Int} {z : Int} (h : Puts bs s (pre ++ wordZ L z :: rest)) (hc : CodeOk L) (hz : HasC L z) : SymR bs L (s + wdN pre) z 0 (s + wdN (pre ++ [wordZ L z])) := by
  obtain ⟨k, rfl, hk, h0⟩ := hz
  obtain ⟨T, hT⟩ : ∃ T : Nat, min3 15 (8 * bs.length - (s + wdN pre : Nat)) = T := by
    have := h.room
    obtain ⟨T, h, _⟩ := min3_at (8 * bs.length) (s + wdN pre) (by omega)
    exact ⟨T, by simpa using h⟩
  have hrd := h.read hc.2.1 hc.1 hc.2.2 hk h0 hT
  refine ⟨T, hT, ?_⟩
  have e : s + wdN (pre ++ [wordZ L (k : Int)]) = s + wdN pre + (L.getD k 0).toNat := by
    rw [wdN_append]
    have : wdN [wordZ L (k : Int)] = (L.getD k 0).toNat := by simp [wdN, wordZ]
    omega
  rw [e]; exact hrd
theorem no_lit {c : Int} {n most : Nat} (h : (Tk.mk 0 0 c).no n (most : Int) = 0) : n < most := by
  apply Classical.byContradiction
  intro hn
  unfold Tk.no Tk.ok at h
  rw [if_neg (by simp), if_neg (by simp only; omega), if_pos (by simp only; rw [if_pos (by decide)]; omega)] at h
  exact absurd h (by decide)
theorem no_copy {l d : Nat} {n most : Nat} (h1 : 3 ≤ l) (h : (Tk.mk (l : Int) (d : Int) 0).no n (most : Int) = 0) : d ≤ n ∧ n + l ≤ most := by
  apply Classical.byContradiction
  intro hn
  unfold Tk.no at h
  by_cases c1 : (Tk.mk (l : Int) (d : Int) 0).ok = false
  · rw [if_pos c1] at h; exact absurd h (by decide)
  · rw [if_neg c1] at h
    by_cases c2 : (n : Int) < (d : Int)
    · rw [if_pos c2] at h; exact absurd h (by decide)
    · rw [if_neg c2, if_pos (by simp only; rw [if_neg (by omega)]; omega)] at h
      exact absurd h (by decide)
theorem TokW.step {bs : List Int} {s most : Nat} {lit dist : List Int} {t : Tk} {ws pre post : List (Nat × Nat)} {last : Bool} {out : List Int} (hw : TokW lit dist t ws) (h : Puts bs s (pre ++ ws ++ post)) (hl : CodeOk lit) (hd : CodeOk dist) (hno : t.no out.length (most : Int) = 0) :
    ItemR bs most (s + wdN pre) (.sym lit dist) last out 0 (s + wdN (pre ++ ws)) (.sym lit dist) last (t.put out) := by
  cases hw with
  | one c h0 h1 hc =>
    have hs := (show Puts bs s (pre ++ wordZ lit c :: post) by simpa using h).sym hl hc
    have hm := no_lit hno
    unfold ItemR
    refine ⟨c, 0, _, hs, ?_⟩
    rw [if_neg (by decide), if_pos h1, if_pos hm]
    exact ⟨rfl, rfl, rfl, rfl, by simp [Tk.put]⟩
  | long j u hj hu hc1 hc2 =>
    have h3 := db_top j hj
    obtain ⟨m1, m2⟩ := no_copy (l := 258) (d := db j + u) (by decide) hno
    have hs := (show Puts bs s (pre ++ wordZ lit 285 :: ([(0, 0), wordZ dist (j : Int), (u, de j)] ++ post)) by simpa using h).sym hl hc1
    have hx := (show Puts bs s ((pre ++ [wordZ lit 285]) ++ (0, 0) :: ([wordZ dist (j : Int), (u, de j)] ++ post)) by simpa using h).is
    have hs2 := (show Puts bs s ((pre ++ [wordZ lit 285, (0, 0)]) ++ wordZ dist (j : Int) :: ([(u, de j)] ++ post)) by simpa using h).sym hd hc2
    have hx2 := (show Puts bs s ((pre ++ [wordZ lit 285, (0, 0), wordZ dist (j : Int)]) ++ (u, de j) :: post) by simpa using h).is
    have hr1 := (show Puts bs s ((pre ++ [wordZ lit 285, (0, 0)]) ++ ([wordZ dist (j : Int), (u, de j)] ++ post)) by simpa using h).room
    have hr2 := (show Puts bs s ((pre ++ [wordZ lit 285, (0, 0), wordZ dist (j : Int), (u, de j)]) ++ post) by simpa using h).room
    have e1 : wdN (pre ++ [wordZ lit 285, (0, 0)]) = wdN (pre ++ [wordZ lit 285]) + 0 := by simp [wdN_append, wdN]
    have e2 : wdN (pre ++ [wordZ lit 285, (0, 0), wordZ dist (j : Int), (u, de j)]) = wdN (pre ++ [wordZ lit 285, (0, 0), wordZ dist (j : Int)]) + de j := by simp [wdN_append, wdN]; omega
    have e3 : (pre ++ [wordZ lit 285, (0, 0)]) ++ [wordZ dist (j : Int)] = pre ++ [wordZ lit 285, (0, 0), wordZ dist (j : Int)] := by simp
    rw [e3] at hs2
    rw [e1] at hs2 hr1
    rw [e2] at hr2
    have l1 : lenX 285 = 0 := by decide
    have l2 : lenB 285 = 258 := by decide
    unfold ItemR
    refine ⟨285, 0, _, hs, ?_⟩
    rw [if_neg (by decide), if_neg (by decide), if_neg (by decide), if_neg (by decide), l1, if_neg (by omega)]
    refine ⟨(j : Int), 0, _, hs2, ?_⟩
    rw [if_neg (by decide), if_neg (by omega), Int.toNat_natCast, if_neg (by omega), hx2, hx, l2, if_neg (by omega), if_neg (by omega)]
    refine ⟨rfl, by rw [e2]; omega, rfl, rfl, ?_⟩
    unfold Tk.put
    rw [if_neg (show ¬ (258 : Int) = 0 by decide)]
    rfl
  | copy i v j u hi hv hlv hj hu hc1 hc2 =>
    have h3 := db_top j hj
    have h4 := lb_top i hi
    obtain ⟨m1, m2⟩ := no_copy (l := lb i + v) (d := db j + u) (by omega) hno
    have hs := (show Puts bs s (pre ++ wordZ lit ((257 + i : Nat) : Int) :: ([(v, le4 i), wordZ dist (j : Int), (u, de j)] ++ post)) by simpa using h).sym hl hc1
    have hx := (show Puts bs s ((pre ++ [wordZ lit ((257 + i : Nat) : Int)]) ++ (v, le4 i) :: ([wordZ dist (j : Int), (u, de j)] ++ post)) by simpa using h).is
    have hs2 := (show Puts bs s ((pre ++ [wordZ lit ((257 + i : Nat) : Int), (v, le4 i)]) ++ wordZ dist (j : Int) :: ([(u, de j)] ++ post)) by simpa using h).sym hd hc2
    have hx2 := (show Puts bs s ((pre ++ [wordZ lit ((257 + i : Nat) : Int), (v, le4 i), wordZ dist (j : Int)]) ++ (u, de j) :: post) by simpa using h).is
    have hr1 := (show Puts bs s ((pre ++ [wordZ lit ((257 + i : Nat) : Int), (v, le4 i)]) ++ ([wordZ dist (j : Int), (u, de j)] ++ post)) by simpa using h).room
    have hr2 := (show Puts bs s ((pre ++ [wordZ lit ((257 + i : Nat) : Int), (v, le4 i), wordZ dist (j : Int), (u, de j)]) ++ post) by simpa using h).room
    have e1 : wdN (pre ++ [wordZ lit ((257 + i : Nat) : Int), (v, le4 i)]) = wdN (pre ++ [wordZ lit ((257 + i : Nat) : Int)]) + le4 i := by simp [wdN_append, wdN]; omega
    have e2 : wdN (pre ++ [wordZ lit ((257 + i : Nat) : Int), (v, le4 i), wordZ dist (j : Int), (u, de j)]) = wdN (pre ++ [wordZ lit ((257 + i : Nat) : Int), (v, le4 i), wordZ dist (j : Int)]) + de j := by simp [wdN_append, wdN]; omega
    have e3 : (pre ++ [wordZ lit ((257 + i : Nat) : Int), (v, le4 i)]) ++ [wordZ dist (j : Int)] = pre ++ [wordZ lit ((257 + i : Nat) : Int), (v, le4 i), wordZ dist (j : Int)] := by simp
    rw [e3] at hs2
    rw [e1] at hs2 hr1
    rw [e2] at hr2
    have l0 : ((257 + i : Nat) : Int) ≠ 285 ∨ i = 28 := by omega
    have l1 : lenX ((257 + i : Nat) : Int) = le4 i := by
      unfold lenX
      rw [if_neg (by omega)]
      congr 1; omega
    have l2 : lenB ((257 + i : Nat) : Int) = lb i := by
      unfold lenB
      rw [if_neg (by omega)]
      congr 1; omega
    unfold ItemR
    refine ⟨((257 + i : Nat) : Int), 0, _, hs, ?_⟩
    rw [if_neg (by decide), if_neg (by omega), if_neg (by omega), if_neg (by omega), l1, if_neg (by omega)]
    refine ⟨(j : Int), 0, s + wdN (pre ++ [wordZ lit ((257 + i : Nat) : Int), (v, le4 i), wordZ dist (j : Int)]), by rw [Nat.add_assoc]; exact hs2, ?_⟩
    rw [if_neg (by decide), if_neg (by omega), Int.toNat_natCast, if_neg (by omega), hx2, hx, l2, if_neg (by omega), if_neg (by omega)]
    refine ⟨rfl, by rw [e2]; omega, rfl, rfl, ?_⟩
    unfold Tk.put
    rw [if_neg (by simp only; omega)]
    rfl
inductive TokWs (lit dist : List Int) : List Tk → List (Nat × Nat) → Prop
  | nil : TokWs lit dist [] []
  | cons {t : Tk} {r : List Tk} {ws vs : List (Nat × Nat)} : TokW lit dist t ws → TokWs lit dist r vs → TokWs lit dist (t :: r) (ws ++ vs)
end Go.Proofs.YtfmjfgmbjdhogaaGreatDoor

namespace Go.Proofs.YtfmjfgmbjdhogaaGreatDoor
open Go.RowKit
set_option linter.unusedVariables false
set_option linter.unusedSimpArgs false

end Go.Proofs.YtfmjfgmbjdhogaaGreatDoor

namespace Go.Proofs.YtfmjfgmbjdhogaaGreatDoor
open Go.RowKit
set_option linter.unusedVariables false
set_option linter.unusedSimpArgs false

end Go.Proofs.YtfmjfgmbjdhogaaGreatDoor
