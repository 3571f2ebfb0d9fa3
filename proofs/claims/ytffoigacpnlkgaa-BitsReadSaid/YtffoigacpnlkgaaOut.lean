/-
  The document's own writer of bits: Put and Align, bit by bit.
-/
import Derived.Test.YtffoigacpnlkgaaTwo
namespace Go.Proofs.Ytffoigacpnlkgaa
open Go.RowKit
set_option linter.unusedVariables false

/-- At the head of a round: m bits are put. -/
def OutR (w : World) (R : Nat) (v0 : Value) (bs : List Int) (s v n : Nat) (i : Value) (wr : World) (m : Nat) (ao' : Option Addr) (cap' : Nat) (bs' : List Int) : Prop :=
  m ≤ n ∧ i = .int .i64 m ∧ WtrT 52 wr R ao' cap' bs' (s + m) ∧ num bs' = num bs + v % 2 ^ m * 2 ^ s ∧ Kept (OrB (OneB R) (OwnB v0)) w wr ∧
    (∀ k, (Value.slice ao' bs'.length cap').ownBlock = some k → v0.ownBlock = some k ∨ w.heap.size ≤ k)
/-- There is a byte for the next bit. -/
def OutM (w : World) (R : Nat) (v0 : Value) (N T : Nat) (wx : World) (ao2 : Option Addr) (cap2 : Nat) (bs2 : List Int) : Prop :=
  wx.heap[R]? = some (.cells #[.slice ao2 bs2.length cap2, .int .i64 T] 52 (0, 0)) ∧ wx.ownsRow 0 5 1 (.slice ao2 bs2.length cap2) bs2.length (bs2.map (.int .u8)) ∧
    AllB bs2 ∧ bs2.length = T / 8 + 1 ∧ num bs2 = N ∧ Kept (OrB (OneB R) (OwnB v0)) w wx ∧
    (∀ k, (Value.slice ao2 bs2.length cap2).ownBlock = some k → v0.ownBlock = some k ∨ w.heap.size ≤ k)
def OutMx (w : World) (R : Nat) (v0 : Value) (N T : Nat) (wx : World) : Prop := ∃ ao2 cap2 bs2, OutM w R v0 N T wx ao2 cap2 bs2
def OutP (w : World) (R : Nat) (v0 : Value) (bs : List Int) (s x n : Nat) (e : Ending) (w' : World) : Prop :=
  ∃ ao' cap' bs', e = .returned (.bool true) ∧ WtrT 52 w' R ao' cap' bs' (s + n) ∧ num bs' = num bs + x * 2 ^ s ∧ Kept (OrB (OneB R) (OwnB v0)) w w' ∧
    (∀ k, (Value.slice ao' bs'.length cap').ownBlock = some k → v0.ownBlock = some k ∨ w.heap.size ≤ k)

theorem out_round {w wc : World} {R : Nat} {v0 : Value} {bs bs2 : List Int} {s v n m T q L b g cap2 : Nat} {z : Int} (hM : OutM w R v0 (num bs + v % 2 ^ m * 2 ^ s) T wc (some ⟨g, 0, none⟩) cap2 bs2)
    (hNlt : num bs + v % 2 ^ m * 2 ^ s < 2 ^ T) (hT : T = s + m) (hq : q = T % 8) (hL : L = T / 8) (hm : m < n) (hb : b = v / 2 ^ m % 2)
    (hz : bs2.getD L 0 = z) (hs : s ≤ 900000000000) (hn : n ≤ 32) :
    OutR w R v0 bs s v n (.int .i64 ((m : Int) + 1))
      ((wc.setCell ⟨g, L, none⟩ (.int .u8 (bits .or .u8 z ((b : Int) * 2 ^ q % 256)))).drew.setCell ⟨R, 1, none⟩ (.int .i64 ((T : Int) + 1)))
      (m + 1) (some ⟨g, 0, none⟩) cap2 (bs2.set L (putByte z b q)) := by
  obtain ⟨h1, h2, h3, h4, h5, h6, h7⟩ := hM
  have e8 : bits .or .u8 z ((b : Int) * 2 ^ q % 256) = putByte z b q := by
    unfold putByte; rw [IntKind.wrap_u8', IntKind.wrap_u64, Int.emod_emod_of_dvd _ (by decide)]
  have eT : ((T : Int) + 1) = ((T + 1 : Nat) : Int) := by push_cast; rfl
  have ps := put_step bs2 h3 L q b 1 1 (by omega) (by omega) (by rw [h5, show 8 * L + q = T from by omega]; exact hNlt) (by omega) (.inr ⟨rfl, by omega⟩)
  rw [hz, show 8 * L + q = T from by omega, h5] at ps
  have hlen : (bs2.set L (putByte z b q)).length = bs2.length := List.length_set
  have hne := row_ne h2 h1 (by decide) g rfl
  rw [e8, eT]
  have st := h2.stored L (.int .u8 (putByte z b q))
  have k1 : Kept (OneB g) wc (wc.setCell ⟨g, L, none⟩ (.int .u8 (putByte z b q))) := Kept.setCell (S := OneB g) (p := ⟨g, L, none⟩) (Kept.refl _ _) (.inl rfl) _
  have o1 := k1.obj h1 (fun e => hne e.symm)
  refine ⟨by omega, ?_, ⟨?_, ?_, ps.1, by rw [hlen]; omega, ?_, by omega⟩, ?_, ?_, ?_⟩
  · congr 1
  · rw [hlen]
    have o1d : (wc.setCell ⟨g, L, none⟩ (.int .u8 (putByte z b q))).drew.heap[R]? = some (.cells #[.slice (some ⟨g, 0, none⟩) bs2.length cap2, .int .i64 T] 52 (0, 0)) := o1
    have := obj_set o1d 1 (.int .i64 (T + 1 : Nat))
    rw [show s + (m + 1) = T + 1 from by omega]
    simpa using this
  · rw [hlen]
    have := (Kept.setCell (S := OneB R) (p := ⟨R, 1, none⟩) (Kept.refl _ (wc.setCell ⟨g, L, none⟩ (.int .u8 (putByte z b q))).drew) (.inl rfl) (.int .i64 (T + 1 : Nat))).row ((Kept.drew (Kept.refl NoB _)).row st.1 (fun k hk e => e)) (fun k hk e => by
      simp [Value.ownBlock] at hk; exact hne (hk.trans e))
    rw [List.map_set]
    exact this
  · rw [show s + (m + 1) = T + 1 from by omega]; exact ps.2.2
  · rw [ps.2.1, ← put_parts v m 1, hb, hT, Nat.add_mul, Nat.pow_add, Nat.mul_assoc, Nat.mul_comm (2 ^ m) (2 ^ s), Nat.pow_one, Nat.mod_mod]; omega
  · refine Kept.setCell (p := ⟨R, 1, none⟩) (Kept.drew (Kept.setCell (p := ⟨g, L, none⟩) h6 ?_ _)) (.inl (.inl rfl)) _
    rcases h7 g rfl with h | h
    · exact .inl (.inr h)
    · exact .inr h
  · intro k hk
    exact h7 k (by simpa [Value.ownBlock] using hk)

set_option maxHeartbeats 4000000 in
theorem outPut_any (w : World) (R : Nat) (ao : Option Addr) (cap : Nat) (bs : List Int) (s v n : Nat) (h : WtrT 52 w R ao cap bs s) (hv : v < 4294967296) (hn : n ≤ 32) (hs : s ≤ 900000000000) :
    Calls Try.prog 32 #[.pointer (some ⟨R, 0, none⟩), .int .u32 v, .int .i64 n] w (OutP w R (.slice ao bs.length cap) bs s (v % 2 ^ n) n) := by
  obtain ⟨i0, hi, hz0, hz1, hz2⟩ := info_parts info5
  have H := Lib.hid h; clear h
  go_enter Try.func32, Try.ntmps32
  go_wp2
  go_loopw [7] (fun i wr => ∃ m ao' cap' bs', OutR w R (.slice ao bs.length cap) bs s v n i wr m ao' cap' bs') (fun i _ => n - (intOf i).toNat)
  case atStart =>
    exact ⟨0, ao, cap, bs, by omega, by simp, by simpa using H.out, by simp [Nat.mod_one], Kept.refl _ _, fun k hk => .inl hk⟩
  case round =>
    obtain ⟨m, ao', cap', bs', hm, rfl, hW, hN, hK, hO⟩ := hrel
    obtain ⟨T, hT⟩ : ∃ T, T = s + m := ⟨_, rfl⟩
    have hTm : T ≤ 900000000032 := by omega
    rw [← hT] at hW
    obtain ⟨q, hq⟩ : ∃ q, q = T % 8 := ⟨_, rfl⟩
    have hq8 : q < 8 := by omega
    have hmod : (T : Int) % 8 = q := by omega
    have HQ := Lib.hid hq; clear hq
    have HT := Lib.hid hT; clear hT
    have HN := Lib.hid hN; clear hN
    have HW := Lib.hid hW
    have c0 : wr.cell? ⟨R, 0, none⟩ = some (.slice ao' bs'.length cap') := by simpa using obj_cell hW.1 0
    have c1 : wr.cell? ⟨R, 1, none⟩ = some (.int .i64 T) := by simpa using obj_cell hW.1 1
    have f0 : wr.frozen? ⟨R, 0, none⟩ = false := obj_free hW.1 0
    clear hW
    by_cases hlt : m < n
    · go_upto_if 24 with fail
      go_cut [7] from 19 to 33 (fun s wx => s = .int .i64 m ∧ OutMx w R (.slice ao bs.length cap) (num bs') T wx)
      case first =>
        by_cases hq0 : q = 0
        · have ht : ((T : Int) % 8 == 0) = true := by simp; omega
          have hown := HW.out.2.1
          have hlen := HW.out.2.2.2.1
          have hlb : bs'.length ≤ 112500000004 := by omega
          have HLen := Lib.hid hlen; clear hlen
          go_wp2_with (at_builtin; refine wpList_app _ rfl _ _ 22 rfl 5 i0 (.int .u8 0) 1 1 Try.underlying22 hi hz0 hz1 hz2 rfl (by decide) _ _ _ rfl (hown.alloc _) ⟨wr.heap.size, 0, none⟩ 1 1 [.int .u8 0] rfl rfl ?c1 ?c2 ?c3 ?c4 ?_)
          case c1 => exact cell_one_new _ _ _
          case c2 => intro u hu; simp at hu; subst hu; rfl
          case c3 => unfold maxLen; omega
          case c4 => omega
          intro v' w1 hown' hgrow hnew
          obtain ⟨ao2, cap2, rfl⟩ := own_shape hown'
          have hob := HW.out.1
          have hne := row_ne hown hob (by decide)
          have hob1 : w1.heap[R]? = some (.cells #[.slice ao' bs'.length cap', .int .i64 T] 52 (0, 0)) := by
            rw [hgrow.block R (by have := obj_lt hob; simp; omega) (fun e => hne R e.symm rfl), heap_alloc_old _ _ (obj_lt hob)]
            exact hob
          have d0 : w1.cell? ⟨R, 0, none⟩ = some (.slice ao' bs'.length cap') := by simpa using obj_cell hob1 0
          have g0 : w1.frozen? ⟨R, 0, none⟩ = false := obj_free hob1 0
          have F : OutMx w R (.slice ao bs.length cap) (num bs') T (w1.setCell ⟨R, 0, none⟩ (.slice ao2 (bs'.length + 1) cap2)) := by
            refine ⟨ao2, cap2, bs' ++ [0], ?_, ?_, HW.out.2.2.1.snoc 0 (by decide), ?_, num_zero_last _, ?_, ?_⟩
            · simpa using obj_set hob1 0 (.slice ao2 (bs'.length + 1) cap2)
            · have := (Kept.setCell (S := OneB R) (p := ⟨R, 0, none⟩) (Kept.refl _ w1) (.inl rfl) (.slice ao2 (bs'.length + 1) cap2)).row hown' (fun k hk e => row_ne hown' hob1 (by decide) k hk e)
              simpa using this
            · have := HLen.out; have := HQ.out; simp; omega
            · refine Kept.setCell (p := ⟨R, 0, none⟩) ?_ (.inl (.inl rfl)) _
              refine (hK.alloc _).grown hgrow ?_
              intro k hk e
              rcases hO k e with h1 | h1
              · exact .inr h1
              · omega
            · intro k hk
              have hk2 : (Value.slice ao2 (bs'.length + 1) cap2).ownBlock = some k := by
                cases ao2 with
                | none => simp [Value.ownBlock] at hk
                | some a => simpa [Value.ownBlock] using hk
              rcases hnew k hk2 with h1 | h1
              · exact hO k h1
              · have := hK.size; exact .inr (by omega)
          have HF := Lib.hid F; clear F
          clear hown' hgrow hnew hob1 hob hne
          go_wp2
          go_meet
          exact ⟨rfl, HF.out⟩
        · have ht : ((T : Int) % 8 == 0) = false := by simp; omega
          go_wp2
          go_meet
          obtain ⟨h1, h2, h3, h4, h5, h6⟩ := HW.out
          exact ⟨rfl, ao', cap', bs', h1, h2, h3, by have := HQ.out; omega, rfl, hK, hO⟩
      case rest =>
        obtain ⟨rfl, ao2, cap2, bs2, hM⟩ := hcut
        obtain ⟨h1, h2, h3, h4, h5, h6, h7⟩ := hM
        obtain ⟨g, rfl⟩ : ∃ g, ao2 = some ⟨g, 0, none⟩ := by
          rcases h2.2 with ⟨_, hz⟩ | ⟨g, c, cur, hv, _⟩
          · omega
          · simp at hv; exact ⟨g, hv.1⟩
        obtain ⟨L, hL⟩ : ∃ L, L = T / 8 := ⟨_, rfl⟩
        have hdiv : (T : Int) / 8 = L := by omega
        have hne := row_ne h2 h1 (by decide) g rfl
        have hcellz : wc.cell? ⟨g, L, none⟩ = some (.int .u8 (bs2.getD L 0)) := by
          rw [h2.cellAt L (by omega)]; simp [List.getD, show L < bs2.length from by omega]
        have hfz : wc.frozen? ⟨g, L, none⟩ = false := h2.frozenAt L
        have hzb := AllB.getD h3 L
        have d0 : wc.cell? ⟨R, 0, none⟩ = some (.slice (some ⟨g, 0, none⟩) bs2.length cap2) := by simpa using obj_cell h1 0
        have d1 : wc.cell? ⟨R, 1, none⟩ = some (.int .i64 T) := by simpa using obj_cell h1 1
        have g1 : wc.frozen? ⟨R, 1, none⟩ = false := obj_free h1 1
        have hlen : bs2.length = L + 1 := by omega
        have HM : Hid (OutM w R (.slice ao bs.length cap) (num bs') T wc (some ⟨g, 0, none⟩) cap2 bs2) := ⟨h1, h2, h3, h4, h5, h6, h7⟩
        rw [hlen] at d0
        have HLL2 := Lib.hid hL; clear hL
        have HLen := Lib.hid hlen; clear hlen
        generalize hz : bs2.getD L 0 = z at hcellz hzb
        have HZ := Lib.hid hz; clear hz
        have hLb : L ≤ 112500000004 := by have := HLL2.out; omega
        clear h1 h2 h3 h4 h5 h6 h7
        obtain ⟨b, hb⟩ : ∃ b, b = v / 2 ^ m % 2 := ⟨_, rfl⟩
        have hb2 : b < 2 := by omega
        have hv2 : v / 2 ^ m < 4294967296 := Nat.lt_of_le_of_lt (Nat.div_le_self _ _) hv
        have hbit : bits .and .u32 ((v : Int) / 2 ^ m) 1 = b := by
          have := and1_u32 (v / 2 ^ m) hv2
          rw [← hb] at this
          rw [← this]; push_cast; rfl
        have HB := Lib.hid hb; clear hb hv2
        go_wp2
        go_region
        all_goals go_wp2
        go_roundw
        case rel =>
          have hWn := HW.out.2.2.2.2.1
          rw [HN.out] at hWn
          have hM2 := HM.out
          rw [HN.out] at hM2
          exact ⟨m + 1, _, _, _, out_round hM2 hWn HT.out HQ.out HLL2.out hlt HB.out HZ.out hs hn⟩
        case measure => simp [intOf]; omega
    · have hl0 : m = n := by omega
      go_wp2
      go_ret
      refine ⟨ao', cap', bs', rfl, ?_, ?_, hK, hO⟩
      · have := HW.out
        rw [HT.out, hl0] at this
        exact this
      · rw [HN.out, hl0]
theorem outPut_no (w : World) (R : Nat) (v : Nat) (n : Int) (hn : n < 0 ∨ 32 < n) :
    Calls Try.prog 32 #[.pointer (some ⟨R, 0, none⟩), .int .u32 v, .int .i64 n] w fun e w' => e = .returned (.bool false) ∧ w = w' := by
  go_enter Try.func32, Try.ntmps32
  rcases hn with h | h
  · go_wp2
    go_ret
    exact ⟨rfl, rfl⟩
  · have h0 : ¬ n < 0 := by omega
    go_wp2
    go_ret
    exact ⟨rfl, rfl⟩

theorem shl1_or (o b : Nat) (ho : o < 2147483648) (hb : b < 2) : bits .or .u32 ((o : Int) * 2 % 4294967296) (b : Int) = ((2 * o + b : Nat) : Int) := by
  have e : ((o : Int) * 2 % 4294967296) = ((o * 2 : Nat) : Int) := by omega
  rw [e, u32_or_nat _ _ (by omega) (by omega), Nat.or_comm, show o * 2 = o * 2 ^ 1 from by omega, or_shift b o 1 (by omega)]
  congr 1; omega

set_option maxHeartbeats 2000000 in
theorem refRev_any (v n : Nat) (w : World) (hv : v < 4294967296) (hn : n ≤ 32) :
    Calls Try.prog 34 #[.int .u32 v, .int .i64 n] w fun e w' => e = .returned (.int .u32 (revN n v : Nat)) ∧ w = w' := by
  go_enter Try.func34, Try.ntmps34
  go_wp2
  go_loop [5, 6] (fun o i => ∃ k : Nat, k ≤ n ∧ i = .int .i64 k ∧ o = .int .u32 (revN k v : Nat)) (fun _ i => n - (intOf i).toNat)
  case atStart => exact ⟨0, by omega, rfl, rfl⟩
  case round =>
    obtain ⟨k, hk, rfl, rfl⟩ := hrel
    by_cases hlt : k < n
    · have ho : revN k v < 2147483648 := Nat.lt_of_lt_of_le (revN_lt k v) (show 2 ^ k ≤ 2 ^ 31 from pow_le_pow2 (by omega))
      have HS : Hid (revN (k + 1) v = 2 * revN k v + v / 2 ^ k % 2) := rfl
      generalize revN k v = o at ho HS ⊢
      obtain ⟨b, hb⟩ : ∃ b, b = v / 2 ^ k % 2 := ⟨_, rfl⟩
      have hb2 : b < 2 := by omega
      have hv2 : v / 2 ^ k < 4294967296 := Nat.lt_of_le_of_lt (Nat.div_le_self _ _) hv
      have hbit : bits .and .u32 ((v : Int) / 2 ^ k) 1 = b := by
        have := and1_u32 (v / 2 ^ k) hv2
        rw [← hb] at this
        rw [← this]; push_cast; rfl
      have hor := shl1_or o b ho hb2
      have HB := Lib.hid hb; clear hb hv2 ho
      generalize hx : 2 * o + b = x at hor
      have HX := Lib.hid hx; clear hx
      go_wp2
      go_round
      case rel => exact ⟨k + 1, by omega, by go_num, by rw [HS.out, ← HB.out, HX.out]⟩
      case measure => simp [intOf]; omega
    · have hkn : k = n := by omega
      subst hkn
      go_wp2
      go_ret
      exact ⟨rfl, rfl⟩
theorem refRev_no (v : Nat) (n : Int) (w : World) (hn : n < 0 ∨ 32 < n) :
    Calls Try.prog 34 #[.int .u32 v, .int .i64 n] w fun e w' => e = .returned (.int .u32 0) ∧ w = w' := by
  go_enter Try.func34, Try.ntmps34
  rcases hn with h | h
  · go_wp2
    go_ret
    exact ⟨rfl, rfl⟩
  · have h0 : ¬ n < 0 := by omega
    go_wp2
    go_ret
    exact ⟨rfl, rfl⟩

theorem Kept.transOld {S T : Nat → Prop} {a b c : World} (h : Kept S a b) (k : Kept T b c) (hs : ∀ i, i < a.heap.size → T i → S i) : Kept S a c :=
  ⟨k.os.trans h.os, k.tape.trans h.tape, k.output.trans h.output, Nat.le_trans h.size k.size, fun i hi hn => (k.block i (Nat.lt_of_lt_of_le hi h.size) (fun t => hn (hs i hi t))).trans (h.block i hi hn)⟩

/-- Aligned: noughts are put up to the next whole byte. -/
def OutA (w : World) (R : Nat) (v0 : Value) (bs : List Int) (s : Nat) (wr : World) (t : Nat) (ao' : Option Addr) (cap' : Nat) (bs' : List Int) : Prop :=
  s ≤ t ∧ t ≤ up8 s ∧ WtrT 52 wr R ao' cap' bs' t ∧ num bs' = num bs ∧ Kept (OrB (OneB R) (OwnB v0)) w wr ∧
    (∀ k, (Value.slice ao' bs'.length cap').ownBlock = some k → v0.ownBlock = some k ∨ w.heap.size ≤ k)
def cellInt (wr : World) (R : Nat) : Int := intOf ((wr.cell? ⟨R, 1, none⟩).getD undef)
set_option maxHeartbeats 2000000 in
theorem outAlign_any (w : World) (R : Nat) (ao : Option Addr) (cap : Nat) (bs : List Int) (s : Nat) (h : WtrT 52 w R ao cap bs s) (hs : s ≤ 800000000000) :
    Calls Try.prog 36 #[.pointer (some ⟨R, 0, none⟩)] w fun e w' => e = .returned (.tuple #[]) ∧ ∃ ao' cap' bs', Hid (OutA w R (.slice ao bs.length cap) bs s w' (up8 s) ao' cap' bs') := by
  have H := Lib.hid h; clear h
  go_enter Try.func36, Try.ntmps36
  go_wp2
  go_loopw [] (fun wr => ∃ t ao' cap' bs', OutA w R (.slice ao bs.length cap) bs s wr t ao' cap' bs') (fun wr => up8 s - (cellInt wr R).toNat)
  case atStart => exact ⟨s, ao, cap, bs, by omega, by unfold up8; omega, H.out, rfl, Kept.refl _ _, fun k hk => .inl hk⟩
  case round =>
    obtain ⟨t, ao', cap', bs', hA⟩ := hrel
    have hb1 := hA.1
    have hb2 := hA.2.1
    have hu : up8 s ≤ 800000000007 := by unfold up8; omega
    have c1 : wr.cell? ⟨R, 1, none⟩ = some (.int .i64 t) := by simpa using obj_cell hA.2.2.1.1 1
    have HC : Hid (cellInt wr R = t) := by unfold cellInt; rw [c1]; rfl
    have HA := Lib.hid hA; clear hA
    by_cases hz : t % 8 = 0
    · have ht : (t : Int) % 8 = 0 := by omega
      have htu : t = up8 s := by unfold up8 at hb2 ⊢; omega
      have HTU := Lib.hid htu; clear htu hz
      go_wp2
      go_end0
      have := HA.out
      rw [HTU.out] at this
      exact ⟨rfl, ao', cap', bs', this⟩
    · have ht : ((t : Int) % 8 == 0) = false := by simp; omega
      have ht2 : ((t : Int) % 8 != 0) = true := by simp; omega
      have HZ : Hid (t + 1 ≤ up8 s) := by show t + 1 ≤ up8 s; unfold up8 at hb2 ⊢; omega
      clear hz
      go_wp2_with fail
      refine (outPut_any _ _ _ _ _ _ 0 1 HA.out.2.2.1 (by decide) (by omega) (by omega)).mono ?_
      rintro e w2 ⟨ao2, cap2, bs2, rfl, hW, hN, hK, hO⟩
      have HF : Hid (OutA w R (.slice ao bs.length cap) bs s w2 (t + 1) ao2 cap2 bs2) := by
        obtain ⟨a1, a2, a3, a4, a5, a6⟩ := HA.out
        refine ⟨by omega, HZ.out, hW, by rw [hN, a4]; simp, a5.transOld hK ?_, ?_⟩
        · intro k hk hs
          rcases hs with h1 | h1
          · exact .inl h1
          · rcases a6 k h1 with h2 | h2
            · exact .inr h2
            · omega
        · intro k hk
          rcases hO k hk with h1 | h1
          · exact a6 k h1
          · exact .inr (Nat.le_trans a5.size h1)
      have HC2 : Hid (cellInt w2 R = (t + 1 : Nat)) := by unfold cellInt; rw [show w2.cell? ⟨R, 1, none⟩ = some (.int .i64 (t + 1 : Nat)) from by simpa using obj_cell hW.1 1]; rfl
      clear hW hN hK hO
      go_wp2
      go_roundw
      case rel => exact ⟨t + 1, ao2, cap2, bs2, HF.out⟩
      case measure => rw [HC.out, HC2.out]; have := HZ.out; omega
end Go.Proofs.Ytffoigacpnlkgaa
