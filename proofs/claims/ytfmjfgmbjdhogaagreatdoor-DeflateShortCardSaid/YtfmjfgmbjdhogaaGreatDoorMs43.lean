/-
  match.Tokens, from level 1 on.
  What the document fixes of stage 7.
  A byte over and over, on paper; a row that is filled.
  match.single; match.Tokens at any level.
  Rows of bytes of the call's own that grow (for a seat without strings: out of XBytB); a row that is read.
  Tokens are expanded to what was told by them, on paper.
-/
import Derived.Test.YtfmjfgmbjdhogaaGreatDoorMs42
import Derived.ChangeKeysEq
import Derived.Laws.StructEq
import Derived.Lib.SlBytesConst
namespace Go.Proofs.YtfmjfgmbjdhogaaGreatDoor
open Go.RowKit
set_option linter.unusedVariables false
set_option linter.unusedSimpArgs false
set_option maxRecDepth 20000

/-- A seeker that is no further than a place, in a world. -/
def SeekAt (w1 : World) (lo hi Sk : Nat) (ao : Option Addr) (c W1 gh1 gb1 W2 gh2 gb2 : Nat) (L : List UInt8) (w : World) (i : Nat) : Prop := Kept (InB lo hi) w1 w ∧ ∃ nx, nx ≤ i ∧ ∃ hs1 bs1 hs2 bs2, SeekSt w Sk ao c nx (min nx (L.length - 2)) (min nx (L.length - 7)) W1 gh1 gb1 W2 gh2 gb2 L hs1 bs1 hs2 bs2
theorem SeekAt.le {w1 w : World} {lo hi Sk : Nat} {ao : Option Addr} {c W1 gh1 gb1 W2 gh2 gb2 i j : Nat} {L : List UInt8} (h : SeekAt w1 lo hi Sk ao c W1 gh1 gb1 W2 gh2 gb2 L w i) (hij : i ≤ j) : SeekAt w1 lo hi Sk ao c W1 gh1 gb1 W2 gh2 gb2 L w j := by
  obtain ⟨h1, nx, h2, h3⟩ := h
  exact ⟨h1, nx, by omega, h3⟩
theorem SeekAt.keptS {S : Nat → Prop} {w1 w w' : World} {lo hi Sk : Nat} {ao : Option Addr} {c W1 gh1 gb1 W2 gh2 gb2 i : Nat} {L : List UInt8} (h : SeekAt w1 lo hi Sk ao c W1 gh1 gb1 W2 gh2 gb2 L w i) (hb : SkB lo hi Sk W1 gh1 gb1 W2 gh2 gb2) (hk : Kept S w w') (hs : ∀ k, InB lo hi k → ¬ S k) (hS : ∀ k, k < w1.heap.size → S k → InB lo hi k) : SeekAt w1 lo hi Sk ao c W1 gh1 gb1 W2 gh2 gb2 L w' i := by
  obtain ⟨h1, nx, h2, hs1, bs1, hs2, bs2, h3⟩ := h
  refine ⟨((h1.mono (T := fun k => InB lo hi k ∨ S k) (fun k _ e => .inl e)).trans (hk.mono (fun k _ e => .inr e))).mono (fun k hk2 e => ?_), nx, h2, hs1, bs1, hs2, bs2, h3.keptS hb hk hs⟩
  rcases e with e | e
  · exact e
  · exact hS k hk2 e
set_option maxRecDepth 100000 in
set_option maxHeartbeats 8000000 in
theorem tokens_any (ao : Option Addr) (n c : Nat) (lv : Int) (L : List UInt8) (w : World) (hr : RowB w w.heap.size ao L) (hn : n = L.length) (hn3 : n ≤ 32768) (hc : n ≤ c) (hcm : c ≤ 9223372036854775807) (hT : DeB w) (hlv : 1 ≤ lv ∧ lv ≤ 9223372036854775807) :
    Calls Tryz.prog 51 #[.slice ao n c, .int .i64 lv] w fun e w' => ∃ a2 c2, e = .returned (.slice a2 (restT lv L 0).length c2) ∧ TkSt w.heap.size w' a2 (restT lv L 0).length c2 (restT lv L 0) ∧ Kept NoB w w' := by
  have HNew : Hid (∀ W, Calls Tryz.prog 86 #[.slice ao n c] W fun e w' => ∃ Sk W1 gh1 gb1 W2 gh2 gb2 hs1 bs1 hs2 bs2, e = .returned (.pointer (some ⟨Sk, 0, none⟩)) ∧ SkB W.heap.size w'.heap.size Sk W1 gh1 gb1 W2 gh2 gb2 ∧ SeekSt w' Sk ao c 0 0 0 W1 gh1 gb1 W2 gh2 gb2 L hs1 bs1 hs2 bs2 ∧ Kept NoB W w') := Lib.hid (fun W => by have := newseek_any ao c L W (by omega); rw [← hn] at this; exact this)
  have HR := Lib.hid hr; have HN := Lib.hid hn; have HT := Lib.hid hT
  have h0w : 1 < w.heap.size := World.block_lt_of_cell? w _ (hT 0 (by omega))
  obtain ⟨lo, hlo⟩ : ∃ lo, lo = w.heap.size := ⟨_, rfl⟩
  rw [← hlo] at h0w
  have HLo := Lib.hid hlo
  have HLen := Lib.hid (rest_len lv L L.length 0 (by omega) (by omega))
  obtain ⟨TS, hTS⟩ : ∃ TS, TS = restT lv L 0 := ⟨_, rfl⟩
  rw [← hTS] at HLen ⊢
  have HTS := Lib.hid hTS
  have hl1 : ¬ lv < 1 := by omega
  clear hr hn hT hTS hlo
  go_enter Tryz.func51, Tryz.ntmps51
  go_wp2_with fail
  with_reducible refine (HNew.out _).mono ?_
  rintro e w1 ⟨Sk, W1, gh1, gb1, W2, gh2, gb2, hs1, bs1, hs2, bs2, rfl, hskb, hsk, hk1⟩
  rw [← HLo.out] at hskb
  obtain ⟨hi, hhi⟩ : ∃ hi, hi = w1.heap.size := ⟨_, rfl⟩
  rw [← hhi] at hskb
  have HSkb := Lib.hid hskb
  have HK1 := Lib.hid hk1
  have HHi := Lib.hid hhi
  have hlh : lo ≤ hi := by have := hskb.b0; omega
  have HS0 : Hid (SeekAt w1 lo hi Sk ao c W1 gh1 gb1 W2 gh2 gb2 L w1 0) := Lib.hid ⟨Kept.refl _ _, 0, Nat.le_refl _, hs1, bs1, hs2, bs2, by rw [Nat.zero_min, Nat.zero_min]; exact hsk⟩
  have HT0 : Hid (TkSt hi w1 none 0 0 []) := Lib.hid (TkSt.start hi w1)
  have HD0 : Hid ([] ++ restT lv L 0 = TS) := Lib.hid (by rw [HTS.out]; rfl)
  clear hskb hsk hk1 hhi HNew
  go_wp2
  go_loopw [5, 7, 8, 9, 10, 11, 12] (fun v5 v7 v8 v9 v10 v11 v12 wr => ∃ (i nn dd : Nat) (kn : Bool) (a2 : Option Addr) (m c2 : Nat) (out : List Tk), v5 = .slice a2 m c2 ∧ v7 = .int .i64 (nn : Int) ∧ v8 = .int .i64 (dd : Int) ∧ v9 = .bool kn ∧ v10 = .int .i64 (i : Int) ∧ i ≤ n ∧ m ≤ i ∧ Hid (kn = true → longN L i = (nn, dd)) ∧ Hid (SeekAt w1 lo hi Sk ao c W1 gh1 gb1 W2 gh2 gb2 L wr i) ∧ Hid (TkSt hi wr a2 m c2 out) ∧ Hid (out ++ restT lv L i = TS)) (fun _ _ _ _ v10 _ _ _ => n - (intOf v10).toNat)
  case atStart => exact ⟨0, 0, 0, false, none, 0, 0, [], rfl, rfl, rfl, rfl, rfl, by omega, by omega, Lib.hid (fun h => by cases h), HS0, HT0, HD0⟩
  case round =>
    obtain ⟨i, nn, dd, kn, a2, m, c2, out, rfl, rfl, rfl, rfl, rfl, hi2, hm, HKn, HS, HTk, HD⟩ := hrel
    by_cases hlt : i < n
    · have hli : (i : Int) < (n : Int) := by omega
      obtain ⟨g, o, rfl, hg, hrd⟩ := HR.out (by have := HN.out; omega)
      have hglo : g < lo := by have := HLo.out; omega
      have HRd := Lib.hid hrd
      -- a look from a place on
      have HSeek : Hid (∀ (W : World) (a : Nat), SeekAt w1 lo hi Sk (some ⟨g, o, none⟩) c W1 gh1 gb1 W2 gh2 gb2 L W a → a ≤ n → Calls Tryz.prog 87 #[.pointer (some ⟨Sk, 0, none⟩), .int .i64 (a : Int)] W fun e w' => e = .returned (.tuple #[.int .i64 ((longN L a).1 : Int), .int .i64 ((longN L a).2 : Int)]) ∧ SeekAt w1 lo hi Sk (some ⟨g, o, none⟩) c W1 gh1 gb1 W2 gh2 gb2 L w' a ∧ Kept (InB lo hi) W w') := Lib.hid (fun W a hS ha => by
        obtain ⟨hkW, nx, hnx, x1, y1, x2, y2, hst⟩ := hS
        have hkw : Kept (InB lo hi) w W := HK1.out.dom.trans hkW
        refine (seek_any lo hi Sk g o c nx a W1 gh1 gb1 W2 gh2 gb2 L x1 y1 x2 y2 W HSkb.out (by have := HN.out; omega) (by have := HN.out; omega) hcm hst (hrd.keptS hkw (fun e => by have := e.1; omega)) hglo h0w (by rw [HHi.out]; exact hkW.size) (HT.out.keptS hkw (fun e => by have := e.1; omega)) hnx (by have := HN.out; omega)).mono ?_
        rintro e w' ⟨he, nx2, hnx2, hk2, hst2⟩
        exact ⟨he, ⟨hkW.trans hk2, nx2, hnx2, hst2⟩, hk2⟩)
      have hbd := long_bd L i (by have := HN.out; omega)
      have hrs := rest_step lv L i (by have := HN.out; omega)
      have hby := hrd i (by have := HN.out; omega)
      rw [Nat.zero_add] at hby
      have HBy : Hid (∀ W, Kept (InB lo hi) w1 W → W.cell? ⟨g, o + i, none⟩ = some (.int .u8 ((L.getD i 0).toNat : Int))) := Lib.hid (fun W hk => by
        have hc2 := HK1.out.cell hby
        exact (World.cell?_of_block (hk.block _ (World.block_lt_of_cell? w1 _ hc2) (fun e => by have := e.1; have h9 : lo ≤ g := this; omega))).trans hc2)
      obtain ⟨n1, hn1⟩ : ∃ n1, n1 = (longN L i).1 := ⟨_, rfl⟩
      obtain ⟨d1, hd1⟩ : ∃ d1, d1 = (longN L i).2 := ⟨_, rfl⟩
      have HN1 : Hid (longN L i = (n1, d1)) := Lib.hid (by rw [hn1, hd1])
      have HSk1 := Lib.hid (fun W (hS : SeekAt w1 lo hi Sk (some ⟨g, o, none⟩) c W1 gh1 gb1 W2 gh2 gb2 L W i) => by have := HSeek.out W i hS hi2; rw [HN1.out] at this; exact this)
      rw [← hn1, ← hd1] at hbd
      have HRs := Lib.hid hrs
      obtain ⟨x, hx⟩ : ∃ x : Int, x = ((L.getD i 0).toNat : Int) := ⟨_, rfl⟩
      rw [← hx] at HBy
      have HX : Hid (litT L i = ⟨0, 0, x⟩) := Lib.hid (by rw [litT, hx])
      clear hrd hrs hby hn1 hd1 hx hg
      go_upto_if 24 with fail
      go_cut [7, 8] from 24 to 30 (fun v7 v8 wx => v7 = .int .i64 (n1 : Int) ∧ v8 = .int .i64 (d1 : Int) ∧ Hid (SeekAt w1 lo hi Sk (some ⟨g, o, none⟩) c W1 gh1 gb1 W2 gh2 gb2 L wx i) ∧ Hid (TkSt hi wx a2 m c2 out))
      case first =>
        cases kn with
        | true =>
          have hkk := HKn.out (by trivial)
          rw [HN1.out] at hkk
          simp only [Prod.mk.injEq] at hkk
          obtain ⟨rfl, rfl⟩ := hkk
          go_wp2
          go_meet
          exact ⟨rfl, rfl, HS, HTk⟩
        | false =>
          have HC := Lib.hid (HSk1.out _ HS.out)
          go_wp2_with fail
          with_reducible refine HC.out.mono ?_
          rintro e w3 ⟨rfl, hs3, hk3⟩
          have HS3 := Lib.hid hs3
          have HT3 := Lib.hid (HTk.out.keptS hk3 (fun k hk e => by have := e.2; omega))
          clear hs3 hk3
          go_wp2
          go_meet
          exact ⟨rfl, rfl, HS3, HT3⟩
      case rest =>
      obtain ⟨rfl, rfl, HS3, HT3⟩ := hcut
      obtain ⟨w3, hw3⟩ : ∃ w3, w3 = wc := ⟨_, rfl⟩
      rw [← hw3] at HS3 HT3 ⊢
      clear hw3 HKn HS HTk
      by_cases hA : 0 < n1 ∧ 7 ≤ lv
      · obtain ⟨hA1, hA2⟩ := hA
        have hA1i : (0 : Int) < (n1 : Int) := by omega
        have hA1d : decide (7 ≤ lv) = true := decide_eq_true hA2
        have hc0 := HSeek.out w3 (i + 1) (HS3.out.le (by omega)) (by omega)
        rw [show ((i + 1 : Nat) : Int) = (i : Int) + 1 by omega] at hc0
        have HC := Lib.hid hc0
        clear hc0
        obtain ⟨n2, hn2⟩ : ∃ n2, n2 = (longN L (i + 1)).1 := ⟨_, rfl⟩
        obtain ⟨d2, hd2⟩ : ∃ d2, d2 = (longN L (i + 1)).2 := ⟨_, rfl⟩
        have hbd2 := long_bd L (i + 1) (by have := HN.out; omega)
        rw [← hn2, ← hd2] at hbd2 HC
        have HL2 : Hid (longN L (i + 1) = (n2, d2)) := Lib.hid (by rw [hn2, hd2])
        have HLz : Hid (lazyN lv L i = if n1 < n2 then (0, 0) else (n1, d1)) := Lib.hid (by
          unfold lazyN
          rw [if_neg (show ¬ lv < 1 by omega), HN1.out, HL2.out]
          by_cases h : n1 < n2
          · rw [if_pos ⟨hA2, hA1, h⟩, if_pos h]
          · rw [if_neg (fun h2 => h h2.2.2), if_neg h])
        have hi1 : (i : Int) + 1 = ((i + 1 : Nat) : Int) := by omega
        have HI1 := Lib.hid hi1
        clear hn2 hd2 hi1
        go_wp2_with fail
        with_reducible refine HC.out.mono ?_
        rintro e w4 ⟨rfl, hs4, hk4⟩
        have HS4 := Lib.hid hs4
        have HT4 := Lib.hid (HT3.out.keptS hk4 (fun k hk e => by have := e.2; omega))
        clear hs4 hk4 hA2
        by_cases hlz : n1 < n2
        · have hlzi : (n1 : Int) < (n2 : Int) := by omega
          have hby := HBy.out w4 HS4.out.1
          have HD9 : Hid ((out ++ [Tk.mk 0 0 x]) ++ restT lv L (i + 1) = TS) := Lib.hid (by
            have h := HD.out
            have hz : lazyN lv L i = (0, 0) := by rw [HLz.out, if_pos hlz]
            rw [HRs.out, step_lit (by rw [hz]), HX.out] at h
            rw [← h]; simp)
          have HK9 : Hid (true = true → longN L (i + 1) = (n2, d2)) := Lib.hid (fun _ => HL2.out)
          clear hlz
          obtain ⟨q, hq⟩ : ∃ q, q = w4.heap.size := ⟨_, rfl⟩
          obtain ⟨wA, hwA⟩ : ∃ wA, wA = w4.alloc (.cells #[.int .i64 0, .int .i64 0, .int .u8 x] 101) := ⟨_, rfl⟩
          have hkA : Kept NoB w4 wA := by rw [hwA]; exact (Kept.refl NoB _).alloc _
          have hA0 : wA.cell? ⟨q, 0, none⟩ = some (.int .i64 (Tk.mk 0 0 x).l) := by rw [hwA]; exact cell_new 0 hq
          have hA1 : wA.cell? ⟨q, 1, none⟩ = some (.int .i64 (Tk.mk 0 0 x).d) := by rw [hwA]; exact cell_new 1 hq
          have hA2 : wA.cell? ⟨q, 2, none⟩ = some (.int .u8 (Tk.mk 0 0 x).c) := by rw [hwA]; exact cell_new 2 hq
          have HA := Lib.hid (⟨hA0, hA1, hA2⟩ : _ ∧ _ ∧ _)
          have HTA := Lib.hid (HT4.out.keptS hkA (fun _ _ h => h))
          have HSA := Lib.hid (HS4.out.keptS HSkb.out hkA (fun _ _ h => h) (fun _ _ h => absurd h (fun h => h)))
          have hsA : hi ≤ wA.heap.size := by have h1 := HSA.out.1.size; have h2 := HHi.out; omega
          clear hkA hA0 hA1 hA2
          go_wp2_with (at_builtin; rw [← hq, ← hwA]; clear hwA hq; refine wpList_tk rfl (.tmp 47) (.tmp 53) rfl HTA.out hsA rfl q 1 (Tk.mk 0 0 x) rfl HA.out.1 HA.out.2.1 HA.out.2.2 (by omega) ?_)
          intro a9 c9 w9 h9 hk9
          have HT9 := Lib.hid h9
          have HS9 := Lib.hid (HSA.out.keptS HSkb.out hk9 (fun k hk e => by have := hk.2; omega) (fun k hk e => by have := HHi.out; omega))
          clear h9 hk9
          go_wp2
          go_roundw
          case rel => exact ⟨i + 1, n2, d2, true, a9, m + 1, c9, _, rfl, rfl, rfl, rfl, by go_num, by omega, by omega, Lib.hid (fun _ => HK9.out (by trivial)), Lib.hid (HS9.out.le (by omega)), HT9, HD9⟩
          case measure => simp [intOf] <;> omega
        · have hlzi : ¬ (n1 : Int) < (n2 : Int) := by omega
          have hn0 : ((n1 : Int) == 0) = false := by simp; omega
          have HD9 : Hid ((out ++ [Tk.mk n1 d1 0]) ++ restT lv L (i + n1) = TS) := Lib.hid (by
            have h := HD.out
            have hz : lazyN lv L i = (n1, d1) := by rw [HLz.out, if_neg hlz]
            rw [HRs.out, step_tok (by rw [hz]; simp only; omega), hz] at h
            rw [← h]; simp)
          clear hlz
          obtain ⟨q, hq⟩ : ∃ q, q = w4.heap.size := ⟨_, rfl⟩
          obtain ⟨wA, hwA⟩ : ∃ wA, wA = w4.alloc (.cells #[.int .i64 (n1 : Int), .int .i64 (d1 : Int), .int .u8 0] 101) := ⟨_, rfl⟩
          have hkA : Kept NoB w4 wA := by rw [hwA]; exact (Kept.refl NoB _).alloc _
          have hA0 : wA.cell? ⟨q, 0, none⟩ = some (.int .i64 (Tk.mk n1 d1 0).l) := by rw [hwA]; exact cell_new 0 hq
          have hA1 : wA.cell? ⟨q, 1, none⟩ = some (.int .i64 (Tk.mk n1 d1 0).d) := by rw [hwA]; exact cell_new 1 hq
          have hA2 : wA.cell? ⟨q, 2, none⟩ = some (.int .u8 (Tk.mk n1 d1 0).c) := by rw [hwA]; exact cell_new 2 hq
          have HA := Lib.hid (⟨hA0, hA1, hA2⟩ : _ ∧ _ ∧ _)
          have HTA := Lib.hid (HT4.out.keptS hkA (fun _ _ h => h))
          have HSA := Lib.hid (HS4.out.keptS HSkb.out hkA (fun _ _ h => h) (fun _ _ h => absurd h (fun h => h)))
          have hsA : hi ≤ wA.heap.size := by have h1 := HSA.out.1.size; have h2 := HHi.out; omega
          clear hkA hA0 hA1 hA2
          go_wp2_with (at_builtin; rw [← hq, ← hwA]; clear hwA hq; refine wpList_tk rfl (.tmp 71) (.tmp 75) rfl HTA.out hsA rfl q 1 (Tk.mk n1 d1 0) rfl HA.out.1 HA.out.2.1 HA.out.2.2 (by omega) ?_)
          intro a9 c9 w9 h9 hk9
          have HT9 := Lib.hid h9
          have HS9 := Lib.hid (HSA.out.keptS HSkb.out hk9 (fun k hk e => by have := hk.2; omega) (fun k hk e => by have := HHi.out; omega))
          clear h9 hk9
          go_wp2
          go_roundw
          case rel => exact ⟨i + n1, n1, d1, false, a9, m + 1, c9, _, rfl, rfl, rfl, rfl, by go_num, (by have := HN.out; omega), by omega, Lib.hid (fun h => by cases h), Lib.hid (HS9.out.le (by omega)), HT9, HD9⟩
          case measure => simp [intOf] <;> omega
      · have HLz : Hid (lazyN lv L i = (n1, d1)) := Lib.hid (by
          unfold lazyN
          rw [if_neg (show ¬ lv < 1 by omega), HN1.out]
          by_cases h : n1 = 0
          · rw [if_neg (fun h2 => by have := h2.2.1; simp only at this; omega)]
          · rw [if_neg (fun h2 => hA ⟨by omega, h2.1⟩)])
        by_cases h0 : n1 = 0
        · have hA1i : ¬ (0 : Int) < (n1 : Int) := by omega
          have hn0 : ((n1 : Int) == 0) = true := by rw [h0]; rfl
          have hby := HBy.out w3 HS3.out.1
          have HD9 : Hid ((out ++ [Tk.mk 0 0 x]) ++ restT lv L (i + 1) = TS) := Lib.hid (by
            have h := HD.out
            rw [HRs.out, step_lit (by rw [HLz.out]; exact h0), HX.out] at h
            rw [← h]; simp)
          have HK9 : Hid (false = true → longN L (i + 1) = (n1, d1)) := Lib.hid (fun h => by cases h)
          clear h0 hA
          obtain ⟨q, hq⟩ : ∃ q, q = w3.heap.size := ⟨_, rfl⟩
          obtain ⟨wA, hwA⟩ : ∃ wA, wA = w3.alloc (.cells #[.int .i64 0, .int .i64 0, .int .u8 x] 101) := ⟨_, rfl⟩
          have hkA : Kept NoB w3 wA := by rw [hwA]; exact (Kept.refl NoB _).alloc _
          have hA0 : wA.cell? ⟨q, 0, none⟩ = some (.int .i64 (Tk.mk 0 0 x).l) := by rw [hwA]; exact cell_new 0 hq
          have hA1 : wA.cell? ⟨q, 1, none⟩ = some (.int .i64 (Tk.mk 0 0 x).d) := by rw [hwA]; exact cell_new 1 hq
          have hA2 : wA.cell? ⟨q, 2, none⟩ = some (.int .u8 (Tk.mk 0 0 x).c) := by rw [hwA]; exact cell_new 2 hq
          have HA := Lib.hid (⟨hA0, hA1, hA2⟩ : _ ∧ _ ∧ _)
          have HTA := Lib.hid (HT3.out.keptS hkA (fun _ _ h => h))
          have HSA := Lib.hid (HS3.out.keptS HSkb.out hkA (fun _ _ h => h) (fun _ _ h => absurd h (fun h => h)))
          have hsA : hi ≤ wA.heap.size := by have h1 := HSA.out.1.size; have h2 := HHi.out; omega
          clear hkA hA0 hA1 hA2
          go_wp2_with (at_builtin; rw [← hq, ← hwA]; clear hwA hq; refine wpList_tk rfl (.tmp 61) (.tmp 67) rfl HTA.out hsA rfl q 1 (Tk.mk 0 0 x) rfl HA.out.1 HA.out.2.1 HA.out.2.2 (by omega) ?_)
          intro a9 c9 w9 h9 hk9
          have HT9 := Lib.hid h9
          have HS9 := Lib.hid (HSA.out.keptS HSkb.out hk9 (fun k hk e => by have := hk.2; omega) (fun k hk e => by have := HHi.out; omega))
          clear h9 hk9
          go_wp2
          go_roundw
          case rel => exact ⟨i + 1, n1, d1, false, a9, m + 1, c9, _, rfl, rfl, rfl, rfl, by go_num, by omega, by omega, HK9, Lib.hid (HS9.out.le (by omega)), HT9, HD9⟩
          case measure => simp [intOf] <;> omega
        · have hn0 : ((n1 : Int) == 0) = false := by simp; omega
          have hA1i : (0 : Int) < (n1 : Int) := by omega
          have hA2 : ¬ 7 ≤ lv := fun h => hA ⟨by omega, h⟩
          have hA2d : decide (7 ≤ lv) = false := decide_eq_false hA2
          have HD9 : Hid ((out ++ [Tk.mk n1 d1 0]) ++ restT lv L (i + n1) = TS) := Lib.hid (by
            have h := HD.out
            rw [HRs.out, step_tok (by rw [HLz.out]; exact h0), HLz.out] at h
            rw [← h]; simp)
          clear h0 hA
          obtain ⟨q, hq⟩ : ∃ q, q = w3.heap.size := ⟨_, rfl⟩
          obtain ⟨wA, hwA⟩ : ∃ wA, wA = w3.alloc (.cells #[.int .i64 (n1 : Int), .int .i64 (d1 : Int), .int .u8 0] 101) := ⟨_, rfl⟩
          have hkA : Kept NoB w3 wA := by rw [hwA]; exact (Kept.refl NoB _).alloc _
          have hA0 : wA.cell? ⟨q, 0, none⟩ = some (.int .i64 (Tk.mk n1 d1 0).l) := by rw [hwA]; exact cell_new 0 hq
          have hA1 : wA.cell? ⟨q, 1, none⟩ = some (.int .i64 (Tk.mk n1 d1 0).d) := by rw [hwA]; exact cell_new 1 hq
          have hA2 : wA.cell? ⟨q, 2, none⟩ = some (.int .u8 (Tk.mk n1 d1 0).c) := by rw [hwA]; exact cell_new 2 hq
          have HA := Lib.hid (⟨hA0, hA1, hA2⟩ : _ ∧ _ ∧ _)
          have HTA := Lib.hid (HT3.out.keptS hkA (fun _ _ h => h))
          have HSA := Lib.hid (HS3.out.keptS HSkb.out hkA (fun _ _ h => h) (fun _ _ h => absurd h (fun h => h)))
          have hsA : hi ≤ wA.heap.size := by have h1 := HSA.out.1.size; have h2 := HHi.out; omega
          clear hkA hA0 hA1 hA2
          go_wp2_with (at_builtin; rw [← hq, ← hwA]; clear hwA hq; refine wpList_tk rfl (.tmp 71) (.tmp 75) rfl HTA.out hsA rfl q 1 (Tk.mk n1 d1 0) rfl HA.out.1 HA.out.2.1 HA.out.2.2 (by omega) ?_)
          intro a9 c9 w9 h9 hk9
          have HT9 := Lib.hid h9
          have HS9 := Lib.hid (HSA.out.keptS HSkb.out hk9 (fun k hk e => by have := hk.2; omega) (fun k hk e => by have := HHi.out; omega))
          clear h9 hk9
          go_wp2
          go_roundw
          case rel => exact ⟨i + n1, n1, d1, false, a9, m + 1, c9, _, rfl, rfl, rfl, rfl, by go_num, (by have := HN.out; omega), by omega, Lib.hid (fun h => by cases h), Lib.hid (HS9.out.le (by omega)), HT9, HD9⟩
          case measure => simp [intOf] <;> omega
    · have hie : i = n := by omega
      have HF : Hid (out = TS) := Lib.hid (by
        have h := HD.out
        rw [rest_end lv L i (by have := HN.out; omega), List.append_nil] at h
        exact h)
      have hli : ¬ (i : Int) < (n : Int) := by omega
      clear hie
      go_wp2
      go_ret
      have hml := HTk.out.len
      rw [HF.out] at hml
      subst hml
      refine ⟨a2, c2, rfl, ?_, (by
        have h1 : Kept (InB lo hi) w wr := HK1.out.dom.trans HS.out.1
        exact h1.mono (fun k hk e => by have := e.1; have := HLo.out; omega))⟩
      have := HTk.out
      rw [HF.out] at this
      exact ⟨this.len, this.own, fun k hk => by have := this.fresh k hk; have := HLo.out; omega⟩
end Go.Proofs.YtfmjfgmbjdhogaaGreatDoor

namespace Go.Proofs.YtfmjfgmbjdhogaaGreatDoor
open Go.RowKit
set_option linter.unusedVariables false
set_option linter.unusedSimpArgs false
set_option maxRecDepth 20000

end Go.Proofs.YtfmjfgmbjdhogaaGreatDoor

namespace Go.Proofs.YtfmjfgmbjdhogaaGreatDoor
open Go.RowKit
set_option linter.unusedVariables false
set_option linter.unusedSimpArgs false

/-! ## One byte over and over, on paper -/
end Go.Proofs.YtfmjfgmbjdhogaaGreatDoor

namespace Go.Proofs.YtfmjfgmbjdhogaaGreatDoor
open Go.RowKit
set_option linter.unusedVariables false
set_option linter.unusedSimpArgs false

theorem tkC_app (a b : List Tk) : tkC (a ++ b) = tkC a ++ tkC b := by simp [tkC]
theorem tkC_cons (t : Tk) (r : List Tk) : tkC (t :: r) = .int .i64 t.l :: .int .i64 t.d :: .int .u8 t.c :: tkC r := by simp [tkC]
def oneT (b : UInt8) : Tk := ⟨0, 0, (b.toNat : Int)⟩
def fillT (L : List UInt8) (j : Nat) : List Tk := (L.take j).map oneT ++ List.replicate (L.length - j) ⟨0, 0, 0⟩
theorem fillT_len (L : List UInt8) (j : Nat) (h : j ≤ L.length) : (fillT L j).length = L.length := by simp [fillT]; omega
theorem fillT_set (L : List UInt8) (j : Nat) (h : j < L.length) : (tkC (fillT L j)).set (j * 3 + 2) (.int .u8 ((L.getD j 0).toNat : Int)) = tkC (fillT L (j + 1)) := by
  have e : L.getD j 0 = L[j] := by simp [List.getD, h]
  have ht : (L.take (j + 1)).map oneT = (L.take j).map oneT ++ [oneT L[j]] := by rw [List.take_succ_eq_append_getElem h, List.map_append]; rfl
  have hr : List.replicate (L.length - j) (⟨0, 0, 0⟩ : Tk) = ⟨0, 0, 0⟩ :: List.replicate (L.length - (j + 1)) ⟨0, 0, 0⟩ := by
    rw [show L.length - j = (L.length - (j + 1)) + 1 by omega, List.replicate_succ]
  have hl : (tkC ((L.take j).map oneT)).length = j * 3 := by rw [tkC_len, List.length_map, List.length_take]; omega
  rw [fillT, fillT, ht, hr, e, tkC_app, tkC_app, tkC_app, tkC_cons, List.set_append_right _ _ (by omega), hl, show j * 3 + 2 - j * 3 = 2 by omega, List.append_assoc]
  rfl
theorem fillT_full (L : List UInt8) : fillT L L.length = L.map oneT := by simp [fillT]
theorem made_tk (n : Nat) : (madeCells #[.int .i64 0, .int .i64 0, .int .u8 0] (n * 3)).toList = tkC (List.replicate n ⟨0, 0, 0⟩) := by
  apply List.ext_getElem?
  intro j
  by_cases hj : j < n * 3
  · obtain ⟨i, r, rfl, hr⟩ : ∃ i r, j = i * 3 + r ∧ r < 3 := ⟨j / 3, j % 3, by omega, by omega⟩
    have hi : i < n := by omega
    obtain ⟨h0, h1, h2⟩ := tkC_at (List.replicate n ⟨0, 0, 0⟩) i (by simpa using hi)
    simp only [List.getElem_replicate] at h0 h1 h2
    have hm : (i * 3 + r) % 3 = r := by omega
    have hl : (madeCells #[.int .i64 0, .int .i64 0, .int .u8 0] (n * 3)).toList[i * 3 + r]? = some ((#[Value.int .i64 0, .int .i64 0, .int .u8 0] : Array Value)[r]!) := by
      simp [madeCells, hj, hm]
    rw [hl]
    rcases (show r = 0 ∨ r = 1 ∨ r = 2 by omega) with rfl | rfl | rfl
    · rw [Nat.add_zero, h0]; rfl
    · rw [h1]; rfl
    · rw [h2]; rfl
  · rw [List.getElem?_eq_none (by simp [madeCells]; omega), List.getElem?_eq_none (by rw [tkC_len, List.length_replicate]; omega)]
/-- Below level one, bytes go alone. -/
theorem rest_low (lv : Int) (L : List UInt8) (h : lv < 1) : ∀ k i, L.length - i ≤ k → restT lv L i = (L.drop i).map oneT := by
  intro k
  induction k with
  | zero => intro i hk; rw [rest_end lv L i (by omega), List.drop_eq_nil_of_le (by omega)]; rfl
  | succ k ih =>
    intro i hk
    by_cases hi : i < L.length
    · have e : (lazyN lv L i).1 = 0 := by rw [lazyN, if_pos h]
      rw [rest_step lv L i hi, step_lit e, List.drop_eq_getElem_cons hi, List.map_cons]
      show litT L i :: restT lv L (i + 1) = _
      rw [ih (i + 1) (by omega)]
      have e2 : L.getD i 0 = L[i] := by simp [List.getD, hi]
      rw [litT, e2]
      rfl
    · rw [rest_end lv L i (by omega), List.drop_eq_nil_of_le (by omega)]; rfl
set_option maxRecDepth 20000 in
set_option maxHeartbeats 4000000 in
theorem single_any (ao : Option Addr) (n c : Nat) (L : List UInt8) (w : World) (hr : RowB w w.heap.size ao L) (hn : n = L.length) (hn3 : n ≤ 32768) :
    Calls Tryz.prog 85 #[.slice ao n c] w fun e w' => ∃ a2 c2, e = .returned (.slice a2 n c2) ∧ TkSt w.heap.size w' a2 n c2 (L.map oneT) ∧ Kept NoB w w' := by
  obtain ⟨i0, hi, hz0, hz1, hz2⟩ := info_parts infoTk
  have HR := Lib.hid hr; have HN := Lib.hid hn
  clear hr hn
  go_enter Tryz.func85, Tryz.ntmps85
  go_wp2_with (at_make; refine wpList_make_full _ rfl _ _ _ rfl 0 101 i0 (.agg #[.int .i64 0, .int .i64 0, .int .u8 0]) 3 Tryz.underlying98 hi hz0 hz1 .i64 .i64 _ _ n rfl rfl rfl rfl (by rw [hz2]; omega) (by unfold maxLen; omega) (Nat.zero_le _) ?_)
  intro w2 hown hgrow
  obtain ⟨G, hG⟩ : ∃ G, G = w.heap.size := ⟨_, rfl⟩
  rw [← hG] at hown ⊢
  have hown0 : w2.ownsRow 0 101 3 (.slice (some ⟨G, 0, none⟩) n n) n (tkC (fillT L 0)) := by
    rw [fillT, List.take_zero, List.map_nil, List.nil_append, Nat.sub_zero, ← HN.out, ← made_tk]
    exact hown
  have HO0 := Lib.hid hown0; have HK0 := Lib.hid ((Kept.refl NoB w).grown hgrow (fun _ _ e => by cases e)); have HG := Lib.hid hG
  clear hown hgrow hown0 hG
  go_wp2
  go_loopw [11, 4, 5] (fun v11 v4 v5 wr => ∃ j : Nat, v11 = .int .i64 (j : Int) ∧ j ≤ n ∧ Hid (wr.ownsRow 0 101 3 (.slice (some ⟨G, 0, none⟩) n n) n (tkC (fillT L j))) ∧ Hid (Kept NoB w wr)) (fun v11 _ _ _ => n - (intOf v11).toNat)
  case atStart => exact ⟨0, rfl, by omega, HO0, HK0⟩
  case round =>
    obtain ⟨j, rfl, hj, HO, HK⟩ := hrel
    by_cases hlt : (j : Int) < n
    · obtain ⟨g, o, rfl, hg, hrd⟩ := HR.out (by have := HN.out; omega)
      have hc := HK.out.cell (hrd j (by have := HN.out; omega))
      rw [Nat.zero_add] at hc
      have hst : (wr.setCell ⟨G, j * 3 + 2, none⟩ (.int .u8 ((L.getD j 0).toNat : Int))).ownsRow 0 101 3 (.slice (some ⟨G, 0, none⟩) n n) n (tkC (fillT L (j + 1))) := by
        rw [← fillT_set L j (by have := HN.out; omega)]
        exact (HO.out.stored (j * 3 + 2) (.int .u8 ((L.getD j 0).toNat : Int))).1
      generalize ((L.getD j 0).toNat : Int) = y at hc hst
      have hkn : Kept NoB w (wr.setCell ⟨G, j * 3 + 2, none⟩ (.int .u8 y)) := Kept.setCell (p := ⟨G, j * 3 + 2, none⟩) HK.out (.inr (show w.heap.size ≤ G by rw [HG.out]; exact Nat.le_refl _)) _
      have hlr : j * 3 + 2 < (tkC (fillT L j)).length := by rw [tkC_len, fillT_len L j (by have := HN.out; omega)]; have := HN.out; omega
      have hcz : ∃ u, wr.cell? ⟨G, j * 3 + 2, none⟩ = some u := ⟨_, by rw [HO.out.cellAt (j * 3 + 2) (by omega), List.getElem?_eq_getElem hlr]⟩
      obtain ⟨u, hcz⟩ := hcz
      have hfz : wr.frozen? ⟨G, j * 3 + 2, none⟩ = false := HO.out.frozenAt _
      have HSt := Lib.hid hst; have HKn := Lib.hid hkn
      clear hst hkn hlr hrd hg
      go_wp2
      go_roundw
      case rel => exact ⟨j + 1, by go_num, by omega, HSt, HKn⟩
      case measure => simp [intOf]; omega
    · have hjn : j = n := by omega
      have HD : Hid (TkSt w.heap.size wr (some ⟨G, 0, none⟩) n n (L.map oneT)) := Lib.hid ⟨by rw [List.length_map]; exact HN.out, by have := HO.out; rw [hjn, HN.out, fillT_full] at this; rw [HN.out]; exact this, fun k hk => by
        have e : (Value.slice (some ⟨G, 0, none⟩) n n).ownBlock = some G := rfl
        rw [e] at hk
        cases hk
        rw [HG.out]
        exact Nat.le_refl _⟩
      clear HO hjn
      go_wp2
      go_ret
      exact ⟨_, _, rfl, HD.out, HK.out⟩
set_option maxRecDepth 20000 in
set_option maxHeartbeats 4000000 in
/-- Tokens at any level. -/
theorem tokens_all (ao : Option Addr) (n c : Nat) (lv : Int) (L : List UInt8) (w : World) (hr : RowB w w.heap.size ao L) (hn : n = L.length) (hn3 : n ≤ 32768) (hc : n ≤ c) (hcm : c ≤ 9223372036854775807) (hT : DeB w) (hlv : -9223372036854775808 ≤ lv ∧ lv ≤ 9223372036854775807) :
    Calls Tryz.prog 51 #[.slice ao n c, .int .i64 lv] w fun e w' => ∃ a2 c2, e = .returned (.slice a2 (restT lv L 0).length c2) ∧ TkSt w.heap.size w' a2 (restT lv L 0).length c2 (restT lv L 0) ∧ Kept NoB w w' := by
  by_cases h1 : 1 ≤ lv
  · exact tokens_any ao n c lv L w hr hn hn3 hc hcm hT ⟨h1, hlv.2⟩
  · have hlt : lv < 1 := by omega
    have e : restT lv L 0 = L.map oneT := by rw [rest_low lv L hlt L.length 0 (by omega), List.drop_zero]
    rw [e, List.length_map, ← hn]
    have HS := Lib.hid (single_any ao n c L w hr hn hn3)
    clear hr hn hn3 hc hcm hT e h1
    go_enter Tryz.func51, Tryz.ntmps51
    go_wp2_with fail
    with_reducible refine HS.out.mono ?_
    rintro e w2 ⟨a2, c2, rfl, ht, hk⟩
    have HT := Lib.hid ht; have HK := Lib.hid hk
    clear ht hk
    go_wp2
    go_ret
    exact ⟨_, _, rfl, HT.out, HK.out⟩
end Go.Proofs.YtfmjfgmbjdhogaaGreatDoor

namespace Go.Proofs.YtfmjfgmbjdhogaaGreatDoor
open Go.RowKit
set_option linter.unusedVariables false
set_option linter.unusedSimpArgs false
set_option maxRecDepth 20000

/-- Bytes as cells, and as numbers. -/
def bc (L : List UInt8) : List Value := L.map fun b => Value.int .u8 (b.toNat : Int)
def nb (L : List UInt8) : List Int := L.map fun b => (b.toNat : Int)
theorem bc_nb (L : List UInt8) : bc L = (nb L).map (.int .u8) := by simp [bc, nb]
theorem nb_len (L : List UInt8) : (nb L).length = L.length := by simp [nb]
theorem nb_all (L : List UInt8) : AllB (nb L) := by
  intro b hb
  obtain ⟨c, _, rfl⟩ := List.mem_map.1 hb
  have := UInt8.toNat_lt c
  omega
/-- Numbers that are bytes, as bytes. -/
def un (xs : List Int) : List UInt8 := xs.map fun n => UInt8.ofNat n.toNat
theorem nb_un {xs : List Int} (h : AllB xs) : nb (un xs) = xs := by
  unfold nb un
  rw [List.map_map]
  conv => rhs; rw [← List.map_id xs]
  apply List.map_congr_left
  intro x hx
  have := h x hx
  simp only [Function.comp_apply, id_eq, UInt8.toNat_ofNat']
  omega

/-- A row of bytes of the call's own. -/
structure BySt (w0 w : World) (a : Option Addr) (l c : Nat) (L : List UInt8) : Prop where
  len : l = L.length
  own : w.ownsRow 0 5 1 (.slice a l c) l (bc L)
  kept : Kept NoB w0 w
  fresh : ∀ k, (Value.slice a l c).ownBlock = some k → w0.heap.size ≤ k
theorem BySt.nil (w : World) : BySt w w none 0 0 [] := ⟨rfl, World.ownsRow_nil _ _ _ _, Kept.refl _ _, fun k hk => by simp [Value.ownBlock] at hk⟩
theorem BySt.on {w0 w w' : World} {a : Option Addr} {l c : Nat} {L : List UInt8} (h : BySt w0 w a l c L) (hk : Kept NoB w w') : BySt w0 w' a l c L := ⟨h.len, hk.row h.own (fun _ _ h => h), h.kept.trans hk, h.fresh⟩
theorem BySt.reads {w0 w : World} {a : Option Addr} {l c : Nat} {L : List UInt8} (h : BySt w0 w a l c L) : Reads w a (nb L) := by
  have ho := h.own
  have hl := h.len
  subst hl
  rw [bc_nb] at ho
  have e := nb_len L
  rw [← e] at ho
  exact own_reads ho rfl
theorem BySt.cap {w0 w : World} {a : Option Addr} {l c : Nat} {L : List UInt8} (h : BySt w0 w a l c L) : l ≤ c ∧ c ≤ maxLen ∧ (a = none → c = 0) := ⟨(own_cap h.own).1, (own_cap h.own).2, own_nil h.own⟩
theorem kv_shape {w : World} {base e s : Nat} {v : Value} {n : Nat} {xs : List Value} (h : w.ownsRow base e s v n xs) : ∃ ao cap, v = .slice ao n cap := by
  rcases h.2 with ⟨rfl, rfl⟩ | ⟨g, cap, cur, rfl, _⟩
  · exact ⟨none, 0, rfl⟩
  · exact ⟨_, cap, rfl⟩
theorem BySt.grow {w0 w w' : World} {a : Option Addr} {l c n : Nat} {L M : List UInt8} {v : Value} (h : BySt w0 w a l c L) (ho : w'.ownsRow 0 5 1 v (l + n) (bc L ++ bc M)) (hn : n = M.length) (hg : w.grownBy w' (Value.slice a l c).ownBlock)
    (hf : ∀ k, v.ownBlock = some k → (Value.slice a l c).ownBlock = some k ∨ w.heap.size ≤ k) : ∃ a2 c2, v = .slice a2 (l + n) c2 ∧ BySt w0 w' a2 (l + n) c2 (L ++ M) := by
  obtain ⟨a2, c2, rfl⟩ := kv_shape ho
  refine ⟨a2, c2, rfl, by rw [List.length_append, h.len, hn], by simpa [bc] using ho, h.kept.grown hg (fun k hk e => by have := h.fresh k e; omega), ?_⟩
  intro k hk
  rcases hf k hk with e | e
  · exact h.fresh k e
  · have := h.kept.size; omega
theorem wpList_by_row {w : World} {ops : Array Oper} {rest : List Oper} {o : Oper} {act : Act} {Q : Exit → Act → World → Prop} (hgd : o.guard = none) (s x : Operand)
    (ho : o.op = .call { callee := .builtin .append, args := #[s, x], argTypes := #[22, 22] })
    {w0 : World} {a : Option Addr} {l c : Nat} {L : List UInt8} (hS : BySt w0 w a l c L) (hs : act.eval s = .slice a l c) (ad : Addr) (cx m : Nat) (M : List UInt8) (hm : m = M.length) (hx : act.eval x = .slice (some ad) m cx) (hr : Reads w (some ad) (nb M)) (hn : l + m ≤ 100000000)
    (h : ∀ a2 c2 w', BySt w0 w' a2 (l + m) c2 (L ++ M) → wpList Tryz.prog ops Q rest (act.put o.dst (.slice a2 (l + m) c2)) w') : wpList Tryz.prog ops Q (o :: rest) act w := by
  obtain ⟨i0, hi, hz0, hz1, hz2⟩ := info_parts info5
  refine wpList_app w hgd s x 22 ho 5 i0 (.int .u8 0) 1 1 Tryz.underlying22 hi hz0 hz1 hz2 rfl (by decide) _ l (bc L) hs hS.own ad m cx (bc M) hx (by simp [bc, hm]) ?_ ?_ (by unfold maxLen; omega) (by omega) ?_
  · rw [bc_nb]; exact reads_news hr
  · rw [bc_nb]; exact news_one _
  intro v' w' h2 h3 h4
  obtain ⟨a2, c2, rfl, hb⟩ := hS.grow h2 hm h3 h4
  exact h _ _ _ hb

/-- An own row, as what reads it asks. -/
theorem BySt.rowB {w0 w : World} {a : Option Addr} {l c : Nat} {L : List UInt8} (h : BySt w0 w a l c L) : RowB w w.heap.size a L := fun hl => by
  have hn := h.len
  rcases h.own.2 with ⟨_, hz⟩ | ⟨g, cc, cur, hv, _⟩
  · omega
  · simp at hv
    obtain ⟨rfl, rfl⟩ := hv
    have hc : ∀ i, i < L.length → w.cell? ⟨g, i, none⟩ = some (.int .u8 ((L.getD i 0).toNat : Int)) := fun i hi => by
      rw [h.own.cellAt i (by omega), bc, List.getElem?_map, List.getElem?_eq_getElem hi]
      simp [List.getD, hi]
    refine ⟨g, 0, rfl, block_lt_of_cell (hc 0 hl), fun i hi => ?_⟩
    rw [Nat.zero_add]
    exact hc i hi
end Go.Proofs.YtfmjfgmbjdhogaaGreatDoor

namespace Go.Proofs.YtfmjfgmbjdhogaaGreatDoor
open Go.RowKit
set_option linter.unusedVariables false
set_option linter.unusedSimpArgs false

theorem nb_getD (L : List UInt8) (i : Nat) : (nb L).getD i 0 = ((L.getD i 0).toNat : Int) := by
  by_cases h : i < L.length
  · simp [nb, List.getD, h]
  · simp [nb, List.getD, List.getElem?_eq_none (Nat.le_of_not_lt h)]
theorem nb_take_succ (L : List UInt8) (i : Nat) (h : i < L.length) : (nb L).take (i + 1) = (nb L).take i ++ [((L.getD i 0).toNat : Int)] := by
  have hn : i < (nb L).length := by rw [nb_len]; exact h
  have e : (nb L)[i] = ((L.getD i 0).toNat : Int) := by
    have := nb_getD L i
    simpa [List.getD, hn] using this
  rw [List.take_succ_eq_append_getElem hn, e]
/-- Bytes that are those so far ahead are told by a copy. -/
theorem copy_cand (L : List UInt8) (p D m : Nat) (hD : 1 ≤ D) (hp : D ≤ p) (h : ∀ j, j < m → L.getD (p - D + j) 0 = L.getD (p + j) 0) (hm : p + m ≤ L.length) : copyN D m ((nb L).take p) = (nb L).take (p + m) := by
  induction m with
  | zero => rfl
  | succ m ih =>
    have ih := ih (fun j hj => h j (by omega)) (by omega)
    have hl : ((nb L).take (p + m)).length = p + m := by rw [List.length_take, nb_len]; omega
    rw [copyN, ih, hl, show p + (m + 1) = p + m + 1 by omega, nb_take_succ L (p + m) (by omega)]
    congr 1
    have e1 : ((nb L).take (p + m)).getD (p + m - D) 0 = (nb L).getD (p + m - D) 0 := by
      simp [List.getD, List.getElem?_take, show p + m - D < p + m by omega]
    rw [e1, nb_getD, show p + m - D = p - D + m by omega, h m (by omega)]
theorem step_exp (lv : Int) (L : List UInt8) (p : Nat) (hp : p < L.length) (hL : L.length ≤ 32768) :
    (stepT lv L p).1.wf ∧ (stepT lv L p).1.no ((nb L).take p).length (L.length : Int) = 0 ∧ (stepT lv L p).1.put ((nb L).take p) = (nb L).take (stepT lv L p).2 := by
  have hl : ((nb L).take p).length = p := by rw [List.length_take, nb_len]; omega
  rw [hl]
  by_cases hz : (lazyN lv L p).1 = 0
  · rw [step_lit hz]
    have hb := (L.getD p 0).toNat_lt
    refine ⟨?_, ?_, ?_⟩
    · unfold Tk.wf litT
      simp only
      omega
    · unfold Tk.no Tk.ok litT
      simp only
      rw [if_pos trivial, if_neg (by simp), if_neg (by omega), if_neg (by rw [if_pos (by decide)]; omega)]
    · unfold Tk.put litT
      simp only
      rw [if_pos trivial, nb_take_succ L p hp]
  · rw [step_tok hz]
    have hlz : lazyN lv L p = longN L p := by
      unfold lazyN at hz ⊢
      split at hz
      · exact absurd rfl hz
      · split at hz
        · exact absurd rfl hz
        · rename_i h1 h2
          rw [if_neg h1, if_neg h2]
    rw [hlz] at hz ⊢
    obtain ⟨n, hn⟩ : ∃ n, n = (longN L p).1 := ⟨_, rfl⟩
    obtain ⟨d, hd⟩ : ∃ d, d = (longN L p).2 := ⟨_, rfl⟩
    have hok := long_ok L p
    rw [← hn, ← hd] at hok
    rw [← hn] at hz ⊢
    rw [← hd]
    rcases hok with ⟨h1, _⟩ | ⟨h1, h2, h3, h4, h5, _⟩
    · exact absurd h1 hz
    · have h2' := h2
      rw [mostN] at h2'
      have hc := (shr_iff L (mostN L p) (p - d) p n h2).1 (by rw [← h5]; exact Nat.le_refl _)
      refine ⟨?_, ?_, ?_⟩
      · unfold Tk.wf
        simp only
        omega
      · unfold Tk.no Tk.ok
        simp only
        rw [if_neg (show ¬ ((n : Int) = 0) by omega), if_neg (by simp; omega), if_neg (by omega), if_neg (by omega)]
      · unfold Tk.put
        simp only
        rw [if_neg (by omega), Int.toNat_natCast, Int.toNat_natCast]
        exact copy_cand L p d n h3 (by omega) hc (by omega)
/-- What was told is made again, all of it. -/
theorem exp_rest (lv : Int) (L : List UInt8) (hL : L.length ≤ 32768) : ∀ k p i, L.length - p ≤ k → p ≤ L.length → AllT (restT lv L p) ∧ expF (L.length : Int) (restT lv L p) ((nb L).take p) i = (nb L, i + (restT lv L p).length, 0) := by
  intro k
  induction k with
  | zero =>
    intro p i hk hp
    rw [rest_end lv L p (by omega), show p = L.length by omega]
    refine ⟨(fun t ht => by cases ht), ?_⟩
    rw [expF, List.take_of_length_le (by rw [nb_len]; exact Nat.le_refl _)]
    rfl
  | succ k ih =>
    intro p i hk hp
    by_cases hlt : p < L.length
    · obtain ⟨h1, h2, h3⟩ := step_exp lv L p hlt hL
      have h4 := step_lt lv L p
      obtain ⟨g1, g2⟩ := ih (stepT lv L p).2 (i + 1) (by omega) (step_le lv L p hlt)
      rw [rest_step lv L p hlt]
      refine ⟨?_, ?_⟩
      · intro t ht
        rcases List.mem_cons.1 ht with h | h
        · rw [h]; exact h1
        · exact g1 t h
      · rw [expF, if_pos h2, h3, g2, List.length_cons]
        congr 2
        omega
    · rw [rest_end lv L p (by omega), show p = L.length by omega]
      refine ⟨(fun t ht => by cases ht), ?_⟩
      rw [expF, List.take_of_length_le (by rw [nb_len]; exact Nat.le_refl _)]
      rfl
end Go.Proofs.YtfmjfgmbjdhogaaGreatDoor
