/-
  match.Tokens, from level 1 on.
-/
import Derived.Test.YtifoldonmmobpaaDoorMatK
namespace Go.Proofs.YtifoldonmmobpaaDoor
open Go.RowKit
set_option linter.unusedVariables false
set_option linter.unusedSimpArgs false
set_option maxRecDepth 20000

/-- A seeker that is no further than a place, in a world. -/
def SeekAt (w1 : World) (lo hi Sk : Nat) (ao : Option Addr) (c W1 gh1 gb1 W2 gh2 gb2 : Nat) (L : List UInt8) (w : World) (i : Nat) : Prop := Kept (InB lo hi) w1 w ∧ ∃ nx, nx ≤ i ∧ ∃ hs1 bs1 hs2 bs2, SeekSt w Sk ao c nx (min nx (L.length - 2)) (min nx (L.length - 7)) W1 gh1 gb1 W2 gh2 gb2 L hs1 bs1 hs2 bs2
def SeekH (w1 : World) (lo hi Sk : Nat) (ao : Option Addr) (c W1 gh1 gb1 W2 gh2 gb2 : Nat) (L : List UInt8) (w : World) (i : Nat) : Prop := hi ≤ w.heap.size ∧ SkB lo hi Sk W1 gh1 gb1 W2 gh2 gb2 ∧ SeekAt w1 lo hi Sk ao c W1 gh1 gb1 W2 gh2 gb2 L w i
theorem SeekAt.le {w1 w : World} {lo hi Sk : Nat} {ao : Option Addr} {c W1 gh1 gb1 W2 gh2 gb2 i j : Nat} {L : List UInt8} (h : SeekAt w1 lo hi Sk ao c W1 gh1 gb1 W2 gh2 gb2 L w i) (hij : i ≤ j) : SeekAt w1 lo hi Sk ao c W1 gh1 gb1 W2 gh2 gb2 L w j := by
  obtain ⟨h1, nx, h2, h3⟩ := h
  exact ⟨h1, nx, by omega, h3⟩
theorem SeekAt.keptS {S : Nat → Prop} {w1 w w' : World} {lo hi Sk : Nat} {ao : Option Addr} {c W1 gh1 gb1 W2 gh2 gb2 i : Nat} {L : List UInt8} (h : SeekAt w1 lo hi Sk ao c W1 gh1 gb1 W2 gh2 gb2 L w i) (hb : SkB lo hi Sk W1 gh1 gb1 W2 gh2 gb2) (hk : Kept S w w') (hs : ∀ k, InB lo hi k → ¬ S k) (hS : ∀ k, k < w1.heap.size → S k → InB lo hi k) : SeekAt w1 lo hi Sk ao c W1 gh1 gb1 W2 gh2 gb2 L w' i := by
  obtain ⟨h1, nx, h2, hs1, bs1, hs2, bs2, h3⟩ := h
  refine ⟨((h1.mono (T := fun k => InB lo hi k ∨ S k) (fun k _ e => .inl e)).trans (hk.mono (fun k _ e => .inr e))).mono (fun k hk2 e => ?_), nx, h2, hs1, bs1, hs2, bs2, h3.keptS hb hk hs⟩
  rcases e with e | e
  · exact e
  · exact hS k hk2 e
set_option maxRecDepth 100000 in
set_option maxHeartbeats 8000000 in
theorem tokens_any (ao : Option Addr) (n c : Nat) (lv : Int) (L : List UInt8) (w : World) (hr : RowB w w.heap.size ao L) (hn : n = L.length) (hn3 : n ≤ 32768) (hc : n ≤ c) (hcm : c ≤ 9223372036854775807) (hT : DeB w) (hlv : 1 ≤ lv ∧ lv ≤ 9223372036854775807) :
    Calls Tryd.prog 7 #[.slice ao n c, .int .i64 lv] w fun e w' => ∃ a2 c2, e = .returned (.slice a2 (restT lv L 0).length c2) ∧ TkSt w.heap.size w' a2 (restT lv L 0).length c2 (restT lv L 0) ∧ Kept NoB w w' := by
  have HNew : Hid (∀ W, Calls Tryd.prog 17 #[.slice ao n c] W fun e w' => ∃ Sk W1 gh1 gb1 W2 gh2 gb2 hs1 bs1 hs2 bs2, e = .returned (.pointer (some ⟨Sk, 0, none⟩)) ∧ SkB W.heap.size w'.heap.size Sk W1 gh1 gb1 W2 gh2 gb2 ∧ SeekSt w' Sk ao c 0 0 0 W1 gh1 gb1 W2 gh2 gb2 L hs1 bs1 hs2 bs2 ∧ Kept NoB W w') := Lib.hid (fun W => by have := newseek_any ao c L W (by omega); rw [← hn] at this; exact this)
  have HR := Lib.hid hr; have HN := Lib.hid hn; have HT := Lib.hid hT
  have h0w : 0 < w.heap.size := World.block_lt_of_cell? w _ (hT 0 (by omega))
  obtain ⟨lo, hlo⟩ : ∃ lo, lo = w.heap.size := ⟨_, rfl⟩
  rw [← hlo] at h0w
  have HLo := Lib.hid hlo
  have HLen := Lib.hid (rest_len lv L L.length 0 (by omega) (by omega))
  obtain ⟨TS, hTS⟩ : ∃ TS, TS = restT lv L 0 := ⟨_, rfl⟩
  rw [← hTS] at HLen ⊢
  have HTS := Lib.hid hTS
  have hl1 : ¬ lv < 1 := by omega
  clear hr hn hT hTS hlo
  go_enter Tryd.func7, Tryd.ntmps7
  go_wp2_with fail
  with_reducible refine (HNew.out _).mono ?_
  rintro e w1 ⟨Sk, W1, gh1, gb1, W2, gh2, gb2, hs1, bs1, hs2, bs2, rfl, hskb, hsk, hk1⟩
  rw [← HLo.out] at hskb
  obtain ⟨hi, hhi⟩ : ∃ hi, hi = w1.heap.size := ⟨_, rfl⟩
  rw [← hhi] at hskb
  have HSkb := Lib.hid hskb
  have HK1 := Lib.hid hk1
  have HHi := Lib.hid hhi
  have hlh : lo ≤ hi := by have := hskb.b0; omega
  have HS0 : Hid (SeekAt w1 lo hi Sk ao c W1 gh1 gb1 W2 gh2 gb2 L w1 0) := Lib.hid ⟨Kept.refl _ _, 0, Nat.le_refl _, hs1, bs1, hs2, bs2, by rw [Nat.zero_min, Nat.zero_min]; exact hsk⟩
  have HT0 : Hid (TkSt hi w1 none 0 0 []) := Lib.hid (TkSt.start hi w1)
  have HD0 : Hid ([] ++ restT lv L 0 = TS) := Lib.hid (by rw [HTS.out]; rfl)
  clear hskb hsk hk1 hhi HNew
  go_wp2
  go_loopw [5, 7, 8, 9, 10, 11, 12] (fun v5 v7 v8 v9 v10 v11 v12 wr => ∃ (i nn dd : Nat) (kn : Bool) (a2 : Option Addr) (m c2 : Nat) (out : List Tk), v5 = .slice a2 m c2 ∧ v7 = .int .i64 (nn : Int) ∧ v8 = .int .i64 (dd : Int) ∧ v9 = .bool kn ∧ v10 = .int .i64 (i : Int) ∧ i ≤ n ∧ m ≤ i ∧ Hid (kn = true → longN L i = (nn, dd)) ∧ Hid (SeekAt w1 lo hi Sk ao c W1 gh1 gb1 W2 gh2 gb2 L wr i) ∧ Hid (TkSt hi wr a2 m c2 out) ∧ Hid (out ++ restT lv L i = TS)) (fun _ _ _ _ v10 _ _ _ => n - (intOf v10).toNat)
  case atStart => exact ⟨0, 0, 0, false, none, 0, 0, [], rfl, rfl, rfl, rfl, rfl, by omega, by omega, Lib.hid (fun h => by cases h), HS0, HT0, HD0⟩
  case round =>
    obtain ⟨i, nn, dd, kn, a2, m, c2, out, rfl, rfl, rfl, rfl, rfl, hi2, hm, HKn, HS, HTk, HD⟩ := hrel
    by_cases hlt : i < n
    · have hli : (i : Int) < (n : Int) := by omega
      obtain ⟨g, o, rfl, hg, hrd⟩ := HR.out (by have := HN.out; omega)
      have hglo : g < lo := by have := HLo.out; omega
      have HRd := Lib.hid hrd
      -- a look from a place on
      have HSeek : Hid (∀ (W : World) (a : Nat), SeekAt w1 lo hi Sk (some ⟨g, o, none⟩) c W1 gh1 gb1 W2 gh2 gb2 L W a → a ≤ n → Calls Tryd.prog 18 #[.pointer (some ⟨Sk, 0, none⟩), .int .i64 (a : Int)] W fun e w' => e = .returned (.tuple #[.int .i64 ((longN L a).1 : Int), .int .i64 ((longN L a).2 : Int)]) ∧ SeekAt w1 lo hi Sk (some ⟨g, o, none⟩) c W1 gh1 gb1 W2 gh2 gb2 L w' a ∧ Kept (InB lo hi) W w') := Lib.hid (fun W a hS ha => by
        obtain ⟨hkW, nx, hnx, x1, y1, x2, y2, hst⟩ := hS
        have hkw : Kept (InB lo hi) w W := HK1.out.dom.trans hkW
        refine (seek_any lo hi Sk g o c nx a W1 gh1 gb1 W2 gh2 gb2 L x1 y1 x2 y2 W HSkb.out (by have := HN.out; omega) (by have := HN.out; omega) hcm hst (hrd.keptS hkw (fun e => by have := e.1; omega)) hglo h0w (by rw [HHi.out]; exact hkW.size) (HT.out.keptS hkw (fun e => by have := e.1; omega)) hnx (by have := HN.out; omega)).mono ?_
        rintro e w' ⟨he, nx2, hnx2, hk2, hst2⟩
        exact ⟨he, ⟨hkW.trans hk2, nx2, hnx2, hst2⟩, hk2⟩)
      have hbd := long_bd L i (by have := HN.out; omega)
      have hrs := rest_step lv L i (by have := HN.out; omega)
      have hby := hrd i (by have := HN.out; omega)
      rw [Nat.zero_add] at hby
      have HBy : Hid (∀ W, Kept (InB lo hi) w1 W → W.cell? ⟨g, o + i, none⟩ = some (.int .u8 ((L.getD i 0).toNat : Int))) := Lib.hid (fun W hk => by
        have hc2 := HK1.out.cell hby
        exact (World.cell?_of_block (hk.block _ (World.block_lt_of_cell? w1 _ hc2) (fun e => by have := e.1; have h9 : lo ≤ g := this; omega))).trans hc2)
      obtain ⟨n1, hn1⟩ : ∃ n1, n1 = (longN L i).1 := ⟨_, rfl⟩
      obtain ⟨d1, hd1⟩ : ∃ d1, d1 = (longN L i).2 := ⟨_, rfl⟩
      have HN1 : Hid (longN L i = (n1, d1)) := Lib.hid (by rw [hn1, hd1])
      have HSk1 := Lib.hid (fun W (hS : SeekAt w1 lo hi Sk (some ⟨g, o, none⟩) c W1 gh1 gb1 W2 gh2 gb2 L W i) => by have := HSeek.out W i hS hi2; rw [HN1.out] at this; exact this)
      rw [← hn1, ← hd1] at hbd
      have HRs := Lib.hid hrs
      obtain ⟨x, hx⟩ : ∃ x : Int, x = ((L.getD i 0).toNat : Int) := ⟨_, rfl⟩
      rw [← hx] at HBy
      have HX : Hid (litT L i = ⟨0, 0, x⟩) := Lib.hid (by rw [litT, hx])
      clear hrd hrs hby hn1 hd1 hx hg
      go_upto_if 24 with fail
      go_cut [7, 8] from 24 to 30 (fun v7 v8 wx => v7 = .int .i64 (n1 : Int) ∧ v8 = .int .i64 (d1 : Int) ∧ Hid (SeekAt w1 lo hi Sk (some ⟨g, o, none⟩) c W1 gh1 gb1 W2 gh2 gb2 L wx i) ∧ Hid (TkSt hi wx a2 m c2 out))
      case first =>
        cases kn with
        | true =>
          have hkk := HKn.out (by trivial)
          rw [HN1.out] at hkk
          simp only [Prod.mk.injEq] at hkk
          obtain ⟨rfl, rfl⟩ := hkk
          go_wp2
          go_meet
          exact ⟨rfl, rfl, HS, HTk⟩
        | false =>
          have HC := Lib.hid (HSk1.out _ HS.out)
          go_wp2_with fail
          with_reducible refine HC.out.mono ?_
          rintro e w3 ⟨rfl, hs3, hk3⟩
          have HS3 := Lib.hid hs3
          have HT3 := Lib.hid (HTk.out.keptS hk3 (fun k hk e => by have := e.2; omega))
          clear hs3 hk3
          go_wp2
          go_meet
          exact ⟨rfl, rfl, HS3, HT3⟩
      case rest =>
      obtain ⟨rfl, rfl, HS3, HT3⟩ := hcut
      obtain ⟨w3, hw3⟩ : ∃ w3, w3 = wc := ⟨_, rfl⟩
      rw [← hw3] at HS3 HT3 ⊢
      clear hw3 HKn HS HTk
      by_cases hA : 0 < n1 ∧ 7 ≤ lv
      · obtain ⟨hA1, hA2⟩ := hA
        have hA1i : (0 : Int) < (n1 : Int) := by omega
        have hA1d : decide (7 ≤ lv) = true := decide_eq_true hA2
        have hc0 := HSeek.out w3 (i + 1) (HS3.out.le (by omega)) (by omega)
        rw [show ((i + 1 : Nat) : Int) = (i : Int) + 1 by omega] at hc0
        have HC := Lib.hid hc0
        clear hc0
        obtain ⟨n2, hn2⟩ : ∃ n2, n2 = (longN L (i + 1)).1 := ⟨_, rfl⟩
        obtain ⟨d2, hd2⟩ : ∃ d2, d2 = (longN L (i + 1)).2 := ⟨_, rfl⟩
        have hbd2 := long_bd L (i + 1) (by have := HN.out; omega)
        rw [← hn2, ← hd2] at hbd2 HC
        have HL2 : Hid (longN L (i + 1) = (n2, d2)) := Lib.hid (by rw [hn2, hd2])
        have HLz : Hid (lazyN lv L i = if n1 < n2 then (0, 0) else (n1, d1)) := Lib.hid (by
          unfold lazyN
          rw [if_neg (show ¬ lv < 1 by omega), HN1.out, HL2.out]
          by_cases h : n1 < n2
          · rw [if_pos ⟨hA2, hA1, h⟩, if_pos h]
          · rw [if_neg (fun h2 => h h2.2.2), if_neg h])
        have hi1 : (i : Int) + 1 = ((i + 1 : Nat) : Int) := by omega
        have HI1 := Lib.hid hi1
        clear hn2 hd2 hi1
        go_wp2_with fail
        with_reducible refine HC.out.mono ?_
        rintro e w4 ⟨rfl, hs4, hk4⟩
        have HS4 := Lib.hid hs4
        have HT4 := Lib.hid (HT3.out.keptS hk4 (fun k hk e => by have := e.2; omega))
        clear hs4 hk4 hA2
        by_cases hlz : n1 < n2
        · have hlzi : (n1 : Int) < (n2 : Int) := by omega
          have hby := HBy.out w4 HS4.out.1
          have HD9 : Hid ((out ++ [Tk.mk 0 0 x]) ++ restT lv L (i + 1) = TS) := Lib.hid (by
            have h := HD.out
            have hz : lazyN lv L i = (0, 0) := by rw [HLz.out, if_pos hlz]
            rw [HRs.out, step_lit (by rw [hz]), HX.out] at h
            rw [← h]; simp)
          have HK9 : Hid (true = true → longN L (i + 1) = (n2, d2)) := Lib.hid (fun _ => HL2.out)
          clear hlz
          obtain ⟨q, hq⟩ : ∃ q, q = w4.heap.size := ⟨_, rfl⟩
          obtain ⟨wA, hwA⟩ : ∃ wA, wA = w4.alloc (.cells #[.int .i64 0, .int .i64 0, .int .u8 x] 26) := ⟨_, rfl⟩
          have hkA : Kept NoB w4 wA := by rw [hwA]; exact (Kept.refl NoB _).alloc _
          have hA0 : wA.cell? ⟨q, 0, none⟩ = some (.int .i64 (Tk.mk 0 0 x).l) := by rw [hwA]; exact cell_new 0 hq
          have hA1 : wA.cell? ⟨q, 1, none⟩ = some (.int .i64 (Tk.mk 0 0 x).d) := by rw [hwA]; exact cell_new 1 hq
          have hA2 : wA.cell? ⟨q, 2, none⟩ = some (.int .u8 (Tk.mk 0 0 x).c) := by rw [hwA]; exact cell_new 2 hq
          have HA := Lib.hid (⟨hA0, hA1, hA2⟩ : _ ∧ _ ∧ _)
          have HTA := Lib.hid (HT4.out.keptS hkA (fun _ _ h => h))
          have HSA := Lib.hid (HS4.out.keptS HSkb.out hkA (fun _ _ h => h) (fun _ _ h => absurd h (fun h => h)))
          have hsA : hi ≤ wA.heap.size := by have h1 := HSA.out.1.size; have h2 := HHi.out; omega
          clear hkA hA0 hA1 hA2
          go_wp2_with (at_builtin; rw [← hq, ← hwA]; clear hwA hq; refine wpList_tk rfl (.tmp 47) (.tmp 53) rfl HTA.out hsA rfl q 1 (Tk.mk 0 0 x) rfl HA.out.1 HA.out.2.1 HA.out.2.2 (by omega) ?_)
          intro a9 c9 w9 h9 hk9
          have HT9 := Lib.hid h9
          have HS9 := Lib.hid (HSA.out.keptS HSkb.out hk9 (fun k hk e => by have := hk.2; omega) (fun k hk e => by have := HHi.out; omega))
          clear h9 hk9
          go_wp2
          go_roundw
          case rel => exact ⟨i + 1, n2, d2, true, a9, m + 1, c9, _, rfl, rfl, rfl, rfl, by go_num, by omega, by omega, Lib.hid (fun _ => HK9.out (by trivial)), Lib.hid (HS9.out.le (by omega)), HT9, HD9⟩
          case measure => simp [intOf] <;> omega
        · have hlzi : ¬ (n1 : Int) < (n2 : Int) := by omega
          have hn0 : ((n1 : Int) == 0) = false := by simp; omega
          have HD9 : Hid ((out ++ [Tk.mk n1 d1 0]) ++ restT lv L (i + n1) = TS) := Lib.hid (by
            have h := HD.out
            have hz : lazyN lv L i = (n1, d1) := by rw [HLz.out, if_neg hlz]
            rw [HRs.out, step_tok (by rw [hz]; simp only; omega), hz] at h
            rw [← h]; simp)
          clear hlz
          obtain ⟨q, hq⟩ : ∃ q, q = w4.heap.size := ⟨_, rfl⟩
          obtain ⟨wA, hwA⟩ : ∃ wA, wA = w4.alloc (.cells #[.int .i64 (n1 : Int), .int .i64 (d1 : Int), .int .u8 0] 26) := ⟨_, rfl⟩
          have hkA : Kept NoB w4 wA := by rw [hwA]; exact (Kept.refl NoB _).alloc _
          have hA0 : wA.cell? ⟨q, 0, none⟩ = some (.int .i64 (Tk.mk n1 d1 0).l) := by rw [hwA]; exact cell_new 0 hq
          have hA1 : wA.cell? ⟨q, 1, none⟩ = some (.int .i64 (Tk.mk n1 d1 0).d) := by rw [hwA]; exact cell_new 1 hq
          have hA2 : wA.cell? ⟨q, 2, none⟩ = some (.int .u8 (Tk.mk n1 d1 0).c) := by rw [hwA]; exact cell_new 2 hq
          have HA := Lib.hid (⟨hA0, hA1, hA2⟩ : _ ∧ _ ∧ _)
          have HTA := Lib.hid (HT4.out.keptS hkA (fun _ _ h => h))
          have HSA := Lib.hid (HS4.out.keptS HSkb.out hkA (fun _ _ h => h) (fun _ _ h => absurd h (fun h => h)))
          have hsA : hi ≤ wA.heap.size := by have h1 := HSA.out.1.size; have h2 := HHi.out; omega
          clear hkA hA0 hA1 hA2
          go_wp2_with (at_builtin; rw [← hq, ← hwA]; clear hwA hq; refine wpList_tk rfl (.tmp 71) (.tmp 75) rfl HTA.out hsA rfl q 1 (Tk.mk n1 d1 0) rfl HA.out.1 HA.out.2.1 HA.out.2.2 (by omega) ?_)
          intro a9 c9 w9 h9 hk9
          have HT9 := Lib.hid h9
          have HS9 := Lib.hid (HSA.out.keptS HSkb.out hk9 (fun k hk e => by have := hk.2; omega) (fun k hk e => by have := HHi.out; omega))
          clear h9 hk9
          go_wp2
          go_roundw
          case rel => exact ⟨i + n1, n1, d1, false, a9, m + 1, c9, _, rfl, rfl, rfl, rfl, by go_num, (by have := HN.out; omega), by omega, Lib.hid (fun h => by cases h), Lib.hid (HS9.out.le (by omega)), HT9, HD9⟩
          case measure => simp [intOf] <;> omega
      · have HLz : Hid (lazyN lv L i = (n1, d1)) := Lib.hid (by
          unfold lazyN
          rw [if_neg (show ¬ lv < 1 by omega), HN1.out]
          by_cases h : n1 = 0
          · rw [if_neg (fun h2 => by have := h2.2.1; simp only at this; omega)]
          · rw [if_neg (fun h2 => hA ⟨by omega, h2.1⟩)])
        by_cases h0 : n1 = 0
        · have hA1i : ¬ (0 : Int) < (n1 : Int) := by omega
          have hn0 : ((n1 : Int) == 0) = true := by rw [h0]; rfl
          have hby := HBy.out w3 HS3.out.1
          have HD9 : Hid ((out ++ [Tk.mk 0 0 x]) ++ restT lv L (i + 1) = TS) := Lib.hid (by
            have h := HD.out
            rw [HRs.out, step_lit (by rw [HLz.out]; exact h0), HX.out] at h
            rw [← h]; simp)
          have HK9 : Hid (false = true → longN L (i + 1) = (n1, d1)) := Lib.hid (fun h => by cases h)
          clear h0 hA
          obtain ⟨q, hq⟩ : ∃ q, q = w3.heap.size := ⟨_, rfl⟩
          obtain ⟨wA, hwA⟩ : ∃ wA, wA = w3.alloc (.cells #[.int .i64 0, .int .i64 0, .int .u8 x] 26) := ⟨_, rfl⟩
          have hkA : Kept NoB w3 wA := by rw [hwA]; exact (Kept.refl NoB _).alloc _
          have hA0 : wA.cell? ⟨q, 0, none⟩ = some (.int .i64 (Tk.mk 0 0 x).l) := by rw [hwA]; exact cell_new 0 hq
          have hA1 : wA.cell? ⟨q, 1, none⟩ = some (.int .i64 (Tk.mk 0 0 x).d) := by rw [hwA]; exact cell_new 1 hq
          have hA2 : wA.cell? ⟨q, 2, none⟩ = some (.int .u8 (Tk.mk 0 0 x).c) := by rw [hwA]; exact cell_new 2 hq
          have HA := Lib.hid (⟨hA0, hA1, hA2⟩ : _ ∧ _ ∧ _)
          have HTA := Lib.hid (HT3.out.keptS hkA (fun _ _ h => h))
          have HSA := Lib.hid (HS3.out.keptS HSkb.out hkA (fun _ _ h => h) (fun _ _ h => absurd h (fun h => h)))
          have hsA : hi ≤ wA.heap.size := by have h1 := HSA.out.1.size; have h2 := HHi.out; omega
          clear hkA hA0 hA1 hA2
          go_wp2_with (at_builtin; rw [← hq, ← hwA]; clear hwA hq; refine wpList_tk rfl (.tmp 61) (.tmp 67) rfl HTA.out hsA rfl q 1 (Tk.mk 0 0 x) rfl HA.out.1 HA.out.2.1 HA.out.2.2 (by omega) ?_)
          intro a9 c9 w9 h9 hk9
          have HT9 := Lib.hid h9
          have HS9 := Lib.hid (HSA.out.keptS HSkb.out hk9 (fun k hk e => by have := hk.2; omega) (fun k hk e => by have := HHi.out; omega))
          clear h9 hk9
          go_wp2
          go_roundw
          case rel => exact ⟨i + 1, n1, d1, false, a9, m + 1, c9, _, rfl, rfl, rfl, rfl, by go_num, by omega, by omega, HK9, Lib.hid (HS9.out.le (by omega)), HT9, HD9⟩
          case measure => simp [intOf] <;> omega
        · have hn0 : ((n1 : Int) == 0) = false := by simp; omega
          have hA1i : (0 : Int) < (n1 : Int) := by omega
          have hA2 : ¬ 7 ≤ lv := fun h => hA ⟨by omega, h⟩
          have hA2d : decide (7 ≤ lv) = false := decide_eq_false hA2
          have HD9 : Hid ((out ++ [Tk.mk n1 d1 0]) ++ restT lv L (i + n1) = TS) := Lib.hid (by
            have h := HD.out
            rw [HRs.out, step_tok (by rw [HLz.out]; exact h0), HLz.out] at h
            rw [← h]; simp)
          clear h0 hA
          obtain ⟨q, hq⟩ : ∃ q, q = w3.heap.size := ⟨_, rfl⟩
          obtain ⟨wA, hwA⟩ : ∃ wA, wA = w3.alloc (.cells #[.int .i64 (n1 : Int), .int .i64 (d1 : Int), .int .u8 0] 26) := ⟨_, rfl⟩
          have hkA : Kept NoB w3 wA := by rw [hwA]; exact (Kept.refl NoB _).alloc _
          have hA0 : wA.cell? ⟨q, 0, none⟩ = some (.int .i64 (Tk.mk n1 d1 0).l) := by rw [hwA]; exact cell_new 0 hq
          have hA1 : wA.cell? ⟨q, 1, none⟩ = some (.int .i64 (Tk.mk n1 d1 0).d) := by rw [hwA]; exact cell_new 1 hq
          have hA2 : wA.cell? ⟨q, 2, none⟩ = some (.int .u8 (Tk.mk n1 d1 0).c) := by rw [hwA]; exact cell_new 2 hq
          have HA := Lib.hid (⟨hA0, hA1, hA2⟩ : _ ∧ _ ∧ _)
          have HTA := Lib.hid (HT3.out.keptS hkA (fun _ _ h => h))
          have HSA := Lib.hid (HS3.out.keptS HSkb.out hkA (fun _ _ h => h) (fun _ _ h => absurd h (fun h => h)))
          have hsA : hi ≤ wA.heap.size := by have h1 := HSA.out.1.size; have h2 := HHi.out; omega
          clear hkA hA0 hA1 hA2
          go_wp2_with (at_builtin; rw [← hq, ← hwA]; clear hwA hq; refine wpList_tk rfl (.tmp 71) (.tmp 75) rfl HTA.out hsA rfl q 1 (Tk.mk n1 d1 0) rfl HA.out.1 HA.out.2.1 HA.out.2.2 (by omega) ?_)
          intro a9 c9 w9 h9 hk9
          have HT9 := Lib.hid h9
          have HS9 := Lib.hid (HSA.out.keptS HSkb.out hk9 (fun k hk e => by have := hk.2; omega) (fun k hk e => by have := HHi.out; omega))
          clear h9 hk9
          go_wp2
          go_roundw
          case rel => exact ⟨i + n1, n1, d1, false, a9, m + 1, c9, _, rfl, rfl, rfl, rfl, by go_num, (by have := HN.out; omega), by omega, Lib.hid (fun h => by cases h), Lib.hid (HS9.out.le (by omega)), HT9, HD9⟩
          case measure => simp [intOf] <;> omega
    · have hie : i = n := by omega
      have HF : Hid (out = TS) := Lib.hid (by
        have h := HD.out
        rw [rest_end lv L i (by have := HN.out; omega), List.append_nil] at h
        exact h)
      have hli : ¬ (i : Int) < (n : Int) := by omega
      clear hie
      go_wp2
      go_ret
      have hml := HTk.out.len
      rw [HF.out] at hml
      subst hml
      refine ⟨a2, c2, rfl, ?_, (by
        have h1 : Kept (InB lo hi) w wr := HK1.out.dom.trans HS.out.1
        exact h1.mono (fun k hk e => by have := e.1; have := HLo.out; omega))⟩
      have := HTk.out
      rw [HF.out] at this
      exact ⟨this.len, this.own, fun k hk => by have := this.fresh k hk; have := HLo.out; omega⟩
end Go.Proofs.YtifoldonmmobpaaDoor
