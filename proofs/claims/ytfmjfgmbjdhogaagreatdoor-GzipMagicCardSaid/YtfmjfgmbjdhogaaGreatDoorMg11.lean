/-
  lens.readRow: a row of lengths, read by the code of lengths.
  lens.readCode: the code of lengths is read.
  How blocks are read, on paper: item by item.
  bits.Rev: the lowest bits turned round.
  Bits put behind bits: what one round of the writer does to the number that its bytes make. No Go in sight.
-/
import Derived.Test.YtfmjfgmbjdhogaaGreatDoorMg10
import Derived.Test.YtfmjfgmbjdhogaaGreatDoorRows
namespace Go.Proofs.YtfmjfgmbjdhogaaGreatDoor
open Go.RowKit
set_option linter.unusedVariables false
set_option linter.unusedSimpArgs false

theorem own_lt {w : World} {base e z n : Nat} {v : Value} {xs : List Value} (ho : w.ownsRow base e z v n xs) : ∀ k, v.ownBlock = some k → k < w.heap.size := by
  intro k hk
  rcases ho.2 with ⟨rfl, _⟩ | ⟨g, cap', cur, rfl, hbg, hg, _⟩
  · simp [Value.ownBlock] at hk
  · simp [Value.ownBlock] at hk
    exact hk ▸ obj_lt hg
theorem Kept.transP {S T : Nat → Prop} {a b c : World} (h : Kept S a b) (k : Kept T b c) (hs : ∀ i, i < a.heap.size → T i → S i) : Kept S a c :=
  ⟨k.os.trans h.os, k.tape.trans h.tape, k.output.trans h.output, Nat.le_trans h.size k.size, fun i hi hn => (k.block i (Nat.lt_of_lt_of_le hi h.size) (fun t => hn (hs i hi t))).trans (h.block i hi hn)⟩
theorem spanL_pos (s : Int) : 1 ≤ spanL s := by unfold spanL; split <;> (try split) <;> (try split) <;> decide
theorem spanB_le (s : Int) : spanB s ≤ 7 := by unfold spanB; split <;> (try split) <;> (try split) <;> decide
def RowRP (code bs : List Int) (N p R : Nat) (ao : Option Addr) (cap : Nat) (w : World) (e : Ending) (w' : World) : Prop :=
  ∃ (a : Option Addr) (c : Nat) (l : List Int) (f : Int) (q q' : Nat), e = .returned (.tuple #[.slice a l.length c, .int .i64 f]) ∧ RowR code bs N p [] q l f ∧ Rdr w' R ao cap bs q' ∧ (f = 0 → q' = q) ∧ OwnI w' a c l ∧ Kept (OneB R) w w' ∧
    (∀ k, (Value.slice a l.length c).ownBlock = some k → w.heap.size ≤ k)
set_option maxRecDepth 20000 in
set_option maxHeartbeats 8000000 in
theorem readRow_any (code : List Int) (D R N : Nat) (S : Nat → Prop) (ao : Option Addr) (cap : Nat) (bs : List Int) (p : Nat) (w : World) (hd : DecG code D S w) (hr : Rdr w R ao cap bs p) (hSR : ¬ S R) (hSw : ∀ k, S k → k < w.heap.size) (hs : Small 15 code) (hl : code.length ≤ 320) (hN : N ≤ 400) :
    Calls Tryz.prog 176 #[.pointer (some ⟨R, 0, none⟩), .pointer (some ⟨D, 0, none⟩), .int .i64 (N : Int)] w (RowRP code bs N p R ao cap w) := by
  have HD := Lib.hid hd; have HR := Lib.hid hr; have HS := Lib.hid hs
  have hRw := obj_lt hr.1
  have hAw : ∀ k, (Value.slice ao bs.length cap).ownBlock = some k → k < w.heap.size := fun k hk => own_lt hr.2.1 k hk
  have HAw := Lib.hid hAw
  obtain ⟨L8, hL8⟩ : ∃ L8, L8 = 8 * bs.length := ⟨_, rfl⟩
  have HL8 := Lib.hid hL8
  clear hd hr hs hAw hL8
  go_enter Tryz.func176, Tryz.ntmps176
  go_wp2_with fail
  go_loopw [8, 9, 10, 11, 12, 13, 14] (fun v8 _ _ _ _ _ _ wr => ∃ (a : Option Addr) (c : Nat) (l : List Int) (p' : Nat), v8 = .slice a l.length c ∧ l.length ≤ N ∧ Hid (OwnI wr a c l) ∧ Hid (∀ k, (Value.slice a l.length c).ownBlock = some k → w.heap.size ≤ k) ∧ Hid (Rdr wr R ao cap bs p') ∧ Hid (Kept (OneB R) w wr) ∧
    Hid (∀ q l' f, RowR code bs N p' l q l' f → RowR code bs N p [] q l' f)) (fun v8 _ _ _ _ _ _ _ => match v8 with | .slice _ m _ => N - m | _ => 0)
  case atStart => exact ⟨none, 0, [], p, rfl, by simp, Lib.hid (World.ownsRow_nil _ _ _ _), Lib.hid (fun k hk => by simp [Value.ownBlock] at hk), HR, Lib.hid (Kept.refl _ _), Lib.hid (fun _ _ _ h => h)⟩
  case round =>
    obtain ⟨a, c, l, p', rfl, hlN, HO, HF, HRr, HK, HP⟩ := hrel
    by_cases hlt : (l.length : Int) < N
    · obtain ⟨T, hT⟩ : ∃ T : Nat, min3 15 (8 * bs.length - p') = T := by
        have := HRr.out.2.2.2.1
        obtain ⟨T, h, _⟩ := min3_at (8 * bs.length) p' this
        exact ⟨T, by simpa using h⟩
      have hrc := read_callsG code D S R ao cap bs p' T wr (HD.out.kept HK.out (fun k h e => hSR (by unfold OneB at e; exact e ▸ h))) HRr.out hSR HS.out hl hT
      have HRc := Lib.hid hrc; have HT := Lib.hid hT
      obtain ⟨m, hm⟩ : ∃ m, m = l.length := ⟨_, rfl⟩
      have HM := Lib.hid hm
      have hlN2 : l.length < N := by omega
      have HlN := Lib.hid hlN2
      rw [← hm] at hlt hlN HF ⊢
      clear hrc hT hm hlN2
      go_wp2_with fail
      with_reducible refine HRc.out.mono ?_
      rintro e w1 ⟨s, f, q, rfl, hrs, hr1, hk1⟩
      have hkw := HK.out.trans hk1
      have hst := hrs.step
      have hro : ∀ k, (Value.slice a m c).ownBlock = some k → ¬ OneB R k := fun k h e => by have := HF.out k h; unfold OneB at e; omega
      have hown1 : OwnI w1 a c l := hk1.row HO.out (by rw [← HM.out]; exact hro)
      have HRs := Lib.hid hrs; have HR1 := Lib.hid hr1; have HKw := Lib.hid hkw; have HO1 := Lib.hid hown1
      clear hrs hr1 hkw hro hown1 hk1 HRc HRr HO HK
      by_cases hf : f = 0
      · subst hf
        obtain ⟨x, hx⟩ : ∃ x, x = bitsAt bs q (spanB s) := ⟨_, rfl⟩
        have hx7 : x < 128 := by
          have h1 := bitsAt_lt bs q (spanB s)
          have h2 := Nat.pow_le_pow_right (n := 2) (by decide) (spanB_le s)
          rw [hx]; exact Nat.lt_of_lt_of_le h1 h2
        have HX := Lib.hid hx
        clear hx hst
        go_wp2_with fail
        with_reducible refine (span_any s _).mono ?_
        rintro e w2 ⟨rfl, rfl⟩
        by_cases hfit : q + spanB s ≤ 8 * bs.length
        · have htk := take_yes w1 R ao cap bs q (spanB s) HR1.out (by have := spanB_le s; omega) hfit
          rw [← HX.out] at htk
          have HTk := Lib.hid htk; have HFit := Lib.hid hfit
          clear htk hfit
          go_wp2_with fail
          with_reducible refine HTk.out.mono ?_
          rintro e w3 ⟨rfl, hr3, hk3⟩
          have hown3 : OwnI w3 a c l := hk3.row HO1.out (fun k h e => by have := HF.out k (by rw [HM.out]; exact h); unfold OneB at e; omega)
          have hex := extended_any a c l s (x : Int) (N : Int) w3 hown3 (by omega) (by have := HlN.out; omega)
          rw [← HM.out] at hex
          have HEx := Lib.hid hex; have HR3 := Lib.hid hr3; have HK3 := Lib.hid (HKw.out.trans hk3)
          have wx : IntKind.i64.wrap (x : Int) = (x : Int) := IntWalk.i64_in _ (by omega)
          clear hex hown3 hr3 hk3 HTk HR1 HKw HO1
          go_wp2_with fail
          with_reducible refine HEx.out.mono ?_
          rintro e w4 (⟨hok, hN4, a', c', rfl, hown4, hk4, hnew⟩ | ⟨hno, rfl, hk4⟩)
          · have hl4 := moreL_len l s (x : Int)
            have hsp := spanL_pos s
            have hb4 : ∀ k, (Value.slice a' (moreL l s (x : Int)).length c').ownBlock = some k → w.heap.size ≤ k := fun k h => by
              rcases hnew k h with h | h
              · exact HF.out k (by rw [HM.out]; exact h)
              · exact Nat.le_trans HK3.out.size h
            have hr4 : Rdr w4 R ao cap bs (q + spanB s) := HR3.out.kept hk4 (fun h => by have := HF.out R (by rw [HM.out]; exact h); omega) (fun k h e => by have := HAw.out k h; have := HF.out k (by rw [HM.out]; exact e); omega)
            have hk5 : Kept (OneB R) w w4 := HK3.out.transP hk4 (fun i hi h => by have := HF.out i (by rw [HM.out]; exact h); omega)
            have hp5 : ∀ q2 l' f, RowR code bs N (q + spanB s) (moreL l s (x : Int)) q2 l' f → RowR code bs N p [] q2 l' f := fun q2 l' f h => HP.out q2 l' f (.step HlN.out HT.out HRs.out HFit.out (by rw [← HX.out]; exact hok) (by rw [← HX.out]; exact hN4) (by rw [← HX.out]; exact h))
            obtain ⟨L, hL⟩ : ∃ L, L = moreL l s (x : Int) := ⟨_, rfl⟩
            rw [← hL] at hown4 hb4 hp5 hl4 hN4 ⊢
            have hml : m < L.length := by have := HM.out; omega
            have hml2 : L.length ≤ N := by omega
            obtain ⟨ml, hmm⟩ : ∃ ml, ml = L.length := ⟨_, rfl⟩
            have HMM := Lib.hid hmm
            rw [← hmm] at hml hml2 hb4 ⊢
            have HO4 := Lib.hid hown4; have HF4 := Lib.hid hb4; have HR4 := Lib.hid hr4; have HK4 := Lib.hid hk5; have HP4 := Lib.hid hp5
            clear hown4 hb4 hr4 hk5 hp5 hl4 hN4 hL hmm hok hnew hk4 hsp
            go_wp2
            go_roundw
            case rel => exact ⟨a', c', L, _, by rw [HMM.out], by rw [← HMM.out]; exact hml2, HO4, by rw [← HMM.out]; exact HF4, HR4, HK4, HP4⟩
            case measure => simp; omega
          · have HR4 := Lib.hid (HR3.out.keptNo hk4)
            have HK4 := Lib.hid (HK3.out.transP hk4 (fun i hi h => h.elim))
            have HB := Lib.hid (HP.out p' [] 6 (.bad HlN.out HT.out HRs.out HFit.out (by rw [← HX.out]; exact hno)))
            clear hk4 hno
            go_wp2
            go_ret2
            exact ⟨none, 0, [], 6, p', q + spanB s, rfl, HB.out, HR4.out, fun h => absurd h (by decide), World.ownsRow_nil _ _ _ _, HK4.out, fun k h => by simp [Value.ownBlock] at h⟩
        · have htk := take_no w1 R ao cap bs q (spanB s) HR1.out (.inr (.inr (by omega)))
          have HTk := Lib.hid htk
          have HB := Lib.hid (HP.out p' [] 2 (.short HlN.out HT.out HRs.out (by omega)))
          clear htk hfit
          go_wp2_with fail
          with_reducible refine HTk.out.mono ?_
          rintro e w3 ⟨rfl, hk3⟩
          have HR4 := Lib.hid (HR1.out.keptNo hk3)
          have HK4 := Lib.hid (HKw.out.transP hk3 (fun i hi h => h.elim))
          clear hk3
          go_wp2
          go_ret2
          exact ⟨none, 0, [], 2, p', q, rfl, HB.out, HR4.out, fun h => absurd h (by decide), World.ownsRow_nil _ _ _ _, HK4.out, fun k h => by simp [Value.ownBlock] at h⟩
      · have hf2 : (f == 0) = false := by simp [hf]
        have HB := Lib.hid (HP.out p' [] f (.fail HlN.out HT.out HRs.out hf))
        have HFn := Lib.hid hf
        clear hst
        go_wp2
        go_ret2
        exact ⟨none, 0, [], f, p', q, rfl, HB.out, HR1.out, fun h => absurd h HFn.out, World.ownsRow_nil _ _ _ _, HKw.out, fun k h => by simp [Value.ownBlock] at h⟩
    · have HB := Lib.hid (HP.out p' l 0 (.done (by omega)))
      have hlt2 : ¬ (l.length : Int) < N := by omega
      obtain ⟨m, hm⟩ : ∃ m, m = l.length := ⟨_, rfl⟩
      have HM := Lib.hid hm
      rw [← hm] at hlt hlt2 HF hlN ⊢
      clear hm
      go_wp2
      go_ret2
      exact ⟨a, c, l, 0, p', p', by rw [HM.out]; rfl, HB.out, HRr.out, fun _ => rfl, HO.out, HK.out, by rw [← HM.out]; exact HF.out⟩
end Go.Proofs.YtfmjfgmbjdhogaaGreatDoor

namespace Go.Proofs.YtfmjfgmbjdhogaaGreatDoor
open Go.RowKit
set_option linter.unusedVariables false
set_option linter.unusedSimpArgs false

theorem order19 (w : World) : Calls Tryz.prog 149 #[] w fun e w' => e = .returned (.slice (some ⟨w.heap.size, 0, none⟩) 19 19) ∧ RdI w' w'.heap.size (some ⟨w.heap.size, 0, none⟩) ordL ∧ Kept NoB w w' ∧ w.heap.size < w'.heap.size := by
  go_enter Tryz.func149, Tryz.ntmps149
  go_wp2
  go_ret
  exact ⟨rfl, lit_readsI _ rfl, (Kept.refl _ _).alloc _, by simp⟩
theorem ord_at : ∀ i, i < 19 → 0 ≤ ordL.getD i 0 ∧ ordL.getD i 0 < 19 := by decide
theorem full_ref {ls : List Int} (h : fullB ls = true) : refS ls = 0 := by
  have hm := full_may h
  unfold fullB kindA at h
  rw [if_pos hm] at h
  unfold refS
  rcases kindS_of ls with k | k | k | k | k <;> simp [k] at h ⊢
def CodeRP (bs : List Int) (p n R : Nat) (ao : Option Addr) (cap : Nat) (w : World) (e : Ending) (w' : World) : Prop :=
  Kept (OneB R) w w' ∧ (∃ q, Rdr w' R ao cap bs q ∧ (p + 3 * n ≤ 8 * bs.length → q = p + 3 * n)) ∧
  (if 8 * bs.length < p + 3 * n then e = .returned (.tuple #[.pointer none, .int .i64 2])
   else if fullB (codeT bs p n) = false then e = .returned (.tuple #[.pointer none, .int .i64 6])
   else ∃ D, e = .returned (.tuple #[.pointer (some ⟨D, 0, none⟩), .int .i64 0]) ∧ DecG (codeT bs p n) D (fun k => w.heap.size ≤ k) w')
set_option maxRecDepth 20000 in
set_option maxHeartbeats 8000000 in
theorem readCode_any (bs : List Int) (p n R : Nat) (ao : Option Addr) (cap : Nat) (w : World) (hr : Rdr w R ao cap bs p) (hn : n ≤ 19) :
    Calls Tryz.prog 175 #[.pointer (some ⟨R, 0, none⟩), .int .i64 (n : Int)] w (CodeRP bs p n R ao cap w) := by
  obtain ⟨i0, hi, hz0, hz1, hz2⟩ := info_parts infoI
  have hlf := left_any w R ao cap bs p hr
  have hRw := obj_lt hr.1
  have hp8 := hr.2.2.2.1
  have hbl := hr.2.2.1
  have HLf := Lib.hid hlf; have HR := Lib.hid hr
  obtain ⟨L8, hL8⟩ : ∃ L8, L8 = 8 * bs.length := ⟨_, rfl⟩
  clear hlf hr
  go_enter Tryz.func175, Tryz.ntmps175
  go_wp2_with fail
  with_reducible refine HLf.out.mono ?_
  rintro e w1 ⟨rfl, hk1⟩
  have HR1 := Lib.hid (HR.out.keptNo hk1); have HK1 := Lib.hid hk1
  clear hk1 HLf
  have e1 : (8 : Int) * (bs.length : Int) = (L8 : Int) := by omega
  rw [e1]
  by_cases hsh : L8 < p + 3 * n
  · have hsh2 : (L8 : Int) - p < 3 * n := by omega
    have hif : 8 * bs.length < p + 3 * n := by omega
    have HIf := Lib.hid hif
    clear hif hL8 e1
    go_wp2
    go_ret2
    refine ⟨HK1.out.mono (fun _ _ h => h.elim), ⟨p, HR1.out, fun h => by have := HIf.out; omega⟩, ?_⟩
    rw [if_pos HIf.out]
    rfl
  · have hsh2 : ¬ (L8 : Int) - p < 3 * n := by omega
    have hif : ¬ 8 * bs.length < p + 3 * n := by omega
    have HIf := Lib.hid hif; have HL8 := Lib.hid hL8
    clear hif hL8 e1 hbl
    go_wp2_with (at_make; refine wpList_make_full _ rfl _ _ _ rfl 0 3 i0 (.int .i64 0) 1 Tryz.underlying30 hi hz0 hz1 .i64 .i64 _ _ 19 rfl rfl rfl rfl (by rw [hz2]; omega) (by unfold maxLen; omega) (Nat.zero_le _) ?_)
    intro w2 hown hgrow
    obtain ⟨G, hG⟩ : ∃ G, G = w1.heap.size := ⟨_, rfl⟩
    have hGw : w.heap.size ≤ G := by rw [hG]; exact HK1.out.size
    rw [← hG] at hown ⊢
    have hk2 : Kept NoB w w2 := HK1.out.grown hgrow (fun _ _ e => by cases e)
    have hO2 : w2.ownsRow 0 3 1 (.slice (some ⟨G, 0, none⟩) 19 19) 19 ((codeT bs p 0).map (.int .i64)) := by
      unfold codeT; rw [List.map_replicate, ← toList_madeCells_one]; exact hown
    have HK2 := Lib.hid hk2; have HO2 := Lib.hid hO2; have HR2 := Lib.hid (HR.out.keptNo hk2)
    clear hown hgrow hG hk2 hO2 HR1 HK1
    go_wp2_with fail
    with_reducible refine (order19 w2).mono ?_
    rintro e w3 ⟨rfl, hor, hk3, hlt3⟩
    obtain ⟨H, hH⟩ : ∃ H, H = w2.heap.size := ⟨_, rfl⟩
    have hHw : w.heap.size ≤ H := by rw [hH]; exact HK2.out.size
    have hHR : H ≠ R := by have := obj_lt HR2.out.1; omega
    have hHG : H ≠ G := by have := own_lt HO2.out G rfl; omega
    rw [← hH] at hor ⊢
    have HOr := Lib.hid hor; have HK3 := Lib.hid (HK2.out.trans hk3); have HR3 := Lib.hid (HR2.out.keptNo hk3); have HO3 := Lib.hid (hk3.row HO2.out (fun _ _ h => h))
    clear hor hk3 hlt3 hH HR2 HO2 HK2
    have hcw : ∀ i, i < 19 → w3.cell? ⟨H, i, none⟩ = some (.int .i64 (ordL.getD i 0)) := fun i hi => by
      obtain ⟨g, o, h1, h2, h3⟩ := HOr.out i hi
      cases h1
      simpa using h3
    have HCw := Lib.hid hcw
    clear hcw HOr
    have hn0 : (0 : Int) ≤ n := by omega
    go_wp2_with fail
    go_loopw [21, 8, 9, 10] (fun v21 _ _ _ wr => ∃ (i : Nat), v21 = .int .i64 (i : Int) ∧ i ≤ n ∧ Hid (wr.ownsRow 0 3 1 (.slice (some ⟨G, 0, none⟩) 19 19) 19 ((codeT bs p i).map (.int .i64))) ∧ Hid (Rdr wr R ao cap bs (p + 3 * i)) ∧ Hid (Kept (OneB R) w wr) ∧ Hid (∀ i, i < 19 → wr.cell? ⟨H, i, none⟩ = some (.int .i64 (ordL.getD i 0)))) (fun v21 _ _ _ _ => n - (intOf v21).toNat)
    case atStart => exact ⟨0, rfl, by omega, HO3, HR3, Lib.hid (HK3.out.mono (fun _ _ h => h.elim)), HCw⟩
    case round =>
      clear HO3 HR3 HK3 HCw
      obtain ⟨i, rfl, hin, HO, HRr, HK, HC⟩ := hrel
      by_cases hlt : i < n
      · have hlt2 : (i : Int) < n := by omega
        have hc := HC.out i (by omega)
        obtain ⟨o1, o2⟩ := ord_at i (by omega)
        obtain ⟨k, hk⟩ : ∃ k : Nat, ordL.getD i 0 = (k : Int) := ⟨(ordL.getD i 0).toNat, by omega⟩
        rw [hk] at hc
        have hk19 : k < 19 := by omega
        have hk19' : (k : Int) < 19 := by omega
        have htk := take_yes wr R ao cap bs (p + 3 * i) 3 HRr.out (by decide) (by have := HIf.out; omega)
        have hct : codeT bs p (i + 1) = (codeT bs p i).set k ((bitsAt bs (p + 3 * i) 3 : Nat) : Int) := by rw [codeT, hk, Int.toNat_natCast]
        have hx8 := bitsAt_lt bs (p + 3 * i) 3
        obtain ⟨x, hx⟩ : ∃ x, x = bitsAt bs (p + 3 * i) 3 := ⟨_, rfl⟩
        rw [← hx] at htk hct hx8
        rw [show ((3 : Nat) : Int) = 3 from rfl] at htk
        have hx8' : x < 8 := hx8
        have wx : IntKind.i64.wrap (x : Int) = (x : Int) := IntWalk.i64_in _ (by omega)
        have HTk := Lib.hid htk; have HCt := Lib.hid hct
        clear htk hct hx8 hx hk o1 o2 HRr
        go_wp2_with fail
        with_reducible refine HTk.out.mono ?_
        rintro e w5 ⟨rfl, hr5, hk5⟩
        have hO5 := hk5.row HO.out (fun k e h => by simp [Value.ownBlock] at e; unfold OneB at h; omega)
        have hGu : ∃ u, w5.cell? ⟨G, k, none⟩ = some u := by
          rw [hO5.cellAt k (by omega)]
          exact ⟨_, List.getElem?_eq_getElem (by rw [List.length_map, codeT_len]; omega)⟩
        obtain ⟨u, hu⟩ := hGu
        have hfz := hO5.frozenAt k
        have hst := (hO5.stored k (.int .i64 (x : Int))).1
        rw [← List.map_set, ← HCt.out] at hst
        have hks : Kept (fun j => j = G) w5 (w5.setCell ⟨G, k, none⟩ (.int .i64 (x : Int))) := Kept.setCell (S := fun j => j = G) (p := ⟨G, k, none⟩) (Kept.refl _ w5) (.inl rfl) _
        have hrr : Rdr (w5.setCell ⟨G, k, none⟩ (.int .i64 (x : Int))) R ao cap bs (p + 3 * (i + 1)) := by
          have h := hr5.kept hks (by omega) (fun k h e => by have := own_lt (HR.out.2.1) k h; omega)
          have e : p + 3 * i + 3 = p + 3 * (i + 1) := by omega
          rw [e] at h; exact h
        have hHn : (fun j => j = G) H → False := fun e => hHG e
        have hcc : ∀ i, i < 19 → (w5.setCell ⟨G, k, none⟩ (.int .i64 (x : Int))).cell? ⟨H, i, none⟩ = some (.int .i64 (ordL.getD i 0)) := fun j hj => by
          have h := HC.out j hj
          have h5 := (World.cell?_of_block (hk5.block _ (World.block_lt_of_cell? wr _ h) (fun e => by unfold OneB at e; exact hHR e))).trans h
          exact (World.cell?_of_block (hks.block _ (World.block_lt_of_cell? w5 _ h5) hHn)).trans h5
        have HR5 := Lib.hid hrr; have HC5 := Lib.hid hcc; have HO5 := Lib.hid hst
        have HK5 := Lib.hid (show Kept (OneB R) w (w5.setCell ⟨G, k, none⟩ (.int .i64 (x : Int))) from Kept.setCell (p := ⟨G, k, none⟩) (HK.out.trans hk5) (.inr hGw) _)
        clear hrr hcc hst hHn hks hr5 hk5 hO5 hc HTk HO HK HC
        go_wp2
        go_roundw
        case rel => exact ⟨i + 1, by go_num, by omega, HO5, HR5, HK5, HC5⟩
        case measure => simp [intOf]; omega
      · have hin2 : i = n := by omega
        subst hin2
        have hlt2 : ¬ (i : Int) < i := by omega
        have hrd : RdI wr wr.heap.size (some ⟨G, 0, none⟩) (codeT bs p i) := own_readsI HO.out (codeT_len _ _ _)
        have hsm := small7_15 (codeT_small bs p i)
        have hfu := full_any (some ⟨G, 0, none⟩) 19 _ (codeT bs p i) wr hrd (fun z hz => by have := hsm z hz; omega)
        rw [codeT_len] at hfu
        have HFu := Lib.hid hfu; have HRd := Lib.hid hrd
        clear hfu hrd hlt2
        by_cases hfb : fullB (codeT bs p i) = true
        · have HFb := Lib.hid hfb
          rw [hfb] at HFu
          clear hfb
          go_wp2_with fail
          with_reducible refine HFu.out.mono ?_
          rintro e w5 ⟨rfl, hk5⟩
          have hnw := new_calls2 (some ⟨G, 0, none⟩) 19 _ (codeT bs p i) w5 (HRd.out.keptNo hk5) hsm (by rw [codeT_len]; decide) (full_ref HFb.out)
          rw [codeT_len] at hnw
          have HNw := Lib.hid hnw; have HR5 := Lib.hid (HRr.out.keptNo hk5); have HK5 := Lib.hid (HK.out.trans (hk5.mono (fun _ _ h => h.elim)))
          clear hnw hk5
          go_wp2_with fail
          with_reducible refine HNw.out.mono ?_
          rintro e w6 ⟨D, rfl, hdn, hk6⟩
          have HR6 := Lib.hid (HR5.out.keptNo hk6); have HK6 := Lib.hid (HK5.out.trans (hk6.mono (fun _ _ h => h.elim))); have HDn := Lib.hid (hdn.toG.mono (fun k (h : w5.heap.size ≤ k) => Nat.le_trans HK5.out.size h))
          clear hdn hk6
          go_wp2
          go_ret2
          refine ⟨HK6.out, ⟨_, HR6.out, fun _ => rfl⟩, ?_⟩
          rw [if_neg HIf.out, if_neg (by rw [HFb.out]; decide)]
          exact ⟨D, rfl, HDn.out⟩
        · have hfb2 : fullB (codeT bs p i) = false := by simpa using hfb
          have HFb := Lib.hid hfb2
          rw [hfb2] at HFu
          clear hfb hfb2
          go_wp2_with fail
          with_reducible refine HFu.out.mono ?_
          rintro e w5 ⟨rfl, hk5⟩
          have HR5 := Lib.hid (HRr.out.keptNo hk5); have HK5 := Lib.hid (HK.out.trans (hk5.mono (fun _ _ h => h.elim)))
          clear hk5
          go_wp2
          go_ret2
          refine ⟨HK5.out, ⟨_, HR5.out, fun _ => rfl⟩, ?_⟩
          rw [if_neg HIf.out, if_pos HFb.out]
          rfl
end Go.Proofs.YtfmjfgmbjdhogaaGreatDoor

namespace Go.Proofs.YtfmjfgmbjdhogaaGreatDoor
open Go.RowKit
set_option linter.unusedVariables false
set_option linter.unusedSimpArgs false

inductive Md where
  | block | stored | bytes (n : Nat) | head | sym (lit dist : List Int) | fin
def fixL : List Int := List.replicate 144 8 ++ List.replicate 112 9 ++ List.replicate 24 7 ++ List.replicate 8 8
def fixD : List Int := List.replicate 32 5
def endM (last : Bool) : Md := if last then .fin else .block
def lenB (s : Int) : Nat := if s = 285 then 258 else lb (s - 257).toNat
def lenX (s : Int) : Nat := if s = 285 then 0 else le4 (s - 257).toNat
def SymR (bs : List Int) (code : List Int) (p : Nat) (s f : Int) (q : Nat) : Prop := ∃ T : Nat, min3 15 (8 * bs.length - p) = T ∧ ReadS code T (bitsAt bs p T) p s f q
def ItemR (bs : List Int) (most p : Nat) (m : Md) (last : Bool) (out : List Int) (e : Int) (p' : Nat) (m' : Md) (last' : Bool) (out' : List Int) : Prop :=
  match m with
  | .fin => False
  | .block => if 8 * bs.length < p + 3 then e = 2
    else if bitsAt bs p 3 / 2 = 0 then e = 0 ∧ p' = p + 3 ∧ m' = .stored ∧ last' = (bitsAt bs p 3 % 2 == 1) ∧ out' = out
    else if bitsAt bs p 3 / 2 = 1 then e = 0 ∧ p' = p + 3 ∧ m' = .sym fixL fixD ∧ last' = (bitsAt bs p 3 % 2 == 1) ∧ out' = out
    else if bitsAt bs p 3 / 2 = 2 then e = 0 ∧ p' = p + 3 ∧ m' = .head ∧ last' = (bitsAt bs p 3 % 2 == 1) ∧ out' = out
    else e = 6
  | .stored => if 8 * bs.length < up8 p + 32 then e = 2
    else if bitsAt bs (up8 p) 16 + bitsAt bs (up8 p + 16) 16 ≠ 65535 then e = 6
    else e = 0 ∧ p' = up8 p + 32 ∧ m' = (if bitsAt bs (up8 p) 16 = 0 then endM last else .bytes (bitsAt bs (up8 p) 16)) ∧ last' = last ∧ out' = out
  | .bytes n => if 8 * bs.length < p + 8 then e = 2
    else if most ≤ out.length then e = 5
    else e = 0 ∧ p' = p + 8 ∧ m' = (if n ≤ 1 then endM last else .bytes (n - 1)) ∧ last' = last ∧ out' = out ++ [((bitsAt bs p 8 : Nat) : Int)]
  | .head => ∃ lit dist f q, HeadR bs p lit dist f q ∧ if f = 0 then e = 0 ∧ p' = q ∧ m' = .sym lit dist ∧ last' = last ∧ out' = out else e = f
  | .sym lit dist => ∃ s f q, SymR bs lit p s f q ∧
    if f ≠ 0 then e = f
    else if s < 256 then if out.length < most then e = 0 ∧ p' = q ∧ m' = .sym lit dist ∧ last' = last ∧ out' = out ++ [s] else e = 5
    else if s = 256 then e = 0 ∧ p' = q ∧ m' = endM last ∧ last' = last ∧ out' = out
    else if 285 < s then e = 3
    else if 8 * bs.length < q + lenX s then e = 2
    else ∃ d f2 q2, SymR bs dist (q + lenX s) d f2 q2 ∧
      if f2 ≠ 0 then e = f2
      else if 29 < d then e = 3
      else if 8 * bs.length < q2 + de d.toNat then e = 2
      else if out.length < db d.toNat + bitsAt bs q2 (de d.toNat) then e = 4
      else if most < out.length + (lenB s + bitsAt bs q (lenX s)) then e = 5
      else e = 0 ∧ p' = q2 + de d.toNat ∧ m' = .sym lit dist ∧ last' = last ∧ out' = copyN (db d.toNat + bitsAt bs q2 (de d.toNat)) (lenB s + bitsAt bs q (lenX s)) out
inductive Steps (bs : List Int) (most : Nat) : Nat → Md → Bool → List Int → Nat → Md → Bool → List Int → Prop
  | refl {p : Nat} {m : Md} {last : Bool} {out : List Int} : Steps bs most p m last out p m last out
  | step {p p1 p2 : Nat} {m m1 m2 : Md} {l l1 l2 : Bool} {o o1 o2 : List Int} : ItemR bs most p m l o 0 p1 m1 l1 o1 → Steps bs most p1 m1 l1 o1 p2 m2 l2 o2 → Steps bs most p m l o p2 m2 l2 o2
theorem Steps.one {bs : List Int} {most p p1 : Nat} {m m1 : Md} {l l1 : Bool} {o o1 : List Int} (h : ItemR bs most p m l o 0 p1 m1 l1 o1) : Steps bs most p m l o p1 m1 l1 o1 := .step h .refl
theorem Steps.trans {bs : List Int} {most p p1 p2 : Nat} {m m1 m2 : Md} {l l1 l2 : Bool} {o o1 o2 : List Int} (h : Steps bs most p m l o p1 m1 l1 o1) (h2 : Steps bs most p1 m1 l1 o1 p2 m2 l2 o2) : Steps bs most p m l o p2 m2 l2 o2 := by
  induction h with
  | refl => exact h2
  | step a _ ih => exact .step a (ih h2)
def CodeOk (c : List Int) : Prop := c.length ≤ 320 ∧ Small 15 c ∧ refS c = 0
def Md.ok : Md → Prop
  | .sym lit dist => CodeOk lit ∧ CodeOk dist
  | _ => True
theorem SymR.det {bs code : List Int} {p : Nat} {s s2 f f2 : Int} {q q2 : Nat} (hc : CodeOk code) (h : SymR bs code p s f q) (h2 : SymR bs code p s2 f2 q2) : s = s2 ∧ f = f2 ∧ q = q2 := by
  obtain ⟨T, hT, h⟩ := h
  obtain ⟨T2, hT2, h2⟩ := h2
  rw [hT] at hT2
  cases Int.ofNat.inj hT2
  exact read_det code hc.1 hc.2.1 _ _ _ _ _ _ _ _ _ h h2
theorem ItemR.det {bs : List Int} {most p : Nat} {m : Md} {last : Bool} {out : List Int} {e e2 : Int} {p1 p2 : Nat} {m1 m2 : Md} {l1 l2 : Bool} {o1 o2 : List Int} (hm : m.ok) (h : ItemR bs most p m last out e p1 m1 l1 o1) (h2 : ItemR bs most p m last out e2 p2 m2 l2 o2) :
    e = e2 ∧ (e = 0 → p1 = p2 ∧ m1 = m2 ∧ l1 = l2 ∧ o1 = o2) := by
  cases m with
  | fin => exact h.elim
  | block =>
    unfold ItemR at h h2
    simp only at h h2
    by_cases c1 : 8 * bs.length < p + 3
    · rw [if_pos c1] at h h2; subst h h2; exact ⟨rfl, fun h => absurd h (by decide)⟩
    · rw [if_neg c1] at h h2
      by_cases c2 : bitsAt bs p 3 / 2 = 0
      · rw [if_pos c2] at h h2; obtain ⟨rfl, rfl, rfl, rfl, rfl⟩ := h; obtain ⟨rfl, rfl, rfl, rfl, rfl⟩ := h2; exact ⟨rfl, fun _ => ⟨rfl, rfl, rfl, rfl⟩⟩
      · rw [if_neg c2] at h h2
        by_cases c3 : bitsAt bs p 3 / 2 = 1
        · rw [if_pos c3] at h h2; obtain ⟨rfl, rfl, rfl, rfl, rfl⟩ := h; obtain ⟨rfl, rfl, rfl, rfl, rfl⟩ := h2; exact ⟨rfl, fun _ => ⟨rfl, rfl, rfl, rfl⟩⟩
        · rw [if_neg c3] at h h2
          by_cases c4 : bitsAt bs p 3 / 2 = 2
          · rw [if_pos c4] at h h2; obtain ⟨rfl, rfl, rfl, rfl, rfl⟩ := h; obtain ⟨rfl, rfl, rfl, rfl, rfl⟩ := h2; exact ⟨rfl, fun _ => ⟨rfl, rfl, rfl, rfl⟩⟩
          · rw [if_neg c4] at h h2; subst h h2; exact ⟨rfl, fun h => absurd h (by decide)⟩
  | stored =>
    unfold ItemR at h h2
    simp only at h h2
    by_cases c1 : 8 * bs.length < up8 p + 32
    · rw [if_pos c1] at h h2; subst h h2; exact ⟨rfl, fun h => absurd h (by decide)⟩
    · rw [if_neg c1] at h h2
      by_cases c2 : bitsAt bs (up8 p) 16 + bitsAt bs (up8 p + 16) 16 ≠ 65535
      · rw [if_pos c2] at h h2; subst h h2; exact ⟨rfl, fun h => absurd h (by decide)⟩
      · rw [if_neg c2] at h h2; obtain ⟨rfl, rfl, rfl, rfl, rfl⟩ := h; obtain ⟨rfl, rfl, rfl, rfl, rfl⟩ := h2; exact ⟨rfl, fun _ => ⟨rfl, rfl, rfl, rfl⟩⟩
  | bytes n =>
    unfold ItemR at h h2
    simp only at h h2
    by_cases c1 : 8 * bs.length < p + 8
    · rw [if_pos c1] at h h2; subst h h2; exact ⟨rfl, fun h => absurd h (by decide)⟩
    · rw [if_neg c1] at h h2
      by_cases c2 : most ≤ out.length
      · rw [if_pos c2] at h h2; subst h h2; exact ⟨rfl, fun h => absurd h (by decide)⟩
      · rw [if_neg c2] at h h2; obtain ⟨rfl, rfl, rfl, rfl, rfl⟩ := h; obtain ⟨rfl, rfl, rfl, rfl, rfl⟩ := h2; exact ⟨rfl, fun _ => ⟨rfl, rfl, rfl, rfl⟩⟩
  | head =>
    unfold ItemR at h h2
    simp only at h h2
    obtain ⟨li, di, f, q, hh, h⟩ := h
    obtain ⟨li2, di2, f2, q2, hh2, h2⟩ := h2
    obtain ⟨rfl, rfl, rfl, hq⟩ := hh.det hh2
    by_cases c : f = 0
    · rw [if_pos c] at h h2
      have := hq c
      subst this
      obtain ⟨rfl, rfl, rfl, rfl, rfl⟩ := h; obtain ⟨rfl, rfl, rfl, rfl, rfl⟩ := h2; exact ⟨rfl, fun _ => ⟨rfl, rfl, rfl, rfl⟩⟩
    · rw [if_neg c] at h h2
      subst h h2
      exact ⟨rfl, fun h => absurd h c⟩
  | sym lit dist =>
    unfold ItemR at h h2
    simp only at h h2
    obtain ⟨s, f, q, hh, h⟩ := h
    obtain ⟨s2, f2, q2, hh2, h2⟩ := h2
    obtain ⟨rfl, rfl, rfl⟩ := hh.det hm.1 hh2
    by_cases c1 : f ≠ 0
    · rw [if_pos c1] at h h2; subst h h2; exact ⟨rfl, fun h => absurd h c1⟩
    · rw [if_neg c1] at h h2
      by_cases c2 : s < 256
      · rw [if_pos c2] at h h2
        by_cases c3 : out.length < most
        · rw [if_pos c3] at h h2; obtain ⟨rfl, rfl, rfl, rfl, rfl⟩ := h; obtain ⟨rfl, rfl, rfl, rfl, rfl⟩ := h2; exact ⟨rfl, fun _ => ⟨rfl, rfl, rfl, rfl⟩⟩
        · rw [if_neg c3] at h h2; subst h h2; exact ⟨rfl, fun h => absurd h (by decide)⟩
      · rw [if_neg c2] at h h2
        by_cases c3 : s = 256
        · rw [if_pos c3] at h h2; obtain ⟨rfl, rfl, rfl, rfl, rfl⟩ := h; obtain ⟨rfl, rfl, rfl, rfl, rfl⟩ := h2; exact ⟨rfl, fun _ => ⟨rfl, rfl, rfl, rfl⟩⟩
        · rw [if_neg c3] at h h2
          by_cases c4 : 285 < s
          · rw [if_pos c4] at h h2; subst h h2; exact ⟨rfl, fun h => absurd h (by decide)⟩
          · rw [if_neg c4] at h h2
            by_cases c5 : 8 * bs.length < q + lenX s
            · rw [if_pos c5] at h h2; subst h h2; exact ⟨rfl, fun h => absurd h (by decide)⟩
            · rw [if_neg c5] at h h2
              obtain ⟨d, g, r, hd, h⟩ := h
              obtain ⟨d2, g2, r2, hd2, h2⟩ := h2
              obtain ⟨rfl, rfl, rfl⟩ := hd.det hm.2 hd2
              by_cases c6 : g ≠ 0
              · rw [if_pos c6] at h h2; subst h h2; exact ⟨rfl, fun h => absurd h c6⟩
              · rw [if_neg c6] at h h2
                by_cases c7 : 29 < d
                · rw [if_pos c7] at h h2; subst h h2; exact ⟨rfl, fun h => absurd h (by decide)⟩
                · rw [if_neg c7] at h h2
                  by_cases c8 : 8 * bs.length < r + de d.toNat
                  · rw [if_pos c8] at h h2; subst h h2; exact ⟨rfl, fun h => absurd h (by decide)⟩
                  · rw [if_neg c8] at h h2
                    by_cases c9 : out.length < db d.toNat + bitsAt bs r (de d.toNat)
                    · rw [if_pos c9] at h h2; subst h h2; exact ⟨rfl, fun h => absurd h (by decide)⟩
                    · rw [if_neg c9] at h h2
                      by_cases c10 : most < out.length + (lenB s + bitsAt bs q (lenX s))
                      · rw [if_pos c10] at h h2; subst h h2; exact ⟨rfl, fun h => absurd h (by decide)⟩
                      · rw [if_neg c10] at h h2; obtain ⟨rfl, rfl, rfl, rfl, rfl⟩ := h; obtain ⟨rfl, rfl, rfl, rfl, rfl⟩ := h2; exact ⟨rfl, fun _ => ⟨rfl, rfl, rfl, rfl⟩⟩
end Go.Proofs.YtfmjfgmbjdhogaaGreatDoor

namespace Go.Proofs.YtfmjfgmbjdhogaaGreatDoor
open Go.RowKit
set_option linter.unusedVariables false

end Go.Proofs.YtfmjfgmbjdhogaaGreatDoor

namespace Go.Proofs.YtfmjfgmbjdhogaaGreatDoor

theorem num_set_last (bs : List Int) (L : Nat) (hL : bs.length = L + 1) (u : Int) : num (bs.set L u) + 256 ^ L * (bs.getD L 0).toNat = num bs + 256 ^ L * u.toNat := by
  have e : bs = bs.take L ++ [bs.getD L 0] := by
    have h := List.take_succ_eq_append_getElem (l := bs) (i := L) (by omega)
    rw [List.take_of_length_le (by omega)] at h
    have g : bs.getD L 0 = bs[L] := by simp [List.getD, hL]
    rw [g]; exact h
  have hl : (bs.take L).length = L := by rw [List.length_take]; omega
  have e2 : bs.set L u = bs.take L ++ [u] := by
    conv => lhs; rw [e]
    rw [List.set_append_right _ _ (by omega), hl]
    simp
  have n1 : num bs = num (bs.take L) + 256 ^ L * (bs.getD L 0).toNat := by
    have := num_append (bs.take L) [bs.getD L 0]
    rw [← e, hl] at this
    simpa [num] using this
  have n2 : num (bs.set L u) = num (bs.take L) + 256 ^ L * u.toNat := by
    rw [e2, num_append, hl]; simp [num]
  omega

theorem top_lt (bs : List Int) (_h : AllB bs) (L q : Nat) (hL : bs.length = L + 1) (hn : num bs < 2 ^ (8 * L + q)) : (bs.getD L 0).toNat < 2 ^ q := by
  have e : bs = bs.take L ++ [bs.getD L 0] := by
    have h := List.take_succ_eq_append_getElem (l := bs) (i := L) (by omega)
    rw [List.take_of_length_le (by omega)] at h
    have g : bs.getD L 0 = bs[L] := by simp [List.getD, hL]
    rw [g]; exact h
  have hl : (bs.take L).length = L := by rw [List.length_take]; omega
  have n1 := num_append (bs.take L) [bs.getD L 0]
  rw [← e, hl, pow256] at n1
  simp only [num, Nat.mul_zero, Nat.add_zero] at n1
  rw [Nat.pow_add] at hn
  have : 2 ^ (8 * L) * (bs.getD L 0).toNat < 2 ^ (8 * L) * 2 ^ q := by omega
  exact Nat.lt_of_mul_lt_mul_left this

def putByte (z : Int) (rest q : Nat) : Int := bits .or .u8 z (IntKind.u8.wrap (IntKind.u64.wrap ((rest : Int) * 2 ^ q)))

theorem putByte_eq (z : Int) (rest q : Nat) (hz : 0 ≤ z) (hq : q < 8) (hzq : z.toNat < 2 ^ q) :
    putByte z rest q = ((z.toNat + rest % 2 ^ (8 - q) * 2 ^ q : Nat) : Int) := by
  obtain ⟨y, rfl⟩ := Int.eq_ofNat_of_zero_le hz
  simp only [Int.toNat_natCast] at hzq ⊢
  unfold putByte
  have e1 : ((rest : Int) * 2 ^ q) = ((rest * 2 ^ q : Nat) : Int) := by push_cast; rfl
  have hp : 2 ^ q ≤ 2 ^ 7 := pow_le_pow2 (by omega)
  have e2 : IntKind.u8.wrap (IntKind.u64.wrap ((rest * 2 ^ q : Nat) : Int)) = ((rest * 2 ^ q % 256 : Nat) : Int) := by
    rw [IntKind.wrap_u64, IntKind.wrap_u8']
    omega
  have e3 : rest * 2 ^ q % 256 = rest % 2 ^ (8 - q) * 2 ^ q := by
    have : (256 : Nat) = 2 ^ (8 - q) * 2 ^ q := by rw [← Nat.pow_add]; rw [show 8 - q + q = 8 from by omega]
    rw [this, Nat.mul_mod_mul_right]
  rw [e1, e2, u8_or_nat y _ (by omega) (Nat.mod_lt _ (by decide)), e3, or_shift _ _ _ hzq]

theorem put_step (bs : List Int) (h : AllB bs) (L q rest left now : Nat) (hL : bs.length = L + 1) (hq : q < 8) (hn : num bs < 2 ^ (8 * L + q)) (hr : rest < 2 ^ left)
    (hnow : now = 8 - q ∧ 8 - q ≤ left ∨ now = left ∧ left ≤ 8 - q) :
    AllB (bs.set L (putByte (bs.getD L 0) rest q)) ∧ num (bs.set L (putByte (bs.getD L 0) rest q)) = num bs + rest % 2 ^ now * 2 ^ (8 * L + q) ∧
      num (bs.set L (putByte (bs.getD L 0) rest q)) < 2 ^ (8 * L + q + now) := by
  have hz := h.getD L
  have ht := top_lt bs h L q hL hn
  have hb := putByte_eq (bs.getD L 0) rest q hz.1 hq ht
  have hs := num_set_last bs L hL (putByte (bs.getD L 0) rest q)
  have e : rest % 2 ^ (8 - q) = rest % 2 ^ now := by
    rcases hnow with ⟨h1, h2⟩ | ⟨h1, h2⟩
    · rw [h1]
    · rw [h1, Nat.mod_eq_of_lt hr, Nat.mod_eq_of_lt (Nat.lt_of_lt_of_le hr (pow_le_pow2 h2))]
  rw [e] at hb
  generalize putByte (bs.getD L 0) rest q = u at hb hs ⊢
  generalize bs.getD L 0 = z at hb hs ht hz
  have hlt : rest % 2 ^ now < 2 ^ now := Nat.mod_lt _ (Nat.pow_pos (by decide))
  generalize rest % 2 ^ now = r at hb hlt ⊢
  have hu : u.toNat = z.toNat + r * 2 ^ q := by omega
  have hnum : num (bs.set L u) = num bs + r * 2 ^ (8 * L + q) := by
    rw [hu, pow256, Nat.mul_add] at hs
    have : 2 ^ (8 * L) * (r * 2 ^ q) = r * 2 ^ (8 * L + q) := by rw [Nat.pow_add, ← Nat.mul_assoc, Nat.mul_comm (2 ^ (8 * L)) r, Nat.mul_assoc]
    omega
  have hlt2 : z.toNat + r * 2 ^ q < 256 := by
    have h8 : 2 ^ now ≤ 2 ^ (8 - q) := pow_le_pow2 (by omega)
    have : (r + 1) * 2 ^ q ≤ 2 ^ (8 - q) * 2 ^ q := Nat.mul_le_mul_right _ (by omega)
    rw [← Nat.pow_add, show 8 - q + q = 8 from by omega, Nat.add_mul] at this
    omega
  refine ⟨?_, hnum, ?_⟩
  · intro b hb'
    rcases List.mem_or_eq_of_mem_set hb' with h1 | h1
    · exact h b h1
    · omega
  · rw [hnum, Nat.pow_add 2 (8 * L + q) now]
    have : (r + 1) * 2 ^ (8 * L + q) ≤ 2 ^ now * 2 ^ (8 * L + q) := Nat.mul_le_mul_right _ (by omega)
    rw [Nat.add_mul, Nat.mul_comm (2 ^ now)] at this
    omega

theorem put_parts (V m now : Nat) : V % 2 ^ m + V / 2 ^ m % 2 ^ now * 2 ^ m = V % 2 ^ (m + now) := by
  rw [Nat.pow_add, Nat.mod_mul]
  rw [Nat.mul_comm (2 ^ m)]
theorem div_lt_left (V m n : Nat) (h : V < 2 ^ n) (hm : m ≤ n) : V / 2 ^ m < 2 ^ (n - m) := by
  rw [Nat.div_lt_iff_lt_mul (Nat.pow_pos (by decide)), ← Nat.pow_add, show n - m + m = n from by omega]
  exact h
theorem num_zero_last (bs : List Int) : num (bs ++ [0]) = num bs := by rw [num_append]; simp [num]
theorem AllB.snoc {bs : List Int} (h : AllB bs) (z : Int) (hz : 0 ≤ z ∧ z < 256) : AllB (bs ++ [z]) := by
  intro b hb
  rcases List.mem_append.1 hb with h1 | h1
  · exact h b h1
  · simp at h1; subst h1; exact hz
end Go.Proofs.YtfmjfgmbjdhogaaGreatDoor
