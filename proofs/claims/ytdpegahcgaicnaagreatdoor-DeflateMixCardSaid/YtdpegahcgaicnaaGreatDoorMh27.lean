/-
  deflate.bestLens and Dynamic, of tokens that may be and of such as may not.
  deflate.Stored of bytes that are there; of none nothing is asked.
  A row of numbers, and a copy of it; a source of bytes in pieces.
  A source of bytes in pieces: NewSource, At, size, Next.
  A sink of bytes: NewSink, Left, Len, Bytes, Write; within whatever object it lies.
-/
import Derived.Test.YtdpegahcgaicnaaGreatDoorMh26
import Derived.Deep.DeepCutAuto
import Derived.Deep.RegionHeld3
import Derived.BigRegion
import Derived.Deep.RegionLaw
namespace Go.Proofs.YtdpegahcgaicnaaGreatDoor
open Go.RowKit
set_option linter.unusedVariables false
set_option linter.unusedSimpArgs false
set_option maxRecDepth 20000

/-- The beginning of an own row. -/
def OwnT (w : World) (a : Option Addr) (c : Nat) (l : List Int) : Prop := ∃ g N n, ∃ Z : List Int, a = some ⟨g, 0, none⟩ ∧ w.ownsRow 0 3 1 (.slice (some ⟨g, 0, none⟩) N c) N (Z.map (.int .i64)) ∧ Z.length = N ∧ l = Z.take n
theorem OwnT.kept {S : Nat → Prop} {w w' : World} {a : Option Addr} {c : Nat} {l : List Int} (h : OwnT w a c l) (hk : Kept S w w') (hs : ∀ g, a = some ⟨g, 0, none⟩ → ¬ S g) : OwnT w' a c l := by
  obtain ⟨g, N, n, Z, rfl, ho, hZ, hl⟩ := h
  exact ⟨g, N, n, Z, rfl, hk.row ho (fun k e => by simp [Value.ownBlock] at e; subst e; exact hs _ rfl), hZ, hl⟩
theorem OwnT.rdG {w : World} {a : Option Addr} {c : Nat} {l : List Int} (h : OwnT w a c l) {S : Nat → Prop} (hS : ∀ g, a = some ⟨g, 0, none⟩ → S g) : RdG w S a l := by
  obtain ⟨g, N, n, Z, rfl, ho, hZ, rfl⟩ := h
  intro i hi
  rw [List.length_take] at hi
  have hiZ : i < Z.length := by omega
  have hc := ho.cellAt i (by omega)
  refine ⟨g, 0, rfl, hS g rfl, ?_⟩
  rw [Nat.zero_add, hc]
  simp [List.getD, List.getElem?_take, hiZ, show i < n by omega]
theorem OwnT.reads {w : World} {a : Option Addr} {c : Nat} {l : List Int} (h : OwnT w a c l) : RdI w w.heap.size a l := (h.rdG (S := fun _ => True) (fun _ _ => trivial)).room
theorem OwnT.off {w : World} {a : Option Addr} {c R : Nat} {l : List Int} {ao : Option Addr} {cap : Nat} {bs : List Int} {s : Nat} (h : OwnT w a c l) (hw : Wtr w R ao cap bs s) : ∀ g, a = some ⟨g, 0, none⟩ → ¬ OrB (OneB R) (OwnB (.slice ao bs.length cap)) g := by
  obtain ⟨g, N, n, Z, rfl, ho, hZ, rfl⟩ := h
  intro g' e
  cases e
  exact row_off (T := 0) ho hw (by decide) (by decide)
theorem LensP.own {w w' : World} {zs : List Int} {e : Ending} (h : LensP w zs e w') (h0 : 0 < zs.length) : ∃ g c, e = .returned (.tuple #[.slice (some ⟨g, 0, none⟩) zs.length c, .int .i64 0]) ∧ w'.ownsRow 0 3 1 (.slice (some ⟨g, 0, none⟩) zs.length c) zs.length (zs.map (.int .i64)) ∧ zs.length ≤ c ∧ c ≤ maxLen ∧ RdI w' w'.heap.size (some ⟨g, 0, none⟩) zs ∧ Kept NoB w w' := by
  obtain ⟨a, c, rfl, ho, hk⟩ := h
  rcases ho.2 with ⟨_, hz⟩ | ⟨g, cc, cur, hv, _, _, hl, hm, _⟩
  · omega
  · simp at hv
    obtain ⟨rfl, rfl⟩ := hv
    refine ⟨g, c, rfl, ho, hl, hm, ?_, hk⟩
    have hT : OwnT w' (some ⟨g, 0, none⟩) c zs := ⟨g, zs.length, zs.length, zs, rfl, ho, rfl, by rw [List.take_length]⟩
    exact hT.reads
set_option maxHeartbeats 4000000 in
theorem bestLens_yes (la : Option Addr) (lc : Nat) (lits : List Int) (da : Option Addr) (dc : Nat) (dists : List Int) (B : Nat) (w : World) (hr1 : RdI w B la lits) (hr2 : RdI w B da dists) (hl1 : lits.length = 286) (hl2 : dists.length = 30) (ok1 : LensOkP lits 15) (ok2 : LensOkP dists 15) :
    Calls Tryz.prog 39 #[.slice la 286 lc, .slice da 30 dc] w fun e w' => ∃ a1 c1 a2 c2 l1 l2, e = .returned (.tuple #[.slice a1 l1.length c1, .slice a2 l2.length c2, .int .i64 0]) ∧ BestL 257 lits l1 ∧ BestL 1 dists l2 ∧ OwnT w' a1 c1 l1 ∧ OwnT w' a2 c2 l2 ∧ Kept NoB w w' := by
  have h1 := lens_yes la lc B lits 15 w hr1 ok1
  rw [hl1] at h1
  have HL := Lib.hid h1
  have HD2 : Hid (∀ W, Kept NoB w W → Calls Tryz.prog 71 #[.slice da 30 dc, .int .i64 15] W fun e w' => ∃ lv, SrtP lv (leavesL 0 dists) ∧ LensP W (lensOf lv 30 (15 : Int).toNat) e w') := Lib.hid fun W hk => by
    have h2 := lens_yes da dc B dists 15 W (hr2.keptNo hk) ok2
    rw [hl2] at h2
    exact h2
  have HF1 : Hid (∀ lv, SrtP lv (leavesL 0 lits) → (lensOf lv 286 15).length = 286) := Lib.hid fun lv hs => by
    have := (lensF lits 15 lv ok1 hs).len
    rw [hl1] at this; exact this
  have HF2 : Hid (∀ lv, SrtP lv (leavesL 0 dists) → (lensOf lv 30 15).length = 30) := Lib.hid fun lv hs => by
    have := (lensF dists 15 lv ok2 hs).len
    rw [hl2] at this; exact this
  have HL1 := Lib.hid hl1; have HL2 := Lib.hid hl2
  clear h1 hr1 hr2 hl1 hl2 ok1 ok2
  go_enter Tryz.func39, Tryz.ntmps39
  go_wp2_with fail
  refine HL.out.mono ?_
  rintro e w1 ⟨lv, hs, hp⟩
  obtain ⟨Z, hZ⟩ : ∃ Z, Z = lensOf lv 286 15 := ⟨_, rfl⟩
  have hZl : Z.length = 286 := by rw [hZ]; exact HF1.out lv hs
  change LensP w (lensOf lv 286 15) e w1 at hp
  rw [← hZ] at hp
  obtain ⟨g, c, rfl, ho, hc1, hc2, hrd, hk1⟩ := hp.own (by omega)
  have HZ := Lib.hid hZ; have HS := Lib.hid hs; have HO := Lib.hid ho; have HRd := Lib.hid hrd; have HK1 := Lib.hid hk1; have HZl := Lib.hid hZl
  rw [hZl]
  clear hZ hs hp ho hrd hk1 hZl HL HF1
  have HL2 := Lib.hid (HD2.out w1 HK1.out)
  clear HD2
  go_wp2_with fail
  refine HL2.out.mono ?_
  rintro e w2 ⟨lv2, hs2, hp2⟩
  obtain ⟨Z2, hZ2⟩ : ∃ Z, Z = lensOf lv2 30 15 := ⟨_, rfl⟩
  have hZl2 : Z2.length = 30 := by rw [hZ2]; exact HF2.out lv2 hs2
  change LensP w1 (lensOf lv2 30 15) e w2 at hp2
  rw [← hZ2] at hp2
  obtain ⟨g2, c2, rfl, ho2, hc3, hc4, hrd2, hk2⟩ := hp2.own (by omega)
  have HZ2 := Lib.hid hZ2; have HS2 := Lib.hid hs2; have HO2 := Lib.hid ho2; have HRd2 := Lib.hid hrd2; have HZl2 := Lib.hid hZl2
  have HO1 := Lib.hid (hk2.row HO.out (fun _ _ h => h))
  have HK2 := Lib.hid (HK1.out.trans hk2)
  have ht1 := trimmed_any (some ⟨g, 0, none⟩) c _ Z 257 w2 (HRd.out.keptNo hk2) (by rw [HZl.out]; omega) (by omega) hc1 hc2
  rw [HZl.out] at ht1
  have HT1 := Lib.hid ht1
  have HT2 : Hid (∀ W, Kept NoB w2 W → Calls Tryz.prog 72 #[.slice (some ⟨g2, 0, none⟩) 30 c2, .int .i64 ((1 : Nat) : Int)] W fun e w' => ∃ n, e = .returned (.slice (some ⟨g2, 0, none⟩) n c2) ∧ TrimP 1 Z2 n ∧ Kept NoB W w') := Lib.hid fun W hk => by
    have h := trimmed_any (some ⟨g2, 0, none⟩) c2 _ Z2 1 W (HRd2.out.keptNo hk) (by rw [HZl2.out]; omega) (by omega) hc3 hc4
    rw [HZl2.out] at h
    exact h
  rw [hZl2]
  clear hZ2 hs2 hp2 ho2 hrd2 hk2 hZl2 hc1 hc2 hc3 hc4 HL2 HF2 ht1 HRd HO HK1
  go_wp2_with fail
  refine HT1.out.mono ?_
  rintro e w3 ⟨n1, rfl, ht1, hk3⟩
  have HTr1 := Lib.hid ht1
  have HK3 := Lib.hid hk3
  have HT2 := Lib.hid (HT2.out w3 hk3)
  clear ht1 hk3 HT1
  go_wp2_with fail
  refine HT2.out.mono ?_
  rintro e w4 ⟨n2, rfl, ht2, hk4⟩
  have HTr2 := Lib.hid ht2
  have HK4 := Lib.hid (HK3.out.trans hk4)
  clear ht2 hk4 HT2
  go_wp2
  go_ret3
  refine ⟨some ⟨g, 0, none⟩, c, some ⟨g2, 0, none⟩, c2, Z.take n1, Z2.take n2, ?_, ⟨lv, n1, HS.out, ?_, ?_⟩, ⟨lv2, n2, HS2.out, ?_, ?_⟩, ?_, ?_, HK2.out.trans HK4.out⟩
  · rw [HTr1.out.len, HTr2.out.len]; rfl
  · rw [HL1.out, ← HZ.out]; exact HTr1.out
  · rw [HL1.out, ← HZ.out]
  · rw [HL2.out, ← HZ2.out]; exact HTr2.out
  · rw [HL2.out, ← HZ2.out]
  · exact OwnT.kept ⟨g, Z.length, n1, Z, rfl, HO1.out, rfl, rfl⟩ HK4.out (fun _ _ h => h)
  · exact OwnT.kept ⟨g2, Z2.length, n2, Z2, rfl, HO2.out, rfl, rfl⟩ HK4.out (fun _ _ h => h)
theorem spanL_one (s : Int) : 1 ≤ spanL s := by unfold spanL; split <;> (try split) <;> (try split) <;> decide
theorem runAll_many (n : Int) : ∀ (rs : List (Int × Int)) (l F : List Int), runAll n l rs = some F → l.length + rs.length ≤ F.length
  | [], l, F, h => by rw [runAll] at h; cases h; simp
  | (s, x) :: r, l, F, h => by
    rw [runAll] at h
    split at h
    · have h2 := runAll_many n r _ F h
      have h3 := spanL_one s
      rw [moreL_len] at h2
      simp only [List.length_cons]; omega
    · cases h
theorem spanB_seven (s : Int) : spanB s ≤ 7 := by unfold spanB; split <;> (try split) <;> (try split) <;> decide
theorem wordsR_wd {code : List Int} (hs : Small 7 code) : ∀ (rs : List (Int × Int)), (∀ y ∈ rs, HasC code y.1) → wdN (wordsR code rs) ≤ 14 * rs.length
  | [], _ => by simp [wordsR, wdN]
  | y :: rs, h => by
    have h1 := wordsR_wd hs rs (fun z hz => h z (List.mem_cons_of_mem _ hz))
    obtain ⟨k, hk, hkl, _⟩ := h y (List.mem_cons_self ..)
    have hb := hs.getD k hkl
    have hsp := spanB_seven y.1
    rw [wordsR_cons]
    have hz : (wordZ code y.1).2 ≤ 7 := by unfold wordZ; rw [hk, Int.toNat_natCast]; simp only; omega
    simp only [wdN, List.length_cons]
    omega
theorem headW_few {code lit dist : List Int} {told : Nat} {rs : List (Int × Int)} (hc : CodeW code told rs (lit ++ dist)) (hb : headB lit dist = true) : wdN (headW lit dist code told rs) ≤ 4600 := by
  obtain ⟨⟨b1, b2, b3, b4⟩, _, _, _⟩ := head_small hb
  have h1 := runAll_many _ rs [] _ hc.runs
  rw [List.length_append] at h1
  have h2 := wordsR_wd hc.small rs hc.has
  have h3 := wordsC_wd code told
  have h4 := hc.hi
  unfold headW
  rw [wdN_append, wdN_append, h3]
  simp only [wdN]
  simp only [List.length_nil] at h1
  omega
/-- What Dynamic leaves. -/
def DynP (w : World) (R : Nat) (ao : Option Addr) (cap : Nat) (bs : List Int) (s : Nat) (last : Bool) (ts : List Tk) (e : Ending) (w' : World) : Prop :=
  ∃ lit dist code told rs ws ao' cap' bs', e = .returned (.int .i64 0) ∧ BestL 257 (tally ts).1 lit ∧ BestL 1 (tally ts).2 dist ∧ CodeW code told rs (lit ++ dist) ∧ TokWs lit dist ts ws ∧
    WroteP w R (.slice ao bs.length cap) bs s ([(lastN last, 1), (2, 2)] ++ (headW lit dist code told rs ++ (ws ++ [wordZ lit 256]))) w' ao' cap' bs'
set_option maxHeartbeats 8000000 in
theorem dynamic_yes (w : World) (R : Nat) (ao : Option Addr) (cap : Nat) (bs : List Int) (s : Nat) (last : Bool) (ta : Option Addr) (tc : Nat) (ts : List Tk)
    (h : Wtr w R ao cap bs s) (hss : s ≤ 900000) (hr : Toks w ta ts) (hsep : ts ≠ [] → ∀ a, ta = some a → a.block ≠ R ∧ (Value.slice ao bs.length cap).ownBlock ≠ some a.block) (htl : ts.length ≤ 900000) (hwf : AllT ts) (hok : allOkB ts = true) :
    Calls Tryz.prog 14 #[.pointer (some ⟨R, 0, none⟩), .bool last, .slice ta ts.length tc] w (DynP w R ao cap bs s last ts) := by
  have HA := Lib.hid (allOk_any ta tc ts w hr (by unfold maxLen; omega))
  have hto := lensOk_tally ts (by omega)
  have hb := tally_b2 ts
  have H := Lib.hid h; have HR := Lib.hid hr; have HSep := Lib.hid hsep; have HTl := Lib.hid htl; have HTo := Lib.hid hto; have HBt := Lib.hid hb; have HWf := Lib.hid hwf; have HOk := Lib.hid hok
  rw [hok] at HA
  clear h hr hsep hwf hok htl hto hb
  go_enter Tryz.func14, Tryz.ntmps14
  go_wp2_with fail
  refine HA.out.mono ?_
  rintro e w1 ⟨rfl, hk1⟩
  have HK1 := Lib.hid hk1
  have HCn := Lib.hid (counts_any2 ta tc ts w1 (HR.out.keptNo hk1) (by have := HTl.out; omega) HWf.out)
  clear hk1 HA
  go_wp2_with fail
  refine HCn.out.mono ?_
  rintro e w2 ⟨G, K, rfl, hT⟩
  have HBs := Lib.hid (bestLens_yes (some ⟨G, 0, none⟩) 286 (tally ts).1 (some ⟨K, 0, none⟩) 30 (tally ts).2 _ w2 (hT.a.reads HBt.out.1) (hT.b.reads HBt.out.2.1) HBt.out.1 HBt.out.2.1 HTo.out.1 HTo.out.2)
  have HK2 := Lib.hid (HK1.out.trans hT.k)
  clear hT HCn HK1
  go_wp2_with fail
  refine HBs.out.mono ?_
  rintro e w3 ⟨a1, c1, a2, c2, lit, dist, rfl, hb1, hb2, ho1, ho2, hk3⟩
  have hK3 := HK2.out.trans hk3
  have hhead := best_head (by have := HTl.out; omega) hb1 hb2
  have HHd := Lib.hid hhead
  have HTs := Lib.hid (best_toks (by have := HTl.out; omega) HWf.out HOk.out hb1 hb2)
  have HB1 := Lib.hid hb1; have HB2 := Lib.hid hb2; have HO1 := Lib.hid ho1; have HO2 := Lib.hid ho2; have HK3 := Lib.hid hK3
  have HW3 := Lib.hid (H.out.keptNo hK3)
  have hp := putType_any w3 R ao cap bs s 2 last HW3.out (by decide) (by omega)
  rw [show ((2 : Nat) : Int) = 2 from rfl] at hp
  have HP := Lib.hid hp
  clear hb1 hb2 ho1 ho2 hk3 hK3 hhead hp HBs HK2
  go_wp2_with fail
  refine HP.out.mono ?_
  rintro e w4 ⟨a4, c4, b4, rfl, hW⟩
  have hO1 := HO1.out.kept hW.2.2.1 (fun g e => HO1.out.off HW3.out g e)
  have hO2 := HO2.out.kept hW.2.2.1 (fun g e => HO2.out.off HW3.out g e)
  have HLw := Lib.hid (lensWrite_yes a1 c1 lit a2 c2 dist _ R a4 c4 b4 _ w4 hO1.reads hO2.reads hW.1 HHd.out.2.2.2 (by simp only [wdN]; omega))
  have HW := Lib.hid (hW.base HK3.out)
  have HO1b := Lib.hid hO1; have HO2b := Lib.hid hO2
  clear hW hO1 hO2 HP
  go_wp2_with fail
  refine HLw.out.mono ?_
  rintro e w5 ⟨a5, c5, b5, code, told, rs, rfl, hcw, hW5⟩
  have hO1 := HO1b.out.kept hW5.2.2.1 (fun g e => HO1b.out.off HW.out.1 g e)
  have hO2 := HO2b.out.kept hW5.2.2.1 (fun g e => HO2b.out.off HW.out.1 g e)
  have hW5b := HW.out.app hW5
  have HCw := Lib.hid hcw
  have hr5 : Toks w5 ta ts := fun j hj => by
    obtain ⟨b, off, rfl, x0, x1, x2⟩ := HR.out j hj
    have hs := HSep.out (fun e => by rw [e] at hj; simp at hj) _ rfl
    have hb : ¬ OrB (OneB R) (OwnB (.slice ao bs.length cap)) b := fun e => e.elim (fun e => hs.1 e) (fun e => hs.2 e)
    have hc : ∀ (o : Nat) (v : Value), w.cell? ⟨b, o, none⟩ = some v → w5.cell? ⟨b, o, none⟩ = some v := fun o v hv => (World.cell?_of_block (hW5b.2.2.1.block _ (World.block_lt_of_cell? w _ hv) hb)).trans hv
    exact ⟨b, off, rfl, hc _ _ x0, hc _ _ x1, hc _ _ x2⟩
  have hwd := headW_few hcw HHd.out.2.2.2
  have hput := putTokens_yes w5 R a5 c5 b5 _ (fun k => k ≠ R ∧ (Value.slice a5 b5.length c5).ownBlock ≠ some k) a1 c1 lit a2 c2 dist ta tc ts hW5b.1 (by rw [wdN_append]; simp only [wdN]; omega)
    (hO1.rdG (fun g e => by have := hO1.off hW5b.1 g e; exact ⟨fun h => this (.inl h), fun h => this (.inr h)⟩)) (hO2.rdG (fun g e => by have := hO2.off hW5b.1 g e; exact ⟨fun h => this (.inl h), fun h => this (.inr h)⟩))
    (fun k hk => hk) HHd.out.1 HHd.out.2.1 HHd.out.2.2.1 hr5
    (fun hne a ha => by
      have hs := HSep.out hne a ha
      refine ⟨hs.1, fun e => ?_⟩
      rcases hW5b.2.2.2 _ e with h | h
      · exact hs.2 h
      · have hj : 0 < ts.length := by cases ts with
          | nil => exact absurd rfl hne
          | cons _ _ => simp
        obtain ⟨b, off, hta, x0, _⟩ := HR.out 0 hj
        rw [ha] at hta
        cases hta
        have := World.block_lt_of_cell? w _ x0
        simp only at this h
        omega)
    (by have := HTl.out; omega) HTs.out
  have HPut := Lib.hid hput
  have HW5 := Lib.hid hW5b
  clear hput hW5 hW5b hr5 hO1 hO2 hcw HLw HO1b HO2b hwd
  go_wp2_with fail
  refine HPut.out.mono ?_
  rintro e w6 ⟨ws, a6, c6, b6, rfl, hws, hW6⟩
  have HWs := Lib.hid hws
  have hW7 := HW5.out.app hW6
  rw [List.append_assoc] at hW7
  have HW7 := Lib.hid hW7
  clear hws hW6 hW7 HPut
  go_wp2
  go_ret
  exact ⟨lit, dist, code, told, rs, ws, a6, c6, b6, rfl, HB1.out, HB2.out, HCw.out, HWs.out, HW7.out⟩
end Go.Proofs.YtdpegahcgaicnaaGreatDoor

namespace Go.Proofs.YtdpegahcgaicnaaGreatDoor
open Go.RowKit
set_option linter.unusedVariables false
set_option linter.unusedSimpArgs false
set_option maxRecDepth 20000

set_option maxHeartbeats 8000000 in
theorem stored_yes2 (w : World) (R : Nat) (ao : Option Addr) (cap : Nat) (bs : List Int) (s : Nat) (last : Bool) (ba : Option Addr) (bc : Nat) (b : List Int) (h : Wtr w R ao cap bs s) (hs : s ≤ 700000000000) (hr : Reads w ba b) (hb : AllB b) (hl : b.length ≤ 65535)
    (hsep : b ≠ [] → ∀ a, ba = some a → a.block ≠ R ∧ (Value.slice ao bs.length cap).ownBlock ≠ some a.block) :
    Calls Tryz.prog 12 #[.pointer (some ⟨R, 0, none⟩), .slice ba b.length bc, .bool last] w fun e w' => ∃ ao' cap' bs', e = .returned (.int .i64 0) ∧ WroteP w R (.slice ao bs.length cap) bs s (storedW last (up8 (s + 3) - (s + 3)) b) w' ao' cap' bs' := by
  have HT := Lib.hid (putType_any w R ao cap bs s 0 last h (by decide) (by omega))
  have HRd : Hid (∀ W, Kept (OrB (OneB R) (OwnB (.slice ao bs.length cap))) w W → Reads W ba b) := Lib.hid fun W hk => by
    by_cases hne : b = []
    · subst hne; exact ⟨fun _ => rfl, fun a ha i hi => absurd hi (by simp)⟩
    · exact hr.kept hk (fun a ha e => by
        rcases e with e | e
        · exact (hsep hne a ha).1 e
        · exact (hsep hne a ha).2 e)
  have HBs : Hid (∀ j, j < b.length → ∃ (g off z : Nat), ba = some ⟨g, off, none⟩ ∧ b.getD j 0 = (z : Int) ∧ z < 256) := Lib.hid fun j hj => by
    obtain ⟨g, off, hba, _, _⟩ := hr.at (by omega)
    have := AllB.getD hb j
    exact ⟨g, off, (b.getD j 0).toNat, hba, by omega, by omega⟩
  obtain ⟨L, hL⟩ : ∃ L, L = b.length := ⟨_, rfl⟩
  have HL := Lib.hid hL
  have hLl : L ≤ 65535 := by rw [hL]; exact hl
  have hw32 : IntKind.u32.wrap (L : Int) = (L : Int) := IntWalk.u32_in _ (by omega)
  obtain ⟨Z, hZ⟩ : ∃ Z, Z = 4294967295 - L := ⟨_, rfl⟩
  have hx1 : bits .xor .u32 IntKind.u32.max (L : Int) = (Z : Int) := by rw [hZ]; exact not32 L (by omega)
  have hx2 : bits .xor .u32 (if IntKind.u32.signed = true then -1 else IntKind.u32.max) (L : Int) = (Z : Int) := hx1
  have hZb : Z < 4294967296 := by omega
  have hZ16 : Z % 2 ^ 16 = 65535 - L := by omega
  have HZ16 := Lib.hid hZ16
  rw [← hL]
  clear h hr hb hl hsep hL hZ hZ16
  go_enter Tryz.func12, Tryz.ntmps12
  go_wp2_with fail
  refine HT.out.mono ?_
  rintro e w1 ⟨a1, c1, b1, rfl, hW1⟩
  have HA := Lib.hid (walign_any w1 R a1 c1 b1 _ hW1.size (by simp only [wdN]; omega))
  have HW1 := Lib.hid hW1
  clear hW1 HT
  go_wp2_with fail
  refine HA.out.mono ?_
  rintro e w2 ⟨rfl, hw2, hk2⟩
  have hW2 := HW1.out.align hw2 hk2
  have hsz := hW2.size
  have hup : up8 (s + 3) - (s + 3) ≤ 7 := by unfold up8; omega
  have HP3 := put_any w2 R a1 c1 b1 _ L 16 hsz (by omega) (by decide) (by simp only [wdN, wdN_append, Nat.add_zero]; unfold up8; omega)
  rw [show L % 2 ^ 16 = L by omega] at HP3
  have HP3 := Lib.hid HP3; have HW2 := Lib.hid hW2
  clear hw2 hk2 hW2 hsz HA
  go_wp2_with fail
  refine HP3.out.mono ?_
  intro e w3 hp3
  obtain ⟨a3, c3, b3, rfl, hW3⟩ := HW2.out.put hp3
  have hsz := hW3.size
  have HP4 := put_any w3 R a3 c3 b3 _ Z 16 hsz hZb (by decide) (by simp only [wdN, wdN_append, Nat.add_zero]; unfold up8; omega)
  rw [HZ16.out] at HP4
  have HP4 := Lib.hid HP4; have HW3 := Lib.hid hW3
  clear hp3 hW3 hsz HP3
  go_wp2_with fail
  refine HP4.out.mono ?_
  intro e w4 hp4
  obtain ⟨a4, c4, b4, rfl, hW4⟩ := HW3.out.put hp4
  have HW4 := Lib.hid hW4
  clear hp4 hW4 HP4
  go_wp2_with fail
  go_loopw [9, 30] (fun _x i wr => ∃ (j : Nat) (ao' : Option Addr) (cap' : Nat) (bs' : List Int), j ≤ L ∧ i = .int .i64 (j : Int) ∧ Hid (WroteP w R (.slice ao bs.length cap) bs s ([(lastN last, 1), (0, 2), (0, up8 (s + 3) - (s + 3)), (L, 16), (65535 - L, 16)] ++ bytesW (b.take j)) wr ao' cap' bs')) (fun _ i _ => L - (intOf i).toNat)
  case atStart => exact ⟨0, a4, c4, b4, by omega, rfl, Lib.hid (by simpa [bytesW, wdN] using HW4.out)⟩
  case round =>
    obtain ⟨j, ao', cap', bs', hj, rfl, HW⟩ := hrel
    by_cases hlt : (j : Int) < (L : Int)
    · obtain ⟨g, off, z, rfl, hz, hz256⟩ := HBs.out j (by have := HL.out; omega)
      have hc := (HRd.out wr HW.out.2.2.1).2 _ rfl j (by have := HL.out; omega)
      rw [hz, addr_add] at hc
      have HSn := Lib.hid (bytesW_snoc b j (by have := HL.out; omega) z hz)
      have hwz : IntKind.u32.wrap (z : Int) = (z : Int) := IntWalk.u32_in _ (by omega)
      have hbw := bytesW_wd (b.take j)
      have hbl : (b.take j).length ≤ 65535 := by rw [List.length_take]; omega
      have HP := put_any wr R ao' cap' bs' _ z 8 HW.out.size (by omega) (by decide) (by rw [wdN_append]; simp only [wdN, Nat.add_zero]; omega)
      rw [show z % 2 ^ 8 = z by omega] at HP
      have HP := Lib.hid HP
      clear hz hbw hbl
      go_wp2_with fail
      refine HP.out.mono ?_
      intro e w5 hp5
      obtain ⟨a5, c5, b5, rfl, hW5⟩ := HW.out.put hp5
      rw [List.append_assoc, ← HSn.out] at hW5
      have HW5 := Lib.hid hW5
      clear hW5 hp5 HP hc
      go_wp2
      go_roundw
      case rel => exact ⟨j + 1, a5, c5, b5, by omega, by go_num, HW5⟩
      case measure => simp [intOf]; omega
    · obtain rfl : j = L := by omega
      go_wp2
      go_ret
      refine ⟨rfl, ao', cap', bs', ?_⟩
      have h := HW.out
      rw [List.take_of_length_le (by rw [← HL.out]; exact Nat.le_refl _)] at h
      unfold storedW
      rw [← HL.out]
      exact h
end Go.Proofs.YtdpegahcgaicnaaGreatDoor

namespace Go.Proofs.YtdpegahcgaicnaaGreatDoor
open Go.RowKit
set_option linter.unusedVariables false

end Go.Proofs.YtdpegahcgaicnaaGreatDoor

namespace Go.Proofs.YtdpegahcgaicnaaGreatDoor
open Go.RowKit
set_option linter.unusedVariables false
set_option linter.unusedSimpArgs false

end Go.Proofs.YtdpegahcgaicnaaGreatDoor

namespace Go.Proofs.YtdpegahcgaicnaaGreatDoor
open Go.RowKit
set_option linter.unusedVariables false
set_option linter.unusedSimpArgs false

section
variable {P : Program} {ops : Array Oper} {o : Oper} {a : Act} {w : World} {K : Act → World → Prop} {Q : Exit → Act → World → Prop} {E : Prop}
theorem step_app (hg : o.guard = none) (s x : Operand) (t : TypeId) (hop : o.op = Op.call { callee := Callee.builtin Builtin.append, args := #[s, x], argTypes := #[t, t] })
    (e : TypeId) (i : TypeInfo) (z : Value) (size bytes : Nat) (ht : P.underlying t = some (.slice e)) (hi : P.info? e = some i) (hz : i.zero = some z)
    (hsize : i.size = size) (hby : i.bytes = bytes) (hzs : z.cells.size = size) (hsz : 0 < size)
    (v : Value) (n : Nat) (xs : List Value) (hs : a.eval s = v) (hown : w.ownsRow 0 e size v n xs)
    (ad : Addr) (m c : Nat) (news : List Value) (hx : a.eval x = .slice (some ad) m c) (hl : news.length = m * size) (hnews : ∀ j u, news[j]? = some u → w.cell? (ad.add j) = some u) (h1 : ∀ u ∈ news, u.oneCell' = true)
    (h63 : n + m ≤ maxLen) (hbytes : (n + m) * bytes ≤ 140737488355328)
    (hK : ∀ v' w', w'.ownsRow 0 e size v' (n + m) (xs ++ news) → w.grownBy w' v.ownBlock → (∀ k, v'.ownBlock = some k → v.ownBlock = some k ∨ w.heap.size ≤ k) → K (a.put o.dst v') w') :
    if Region.wanted o (yielded ops a.tmps) = true then Oper.wp P o a w K Q else E := by
  have hw : Region.wanted o (yielded ops a.tmps) = true := by simp [Region.wanted, hg]
  rw [if_pos hw]
  obtain ⟨v', w', hr, h2, h3, h4⟩ := run_app (P := P) w e t o.type i z size bytes ht hi hz hsize hby hzs hsz v n xs hown ad m c news hl hnews h1 h63 hbytes
  unfold Oper.wp execOp
  simp only [hop, resolve, invoke, builtin, Sem.run_bind, Sem.run_pure, Result.andThen_ok, List.map_toArray, List.map_cons, List.map_nil, hs, hx, hr]
  exact hK _ _ h2 h3 h4
theorem step_app_none (hg : o.guard = none) (s x : Operand) (t : TypeId) (hop : o.op = Op.call { callee := Callee.builtin Builtin.append, args := #[s, x], argTypes := #[t, t] })
    (e : TypeId) (i : TypeInfo) (size : Nat) (ht : P.underlying t = some (.slice e)) (hi : P.info? e = some i)
    (v : Value) (n : Nat) (xs : List Value) (hs : a.eval s = v) (hown : w.ownsRow 0 e size v n xs) (hx : a.eval x = .slice none 0 0)
    (hK : K (a.put o.dst v) w) :
    if Region.wanted o (yielded ops a.tmps) = true then Oper.wp P o a w K Q else E := by
  have hw : Region.wanted o (yielded ops a.tmps) = true := by simp [Region.wanted, hg]
  rw [if_pos hw]
  have hr := run_append_owned_none (P := P) (w := w) 0 t o.type e i size ht hi v n xs hown
  unfold Oper.wp execOp
  simp only [hop, resolve, invoke, builtin, Sem.run_bind, Sem.run_pure, Result.andThen_ok, List.map_toArray, List.map_cons, List.map_nil, hs, hx, hr]
  exact hK
end

/-- A sink within an object R: its bytes, in a row of its own, and how many it takes at most. -/
structure Snk (w : World) (T : TypeId) (cs : Array Value) (R L : Nat) (ao : Option Addr) (cap : Nat) (bs : List Int) (m : Nat) : Prop where
  obj : w.heap[R]? = some (.cells cs T (0, 0))
  c0 : cs[0]? = some (.slice ao bs.length cap)
  c1 : cs[1]? = some (.int .i64 m)
  own : w.ownsRow 0 5 1 (.slice ao bs.length cap) bs.length (bs.map (.int .u8))
  fr : ∀ k, (Value.slice ao bs.length cap).ownBlock = some k → L ≤ k
  low : L ≤ R
  bl : bs.length ≤ m
  ml : m ≤ 9223372036854775807
  sm : bs.length ≤ 1000000
  ne5 : T ≠ 5
  ball : AllB bs
theorem Snk.kept {S : Nat → Prop} {w w' : World} {T : TypeId} {cs : Array Value} {R L : Nat} {ao : Option Addr} {cap : Nat} {bs : List Int} {m : Nat} (h : Snk w T cs R L ao cap bs m) (hk : Kept S w w') (h1 : ¬ S R) (h2 : ∀ k, (Value.slice ao bs.length cap).ownBlock = some k → ¬ S k) : Snk w' T cs R L ao cap bs m :=
  { h with obj := hk.obj h.obj h1, own := hk.row h.own h2 }
theorem Snk.keptNo {w w' : World} {T : TypeId} {cs : Array Value} {R L : Nat} {ao : Option Addr} {cap : Nat} {bs : List Int} {m : Nat} (h : Snk w T cs R L ao cap bs m) (hk : Kept NoB w w') : Snk w' T cs R L ao cap bs m := h.kept hk (fun h => h) (fun _ _ h => h)

set_option maxHeartbeats 1000000 in
theorem sleft_any (w : World) {T : TypeId} {cs : Array Value} {R L : Nat} {ao : Option Addr} {cap : Nat} {bs : List Int} {m : Nat} (h : Snk w T cs R L ao cap bs m) (r : Nat) (hr : (r : Int) = (m : Int) - bs.length) :
    Calls Tryz.prog 142 #[.pointer (some ⟨R, 0, none⟩)] w fun e w' => e = .returned (.int .i64 r) ∧ Kept NoB w w' := by
  have c0 : w.cell? ⟨R, 0, none⟩ = some (.slice ao bs.length cap) := by rw [obj_cell h.obj 0, h.c0]
  have c1 : w.cell? ⟨R, 1, none⟩ = some (.int .i64 m) := by rw [obj_cell h.obj 1, h.c1]
  have h1 := h.bl
  have h2 := h.ml
  have h3 := h.sm
  rw [hr]
  clear h hr
  go_enter Tryz.func142, Tryz.ntmps142
  go_wp2
  go_quiet (fail)
  go_wp2
  go_ret
  exact ⟨rfl, (Kept.refl _ _).drewN _⟩
/-- What Bytes tells: a copy, as a string. -/
def ToldB (W : World) (bs : List Int) (e : Ending) (W' : World) : Prop :=
  ∃ ao' cap', e = .returned (.slice ao' bs.length cap') ∧ Hid (Reads W' ao' bs) ∧ Hid (ao' = none → cap' = 0) ∧ Hid ((convert 22 9 (.slice ao' bs.length cap')).run Tryz.prog W' = .ok (.string (strOfNums bs)) W') ∧ Kept NoB W W'
set_option maxHeartbeats 1000000 in
theorem sbytes_any (w : World) {T : TypeId} {cs : Array Value} {R L : Nat} {ao : Option Addr} {cap : Nat} {bs : List Int} {m : Nat} (h : Snk w T cs R L ao cap bs m) :
    Calls Tryz.prog 81 #[.pointer (some ⟨R, 0, none⟩)] w (ToldB w bs) := by
  have c0 : w.cell? ⟨R, 0, none⟩ = some (.slice ao bs.length cap) := by rw [obj_cell h.obj 0, h.c0]
  have hr := own_reads h.own rfl
  have hl := h.sm
  clear h
  have HR := Lib.hid hr; clear hr
  go_enter Tryz.func81, Tryz.ntmps81
  go_wp2_with (go_at_call 46; refine (clone_any _ _ _ _ HR.out (by omega)).mono ?_; rintro e w1 ⟨ao', cap', rfl, ho, hf, hn, hk⟩)
  go_ret
  have hr' := own_reads ho rfl
  have h0 := own_nil ho
  exact ⟨ao', cap', rfl, hr', h0, conv_reads hr' rfl h0, hk⟩

/-- The bytes that are there behind some parts. -/
def fill (bs : List Int) (m : Nat) (ps : List (List Int)) : List Int := (bs ++ ps.flatten).take m
theorem fill_nil (bs : List Int) (m : Nat) (h : bs.length ≤ m) : fill bs m [] = bs := by simp [fill]; exact List.take_of_length_le h
theorem fill_len (bs : List Int) (m : Nat) (ps : List (List Int)) : (fill bs m ps).length ≤ m := by unfold fill; rw [List.length_take]; omega
theorem take_moreF (x p : List Int) (m : Nat) : (x.take m) ++ p.take (m - (x.take m).length) = (x ++ p).take m := by
  rw [List.take_append, List.length_take]
  by_cases h : x.length ≤ m
  · rw [Nat.min_eq_right h]
  · rw [Nat.min_eq_left (by omega), Nat.sub_self, show m - x.length = 0 from by omega]
theorem fill_succ (bs : List Int) (m : Nat) (ps : List (List Int)) (j : Nat) (hj : j < ps.length) :
    fill bs m (ps.take (j + 1)) = fill bs m (ps.take j) ++ (ps.getD j []).take (m - (fill bs m (ps.take j)).length) := by
  unfold fill
  rw [flat_succ ps j hj, ← List.append_assoc, take_moreF]

/-- Behind some parts: the sink, grown. -/
def WrR (w : World) (T : TypeId) (cs0 : Array Value) (R L : Nat) (v0 : Value) (bs' : List Int) (m : Nat) (w' : World) : Prop :=
  ∃ cs ao cap, Snk w' T cs R L ao cap bs' m ∧ cs.size = cs0.size ∧ (∀ i, i ≠ 0 → cs[i]? = cs0[i]?) ∧ Kept (OrB (OneB R) (OwnB v0)) w w' ∧ (∀ k, (Value.slice ao bs'.length cap).ownBlock = some k → v0.ownBlock = some k ∨ w.heap.size ≤ k)
end Go.Proofs.YtdpegahcgaicnaaGreatDoor
