/-
  DeflateMix: blocks of any form, one behind the other, are read as what they say; each begins where the other ended.
-/
import Derived.Test.YtdpegahcgaicnaaGreatDoorMh35
namespace Go.Proofs.YtdpegahcgaicnaaGreatDoor
open Go.RowKit
set_option linter.unusedVariables false
set_option linter.unusedSimpArgs false

set_option maxRecDepth 100000 in
theorem Arg.mk' {H : Type} {enc : TypeId × Value → H} {w : World} {b0 base : Nat} {spare : Nat → Bool} {held : Bool} {t : TypeId} {v : Value} {d : DataW H} {p : List MemPlace} (hv : Value.okWide Tryz.prog w .any b0 t v)
    (hd : DataW.Trod enc Tryz.prog w base spare held t v d p) : Arg w t v := by
  obtain ⟨fuel, h⟩ := hd
  exact ⟨⟨b0, hv⟩, H, enc, base, spare, held, fuel, _, h⟩
/-- The borders of the three parts. -/
def cutJ (I K m q : Nat) : Nat := if q = 0 then 0 else if q = 1 then I else if q = 2 then K else m
theorem take_more3 (xs : List Int) (a b : Nat) (h : a ≤ b) : xs.take b = xs.take a ++ (xs.drop a).take (b - a) := by
  conv => lhs; rw [show b = a + (b - a) by omega]
  rw [List.take_add]
/-- One of the three parts, at place q of the row of parts. -/
def PartQ (W : World) (lim D q : Nat) (xs : List Int) (I K m : Nat) : Prop :=
  ∃ o c b, W.cell? ⟨D, q, none⟩ = some (.slice o b.length c) ∧ Reads W o b ∧ AllB b ∧ b.length ≤ 200 ∧ b.length ≤ c ∧ (∀ g, o = some g → g.block < lim) ∧ xs.take (cutJ I K m (q + 1)) = xs.take (cutJ I K m q) ++ b
theorem PartQ.kept {S : Nat → Prop} {W W' : World} {lim D q : Nat} {xs : List Int} {I K m : Nat} (h : PartQ W lim D q xs I K m) (hk : Kept S W W') (hD : ¬ S D) (hs : ∀ g, g < lim → ¬ S g) : PartQ W' lim D q xs I K m := by
  obtain ⟨o, c, b, h1, h2, h3, h4, h5, h6, h7⟩ := h
  exact ⟨o, c, b, (World.cell?_of_block (hk.block _ (World.block_lt_of_cell? W _ h1) hD)).trans h1, h2.kept hk (fun a ha => hs _ (h6 a ha)), h3, h4, h5, h6, h7⟩
theorem partQ_of {w0 w1 W : World} {a o1 : Option Addr} {m c c1 l h L D q I K : Nat} {x : List UInt8} (hst : BySt w0 w1 a m c x) (hk : Kept NoB w1 W) (hm : m ≤ 200) (hP : PartR a m c (nb x) l h o1 c1) (hc : W.cell? ⟨D, q, none⟩ = some (.slice o1 L c1)) (hL : L = h - l) (hh : h ≤ m) (hl : l ≤ h) (e1 : cutJ I K m q = l) (e2 : cutJ I K m (q + 1) = h) :
    PartQ W w1.heap.size D q (nb x) I K m := by
  have hlen : (((nb x).drop l).take (h - l)).length = L := by rw [List.length_take, List.length_drop, nb_len, ← hst.len]; omega
  refine ⟨o1, c1, ((nb x).drop l).take (h - l), by rw [hlen]; exact hc, hP.reads W (hst.reads.kept hk (fun _ _ e => e)), fun z hz => nb_all x z (List.mem_of_mem_drop (List.mem_of_mem_take hz)), by rw [hlen]; omega, by rw [hlen]; have := hP.room; omega, fun g hg => ?_, by rw [e1, e2]; exact take_more3 _ _ _ hl⟩
  obtain ⟨q', ha, hb⟩ := hP.block g hg
  rw [hb]
  exact own_lt hst.own _ (by rw [ha]; rfl)
set_option maxRecDepth 20000 in
set_option maxHeartbeats 4000000 in
theorem deflateMix_walk (bo : Option Addr) (bc n : Nat) (B : List UInt8) (lo : Option Addr) (nl lc : Nat) (zs : List Int) (at0 fm : Int) (w : World)
    (hn : n = B.length) (hrb : Reads w bo (nb B)) (hbn : bo = none → bc = 0) (hbc : n ≤ bc) (hbm : bc ≤ maxLen) (hl : RdI w w.heap.size lo zs) (hnl : nl = zs.length) (hlc : nl ≤ lc) (hcm : lc ≤ maxLen) :
    Calls Tryz.prog 3 #[.slice bo n bc, .slice lo nl lc, .int .i64 at0, .int .i64 fm] w fun e w' => e = .returned (.bool true) ∧ Below w.heap.size w w' := by
  have HAw := Lib.hid awake10
  have HRw := Lib.hid (rows7_any bo n bc B lo nl lc zs w hn hrb hbn hbc hbm hl hnl hlc hcm)
  unfold maxLen at hbm hcm
  clear hn hrb hbn hl hnl
  go_enter Tryz.func3, Tryz.ntmps3
  by_cases h5 : 100 < n
  · have h5i : (100 : Int) < (n : Int) := by omega
    go_wp2_with fail
    refine (HAw.out _).mono ?_
    rintro e w1 ⟨rfl, hk1⟩
    have HK1 := Lib.hid hk1
    clear hk1
    go_wp2
    go_ret
    exact ⟨rfl, HK1.out.belowNo (Below.refl _ _)⟩
  have h5i : ¬ (100 : Int) < (n : Int) := by omega
  go_wp2_with fail
  refine HRw.out.mono ?_
  rintro e w1 ⟨x, a, m, c, rfl, hm200, hst⟩
  have HSt := Lib.hid hst
  have hcap := hst.cap
  clear hst HRw h5i
  go_wp2_with fail
  refine (neww_any _).mono ?_
  rintro e w2 ⟨A, rfl, hW, hAf, hk2⟩
  have HW2 := Lib.hid hW; have HAf : Hid (w1.heap.size ≤ A) := Lib.hid hAf; have HK2 := Lib.hid hk2
  clear hW hAf hk2
  obtain ⟨p, hpq⟩ : ∃ p : Nat, p = (at0 % 256).toNat := ⟨_, rfl⟩
  have hp : bits .and .i64 at0 255 = (p : Int) := by rw [mask255]; omega
  have hp2 : p < 256 := by omega
  obtain ⟨m1, hm1q⟩ : ∃ m1, m1 = m + 1 := ⟨_, rfl⟩
  have hm1 : IntKind.i64.wrap ((m : Int) + 1) = (m1 : Int) := by rw [IntWalk.i64_in _ (by omega)]; omega
  obtain ⟨I, hIq⟩ : ∃ I, I = p % m1 := ⟨_, rfl⟩
  have hIm : I ≤ m := by have := Nat.mod_lt p (show 0 < m1 by omega); omega
  have hI1 : (p : Int) % (m1 : Int) = (I : Int) := by rw [hIq]; exact (Int.natCast_emod p m1).symm
  have hI2 : (p : Int).tmod (m1 : Int) = (I : Int) := by rw [Int.tmod_eq_emod_of_nonneg (by omega)]; exact hI1
  have hz1 : ((m1 : Int) == 0) = false := by simp; omega
  have hz1b : ¬ (m1 : Int) = 0 := by omega
  obtain ⟨q, hqq⟩ : ∃ q : Nat, q = (at0 / 256 % 256).toNat := ⟨_, rfl⟩
  have hq : bits .and .i64 (at0 / 256) 255 = (q : Int) := by rw [mask255]; omega
  have hq2 : q < 256 := by omega
  obtain ⟨d, hdq⟩ : ∃ d, d = m - I := ⟨_, rfl⟩
  have hs1 : IntKind.i64.wrap ((m : Int) - (I : Int)) = (d : Int) := by rw [IntWalk.i64_in _ (by omega)]; omega
  obtain ⟨d1, hd1q⟩ : ∃ d1, d1 = d + 1 := ⟨_, rfl⟩
  have hs2 : IntKind.i64.wrap ((d : Int) + 1) = (d1 : Int) := by rw [IntWalk.i64_in _ (by omega)]; omega
  obtain ⟨J, hJq⟩ : ∃ J, J = q % d1 := ⟨_, rfl⟩
  have hJd : J ≤ d := by have := Nat.mod_lt q (show 0 < d1 by omega); omega
  have hJ1 : (q : Int) % (d1 : Int) = (J : Int) := by rw [hJq]; exact (Int.natCast_emod q d1).symm
  have hJ2 : (q : Int).tmod (d1 : Int) = (J : Int) := by rw [Int.tmod_eq_emod_of_nonneg (by omega)]; exact hJ1
  have hz2 : ((d1 : Int) == 0) = false := by simp; omega
  have hz2b : ¬ (d1 : Int) = 0 := by omega
  obtain ⟨K, hKq⟩ : ∃ K, K = I + J := ⟨_, rfl⟩
  have hK : IntKind.i64.wrap ((I : Int) + (J : Int)) = (K : Int) := by rw [IntWalk.i64_in _ (by omega)]; omega
  have hIK : I ≤ K := by omega
  have hKm : K ≤ m := by omega
  have hxl : m = (nb x).length := by rw [nb_len]; exact HSt.out.len
  have hsh : ∀ q, a = some q → ∃ g, q = ⟨g, 0, none⟩ := fun q hq => by
    rcases HSt.out.own.2 with ⟨hv, _⟩ | ⟨g, cc, cur, hv, _⟩
    · simp at hv; rw [hv.1] at hq; cases hq
    · simp at hv; rw [hv.1] at hq; cases hq; exact ⟨g, rfl⟩
  obtain ⟨o1, c1, E1, P1⟩ := slc_h a m c I (nb x) hxl hsh hIm hcap.1 hcap.2.2
  obtain ⟨o2, c2, E2, P2⟩ := slc_lh a m c I K (nb x) hxl hsh hIK hKm hcap.1 hcap.2.2
  obtain ⟨o3, c3, E3, P3⟩ := slc_l a m c K (nb x) hxl hsh hKm hcap.1 hcap.2.2
  have HP1 := Lib.hid P1; have HP2 := Lib.hid P2; have HP3 := Lib.hid P3
  have hI0 : (0 : Int) ≤ (I : Int) := by omega
  have hiK : (I : Int) ≤ (K : Int) := by omega
  have hKM : (K : Int) ≤ (m : Int) := by omega
  have hKC : (K : Int) ≤ (c : Int) := by have := hcap.1; omega
  have hIC : (I : Int) ≤ (c : Int) := by omega
  have HXl := Lib.hid hxl
  clear hpq hm1q hIq hqq hdq hd1q hJq hKq hxl hsh P1 P2 P3
  obtain ⟨D, hD⟩ : ∃ D, D = w2.heap.size := ⟨_, rfl⟩
  go_upto_region 9 with fail
  go_region
  clear hp hm1 hI1 hI2 hz1 hz1b hq hs1 hs2 hJ1 hJ2 hz2 hz2b hK E1 E2 E3
  obtain ⟨wA, hwA⟩ : ∃ y, y = w2.alloc (.cells #[.slice o1 I c1, .slice o2 (K - I) c2, .slice o3 (m - K) c3] 22) := ⟨_, rfl⟩
  have hkA : Kept NoB w2 wA := by rw [hwA]; exact (Kept.refl _ _).alloc _
  have k0 : wA.cell? ⟨D, 0, none⟩ = some (.slice o1 I c1) := by rw [hwA, hD]; exact cell_new 0 rfl
  have k1 : wA.cell? ⟨D, 1, none⟩ = some (.slice o2 (K - I) c2) := by rw [hwA, hD]; exact cell_new 1 rfl
  have k2 : wA.cell? ⟨D, 2, none⟩ = some (.slice o3 (m - K) c3) := by rw [hwA, hD]; exact cell_new 2 rfl
  rw [← hwA, ← hD]
  obtain ⟨w3, hw3⟩ : ∃ y, y = wA.drew := ⟨_, rfl⟩
  have hd3 : Kept NoB wA w3 := by rw [hw3]; exact (Kept.refl _ _).drew
  rw [← hw3]
  have hk13 : Kept NoB w1 w3 := HK2.out.trans (hkA.trans hd3)
  have HPt : Hid (∀ q, q < 3 → PartQ w3 w1.heap.size D q (nb x) I K m) := Lib.hid fun q hq => by
    have hq3 : q = 0 ∨ q = 1 ∨ q = 2 := by omega
    rcases hq3 with rfl | rfl | rfl
    · exact partQ_of HSt.out hk13 hm200 HP1.out (hd3.cell k0) (by omega) hIm (by omega) rfl rfl
    · exact partQ_of HSt.out hk13 hm200 HP2.out (hd3.cell k1) rfl hKm hIK rfl rfl
    · exact partQ_of HSt.out hk13 hm200 HP3.out (hd3.cell k2) rfl (Nat.le_refl _) hKm rfl rfl
  have HW3 := Lib.hid (HW2.out.keptNo (hkA.trans hd3))
  have HDA : Hid (A ≠ D ∧ w1.heap.size ≤ A ∧ D < w3.heap.size) := Lib.hid ⟨by rw [hD]; have := obj_lt HW2.out.1; omega, HAf.out, World.block_lt_of_cell? w3 _ (hd3.cell k0)⟩
  have HK13 := Lib.hid hk13
  clear hkA k0 k1 k2 hwA hw3 hd3 hk13 HW2 HK2 HP1 HP2 HP3 hD hI0 hiK hKM hKC hIC
  go_wp2_with fail
  go_loopw [14, 15, 16, 17] (fun qv _t _j _e wr => ∃ (q : Nat) (ao : Option Addr) (cap : Nat) (bs : List Int) (ps : List (Nat × Nat)), q ≤ 3 ∧ qv = .int .i64 (q : Int) ∧ Hid (WroteP w3 A (.slice none ([] : List Int).length 0) [] 0 ps wr ao cap bs) ∧ Hid (Said (decide (q = 3)) ps ((nb x).take (cutJ I K m q))) ∧ Hid (wdN ps ≤ 15000 * q)) (fun qv _ _ _ _ => 3 - (intOf qv).toNat)
  case atStart => exact ⟨0, none, 0, [], [], by omega, rfl, Lib.hid (WroteP.nil HW3.out), Lib.hid (by simpa [cutJ] using Said.nil), Lib.hid (by simp [wdN])⟩
  case round =>
    obtain ⟨q', ao, cap, bs, ps, hq3, rfl, HW, HSd, HWd⟩ := hrel
    by_cases hlt : (q' : Int) < 3
    · have hql : q' < 3 := by omega
      have hpt := (HPt.out q' hql).kept HW.out.2.2.1 (fun e => by
        rcases e with e | e
        · unfold OneB at e; exact HDA.out.1 e.symm
        · unfold OwnB at e; simp [Value.ownBlock] at e) (fun g hg e => by
        rcases e with e | e
        · unfold OneB at e; have := HDA.out.2.1; omega
        · unfold OwnB at e; simp [Value.ownBlock] at e)
      obtain ⟨o, cb, b, hcell, hrd, hall, hb200, hbc, hbk, hjn⟩ := hpt
      obtain ⟨L, hL⟩ : ∃ L, L = b.length := ⟨_, rfl⟩
      rw [← hL] at hcell hb200 hbc
      have HL := Lib.hid hL; have HRd := Lib.hid hrd; have HAll := Lib.hid hall; have HBk := Lib.hid hbk; have HJn := Lib.hid hjn
      have HCell : Hid (∀ W, Kept NoB wr W → W.cell? ⟨D, q', none⟩ = some (.slice o L cb)) := Lib.hid fun W hk => hk.cell hcell
      have HLo : Hid (w1.heap.size ≤ wr.heap.size) := Lib.hid (Nat.le_trans HK13.out.size HW.out.2.2.1.size)
      obtain ⟨LO, hLO⟩ : ∃ LO, LO = wr.heap.size := ⟨_, rfl⟩
      have HLO := Lib.hid hLO
      have hq3i : (q' : Int) < 3 := hlt
      clear hL hrd hall hbk hjn hcell hLO
      go_wp2_with fail
      go_loopw [15, 16] (fun tv jv wi => ∃ (j : Nat) (ta : Option Addr) (tcap : Nat), j ≤ L ∧ jv = .int .i64 (j : Int) ∧ tv = .slice ta j tcap ∧ Hid (TkSt LO wi ta j tcap (litsT (b.take j))) ∧ Hid (Kept NoB wr wi)) (fun _ jv _ => L - (intOf jv).toNat)
      case atStart => exact ⟨0, none, 0, by omega, rfl, rfl, Lib.hid (by simpa [litsT] using TkSt.start LO wr), Lib.hid (Kept.refl _ _)⟩
      case round =>
        obtain ⟨j, ta, tcap, hjL, rfl, rfl, HTk, HK⟩ := hrel
        have hcl := HCell.out wr HK.out
        by_cases hlt2 : (j : Int) < (L : Int)
        · have hjb : j < b.length := by have := HL.out; omega
          obtain ⟨g, off, rfl, _, hcz⟩ := (HRd.out.kept HK.out (fun _ _ e => e)).at (by omega)
          have hczj := hcz j hjb
          have hz := AllB.getD HAll.out j
          have hsn : litsT (b.take (j + 1)) = litsT (b.take j) ++ [⟨0, 0, b.getD j 0⟩] := by
            rw [List.take_add_one, List.getElem?_eq_getElem hjb, List.getD, List.getElem?_eq_getElem hjb]
            exact lits_snoc _ _
          generalize b.getD j 0 = z at hczj hz hsn
          have HSn := Lib.hid hsn
          have hloW : LO ≤ wr.heap.size := by rw [HLO.out]; exact HK.out.size
          have HA0 : Hid (TkSt LO (wr.alloc (.cells #[.int .i64 0, .int .i64 0, .int .u8 z] 32)) ta j tcap (litsT (b.take j))) := Lib.hid (HTk.out.keptS ((Kept.refl NoB wr).alloc _) (fun _ _ e => e))
          have hloA : LO ≤ (wr.alloc (.cells #[.int .i64 0, .int .i64 0, .int .u8 z] 32)).heap.size := Nat.le_trans hloW ((Kept.refl NoB wr).alloc _).size
          have HloA := Lib.hid hloA
          clear hcz hsn hjb hloA hloW
          go_wp2_with (at_builtin; refine wpList_tk rfl (.tmp 73) (.tmp 82) rfl HA0.out HloA.out rfl wr.heap.size 1 (Tk.mk 0 0 z) rfl (cell_new 0 rfl) (cell_new 1 rfl) (cell_new 2 rfl) (by omega) ?_)
          intro a2 c2' w2' hst2 hk2'
          have HSt2 := Lib.hid hst2
          have HKn : Hid (Kept NoB _ w2') := Lib.hid ((HK.out.trans ((Kept.refl NoB wr).alloc _)).transO hk2' (fun i hi e => by have := HLO.out; omega))
          clear hst2 hk2' hcl hczj
          go_wp2
          go_roundw
          case rel => exact ⟨j + 1, a2, c2', by omega, by go_num, rfl, Lib.hid (by rw [HSn.out]; exact HSt2.out), HKn⟩
          case measure => simp [intOf]; omega
        · have hjl : j = L := by omega
          subst hjl
          have htk : b.take j = b := List.take_of_length_le (by rw [← HL.out]; exact Nat.le_refl _)
          rw [htk] at HTk
          clear htk hlt2
          obtain ⟨s2, hs2⟩ : ∃ s2, s2 = 2 * q' := ⟨_, rfl⟩
          have hsh : IntKind.i64.wrap (2 * (q' : Int)) = (s2 : Int) := by rw [IntWalk.i64_in _ (by omega)]; omega
          have hs4 : s2 ≤ 4 := by omega
          obtain ⟨f, hf⟩ : ∃ f : Nat, f = (fm / 2 ^ s2 % 4).toNat := ⟨_, rfl⟩
          have hff : bits .and .i64 (fm / 2 ^ s2) 3 = (f : Int) := by rw [mask3]; omega
          obtain ⟨lb, hlb⟩ : ∃ lb, lb = decide (q' = 2) := ⟨_, rfl⟩
          have hlbi : ((q' : Int) == 2) = lb := by
            rw [hlb]
            by_cases h : q' = 2
            · subst h; rfl
            · have : ¬ (q' : Int) = 2 := by omega
              simp [h, this]
          have hlb3 : decide (q' + 1 = 3) = lb := by
            rw [hlb]
            by_cases h : q' = 2
            · subst h; rfl
            · have : ¬ q' + 1 = 3 := by omega
              simp [h, this]
          have HLb := Lib.hid hlb3
          have hq0 : decide (q' = 3) = false := by simp; omega
          have hsd := HSd.out
          rw [hq0] at hsd
          have HSd2 := Lib.hid hsd
          have HWi := Lib.hid (HW.out.keptNo HK.out)
          have hAL : A < LO := by rw [HLO.out]; exact obj_lt HW.out.1.1
          have hOL : ∀ k, (Value.slice ao bs.length cap).ownBlock = some k → k < LO := fun k hk => by rw [HLO.out]; exact own_lt HW.out.1.2.1 k hk
          have hsepT : ∀ a, ta = some a → a.block ≠ A ∧ (Value.slice ao bs.length cap).ownBlock ≠ some a.block := fun a ha => by
            have h1 := HTk.out.fresh a.block (by rw [ha]; rfl)
            exact ⟨by omega, fun e => by have := hOL _ e; omega⟩
          have hsepB : ∀ a, o = some a → a.block ≠ A ∧ (Value.slice ao bs.length cap).ownBlock ≠ some a.block := fun a ha => by
            have h1 := HBk.out a ha
            have h2 := HDA.out.2.1
            have h3 := HK13.out.size
            refine ⟨by omega, fun e => ?_⟩
            rcases HW.out.2.2.2 _ e with h | h
            · simp [Value.ownBlock] at h
            · omega
          have hwdb := HWd.out
          have htl : (litsT b).length = j := by rw [lits_len]; exact HL.out.symm
          have hcS := stored_yes2 wr A ao cap bs (0 + wdN ps) lb o cb b HWi.out.1 (by omega) (HRd.out.kept HK.out (fun _ _ e => e)) HAll.out (by have := HL.out; omega) (fun _ a ha => hsepB a ha)
          have hcF := fixedBlock_yes wr A ao cap bs (0 + wdN ps) lb ta tcap (litsT b) HWi.out.1 (by omega) HTk.out.reads (fun _ a ha => hsepT a ha) (by rw [htl]; omega) (lits_wf HAll.out) (lits_ok b)
          have hcD := dynamic_yes wr A ao cap bs (0 + wdN ps) lb ta tcap (litsT b) HWi.out.1 (by omega) HTk.out.reads (fun _ a ha => hsepT a ha) (by rw [htl]; omega) (lits_wf HAll.out) (lits_ok b)
          rw [← HL.out] at hcS
          rw [htl] at hcF hcD
          have HcS := Lib.hid hcS; have HcF := Lib.hid hcF; have HcD := Lib.hid hcD; have HTl := Lib.hid htl
          have hgoal : ∀ (w' : World) (a2 : Option Addr) (c2 : Nat) (b2 : List Int) (qs : List (Nat × Nat)), WroteP wr A (.slice ao bs.length cap) bs (0 + wdN ps) qs w' a2 c2 b2 → BlkS (wdN ps) lb qs b → wdN qs ≤ 15000 →
              Hid (WroteP w3 A (.slice none ([] : List Int).length 0) [] 0 (ps ++ qs) w' a2 c2 b2) ∧ Hid (Said (decide (q' + 1 = 3)) (ps ++ qs) ((nb x).take (cutJ I K m (q' + 1)))) ∧ Hid (wdN (ps ++ qs) ≤ 15000 * (q' + 1)) := fun w' a2 c2 b2 qs h1 h2 h3 =>
            ⟨Lib.hid (HWi.out.app h1), Lib.hid (by rw [HLb.out, HJn.out]; exact HSd2.out.more h2), Lib.hid (by rw [wdN_append]; have := HWd.out; omega)⟩
          have HGo := Lib.hid hgoal
          clear hs2 hf hlb hlb3 hq0 hsd hAL hOL hsepT hsepB hwdb htl hcS hcF hcD hgoal
          have hcl := HCell.out wr HK.out
          by_cases hf0 : f = 0
          · have g1 : ((f : Int) == 0) = true := by simp [hf0]
            go_wp2_with fail
            refine HcS.out.mono ?_
            rintro e w5 ⟨a2, c2, b2, rfl, hW2⟩
            have hbl := BlkS.stored (wdN ps) lb b HAll.out (by have := HL.out; omega)
            have hwq : wdN (storedW lb (up8 (0 + wdN ps + 3) - (0 + wdN ps + 3)) b) ≤ 15000 := by
              have hup : up8 (0 + wdN ps + 3) - (0 + wdN ps + 3) < 8 := by unfold up8; omega
              unfold storedW
              rw [wdN_append, bytesW_wd]
              simp only [wdN]
              have := HL.out; omega
            obtain ⟨r1, r2, r3⟩ := HGo.out _ _ _ _ _ hW2 (by rw [Nat.zero_add]; exact hbl) hwq
            clear hW2 hbl hwq hcl
            go_wp2
            go_roundw
            case rel => exact ⟨q' + 1, a2, c2, b2, _, by omega, by go_num, r1, r2, r3⟩
            case measure => simp [intOf]; omega
          · have g1 : ((f : Int) == 0) = false := by simp [hf0]
            by_cases hf1 : f = 1
            · have g2 : ((f : Int) == 1) = true := by simp [hf1]
              go_wp2_with fail
              refine HcF.out.mono ?_
              rintro e w5 ⟨ws, a2, c2, b2, rfl, hws, hW2⟩
              have hbl := BlkS.fixed (wdN ps) lb hws (lits_good b)
              have hwq : wdN ([(lastN lb, 1), (1, 2)] ++ (ws ++ [wordZ fixL 256])) ≤ 15000 := by
                have h1 := hws.wd fixL_ok.2.1 fixD_ok.2.1
                rw [HTl.out] at h1
                have h2 : (wordZ fixL 256).2 ≤ 15 := by decide +kernel
                rw [wdN_append, wdN_append]; simp only [wdN]; omega
              obtain ⟨r1, r2, r3⟩ := HGo.out _ _ _ _ _ hW2 hbl hwq
              clear hws hW2 hbl hwq hcl
              go_wp2
              go_roundw
              case rel => exact ⟨q' + 1, a2, c2, b2, _, by omega, by go_num, r1, r2, r3⟩
              case measure => simp [intOf]; omega
            · have g2 : ((f : Int) == 1) = false := by simp; omega
              go_wp2_with fail
              refine HcD.out.mono ?_
              rintro e w5 ⟨lit, dist, code, told, rs, ws, a2, c2, b2, rfl, hb1, hb2, hcw, hws, hW2⟩
              obtain ⟨d1, d2, d3, d4⟩ := best_head (by rw [HTl.out]; omega) hb1 hb2
              have hbl := BlkS.dynamic (wdN ps) lb hws d1 d2 d3 hcw d4 (lits_good b)
              have hwq : wdN ([(lastN lb, 1), (2, 2)] ++ (headW lit dist code told rs ++ (ws ++ [wordZ lit 256]))) ≤ 15000 := by
                have h1 := hws.wd d1.2.1 d2.2.1
                rw [HTl.out] at h1
                have h2 := headW_few hcw d4
                have h3 : (wordZ lit 256).2 ≤ 15 := by
                  obtain ⟨k, hk, hkl, _⟩ := d3
                  have := d1.2.1.getD k hkl
                  unfold wordZ; rw [hk, Int.toNat_natCast]; simp only; omega
                rw [wdN_append, wdN_append, wdN_append]; simp only [wdN]; omega
              obtain ⟨r1, r2, r3⟩ := HGo.out _ _ _ _ _ hW2 hbl hwq
              clear hb1 hb2 hcw hws hW2 hbl hwq hcl d1 d2 d3 d4
              go_wp2
              go_roundw
              case rel => exact ⟨q' + 1, a2, c2, b2, _, by omega, by go_num, r1, r2, r3⟩
              case measure => simp [intOf]; omega
    · have hq3' : q' = 3 := by omega
      subst hq3'
      have hd3 : decide (3 = 3) = true := rfl
      have hsd := HSd.out
      rw [hd3] at hsd
      have hcj : (nb x).take (cutJ I K m 3) = nb x := List.take_of_length_le (by rw [← HXl.out]; exact Nat.le_refl _)
      rw [hcj] at hsd
      have hlen := HW.out.1.2.2.2.1
      rw [Nat.zero_add] at hlen
      have hwd := HWd.out
      have hpu := puts_of HW.out hsd.lt
      have hsteps := hsd.run bs [] m (by rw [List.append_nil]; exact hpu) (by rw [← HXl.out]; exact Nat.le_refl _)
      have hPl : (wdN ps + 7) / 8 = bs.length := hlen.symm
      have hbl : bs.length ≤ 10000 := by omega
      have HStp : Hid (Steps bs m 0 .block false [] (wdN ps) .fin true (nb x)) := Lib.hid hsteps
      have HPl := Lib.hid hPl
      have HA3 := Lib.hid HW.out.1.2.2.1
      have HRx : Hid (∀ W, Kept NoB wr W → Reads W a (nb x)) := Lib.hid fun W hk => by
        have h1 : Reads w3 a (nb x) := HSt.out.reads.kept HK13.out (fun _ _ e => e)
        have h2 : Reads wr a (nb x) := h1.kept HW.out.2.2.1 (fun q hq e => by
          have h := own_lt HSt.out.own q.block (by rw [hq]; rfl)
          have h3 := HDA.out.2.1
          rcases e with e | e
          · unfold OneB at e; omega
          · unfold OwnB at e; simp [Value.ownBlock] at e)
        exact h2.kept hk (fun _ _ e => e)
      have HCap := Lib.hid hcap
      obtain ⟨W1, hW1⟩ : ∃ W1, W1 = strOfNums (nb x) := ⟨_, rfl⟩
      have HW1 := Lib.hid hW1
      obtain ⟨BL, hBL⟩ : ∃ BL, BL = bs.length := ⟨_, rfl⟩
      have HBL := Lib.hid hBL
      rw [← hBL] at hbl
      have HBy : Hid (∀ W, Kept NoB wr W → Calls Tryz.prog 16 #[.pointer (some ⟨A, 0, none⟩)] W fun e w' => ∃ ao' cap', e = .returned (.slice ao' BL cap') ∧ Hid (Reads w' ao' bs) ∧ Hid (ao' = none → cap' = 0) ∧ BL ≤ cap' ∧ Kept NoB W w') := Lib.hid fun W hk => by
        refine (wbytes_any _ _ _ _ _ _ (HW.out.1.kept hk (fun e => e) (fun _ _ e => e))).mono ?_
        rintro e w' ⟨ao', cap', rfl, ho, hf, hn, hk'⟩
        exact ⟨ao', cap', by rw [HBL.out], own_reads ho rfl, own_nil ho, by rw [HBL.out]; exact (own_cap2 ho).1, hk'⟩
      clear hd3 hsd hcj hlen hwd hpu hsteps hPl hW1 hBL hcap HSd HWd HPt HW3
      go_wp2_with fail
      refine (HBy.out _ (Kept.refl _ _)).mono ?_
      rintro e w5 ⟨a7, c7, rfl, Hrd7, Hn7, hc7, hk7⟩
      have hal := infAll_any w5 a7 c7 bs (m : Int) m (by rw [if_neg (by omega)]) (by omega) Hrd7.out Hn7.out (by rw [← HBL.out]; exact hc7) HA3.out (by rw [← HBL.out]; omega) (fun p m' l' o' h => by have := h.fit.2 (Nat.zero_le _); omega)
      rw [← HBL.out] at hal
      have HAl := Lib.hid hal
      have HK5 := Lib.hid hk7
      clear hal hk7 Hrd7 Hn7 hc7
      go_wp2_with fail
      refine HAl.out.mono ?_
      intro e w6 hR
      obtain ⟨oa, oc, rfl, hrd6, hno6, hcv, hk6⟩ := all_done hR HStp.out HPl.out
      have HK6 := Lib.hid (HK5.out.trans hk6)
      have HCv : Hid (∀ W, Kept NoB w6 W → (convert 22 9 (.slice oa (nb x).length oc)).run Tryz.prog W = .ok (.string W1) W) := Lib.hid fun W hk => by rw [HW1.out]; exact conv_reads (hrd6.out.kept hk (fun _ _ e => e)) rfl hno6.out
      rw [← HBL.out]
      clear hR hcv hrd6 hno6 hk6 HAl HK5
      have q1 : ((BL : Int) == (BL : Int)) = true := by simp
      go_wp2_with fail
      refine (HBy.out _ HK6.out).mono ?_
      rintro e w8 ⟨a8, c8, rfl, _, _, _, hk8⟩
      have hcv3 := HCv.out w8 hk8
      have HK8 := Lib.hid (HK6.out.trans hk8)
      have hcv4 : (convert 22 9 (.slice a m c)).run Tryz.prog w8 = .ok (.string W1) w8 := by rw [HW1.out]; exact conv_reads (HRx.out w8 HK8.out) HXl.out HCap.out.2.2
      clear hk8
      go_wp2_with fail
      refine (HAw.out _).mono ?_
      rintro e w9 ⟨rfl, hk9⟩
      have HK9 := Lib.hid (HK8.out.trans hk9)
      clear hk9 hcv3 hcv4
      go_wp2
      go_ret
      have hkw : Kept NoB w wr := (HSt.out.kept.trans HK13.out).transO HW.out.2.2.1 (fun i hi e => by
        have h1 := HSt.out.kept.size
        have h2 := HDA.out.2.1
        rcases e with e | e
        · unfold OneB at e; omega
        · unfold OwnB at e; simp [Value.ownBlock] at e)
      exact ⟨rfl, (hkw.trans HK9.out).belowNo (Below.refl _ _)⟩
set_option maxRecDepth 100000 in
theorem deflateMix_law (v0 v1 v2 v3 : Value) (w : World) (r0 : Arg w 22 v0) (r1 : Arg w 23 v1) (r2 : Arg w 3 v2) (r3 : Arg w 3 v3) : Calls Tryz.prog 3 #[v0, v1, v2, v3] w fun e w' => e = .returned (.bool true) ∧ Below w.heap.size w w' := by
  obtain ⟨bo, cb, bs, rfl, hc, hm, hr, hb, h0⟩ := Arg.bytes Tryz.underlying22 r0
  obtain ⟨lo, cl, zs, rfl, hlc, hlm, hrl, _, _⟩ := r1.ints
  obtain ⟨x, rfl, _⟩ := Arg.int Tryz.underlying3 r2
  obtain ⟨y, rfl, _⟩ := Arg.int Tryz.underlying3 r3
  exact deflateMix_walk bo cb bs.length (un bs) lo zs.length cl zs x y w (by simp [un]) (by rw [nb_un hb]; exact hr) h0 hc hm hrl rfl hlc hlm
end Go.Proofs.YtdpegahcgaicnaaGreatDoor
