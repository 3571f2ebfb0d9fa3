/-
  CrcParts: however bytes are parted, their check is the same.
-/
import Derived.Test.YtffoigacpnlkgaaAwake2
import Derived.Test.YtffoigacpnlkgaaParts
import Derived.Laws.AppendOwnNone
namespace Go.Proofs.Ytffoigacpnlkgaa
open Go.RowKit
set_option linter.unusedVariables false

/-- One slice, in a row of its own that was just made. -/
theorem one_part {w : World} {k : Nat} {ao : Option Addr} {n cap : Nat} {bs : List Int} (hk : k = w.heap.size) (hn : n = bs.length) (hr : Reads w ao bs) (h1 : n ≤ cap) (h2 : cap ≤ maxLen) (h3 : ao = none → cap = 0) :
    Parts (w.alloc (.cells #[.slice ao n cap] 22)) (some ⟨k, 0, none⟩) [bs] := by
  subst hk hn
  refine .inr ⟨_, 0, rfl, by simp, fun i hi => ?_⟩
  match i, hi with
  | 0, _ => exact ⟨ao, cap, cell_new 0 rfl, hr.keptNo ((Kept.refl _ _).alloc _), h1, h2, h3⟩

def SumR (w : World) (T : Nat) (fl : List Int) (j : Nat) (all : Value) (wr : World) : Prop :=
  ∃ ao cap, all = .slice ao fl.length cap ∧ wr.ownsRow 0 5 1 all fl.length (fl.map (.int .u8)) ∧ (∀ k, all.ownBlock = some k → w.heap.size ≤ k) ∧
    Below w.heap.size w wr ∧ Tbl wr T ∧ w.heap.size ≤ T ∧ fl.length ≤ 200 * j ∧ fl.length ≤ cap ∧ cap ≤ maxLen

theorem Parts.below {w w' : World} {po : Option Addr} {ps : List (List Int)} (h : Parts w po ps) (hb : Below w.heap.size w w') : Parts w' po ps :=
  h.keptNo ((Kept.refl NoB w).ofBelow hb)
theorem own_cap {w : World} {base e n cap : Nat} {ao : Option Addr} {xs : List Value} (h : w.ownsRow base e 1 (.slice ao n cap) n xs) : n ≤ cap ∧ cap ≤ maxLen := by
  rcases h.2 with ⟨hv, hn⟩ | ⟨g, c, cur, hv, _, _, h1, h2, _⟩
  · simp at hv; obtain ⟨_, rfl, rfl⟩ := hv; exact ⟨Nat.le_refl _, Nat.zero_le _⟩
  · simp at hv; obtain ⟨_, rfl⟩ := hv; exact ⟨h1, h2⟩

theorem own_nil {w : World} {base e n cap : Nat} {ao : Option Addr} {xs : List Value} (h : w.ownsRow base e 1 (.slice ao n cap) n xs) : ao = none → cap = 0 := by
  intro ha
  subst ha
  rcases h.2 with ⟨hv, hn⟩ | ⟨g, c, cur, hv, _⟩
  · simp at hv; exact hv.2
  · simp at hv

set_option maxRecDepth 100000 in
set_option maxHeartbeats 4000000 in
theorem crcParts_walk (ao : Option Addr) (cap len : Nat) (ps : List (List Int)) (w : World) (hlen : ps.length = len) (hp : Parts w ao ps) (hall : AllP ps) (hm : len ≤ maxLen) :
    Calls Try.prog 9 #[.slice ao len cap] w fun e w' => e = .returned (.bool true) ∧ Below w.heap.size w w' := by
  unfold maxLen at hm
  have HLen := Lib.hid hlen; have HP := Lib.hid hp; have HAll := Lib.hid hall
  clear hlen hp hall
  obtain ⟨i0, hi, hz0, hz1, hz2⟩ := info_parts info5
  go_enter Try.func9, Try.ntmps9
  go_wp2_with fail
  refine (newt_any _).mono ?_
  rintro e w1 ⟨T, rfl, hT, hTf, hk1⟩
  have HT1 := Lib.hid hT; have HB1 := Lib.hid (hk1.belowNo (Below.refl _ _)); have HTf := Lib.hid hTf
  clear hT hk1 hTf
  by_cases h20 : 20 < len
  · go_wp2_with fail
    refine (awake2 _).mono ?_
    rintro e w2 ⟨rfl, hb2⟩
    have hb3 := HB1.out.trans (hb2.mono HB1.out.size)
    go_wp2
    go_ret
    exact ⟨rfl, hb3⟩
  · go_wp2
    go_loopw [4, 5, 6] (fun all c i wr => ∃ (j : Nat) (fl : List Int), j ≤ len ∧ Hid (fl = (ps.take j).flatten) ∧ i = .int .i64 j ∧ c = .int .u32 (crcOf 0 (nats fl) : Nat) ∧ SumR w T fl j all wr) (fun _ _ i _ => len - (intOf i).toNat)
    case atStart => exact ⟨0, [], by omega, (rfl : [] = (ps.take 0).flatten), rfl, by rw [show crcOf 0 (nats []) = 0 from crc_start]; rfl, none, 0, rfl, World.ownsRow_nil _ _ _ _, by simp [Value.ownBlock], HB1.out, HT1.out, HTf.out, by simp, by simp, by unfold maxLen; omega⟩
    case round =>
      obtain ⟨j, fl, hj, HFl, rfl, rfl, hR⟩ := hrel
      obtain ⟨ao1, cap1, rfl, hown, hfr, hbel, hTr, hTf, hfl, hlc1, hcm⟩ := hR
      have HOwn := Lib.hid hown; have HFr := Lib.hid hfr; have HBel := Lib.hid hbel; have HTr := Lib.hid hTr
      clear hown hfr hbel hTr
      by_cases hlt : j < len
      · have hjp : j < ps.length := by have := HLen.out; omega
        rcases HP.out.below HBel.out with h0 | ⟨b, off, rfl, hbl, hc⟩
        · rw [h0] at hjp; simp at hjp
        obtain ⟨pa, pc, c0, hrd, hlc, hcm2, hpn0⟩ := hc j hjp
        have hAll := AllP.getD HAll.out j
        have hfs : fl ++ ps.getD j [] = (ps.take (j + 1)).flatten := by rw [HFl.out, flat_succ ps j hjp]
        have hAfl : AllB fl := by rw [HFl.out]; exact AllP.flat (fun p hp => HAll.out p (List.mem_of_mem_take hp))
        obtain ⟨part, hpart⟩ : ∃ part, part = ps.getD j [] := ⟨_, rfl⟩
        rw [← hpart] at c0 hrd hlc hAll hfs
        have HPart := Lib.hid hpart
        have HFS := Lib.hid hfs; have HRd := Lib.hid hrd; have HAp := Lib.hid hAll; have HAfl := Lib.hid hAfl
        clear hpart hfs hrd hAll hAfl hc hjp
        by_cases h200 : 200 < part.length
        · go_wp2_with fail
          refine (awake2 _).mono ?_
          rintro e w2 ⟨rfl, hb2⟩
          have hb3 := HBel.out.trans (hb2.mono HBel.out.size)
          go_wp2
          go_ret
          exact ⟨rfl, hb3⟩
        · have c0' := c0
          have HC0 : Hid (wr.cell? ⟨b, off + j, none⟩ = some (.slice pa part.length pc)) := c0'
          clear c0'
          go_upto_region 11 with fail
          clear c0
          go_cut [4] from 33 to 38 (fun all2 wx => ∃ ao2 cap2, all2 = .slice ao2 (fl ++ part).length cap2 ∧ wx.ownsRow 0 5 1 all2 (fl ++ part).length ((fl ++ part).map (.int .u8)) ∧ (∀ k, all2.ownBlock = some k → w.heap.size ≤ k) ∧ Kept (OwnB (.slice ao1 fl.length cap1)) wr wx)
          case first =>
            have c0 := HC0.out
            cases pa with
            | none =>
              have hpn : part = [] := HRd.out.1 rfl
              have hpc : pc = 0 := hpn0 rfl
              subst hpn hpc
              have c0 : wr.cell? ⟨b, off + j, none⟩ = some (.slice none 0 0) := c0
              go_wp2_with (at_builtin; refine wpList_append_own_none rfl _ _ 22 rfl 0 5 i0 1 Try.underlying22 hi _ fl.length (fl.map (.int .u8)) rfl HOwn.out rfl ?_)
              go_meet
              exact ⟨ao1, cap1, by simp, by simpa using HOwn.out, HFr.out, Kept.refl _ _⟩
            | some a =>
              have hown := HOwn.out
              go_wp2_with (at_builtin; refine wpList_app _ rfl _ _ 22 rfl 5 i0 (.int .u8 0) 1 1 Try.underlying22 hi hz0 hz1 hz2 rfl (by decide) _ fl.length (fl.map (.int .u8)) rfl hown a part.length pc (part.map (.int .u8)) rfl ?c1 ?c2 ?c3 ?c4 ?c5 ?_)
              case c1 => simp
              case c2 =>
                intro k u hk
                have hkl : k < part.length := by have := (List.getElem?_eq_some_iff.1 hk).1; simpa using this
                rw [HRd.out.2 a rfl k hkl]
                have e : (part.map (Value.int .u8))[k]? = some (Value.int .u8 (part.getD k 0)) := by simp [List.getD, List.getElem?_eq_getElem hkl]
                rw [e] at hk
                exact hk
              case c3 => intro u hu; obtain ⟨x, _, rfl⟩ := List.mem_map.1 hu; rfl
              case c4 => unfold maxLen; omega
              case c5 => omega
              intro v' w2 hown' hgrow hnew
              go_wp2
              go_meet
              obtain ⟨ao2, cap2, rfl⟩ := own_shape hown'
              refine ⟨ao2, cap2, by rw [List.length_append], by rw [List.length_append, List.map_append]; exact hown', ?_, ?_⟩
              · intro k hk
                rcases hnew k hk with h1 | h1
                · exact HFr.out k h1
                · have := HBel.out.size; omega
              · exact (Kept.refl _ wr).grown hgrow (fun k _ e => e)
          case rest =>
            obtain ⟨ao2, cap2, rfl, hown2, hfr2, hk2⟩ := hcut
            have hB2 : Below w.heap.size w wc := hk2.below HBel.out HFr.out
            have hT2 : Tbl wc T := hk2.obj HTr.out (fun e => row_ne HOwn.out HTr.out (by decide) T e rfl)
            rcases HP.out.below hB2 with h0 | ⟨b', off', hbo, hbl', hc'⟩
            · have h1 := HLen.out; rw [h0] at h1; simp at h1; omega
            simp only [Option.some.injEq, Addr.mk.injEq, and_true] at hbo
            obtain ⟨rfl, rfl⟩ := hbo
            obtain ⟨pa', pc', c0', hrd', hlc', hcm', _⟩ := hc' j (by have := HLen.out; omega)
            rw [← HPart.out] at c0' hrd' hlc'
            have HRd' := Lib.hid hrd'; have HT2 := Lib.hid hT2; have HB2 := Lib.hid hB2; have HOwn2 := Lib.hid hown2; have HFr2 := Lib.hid hfr2
            have hcap2 := own_cap hown2
            have HCap2 := Lib.hid hcap2
            have hcl := crcOf_lt 0 (nats fl)
            have HCl := Lib.hid hcl
            have hpl : part.length ≤ 200 := by omega
            clear hrd' hT2 hB2 hown2 hfr2 hcap2 hcl hk2 hc' HRd HC0 HOwn HFr
            have hstep : crcOf 0 (nats (fl ++ part)) = crcOf (crcOf 0 (nats fl)) (nats part) := by
              rw [nats_append, crcOf_append]; exact nats_lt HAfl.out
            have HS := Lib.hid hstep; clear hstep
            go_wp2_with fail
            refine (update_any _ T _ _ _ _ part HT2.out HRd'.out HAp.out rfl HCl.out (by omega)).mono ?_
            rintro e w3 ⟨rfl, hk3⟩
            have HT3 := Lib.hid (HT2.out.keptNo hk3)
            have HB3 := Lib.hid (hk3.belowNo HB2.out)
            have HOwn3 := Lib.hid (hk3.row HOwn2.out (fun _ _ h => h))
            clear hk3 c0'
            have hfpl : (fl ++ part).length ≤ 200 * (j + 1) := by rw [List.length_append]; omega
            have HFpl := Lib.hid hfpl; clear hfpl
            obtain ⟨fp, hfp⟩ : ∃ fp, fp = fl ++ part := ⟨_, rfl⟩
            rw [← hfp] at HOwn3 HFr2 HCap2 HFpl HS ⊢
            have HFp := Lib.hid hfp; clear hfp
            have hAfp : AllB fp := by rw [HFp.out, HFS.out]; exact AllP.flat (fun p hp => HAll.out p (List.mem_of_mem_take hp))
            have HAfp := Lib.hid hAfp; clear hAfp
            go_wp2_with fail
            rw [← HS.out]
            refine (sum_any _ T _ _ _ [fp] (HT3.out.keptNo ((Kept.refl _ _).alloc _)) (one_part rfl rfl (own_reads HOwn3.out rfl) HCap2.out.1 HCap2.out.2 (own_nil HOwn3.out)) (by intro p hp; simp at hp; subst hp; exact HAfp.out) rfl (by simp)).mono ?_
            rintro e w4 ⟨rfl, hk4⟩
            rw [show [fp].flatten = fp from by simp]
            have hk34 := ((Kept.refl NoB w3).alloc (.cells #[.slice ao2 fp.length cap2] 22)).trans hk4
            have F : SumR w T fp (j + 1) (.slice ao2 fp.length cap2) w4 :=
              ⟨ao2, cap2, rfl, hk34.row HOwn3.out (fun _ _ h => h), HFr2.out, hk34.belowNo HB3.out, HT3.out.keptNo hk34, hTf, HFpl.out, HCap2.out.1, HCap2.out.2⟩
            have HF := Lib.hid F
            clear F hk34 hk4
            go_wp2
            go_roundw
            case rel => exact ⟨j + 1, fp, by omega, (HFp.out.trans HFS.out : fp = _), by go_num, rfl, HF.out⟩
            case measure => simp [intOf]; omega
      · have hjl : j = len := by omega
        have hfe : fl = ps.flatten := by rw [HFl.out, List.take_of_length_le (by have := HLen.out; omega)]
        have HFe := Lib.hid hfe; clear hfe hjl
        go_wp2_with fail
        refine (sum_any _ T _ _ _ ps HTr.out (HP.out.below HBel.out) HAll.out HLen.out (by omega)).mono ?_
        rintro e w4 ⟨rfl, hk4⟩
        rw [← HFe.out]
        have HB4 := Lib.hid (hk4.belowNo HBel.out)
        clear hk4
        go_wp2_with fail
        refine (awake2 _).mono ?_
        rintro e w5 ⟨rfl, hb5⟩
        have hb6 := HB4.out.trans (hb5.mono HB4.out.size)
        go_wp2
        go_ret
        exact ⟨rfl, hb6⟩

theorem crcParts_law (v0 : Value) (w : World) (r0 : Arg w 59 v0) : Calls Try.prog 9 #[v0] w fun e w' => e = .returned (.bool true) ∧ Below w.heap.size w w' := by
  obtain ⟨ao, cap, ps, rfl, hp, hall, hm⟩ := parts_open r0
  exact crcParts_walk ao cap _ ps w rfl hp hall hm
end Go.Proofs.Ytffoigacpnlkgaa
