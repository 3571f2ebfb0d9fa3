/-
  readItems: all items that are whole.
  New, Close, State, Out.
  Feed of one part; All.
  inflate.All.
  Blocks that were put are read as what they say; what a whole stream that was put is unpacked as.
  A row of tokens of the call's own; one token more.
  The writer and the document's own writer, side by side: what one call does to both.
  The writer and the document's, side by side, block by block.
-/
import Derived.Test.YtfmjfgmbjdhogaaGreatDoorMg20
namespace Go.Proofs.YtfmjfgmbjdhogaaGreatDoor
open Go.RowKit
set_option linter.unusedVariables false
set_option linter.unusedSimpArgs false

structure InfE (lo : Nat) (w : World) (D : Nat) (v : IV) (out : List Int) : Prop where
  obj : InfO w D v
  low : lo ≤ D
  sink : RowU w lo v.sk out
  fit : out.length ≤ v.most
  big : v.most ≤ 9223372036854775807
  all : AllB out
theorem InfE.turn {lo : Nat} {w w' : World} {D : Nat} {v v' : IV} {out : List Int} (h : InfE lo w D v out) (hk : Kept (OneB D) w w') (ho : InfO w' D v') (e1 : v'.sk = v.sk) (e2 : v'.most = v.most) : InfE lo w' D v' out :=
  ⟨ho, h.low, by rw [e1]; exact h.sink.kept hk (fun k e1 e2 => row_ne h.sink.own h.obj (by decide) k e1 e2), by rw [e2]; exact h.fit, by rw [e2]; exact h.big, h.all⟩
theorem Inf0.fin {lo : Nat} {w : World} {D : Nat} {v : IV} {m : Md} {out bs : List Int} {S : Nat → Prop} (h : Inf0 lo w D v m out bs S) : InfE lo w D v out := ⟨h.obj, h.low, h.sink, h.fit, h.big, h.all⟩
def ItemsW (lo : Nat) (w : World) (D : Nat) (v : IV) (m : Md) (out bs : List Int) (p0 fr : Nat) (w' : World) : Prop :=
  Kept (LoB lo) w w' ∧ ∃ p m' l' o' v', Steps bs v.most p0 m v.la out p m' l' o' ∧ v'.most = v.most ∧ p ≤ 8 * bs.length ∧
    ((m' = .fin ∧ InfE lo w' D v' o' ∧ v'.nx = 5 ∧ v'.er = 0 ∧ v'.us = ((fr + (p + 7) / 8 : Nat) : Int) ∧ v'.at_ = v.at_) ∨
     (∃ er p1 m1 l1 o1, er ≠ 0 ∧ er ≠ 2 ∧ ItemR bs v.most p m' l' o' er p1 m1 l1 o1 ∧ InfE lo w' D v' o' ∧ v'.nx = nxOf m' ∧ m' ≠ .fin ∧ v'.er = er ∧ v'.us = v.us ∧ v'.at_ = ((fr + p / 8 : Nat) : Int)) ∨
     (∃ p1 m1 l1 o1 S', ItemR bs v.most p m' l' o' 2 p1 m1 l1 o1 ∧ Inf0 lo w' D v' m' o' (bs.drop (p / 8)) S' ∧ v'.la = l' ∧ v'.us = v.us ∧ v'.at_ = v.at_ ∧ v'.fr = ((fr + p / 8 : Nat) : Int) ∧ v'.sp = ((p % 8 : Nat) : Int)))
def rdAt (R : Nat) (w : World) : Nat := (intOf ((w.cell? ⟨R, 1, none⟩).getD (.int .i64 0))).toNat
theorem rdAt_is {w : World} {R : Nat} {ao : Option Addr} {cap : Nat} {bs : List Int} {p : Nat} (h : Rdr w R ao cap bs p) : rdAt R w = p := by
  have c1 : w.cell? ⟨R, 1, none⟩ = some (.int .i64 p) := by simpa using obj_cell h.1 1
  unfold rdAt
  rw [c1]; simp [intOf]
set_option maxRecDepth 20000 in
set_option maxHeartbeats 8000000 in
theorem readItems_any {lo : Nat} {w : World} {D : Nat} {v : IV} {m : Md} {out bs : List Int} {S : Nat → Prop} (h : Inf0 lo w D v m out bs S) (hlo : lo ≤ w.heap.size) (hbl : bs.length ≤ 1000000) (p0 fr : Nat) (hfr : v.fr = (fr : Int)) (hfl : fr ≤ 1000000000000) (hsp : v.sp = (p0 : Int)) (hp0 : p0 ≤ 7) (hp8 : p0 ≤ 8 * bs.length) (hm : m.ok) (hal : Al m p0)
    (hB : ∀ p m' l' o', Steps bs v.most p0 m v.la out p m' l' o' → o'.length ≤ 900000) :
    Calls Tryz.prog 57 #[.pointer (some ⟨D, 0, none⟩)] w fun e w' => e = .returned (.tuple #[]) ∧ ItemsW lo w D v m out bs p0 fr w' := by
  obtain ⟨ra, rc, hrs⟩ := own_shape h.rest.own
  have c3 := h.obj.c3
  have c5 := h.obj.c5
  rw [hrs] at c3
  rw [hsp] at c5
  have hrd : Reads w ra bs := own_reads (by have := h.rest.own; rw [hrs] at this; exact this) rfl
  have HNR := Lib.hid (newr_any ra rc bs w hrd (by omega) h.allr)
  have H := Lib.hid h; have HB := Lib.hid hB; have HM := Lib.hid hm; have HAl := Lib.hid hal; have HFr := Lib.hid hfr; have HSp := Lib.hid hsp
  clear h hrs hrd hB hm hal hfr hsp
  go_enter Tryz.func57, Tryz.ntmps57
  go_wp2_with fail
  refine HNR.out.mono ?_
  rintro e w1 ⟨R, ao, cap, rfl, hr1, hRw, haw, hk1⟩
  have HT := Lib.hid (take_yes w1 R ao cap bs 0 p0 hr1 (by omega) (by omega))
  rw [Nat.zero_add] at HT
  have HR1 := Lib.hid hr1; have HK1 := Lib.hid hk1; have HAw := Lib.hid haw
  have c5' := (H.out.obj.kept hk1 (fun e => e)).c5
  rw [HSp.out] at c5'
  clear hr1 hk1 haw c3 c5 HNR
  go_wp2_with fail
  refine HT.out.mono ?_
  rintro e w2 ⟨rfl, hr2, hk2⟩
  obtain ⟨S1, hI1⟩ := H.out.with hlo HK1.out HR1.out hRw HAw.out
  have hlo1 : lo ≤ w1.heap.size := by have := HK1.out.size; omega
  have hI2 := hI1.moved hlo1 hk2 (fun _ e => e) hr2
  have HI2 := Lib.hid hI2
  have HK2 : Hid (Kept (LoB lo) w w2) := Lib.hid ((HK1.out.mono (fun _ _ e => e.elim)).trans (hk2.mono (fun k _ e => by unfold OneB at e; subst e; exact hI1.lowR)))
  clear hI1 hI2 hr2 hk2 c5' HT
  go_wp2_with fail
  go_loopw [3, 4] (fun _a _b wr => ∃ p m' o' v' S', Hid (InfS lo wr D v' m' o' bs S' R ao cap p) ∧ Hid (Steps bs v.most p0 m v.la out p m' v'.la o') ∧ Hid (v'.most = v.most ∧ v'.fr = v.fr ∧ v'.us = v.us ∧ v'.at_ = v.at_) ∧ Hid (Kept (LoB lo) w wr)) (fun _ _ wr => 8 * bs.length - rdAt R wr)
  case atStart => exact ⟨p0, m, out, v, S1, HI2, Lib.hid .refl, Lib.hid ⟨rfl, rfl, rfl, rfl⟩, HK2⟩
  case round =>
    clear HI2 HK2
    obtain ⟨p, m', o', v', S', HI, HSt, HV, HK⟩ := hrel
    have hplen := HI.out.rd.2.2.2.1
    have hlor : lo ≤ wr.heap.size := by have := HK.out.size; omega
    have c4 := HI.out.obj.c4
    rw [HV.out.2.1, HFr.out] at c4
    have c6 := HI.out.obj.c6
    rw [HI.out.nx] at c6
    by_cases hfin : m' = .fin
    · subst hfin
      have c6 : wr.cell? ⟨D, 6, none⟩ = some (.int .i64 5) := c6
      have c13 := HI.out.obj.c13
      have f13 := HI.out.obj.free 13
      have HAt := Lib.hid (fun W (hk : Kept NoB wr W) => at_same W R ao cap bs p (HI.out.rd.keptNo hk))
      obtain ⟨K, hK⟩ : ∃ K, K = (p + 7) / 8 := ⟨_, rfl⟩
      have hk1 : ((p : Int) + 7) / 8 = (K : Int) := by omega
      have hkb : K ≤ 1000001 := by omega
      have HKK := Lib.hid hK
      clear hK
      go_upto_region 10 with fail
      have hk0 := Kept.refl NoB wr
      have hfk : (fr : Int) + (K : Int) = ((fr + K : Nat) : Int) := by omega
      have hfkb : fr + K ≤ 2000000000000 := by omega
      obtain ⟨F, hF⟩ : ∃ F, F = fr + K := ⟨_, rfl⟩
      rw [← hF] at hfk hfkb
      have HF := Lib.hid hF
      have hN : IntKind.i64.wrap ((fr : Int) + IntKind.i64.wrap ((IntKind.i64.wrap ((p : Int) + 7)).tdiv 8)) = (F : Int) := by
        have a1 : IntKind.i64.wrap ((p : Int) + 7) = (p : Int) + 7 := IntWalk.i64_in _ (by omega)
        have a2 : ((p : Int) + 7).tdiv 8 = (K : Int) := by rw [Int.tdiv_eq_ediv_of_nonneg (by omega)]; exact hk1
        have a3 : IntKind.i64.wrap (K : Int) = (K : Int) := IntWalk.i64_in _ (by omega)
        rw [a1, a2, a3, hfk]
        exact IntWalk.i64_in _ (by omega)
      obtain ⟨w5, hw5⟩ : ∃ w5, w5 = (wr.setCell ⟨D, 13, none⟩ (.int .i64 (F : Int))).drew := ⟨_, rfl⟩
      have ho5 : InfO w5 D { v' with us := (F : Int) } := by rw [hw5]; exact HI.out.obj.setUs (F : Int)
      have hk5 : Kept (OneB D) wr w5 := by rw [hw5]; exact Kept.drew (Kept.setCell (S := OneB D) (p := ⟨D, 13, none⟩) (Kept.refl _ wr) (.inl rfl) _)
      have c3 := ho5.c3
      have f3 := ho5.free 3
      simp only at c3
      have HO6 := Lib.hid (ho5.setRs (.slice none 0 0))
      have HK6 := Lib.hid (Kept.setCell (p := ⟨D, 3, none⟩) hk5 (.inl rfl) (.slice none 0 0))
      have HW5 := Lib.hid hw5
      clear hF hk1 ho5 hk5 hw5
      go_region_law (first
        | (go_simp; go_at_call 97; (with_reducible refine (HAt.out _ (Kept.drew hk0)).mono ?_); rintro e wn ⟨rfl, rfl⟩))
      all_goals
        try rw [hN]
        rw [← HW5.out]
        go_wp2
        refine bodyPost_end (results_none rfl _ _ _) rfl ?_
        refine ⟨rfl, HK.out.trans (HK6.out.mono (fun k _ e => by unfold OneB at e; subst e; exact HI.out.low)), p, .fin, v'.la, o', { v' with us := (F : Int), rs := .slice none 0 0 }, HSt.out, HV.out.1, hplen, .inl ⟨rfl, HI.out.drop.fin.turn HK6.out HO6.out rfl rfl, HI.out.nx, HI.out.er, ?_, HV.out.2.2.2⟩⟩
        show (F : Int) = _
        rw [HF.out, HKK.out]
    · have hne5 : ∃ z : Int, nxOf m' = z ∧ (z != 5) = true := ⟨nxOf m', rfl, by cases m' <;> first | rfl | exact absurd rfl hfin⟩
      obtain ⟨z, hz, hz5⟩ := hne5
      rw [hz] at c6
      have hokm := (HSt.out.ok HM.out).1
      have halm := HSt.out.al HAl.out
      have hsmo := HB.out _ _ _ _ HSt.out
      have HAt := Lib.hid (at_same wr R ao cap bs p HI.out.rd)
      have HRI := Lib.hid (readItem_any HI.out hlor hfin halm hsmo hbl)
      have HFin := Lib.hid hfin; have HZ := Lib.hid hz
      clear hz hokm halm hsmo hfin
      go_wp2_with fail
      refine HAt.out.mono ?_
      rintro e w3 ⟨rfl, rfl⟩
      go_wp2_with fail
      refine HRI.out.mono ?_
      rintro e w3 ⟨er, rfl, hk3, v3, m3, o3, S3, p3, hI3, r1, r2, r3, r4, r5⟩
      have HI3 := Lib.hid hI3; have HR5 := Lib.hid r5
      have HV3 : Hid (v3.most = v.most ∧ v3.fr = v.fr ∧ v3.us = v.us ∧ v3.at_ = v.at_) := Lib.hid ⟨r4.1.trans HV.out.1, r2.trans HV.out.2.1, r4.2.1.trans HV.out.2.2.1, r4.2.2.trans HV.out.2.2.2⟩
      have HK3 := Lib.hid (HK.out.trans hk3)
      clear hI3 r1 r2 r3 r4 r5 hk3 HRI HAt c6 c4
      by_cases h0 : er = 0
      · subst h0
        have h5 := HR5.out
        rw [if_pos rfl] at h5
        have hm : v'.most = v.most := HV.out.1
        rw [hm] at h5
        go_wp2
        go_roundw
        case rel => exact ⟨p3, m3, o3, v3, S3, HI3, Lib.hid (HSt.out.trans h5.1), HV3, HK3⟩
        case measure =>
          rw [rdAt_is HI3.out.rd, rdAt_is HI.out.rd]
          have := HI3.out.rd.2.2.2.1
          omega
      · by_cases h2 : er = 2
        · subst h2
          have h5 := HR5.out
          rw [if_neg (by decide)] at h5
          obtain ⟨⟨p1, m1, l1, o1, hit⟩, e1, e2, e3⟩ := h5
          have e3 := e3 rfl
          subst e1 e2
          have hlo3 : lo ≤ w3.heap.size := by have := HK3.out.size; omega
          have HKp := Lib.hid (keep_any HI3.out.drop hlo3 p hplen hbl fr (HV3.out.2.1.trans HFr.out) hfl)
          have HIt := Lib.hid hit; have HE3 := Lib.hid e3
          clear hit e3
          go_wp2_with fail
          refine HKp.out.mono ?_
          rintro e w4 ⟨rfl, hk4, rs', S4, hI4⟩
          have HI4 := Lib.hid hI4; have HK4 := Lib.hid (HK3.out.trans hk4)
          clear hI4 hk4 HKp
          go_wp2
          refine bodyPost_ret (results_none rfl _ _ _) rfl ?_
          refine ⟨rfl, HK4.out, p, m3, v'.la, o3, { v3 with rs := rs', fr := ((fr + p / 8 : Nat) : Int), sp := ((p % 8 : Nat) : Int) }, HSt.out, HV3.out.1, hplen, .inr (.inr ⟨p1, m1, l1, o1, S4, ?_, HI4.out, HE3.out, HV3.out.2.2.1, HV3.out.2.2.2, rfl, rfl⟩)⟩
          have := HIt.out
          rw [HV.out.1] at this
          exact this
        · have h5 := HR5.out
          rw [if_neg h0] at h5
          obtain ⟨⟨p1, m1, l1, o1, hit⟩, e1, e2, e3⟩ := h5
          have HIt := Lib.hid hit
          clear hit e3
          have g2 : ((er : Int) == 2) = false := by simpa using h2
          have g0 : (er != 0) = true := by simpa using h0
          obtain ⟨K, hK⟩ : ∃ K, K = p / 8 := ⟨_, rfl⟩
          have hkk : (p : Int) / 8 = (K : Int) := by omega
          have hkb : K ≤ 1000001 := by omega
          have hfk : (fr : Int) + (K : Int) = ((fr + K : Nat) : Int) := by omega
          have hfkb : fr + K ≤ 2000000000000 := by omega
          obtain ⟨F, hF⟩ : ∃ F, F = fr + K := ⟨_, rfl⟩
          rw [← hF] at hfk hfkb
          have HF := Lib.hid hF; have HKK := Lib.hid hK
          clear hF hK
          have ho3 := HI3.out.obj
          have c4 := ho3.c4
          rw [HV3.out.2.1, HFr.out] at c4
          have c15 := ho3.c15
          have f15 := ho3.free 15
          have ho4 := ho3.setEr er
          have c14 := ho4.c14
          have f14 := ho4.free 14
          have ho5 := ho4.setAt (F : Int)
          have c3 := ho5.c3
          have f3 := ho5.free 3
          have ho6 := ho5.setRs (.slice none 0 0)
          simp only at c14 c3
          have HO6 := Lib.hid ho6
          clear ho3 ho4 ho5 ho6
          go_wp2
          refine bodyPost_ret (results_none rfl _ _ _) rfl ?_
          have hk6 : Kept (OneB D) w3 (((w3.setCell ⟨D, 15, none⟩ (.int .i64 er)).setCell ⟨D, 14, none⟩ (.int .i64 (F : Int))).setCell ⟨D, 3, none⟩ (.slice none 0 0)) :=
            Kept.setCell (p := ⟨D, 3, none⟩) (Kept.setCell (p := ⟨D, 14, none⟩) (Kept.setCell (p := ⟨D, 15, none⟩) (Kept.refl (OneB D) w3) (.inl rfl) _) (.inl rfl) _) (.inl rfl) _
          have hIE := HI3.out.drop.fin.turn hk6 HO6.out rfl rfl
          have hit := HIt.out
          rw [HV.out.1] at hit
          refine ⟨rfl, HK3.out.trans (hk6.mono (fun k _ e => by unfold OneB at e; subst e; exact HI3.out.low)), p, m', v'.la, o', { v3 with er := er, at_ := (F : Int), rs := .slice none 0 0 }, HSt.out, HV3.out.1, hplen, .inr (.inl ⟨er, p1, m1, l1, o1, h0, h2, hit, ?_, ?_, HFin.out, rfl, HV3.out.2.2.1, ?_⟩)⟩
          · rw [e1] at hIE; exact hIE
          · rw [← e2]; exact HI3.out.nx
          · show (F : Int) = _; rw [HF.out, HKK.out]
end Go.Proofs.YtfmjfgmbjdhogaaGreatDoor

namespace Go.Proofs.YtfmjfgmbjdhogaaGreatDoor
open Go.RowKit
set_option linter.unusedVariables false
set_option linter.unusedSimpArgs false

theorem results_tmp4 {fn : Func} {t u v x : Tmp} (h : fn.results = #[.tmp t, .tmp u, .tmp v, .tmp x]) (tmps : Array Value) (P : Program) (w : World) :
    (results fn tmps).run P w = .ok (.tuple #[tmps.getD t undef, tmps.getD u undef, tmps.getD v undef, tmps.getD x undef]) w := by
  simp [results, h]
set_option maxRecDepth 20000 in
set_option maxHeartbeats 2000000 in
theorem newsink_any (w : World) (z : Int) (m : Nat) (hm : (m : Int) = if z < 0 then 0 else z) (hml : m ≤ 9223372036854775807) : Calls Tryz.prog 55 #[.int .i64 z] w fun e w' => ∃ K, e = .returned (.pointer (some ⟨K, 0, none⟩)) ∧ w'.heap[K]? = some (.cells #[.slice none 0 0, .int .i64 m] 106 (0, 0)) ∧ Kept NoB w w' := by
  have e1 : (if 0 < z then z else 0) = (m : Int) := by omega
  have e2 : (if z < 0 then 0 else z) = (m : Int) := by omega
  have HM := Lib.hid hm
  clear hm
  go_enter Tryz.func55, Tryz.ntmps55
  go_wp2
  all_goals go_ret
  all_goals refine ⟨w.heap.size, rfl, ?_, (Kept.refl _ _).alloc _⟩
  all_goals rw [heap_alloc_new]
  all_goals have h := HM.out
  all_goals first
    | rfl
    | (congr 4; split at h <;> omega)
theorem nilrow {w : World} {lo : Nat} : RowU w lo (.slice none 0 0) [] := ⟨World.ownsRow_nil _ _ _ _, fun k hk => by simp [Value.ownBlock] at hk⟩
def iv0 (most : Nat) : IV := ⟨.slice none 0 0, most, .slice none 0 0, .slice none 0 0, 0, 0, 0, false, 0, none, none, none, none, 0, 0, 0⟩
set_option maxRecDepth 20000 in
set_option maxHeartbeats 4000000 in
theorem infnew_any (w : World) (z : Int) (m : Nat) (hm : (m : Int) = if z < 0 then 0 else z) (hml : m ≤ 9223372036854775807) : Calls Tryz.prog 29 #[.int .i64 z] w fun e w' => ∃ D, e = .returned (.pointer (some ⟨D, 0, none⟩)) ∧ Inf0 w.heap.size w' D (iv0 m) .block [] [] (fun _ => False) ∧ Kept NoB w w' := by
  have HN := Lib.hid (newsink_any w z m hm hml)
  have HL := Lib.hid hml
  clear hm
  go_enter Tryz.func29, Tryz.ntmps29
  go_wp2_with fail
  refine HN.out.mono ?_
  rintro e w1 ⟨K, rfl, hk, hkk⟩
  have k0 : w1.cell? ⟨K, 0, none⟩ = some (.slice none 0 0) := by rw [obj_cell hk 0]; rfl
  have k1 : w1.cell? ⟨K, 1, none⟩ = some (.int .i64 m) := by rw [obj_cell hk 1]; rfl
  have HK := Lib.hid hkk
  clear hk hkk HN
  go_wp2
  go_ret
  refine ⟨w1.heap.size, rfl, ⟨heap_alloc_new _ _, HK.out.size, nilrow, nilrow, ⟨[], nilrow, ⟨⟨[], rfl⟩, .inl rfl⟩, by decide⟩, (fun k hk => by simp [iv0, Value.ownBlock] at hk), (fun k hk => hk.elim), (fun k hk => by simp [iv0, Value.ownBlock] at hk), rfl, rfl, Nat.zero_le _, HL.out, (fun b hb => by cases hb), (fun b hb => by cases hb), trivial, .inl rfl⟩, HK.out.alloc _⟩
set_option maxRecDepth 20000 in
set_option maxHeartbeats 4000000 in
theorem infclose_over (w : World) (D : Nat) (v : IV) (h : InfO w D v) (ho : v.nx = 5 ∨ v.er ≠ 0) :
    Calls Tryz.prog 31 #[.pointer (some ⟨D, 0, none⟩)] w fun e w' => e = .returned (.tuple #[]) ∧ Kept NoB w w' := by
  have HO := over_any w D v h
  rw [decide_eq_true ho] at HO
  have HO := Lib.hid HO
  clear h ho
  go_enter Tryz.func31, Tryz.ntmps31
  go_wp2_with fail
  refine HO.out.mono ?_
  rintro e w1 ⟨rfl, hk⟩
  have HK := Lib.hid hk
  clear hk HO
  go_wp2
  refine bodyPost_end (results_none rfl _ _ _) rfl ?_
  exact ⟨rfl, HK.out⟩
set_option maxRecDepth 20000 in
set_option maxHeartbeats 4000000 in
theorem infstate_any (w : World) (D : Nat) (v : IV) (h : InfO w D v) :
    Calls Tryz.prog 32 #[.pointer (some ⟨D, 0, none⟩)] w fun e w' => e = .returned (.tuple #[.bool (v.nx == 5), .int .i64 v.us, .int .i64 v.at_, .int .i64 v.er]) ∧ Kept NoB w w' := by
  have c6 := h.c6
  have c13 := h.c13
  have c14 := h.c14
  have c15 := h.c15
  clear h
  go_enter Tryz.func32, Tryz.ntmps32
  go_wp2
  go_quiet (fail)
  go_wp2
  refine bodyPost_ret (results_tmp4 rfl _ _ _) rfl ?_
  exact ⟨rfl, (Kept.refl _ _).drewN _⟩
end Go.Proofs.YtfmjfgmbjdhogaaGreatDoor

namespace Go.Proofs.YtfmjfgmbjdhogaaGreatDoor
open Go.RowKit
set_option linter.unusedVariables false
set_option linter.unusedSimpArgs false

theorem Inf0.grow {lo : Nat} {w w1 w2 : World} {D : Nat} {v : IV} {m : Md} {out bs b : List Int} {S : Nat → Prop} {ra : Option Addr} {rc : Nat} (h : Inf0 lo w D v m out bs S) (hlo : lo ≤ w.heap.size) (hk1 : Kept (OwnB v.rs) w w1)
    (hown : w1.ownsRow 0 5 1 (.slice ra (bs ++ b).length rc) (bs ++ b).length ((bs ++ b).map (.int .u8))) (hf : ∀ k, (Value.slice ra (bs ++ b).length rc).ownBlock = some k → v.rs.ownBlock = some k ∨ w.heap.size ≤ k) (hb : AllB b)
    (hw2 : w2 = w1.setCell ⟨D, 3, none⟩ (.slice ra (bs ++ b).length rc)) (hdec : ∃ S0 : Nat → Prop, (∀ k, S0 k → S k ∧ v.rs.ownBlock ≠ some k) ∧ ModeOk w S0 v m ∧ FixOk w S0 v) :
    ∃ S', Inf0 lo w2 D { v with rs := .slice ra (bs ++ b).length rc } m out (bs ++ b) S' ∧ Kept (LoB lo) w w2 := by
  obtain ⟨S0, hS0, hm0, hf0⟩ := hdec
  have hD := obj_lt h.obj
  have hrD : ∀ k, v.rs.ownBlock = some k → k ≠ D := fun k hk => (h.s k (h.sR k hk)).2.2.1
  have ho1 := h.obj.kept hk1 (fun e => hrD D e rfl)
  obtain ⟨wnd, hw, hx, hz⟩ := h.win
  have hskl := own_lt h.sink.own
  have hwnl := own_lt hw.own
  have hrl := own_lt h.rest.own
  have hk2 : Kept (OneB D) w1 w2 := by rw [hw2]; exact Kept.setCell (S := OneB D) (p := ⟨D, 3, none⟩) (Kept.refl _ w1) (.inl rfl) _
  have hk : Kept (fun k => v.rs.ownBlock = some k ∨ k = D) w w2 := (hk1.mono (fun _ _ e => .inl e)).trans (hk2.mono (fun _ _ e => .inr e))
  have hown2 : w2.ownsRow 0 5 1 (.slice ra (bs ++ b).length rc) (bs ++ b).length ((bs ++ b).map (.int .u8)) := hk2.row hown (fun k e1 e2 => row_ne hown ho1 (by decide) k e1 e2)
  have hol := own_lt hown2
  refine ⟨fun k => S0 k ∨ (Value.slice ra (bs ++ b).length rc).ownBlock = some k, ⟨?_, h.low, ?_, ⟨hown2, ?_⟩, ⟨wnd, ?_, hx, hz⟩, h.sep, ?_, fun k e => .inr e, h.nx, h.er, h.fit, h.big, h.all, ?_, ?_, ?_⟩, ?_⟩
  · rw [hw2]; exact ho1.setRs _
  · exact h.sink.kept hk (fun k e1 e2 => by
      rcases e2 with e2 | e2
      · exact (h.s k (h.sR k e2)).2.2.2.1 e1
      · exact row_ne h.sink.own h.obj (by decide) k e1 e2)
  · intro k e
    rcases hf k e with e | e
    · exact h.rest.fresh k e
    · omega
  · exact hw.kept hk (fun k e1 e2 => by
      rcases e2 with e2 | e2
      · exact (h.s k (h.sR k e2)).2.2.2.2 e1
      · exact row_ne hw.own h.obj (by decide) k e1 e2)
  · intro k e
    have hz := hk.size
    rcases e with e | e
    · obtain ⟨a, b, c, d⟩ := h.s k (hS0 k e).1
      exact ⟨a, by omega, c, d⟩
    · rcases hf k e with e2 | e2
      · obtain ⟨a, b, c, d⟩ := h.s k (h.sR k e2)
        exact ⟨a, by omega, c, d⟩
      · exact ⟨by omega, hol k e, by omega, fun e3 => by have := hskl k e3; omega, fun e3 => by have := hwnl k e3; omega⟩
  · intro x hx
    rcases List.mem_append.1 hx with hx | hx
    · exact h.allr x hx
    · exact hb x hx
  · exact (hm0.kept hk (fun k hk e => e.elim (hS0 k hk).2 (h.s k (hS0 k hk).1).2.2.1) rfl rfl rfl).more (fun _ e => .inl e)
  · exact (hf0.kept hk (fun k hk e => e.elim (hS0 k hk).2 (h.s k (hS0 k hk).1).2.2.1) rfl rfl).more (fun _ e => .inl e)
  · refine hk.mono (fun k _ e => ?_)
    rcases e with e | e
    · exact (h.s k (h.sR k e)).1
    · exact e ▸ h.low
theorem wpList_app_none {P : Program} {w : World} {ops : Array Oper} {rest : List Oper} {o : Oper} {act : Act} {Q : Exit → Act → World → Prop} (hgd : o.guard = none) (s x : Operand) (t : TypeId)
    (ho : o.op = .call { callee := .builtin .append, args := #[s, x], argTypes := #[t, t] }) (e : TypeId) (i : TypeInfo) (size : Nat) (ht : P.underlying t = some (.slice e)) (hi : P.info? e = some i)
    (v : Value) (n : Nat) (xs : List Value) (hs : act.eval s = v) (hown : w.ownsRow 0 e size v n xs) (hx : act.eval x = .slice none 0 0)
    (h : wpList P ops Q rest (act.put o.dst v) w) : wpList P ops Q (o :: rest) act w := by
  refine wpList_plain hgd fun _ hK => ?_
  have hr := run_append_owned_none (P := P) (w := w) 0 t o.type e i size ht hi v n xs hown
  unfold Oper.wp execOp
  simp only [ho, resolve, invoke, builtin, Sem.run_bind, Sem.run_pure, Result.andThen_ok, List.map_toArray, List.map_cons, List.map_nil, hs, hx, hr]
  exact hK _ _ h
set_option maxRecDepth 20000 in
set_option maxHeartbeats 8000000 in
/-- A new Inflater is fed all bytes. -/
theorem feed_new {w : World} {lo D M : Nat} {b : List Int} (h : Inf0 lo w D (iv0 M) .block [] [] (fun _ => False)) (hlo : lo ≤ w.heap.size) (H : Nat) (ba : Option Addr) (bc : Nat) (hc : w.cell? ⟨H, 0, none⟩ = some (.slice ba b.length bc)) (hHD : H ≠ D) (hr : Reads w ba b) (hba : ba = none → bc = 0) (hbc : b.length ≤ bc) (hb : AllB b) (hbl : b.length ≤ 1000000)
    (hB : ∀ p m' l' o', Steps b M 0 .block false [] p m' l' o' → o'.length ≤ 900000) :
    Calls Tryz.prog 30 #[.pointer (some ⟨D, 0, none⟩), .slice (some ⟨H, 0, none⟩) 1 1] w fun e w' => e = .returned (.tuple #[]) ∧ ItemsW lo w D (iv0 M) .block [] b 0 0 w' := by
  obtain ⟨i0, hi, hz0, hz1, hz2⟩ := info_parts info5
  have HOv := over_any w D _ h.obj
  have hdc : decide ((iv0 M).nx = 5 ∨ (iv0 M).er ≠ 0) = false := rfl
  rw [hdc] at HOv
  have HOv := Lib.hid HOv
  have H0 := Lib.hid h; have HR := Lib.hid hr; have HBa := Lib.hid hba; have HB := Lib.hid hB; have HAb := Lib.hid hb
  clear h hr hba hB hdc hb
  go_enter Tryz.func30, Tryz.ntmps30
  go_wp2_with fail
  go_loopw [5, 8] (fun _u i wr => (i = .int .i64 0 ∧ wr = w) ∨ (i = .int .i64 1 ∧ Hid (ItemsW lo w D (iv0 M) .block [] b 0 0 wr))) (fun _ i _ => (2 - intOf i).toNat)
  case atStart => exact .inl ⟨rfl, rfl⟩
  case round =>
    rcases hrel with ⟨rfl, rfl⟩ | ⟨rfl, HI⟩
    · go_wp2_with fail
      refine HOv.out.mono ?_
      rintro e w1 ⟨rfl, hk1⟩
      have hD1 := H0.out.obj.kept hk1 (fun e => e)
      have c3 := hD1.c3
      have f3 := hD1.free 3
      have HK1 := Lib.hid hk1
      have c3 : w1.cell? ⟨D, 3, none⟩ = some (.slice none 0 0) := c3
      clear hk1 hD1
      have hfin : ∀ (w2 : World) (a2 : Option Addr) (c2 : Nat), Kept NoB w1 w2 → w2.ownsRow 0 5 1 (.slice a2 b.length c2) b.length (b.map (.int .u8)) → (∀ k, (Value.slice a2 b.length c2).ownBlock = some k → w1.heap.size ≤ k) →
          ∃ S', Inf0 lo (w2.setCell ⟨D, 3, none⟩ (.slice a2 b.length c2)) D { (iv0 M) with rs := .slice a2 b.length c2 } .block [] b S' ∧ Kept (LoB lo) wr (w2.setCell ⟨D, 3, none⟩ (.slice a2 b.length c2)) := by
        intro w2 a2 c2 hk2 ho2 hf2
        have := H0.out.grow (b := b) (w1 := w2) (ra := a2) (rc := c2) hlo ((HK1.out.trans hk2).mono (fun _ _ e => e.elim)) ho2 (fun k hk => .inr (by have := hf2 k hk; have := HK1.out.size; omega)) HAb.out rfl ⟨fun _ => False, fun _ e => e.elim, trivial, .inl rfl⟩
        exact this
      have HF := Lib.hid hfin
      have hrun : ∀ (w2 : World) (a2 : Option Addr) (c2 : Nat), Kept NoB w1 w2 → w2.ownsRow 0 5 1 (.slice a2 b.length c2) b.length (b.map (.int .u8)) → (∀ k, (Value.slice a2 b.length c2).ownBlock = some k → w1.heap.size ≤ k) →
          Calls Tryz.prog 57 #[.pointer (some ⟨D, 0, none⟩)] (w2.setCell ⟨D, 3, none⟩ (.slice a2 b.length c2)) fun e w' => e = .returned (.tuple #[]) ∧ ItemsW lo wr D (iv0 M) .block [] b 0 0 w' := by
        intro w2 a2 c2 h1 h2 h3
        obtain ⟨S', hI, hk⟩ := hfin w2 a2 c2 h1 h2 h3
        refine (readItems_any hI (by have := hk.size; omega) hbl 0 0 rfl (by decide) rfl (by decide) (Nat.zero_le _) trivial (by intro n e; cases e) HB.out).mono ?_
        rintro e w' ⟨he, hkw, hrest⟩
        exact ⟨he, hk.trans hkw, hrest⟩
      have HRun := Lib.hid hrun
      clear hfin hrun
      cases ba with
      | none =>
        obtain rfl : b = [] := HR.out.1 rfl
        have hbc0 : bc = 0 := HBa.out rfl
        subst hbc0
        have HRn := Lib.hid (HRun.out w1 none 0 (Kept.refl _ _) (World.ownsRow_nil _ _ _ _) (fun k hk => by simp [Value.ownBlock] at hk))
        simp only [List.length_nil] at HRn
        go_wp2_with (at_builtin; refine wpList_app_none rfl _ _ 22 rfl 5 i0 1 Tryz.underlying22 hi (.slice none 0 0) 0 [] rfl (World.ownsRow_nil _ _ _ _) rfl ?_)
        go_wp2_with fail
        refine HRn.out.mono ?_
        rintro e w3 ⟨rfl, hI⟩
        have HI := Lib.hid hI
        clear hI HRn
        go_wp2
        go_roundw
        case rel => exact .inr ⟨by go_num, HI⟩
        case measure => simp [intOf]
      | some ad =>
        have HNw := Lib.hid (reads_news (HR.out.keptNo HK1.out))
        go_wp2_with (at_builtin; refine wpList_app _ rfl _ _ 22 rfl 5 i0 (.int .u8 0) 1 1 Tryz.underlying22 hi hz0 hz1 hz2 rfl (by decide) (.slice none 0 0) 0 [] rfl (World.ownsRow_nil _ _ _ _) ad b.length bc (b.map (.int .u8)) rfl (by rw [List.length_map]; omega) HNw.out ?d2 ?d3 ?d4 ?_)
        case d2 => exact news_one b
        case d3 => unfold maxLen; omega
        case d4 => omega
        intro v' w2 hown' hgrow hnew
        obtain ⟨ao', cap', rfl⟩ := own_shape hown'
        have hk2 : Kept NoB w1 w2 := (Kept.refl _ _).grown hgrow (fun k _ e => by simp [Value.ownBlock] at e)
        have HRn := Lib.hid (HRun.out w2 ao' cap' hk2 hown' (fun k hk => by
          rcases hnew k hk with e | e
          · simp [Value.ownBlock] at e
          · exact e))
        have c3' : w2.cell? ⟨D, 3, none⟩ = some (.slice none 0 0) := hk2.cell c3
        have f3' := (H0.out.obj.kept (HK1.out.trans hk2) (fun e => e)).free 3
        clear hown' hgrow hnew hk2
        go_wp2_with fail
        refine HRn.out.mono ?_
        rintro e w3 ⟨rfl, hI⟩
        have HI := Lib.hid hI
        clear hI HRn
        go_wp2
        go_roundw
        case rel => exact .inr ⟨by go_num, HI⟩
        case measure => simp [intOf]
    · go_wp2
      refine bodyPost_end (results_none rfl _ _ _) rfl ?_
      exact ⟨rfl, HI.out⟩
end Go.Proofs.YtfmjfgmbjdhogaaGreatDoor

namespace Go.Proofs.YtfmjfgmbjdhogaaGreatDoor
open Go.RowKit
set_option linter.unusedVariables false
set_option linter.unusedSimpArgs false

theorem ItemR.fit {bs : List Int} {most p : Nat} {m : Md} {last : Bool} {out : List Int} {p1 : Nat} {m1 : Md} {l1 : Bool} {o1 : List Int} (h : ItemR bs most p m last out 0 p1 m1 l1 o1) : out.length ≤ o1.length ∧ (out.length ≤ most → o1.length ≤ most) := by
  cases m with
  | fin => exact h.elim
  | block =>
    unfold ItemR at h
    simp only at h
    split at h
    · exact absurd h (by decide)
    · split at h
      · obtain ⟨_, _, _, _, rfl⟩ := h; exact ⟨Nat.le_refl _, fun e => e⟩
      · split at h
        · obtain ⟨_, _, _, _, rfl⟩ := h; exact ⟨Nat.le_refl _, fun e => e⟩
        · split at h
          · obtain ⟨_, _, _, _, rfl⟩ := h; exact ⟨Nat.le_refl _, fun e => e⟩
          · exact absurd h (by decide)
  | stored =>
    unfold ItemR at h
    simp only at h
    split at h
    · exact absurd h (by decide)
    · split at h
      · exact absurd h (by decide)
      · obtain ⟨_, _, _, _, rfl⟩ := h; exact ⟨Nat.le_refl _, fun e => e⟩
  | bytes n =>
    unfold ItemR at h
    simp only at h
    split at h
    · exact absurd h (by decide)
    · split at h
      · exact absurd h (by decide)
      · obtain ⟨_, _, _, _, rfl⟩ := h
        rw [List.length_append, List.length_singleton]
        exact ⟨by omega, fun e => by omega⟩
  | head =>
    unfold ItemR at h
    simp only at h
    obtain ⟨lit, dist, f, q, hh, h⟩ := h
    split at h
    · obtain ⟨_, _, _, _, rfl⟩ := h; exact ⟨Nat.le_refl _, fun e => e⟩
    · rename_i hf
      exact absurd h.symm hf
  | sym lit dist =>
    unfold ItemR at h
    simp only at h
    obtain ⟨s, f, q, hh, h⟩ := h
    split at h
    · rename_i hf
      exact absurd h.symm hf
    · split at h
      · split at h
        · obtain ⟨_, _, _, _, rfl⟩ := h
          rw [List.length_append, List.length_singleton]
          exact ⟨by omega, fun e => by omega⟩
        · exact absurd h (by decide)
      · split at h
        · obtain ⟨_, _, _, _, rfl⟩ := h; exact ⟨Nat.le_refl _, fun e => e⟩
        · split at h
          · exact absurd h (by decide)
          · split at h
            · exact absurd h (by decide)
            · obtain ⟨d, g, r, hd, h⟩ := h
              split at h
              · rename_i hg
                exact absurd h.symm hg
              · split at h
                · exact absurd h (by decide)
                · split at h
                  · exact absurd h (by decide)
                  · split at h
                    · exact absurd h (by decide)
                    · split at h
                      · exact absurd h (by decide)
                      · obtain ⟨_, _, _, _, rfl⟩ := h
                        rw [copyN_len]
                        exact ⟨by omega, fun e => by omega⟩
theorem Steps.fit {bs : List Int} {most p p1 : Nat} {m m1 : Md} {l l1 : Bool} {o o1 : List Int} (h : Steps bs most p m l o p1 m1 l1 o1) : o.length ≤ o1.length ∧ (o.length ≤ most → o1.length ≤ most) := by
  induction h with
  | refl => exact ⟨Nat.le_refl _, fun e => e⟩
  | step a _ ih => have b := a.fit; exact ⟨by omega, fun e => ih.2 (b.2 e)⟩
theorem Steps.ahead {bs : List Int} {most p p1 p2 : Nat} {m m1 m2 : Md} {l l1 l2 : Bool} {o o1 o2 : List Int} (h : Steps bs most p m l o p1 m1 l1 o1) (hm : m.ok) (h2 : Steps bs most p m l o p2 m2 l2 o2) (hs2 : Stuck bs most p2 m2 l2 o2) : Steps bs most p1 m1 l1 o1 p2 m2 l2 o2 := by
  induction h with
  | refl => exact h2
  | step a _ ih =>
    cases h2 with
    | refl => exact (hs2.no hm a).elim
    | step b hb =>
      obtain ⟨_, e⟩ := ItemR.det hm a b
      obtain ⟨rfl, rfl, rfl, rfl⟩ := e rfl
      exact ih (a.next hm).1 hb
theorem Kept.lowNo {w w' : World} (h : Kept (LoB w.heap.size) w w') : Kept NoB w w' := ⟨h.os, h.tape, h.output, h.size, fun k hk _ => h.block k hk (fun e => by unfold LoB at e; omega)⟩
end Go.Proofs.YtfmjfgmbjdhogaaGreatDoor

namespace Go.Proofs.YtfmjfgmbjdhogaaGreatDoor
open Go.RowKit
set_option linter.unusedVariables false
set_option linter.unusedSimpArgs false

theorem headW_lt {lit dist code : List Int} {told : Nat} {rs : List (Int × Int)} (hc : CodeW code told rs (lit ++ dist)) (hb : headB lit dist = true) : ∀ y ∈ headW lit dist code told rs, y.1 < 2 ^ y.2 := by
  obtain ⟨⟨b1, b2, b3, b4⟩, _⟩ := head_small hb
  have hlo := hc.lo
  have hhi := hc.hi
  intro y hy
  unfold headW at hy
  rcases List.mem_append.1 hy with h | h
  · rcases List.mem_append.1 h with h | h
    · simp only [List.mem_cons, List.not_mem_nil, or_false] at h
      rcases h with rfl | rfl | rfl
      · show lit.length - 257 < 32; omega
      · show dist.length - 1 < 32; omega
      · show told - 4 < 16; omega
    · unfold wordsC at h
      obtain ⟨i, _, rfl⟩ := List.mem_map.1 h
      show (code.getD (ordL.getD i 0).toNat 0).toNat < 8
      generalize (ordL.getD i 0).toNat = q
      by_cases hl : q < code.length
      · have e : code.getD q 0 = code[q] := by simp [List.getD, hl]
        have := hc.small _ (List.getElem_mem hl)
        rw [e]; omega
      · have e : code.getD q 0 = 0 := by simp [List.getD, List.getElem?_eq_none (Nat.le_of_not_lt hl)]
        rw [e]; decide
  · unfold wordsR at h
    obtain ⟨z, hz, h⟩ := List.mem_flatMap.1 h
    have ho := runAll_ok _ rs [] _ hc.runs z hz
    simp only [List.mem_cons, List.not_mem_nil, or_false] at h
    rcases h with rfl | rfl
    · exact wordZ_lt _ _
    · exact spanM_lt _ _ ho.2.2
theorem TokW.lt {lit dist : List Int} {t : Tk} {ws : List (Nat × Nat)} (h : TokW lit dist t ws) : ∀ y ∈ ws, y.1 < 2 ^ y.2 := by
  intro y hy
  cases h with
  | one c _ _ _ => simp only [List.mem_cons, List.not_mem_nil, or_false] at hy; subst hy; exact wordZ_lt _ _
  | long j u hj hu _ _ =>
    simp only [List.mem_cons, List.not_mem_nil, or_false] at hy
    rcases hy with rfl | rfl | rfl | rfl
    · exact wordZ_lt _ _
    · decide
    · exact wordZ_lt _ _
    · exact hu
  | copy i v j u hi hv hlv hj hu _ _ =>
    simp only [List.mem_cons, List.not_mem_nil, or_false] at hy
    rcases hy with rfl | rfl | rfl | rfl
    · exact wordZ_lt _ _
    · exact hv
    · exact wordZ_lt _ _
    · exact hu
theorem TokWs.lt {lit dist : List Int} {ts : List Tk} {ws : List (Nat × Nat)} (h : TokWs lit dist ts ws) : ∀ y ∈ ws, y.1 < 2 ^ y.2 := by
  induction h with
  | nil => intro y hy; cases hy
  | cons a _ ih => intro y hy; rcases List.mem_append.1 hy with h | h; exact a.lt y h; exact ih y h
theorem puts_of {w w' : World} {R cap : Nat} {v0 : Value} {ps : List (Nat × Nat)} {ao : Option Addr} {bs : List Int} (h : WroteP w R v0 [] 0 ps w' ao cap bs) (hlt : ∀ y ∈ ps, y.1 < 2 ^ y.2) : Puts bs 0 ps :=
  ⟨⟨0, by decide, by rw [h.2.1]; simp [num]⟩, hlt, by have := h.1.2.2.2.1; omega⟩
structure BlkS (s : Nat) (last : Bool) (ps : List (Nat × Nat)) (b : List Int) : Prop where
  lt : ∀ y ∈ ps, y.1 < 2 ^ y.2
  run : ∀ (bs : List Int) (pre post : List (Nat × Nat)) (most : Nat) (l0 : Bool) (out : List Int), s = wdN pre → Puts bs 0 (pre ++ ps ++ post) → out.length + b.length ≤ most → Steps bs most (wdN pre) .block l0 out (wdN (pre ++ ps)) (endM last) last (out ++ b)
theorem lastN_one (last : Bool) : lastN last < 2 ^ 1 := lastN_lt last
theorem BlkS.stored (s : Nat) (last : Bool) (b : List Int) (hb : AllB b) (hl : b.length ≤ 65535) : BlkS s last (storedW last (up8 (s + 3) - (s + 3)) b) b := by
  have hup : up8 (s + 3) - (s + 3) < 8 ∧ (s + 3 + (up8 (s + 3) - (s + 3))) % 8 = 0 := by unfold up8; omega
  refine ⟨fun y hy => ?_, fun bs pre post most l0 out hs hp hm => ?_⟩
  · unfold storedW at hy
    rcases List.mem_append.1 hy with h | h
    · simp only [List.mem_cons, List.not_mem_nil, or_false] at h
      rcases h with rfl | rfl | rfl | rfl | rfl
      · exact lastN_one last
      · decide
      · exact Nat.two_pow_pos _
      · show b.length < 65536; omega
      · show 65535 - b.length < 65536; omega
    · unfold bytesW at h
      obtain ⟨x, hx, rfl⟩ := List.mem_map.1 h
      have := hb x hx
      show x.toNat < 256; omega
  · have h := stored_steps (s := 0) (most := most) (l0 := l0) (out := out) (last := last) (pad := up8 (s + 3) - (s + 3)) (b := b) (pre := pre) (post := post) hp hb hl hup.1 (by rw [Nat.zero_add, ← hs]; exact hup.2) hm
    simpa using h
theorem steps_bound {b O : List Int} {M P : Nat} {l : Bool} (hs : Steps b M 0 .block false [] P .fin l O) {p : Nat} {m : Md} {l' : Bool} {o : List Int} (h : Steps b M 0 .block false [] p m l' o) : o.length ≤ O.length :=
  (Steps.ahead h trivial hs (.inl rfl)).fit.1
end Go.Proofs.YtfmjfgmbjdhogaaGreatDoor

namespace Go.Proofs.YtfmjfgmbjdhogaaGreatDoor
open Go.RowKit
set_option linter.unusedVariables false
set_option linter.unusedSimpArgs false

theorem slice_shape {w : World} {base e s : Nat} {v : Value} {n : Nat} {xs : List Value} (h : w.ownsRow base e s v n xs) : ∃ ao cap, v = .slice ao n cap := by
  rcases h.2 with ⟨rfl, rfl⟩ | ⟨g, cap, cur, rfl, _⟩
  · exact ⟨none, 0, rfl⟩
  · exact ⟨_, cap, rfl⟩
end Go.Proofs.YtfmjfgmbjdhogaaGreatDoor

namespace Go.Proofs.YtfmjfgmbjdhogaaGreatDoor
open Go.RowKit
set_option linter.unusedVariables false

variable {T1 T2 : TypeId} {w0 w w' : World} {A : Nat} {aoa : Option Addr} {capa : Nat} {ba : List Int} {sa : Nat} {B : Nat} {aob : Option Addr} {capb : Nat} {bb : List Int} {sb : Nat}
end Go.Proofs.YtfmjfgmbjdhogaaGreatDoor

namespace Go.Proofs.YtfmjfgmbjdhogaaGreatDoor
open Go.RowKit
set_option linter.unusedVariables false
set_option linter.unusedSimpArgs false

variable {T1 T2 : TypeId} {w0 w w' : World} {A : Nat} {aoa : Option Addr} {capa : Nat} {ba : List Int} {sa : Nat} {B : Nat} {aob : Option Addr} {capb : Nat} {bb : List Int} {sb : Nat}
end Go.Proofs.YtfmjfgmbjdhogaaGreatDoor
