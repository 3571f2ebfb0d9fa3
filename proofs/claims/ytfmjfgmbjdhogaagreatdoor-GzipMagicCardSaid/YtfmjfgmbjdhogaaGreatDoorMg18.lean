/-
  readBlock: a block's kind.
  readStored, whole.
  readHead: a dynamic block's head.
  Inflater.put: a token's bytes are put out.
  Stored blocks that begin with a byte, on paper.
-/
import Derived.Test.YtfmjfgmbjdhogaaGreatDoorMg17
namespace Go.Proofs.YtfmjfgmbjdhogaaGreatDoor
open Go.RowKit
set_option linter.unusedVariables false
set_option linter.unusedSimpArgs false

theorem InfS.turn {lo : Nat} {w w1 w2 : World} {D : Nat} {v v' : IV} {m m' : Md} {out bs : List Int} {S S' : Nat → Prop} {R : Nat} {ao : Option Addr} {cap p q : Nat} (h : InfS lo w D v m out bs S R ao cap p) (hlo : lo ≤ w.heap.size)
    (hk1 : Kept (OneB R) w w1) (hr : Rdr w1 R ao cap bs q) (hk2 : Kept (OneB D) w1 w2) (ho : InfO w2 D v') (e1 : v'.sk = v.sk) (e2 : v'.wn = v.wn) (e3 : v'.rs = v.rs) (e4 : v'.most = v.most) (hnx : v'.nx = nxOf m') (her : v'.er = 0)
    (hS : ∀ k, S k → S' k) (hS' : ∀ k, S' k → S k ∨ (w.heap.size ≤ k ∧ k < w2.heap.size)) (hm : ModeOk w2 S' v' m') (hf : FixOk w2 S' v') : InfS lo w2 D v' m' out bs S' R ao cap q ∧ Kept (LoB lo) w w2 := by
  have hk : Kept (fun k => k = D ∨ k = R) w w2 := (hk1.mono (fun _ _ e => .inr e)).trans (hk2.mono (fun _ _ e => .inl e))
  refine ⟨h.step hk (fun _ e => e) hlo ho (hr.kept hk2 (fun e => h.DR e.symm) (fun k hk3 e => ?_)) e1 e2 e3 e4 hnx her hS hS' hm hf, hk.mono (fun k _ e => ?_)⟩
  · exact (h.s k (h.aoD k hk3)).2.2.1 e
  · rcases e with e | e
    · exact e ▸ h.low
    · exact e ▸ h.lowR
theorem InfS.fixAt {lo : Nat} {w w1 w2 : World} {D : Nat} {v v' : IV} {m : Md} {out bs : List Int} {S : Nat → Prop} {R : Nat} {ao : Option Addr} {cap p : Nat} (h : InfS lo w D v m out bs S R ao cap p) (hk1 : Kept (OneB R) w w1) (hk2 : Kept (OneB D) w1 w2) (e1 : v'.fl = v.fl) (e2 : v'.fd = v.fd) : FixOk w2 S v' :=
  h.fix.kept ((hk1.mono (fun _ _ e => .inr e)).trans (hk2.mono (T := fun k => k = D ∨ k = R) (fun _ _ e => .inl e))) (fun k hs e => e.elim (h.s k hs).2.2.1 (h.s k hs).2.2.2.1) e1 e2
theorem ItemR.block_at {bs : List Int} {most p : Nat} {l l' : Bool} {out : List Int} {k b : Nat} (hp : p + 3 ≤ 8 * bs.length) (hx : bitsAt bs p 3 = 2 * k + b) (hb : b < 2) (hl : l' = ((b : Int) == 1)) :
    ItemR bs most p .block l out (if k < 3 then 0 else 6) (p + 3) (if k = 0 then .stored else if k = 1 then .sym fixL fixD else .head) l' out := by
  have hl2 : l' = ((2 * k + b) % 2 == 1) := by
    rw [hl]
    have : b = 0 ∨ b = 1 := by omega
    rcases this with rfl | rfl <;> simp <;> omega
  unfold ItemR
  dsimp only
  rw [hx, if_neg (by omega), show (2 * k + b) / 2 = k by omega]
  by_cases k0 : k = 0
  · rw [if_pos k0, if_pos (by omega), if_pos k0]; exact ⟨rfl, rfl, rfl, hl2, rfl⟩
  · rw [if_neg k0, if_neg k0]
    by_cases k1 : k = 1
    · rw [if_pos k1, if_pos (by omega), if_pos k1]; exact ⟨rfl, rfl, rfl, hl2, rfl⟩
    · rw [if_neg k1, if_neg k1]
      by_cases k2 : k = 2
      · rw [if_pos k2, if_pos (by omega)]; exact ⟨rfl, rfl, rfl, hl2, rfl⟩
      · rw [if_neg k2, if_neg (by omega)]
set_option maxRecDepth 20000 in
set_option maxHeartbeats 4000000 in
theorem readBlock_any {lo : Nat} {w : World} {D : Nat} {v : IV} {out bs : List Int} {S : Nat → Prop} {R : Nat} {ao : Option Addr} {cap p : Nat} (h : InfS lo w D v .block out bs S R ao cap p) (hlo : lo ≤ w.heap.size) :
    Calls Tryz.prog 127 #[.pointer (some ⟨D, 0, none⟩), .pointer (some ⟨R, 0, none⟩)] w fun e w' => ∃ er, e = .returned (.int .i64 er) ∧ ItemW lo w D v .block out bs R ao cap p er w' := by
  by_cases hsh : 8 * bs.length < p + 3
  · have HT := Lib.hid (take_no w R ao cap bs p 3 h.rd (.inr (.inr (by omega))))
    have H := Lib.hid h; have HSh := Lib.hid hsh
    clear h hsh
    go_enter Tryz.func127, Tryz.ntmps127
    go_wp2_with fail
    refine HT.out.mono ?_
    rintro e w1 ⟨rfl, hk⟩
    have HK := Lib.hid hk
    clear hk HT
    go_wp2
    go_ret
    exact ⟨2, rfl, H.out.fails hlo HK.out (fun _ e => e.elim) (H.out.rd.keptNo HK.out) 2 (by decide) ⟨0, .fin, false, [], by unfold ItemR; dsimp only; rw [if_pos HSh.out]⟩⟩
  · have HT := Lib.hid (take_yes w R ao cap bs p 3 h.rd (by decide) (by omega))
    have hlt := bitsAt_lt bs p 3
    obtain ⟨x, hx⟩ : ∃ x, x = bitsAt bs p 3 := ⟨_, rfl⟩
    rw [← hx] at HT hlt
    obtain ⟨k, b, hb, hxk⟩ : ∃ k b : Nat, b < 2 ∧ x = 2 * k + b := ⟨x / 2, x % 2, by omega, by omega⟩
    obtain ⟨l, hl⟩ : ∃ l : Bool, l = ((b : Int) == 1) := ⟨_, rfl⟩
    have hk4 : k < 4 := by omega
    have HI := Lib.hid (ItemR.block_at (most := v.most) (l := v.la) (out := out) (by omega) (hx.symm.trans hxk) hb hl)
    have e1 : bits .and .u32 (x : Int) 1 = (b : Int) := by rw [and1_u32d x (by omega)]; omega
    have e2 : (x : Int) / 2 = (k : Int) := by omega
    have hl' := hl.symm
    have hl2 : decide ((b : Int) = 1) = l := by rw [hl]; rfl
    have hnp : p < p + 3 := by omega
    have H := Lib.hid h
    clear h hx hxk hsh hlt hl
    go_enter Tryz.func127, Tryz.ntmps127
    go_wp2_with fail
    refine HT.out.mono ?_
    rintro e w1 ⟨rfl, hr1, hk1⟩
    have HR1 := Lib.hid hr1; have HK1 := Lib.hid hk1
    clear hr1 hk1 HT
    have ho1 := H.out.obj.kept HK1.out (fun e => H.out.DR e)
    have c7 := ho1.c7
    have f7 := ho1.free 7
    have ho2 := ho1.setLa l
    have HO1 := Lib.hid ho1
    obtain ⟨w2, hw2⟩ : ∃ w2, w2 = w1.setCell ⟨D, 7, none⟩ (.bool l) := ⟨_, rfl⟩
    have hk2 : Kept (OneB D) w1 w2 := by rw [hw2]; exact Kept.setCell (S := OneB D) (p := ⟨D, 7, none⟩) (Kept.refl _ w1) (.inl rfl) _
    rw [← hw2] at ho2
    have HO2 := Lib.hid ho2
    have HK2 := Lib.hid hk2
    have c6 := ho2.c6
    have f6 := ho2.free 6
    have HW2 := Lib.hid hw2
    simp only at c6
    clear ho1 ho2 hk2 hw2
    have hnx : v.nx = 0 := H.out.nx
    go_upto_region 5 with fail
    rw [← HW2.out]
    have hk4' : k = 0 ∨ k = 1 ∨ k = 2 ∨ k = 3 := by omega
    rcases hk4' with rfl | rfl | rfl | rfl
    · have e2' : (x : Int) / 2 = 0 := e2
      have ho3 := HO2.out.setNx 1
      have hk3 : Kept (OneB D) w2 (w2.setCell ⟨D, 6, none⟩ (.int .i64 1)) := Kept.setCell (S := OneB D) (p := ⟨D, 6, none⟩) (Kept.refl _ w2) (.inl rfl) _
      have HO3 := Lib.hid ho3; have HK3 := Lib.hid (HK2.out.trans hk3)
      clear ho3 hk3 e2
      go_wp2
      go_ret
      have hT := H.out.turn hlo HK1.out HR1.out HK3.out HO3.out rfl rfl rfl rfl (m' := .stored) rfl H.out.er (fun _ e => e) (fun _ e => .inl e) trivial (H.out.fixAt HK1.out HK3.out rfl rfl)
      refine ⟨0, rfl, hT.2, _, _, _, _, _, hT.1, rfl, rfl, rfl, ⟨rfl, rfl, rfl⟩, ?_⟩
      rw [if_pos rfl]
      exact ⟨Steps.one HI.out, hnp⟩
    · have e2' : (x : Int) / 2 = 1 := e2
      have HSt : Hid (Calls Tryz.prog 151 #[.pointer (some ⟨D, 0, none⟩)] w2 fun e w' => e = .returned (.tuple #[]) ∧ ItemW lo w D v .block out bs R ao cap p 0 w') := by
        rcases H.out.fix with hfl | ⟨Fl, Fd, hfl, hfd, g1, g2⟩
        · refine (startFixed_none HO2.out hfl).mono ?_
          rintro e w3 ⟨rfl, Fl, Fd, ho3, hk3, d1, d2⟩
          refine ⟨rfl, ?_⟩
          have hk13 := HK2.out.trans hk3
          have z1 := HK1.out.size
          have z2 := HK2.out.size
          have hz : ∀ k, w2.heap.size ≤ k ∧ k < w3.heap.size → S k ∨ (w.heap.size ≤ k ∧ k < w3.heap.size) := fun k hk => .inr ⟨by omega, hk.2⟩
          have hT := H.out.turn hlo HK1.out HR1.out hk13 ho3 rfl rfl rfl rfl (m' := .sym fixL fixD) rfl H.out.er (S' := fun k => S k ∨ (w.heap.size ≤ k ∧ k < w3.heap.size)) (fun _ e => .inl e) (fun _ e => e) ⟨fixL_ok, fixD_ok, Fl, Fd, rfl, rfl, d1.mono hz, d2.mono hz⟩ (.inr ⟨Fl, Fd, rfl, rfl, d1.mono hz, d2.mono hz⟩)
          refine ⟨hT.2, _, _, _, _, _, hT.1, rfl, rfl, rfl, ⟨rfl, rfl, rfl⟩, ?_⟩
          rw [if_pos rfl]
          exact ⟨Steps.one HI.out, hnp⟩
        · refine (startFixed_any2 HO2.out _ _ hfl hfd).mono ?_
          rintro e w3 ⟨rfl, ho3, hk3⟩
          refine ⟨rfl, ?_⟩
          have hk13 := HK2.out.trans hk3
          have hfx := H.out.fixAt (v' := { v with la := l, li := some ⟨Fl, 0, none⟩, di := some ⟨Fd, 0, none⟩, nx := 4 }) HK1.out hk13 rfl rfl
          have hmd : DecG fixL Fl S w3 ∧ DecG fixD Fd S w3 := by
            rcases hfx with e | ⟨a, b, ea, eb, x1, x2⟩
            · rw [show v.fl = some _ from hfl] at e; cases e
            · rw [show v.fl = some _ from hfl] at ea
              rw [show v.fd = some _ from hfd] at eb
              cases ea; cases eb
              exact ⟨x1, x2⟩
          have hT := H.out.turn hlo HK1.out HR1.out hk13 ho3 rfl rfl rfl rfl (m' := .sym fixL fixD) rfl H.out.er (fun _ e => e) (fun _ e => .inl e) ⟨fixL_ok, fixD_ok, Fl, Fd, rfl, rfl, hmd.1, hmd.2⟩ hfx
          refine ⟨hT.2, _, _, _, _, _, hT.1, rfl, rfl, rfl, ⟨rfl, rfl, rfl⟩, ?_⟩
          rw [if_pos rfl]
          exact ⟨Steps.one HI.out, hnp⟩
      clear e2
      go_wp2_with fail
      refine HSt.out.mono ?_
      rintro e w3 ⟨rfl, hW⟩
      have HW := Lib.hid hW
      clear hW
      go_wp2
      go_ret
      exact ⟨0, rfl, HW.out⟩
    · have e2' : (x : Int) / 2 = 2 := e2
      have ho3 := HO2.out.setNx 3
      have hk3 : Kept (OneB D) w2 (w2.setCell ⟨D, 6, none⟩ (.int .i64 3)) := Kept.setCell (S := OneB D) (p := ⟨D, 6, none⟩) (Kept.refl _ w2) (.inl rfl) _
      have HO3 := Lib.hid ho3; have HK3 := Lib.hid (HK2.out.trans hk3)
      clear ho3 hk3 e2
      go_wp2
      go_ret
      have hT := H.out.turn hlo HK1.out HR1.out HK3.out HO3.out rfl rfl rfl rfl (m' := .head) rfl H.out.er (fun _ e => e) (fun _ e => .inl e) trivial (H.out.fixAt HK1.out HK3.out rfl rfl)
      refine ⟨0, rfl, hT.2, _, _, _, _, _, hT.1, rfl, rfl, rfl, ⟨rfl, rfl, rfl⟩, ?_⟩
      rw [if_pos rfl]
      exact ⟨Steps.one HI.out, hnp⟩
    · have e2' : (x : Int) / 2 = 3 := e2
      clear e2
      go_wp2
      go_ret
      have hT := H.out.turn hlo HK1.out HR1.out HK2.out HO2.out rfl rfl rfl rfl (m' := .block) H.out.nx H.out.er (fun _ e => e) (fun _ e => .inl e) trivial (H.out.fixAt HK1.out HK2.out rfl rfl)
      refine ⟨6, rfl, hT.2, _, _, _, _, _, hT.1, rfl, rfl, rfl, ⟨rfl, rfl, rfl⟩, ?_⟩
      rw [if_neg (by decide)]
      exact ⟨⟨_, _, _, _, HI.out⟩, rfl, rfl, fun e => absurd e (by decide)⟩
end Go.Proofs.YtfmjfgmbjdhogaaGreatDoor

namespace Go.Proofs.YtfmjfgmbjdhogaaGreatDoor
open Go.RowKit
set_option linter.unusedVariables false
set_option linter.unusedSimpArgs false

set_option maxRecDepth 20000 in
set_option maxHeartbeats 4000000 in
theorem readStored_yes {lo : Nat} {w : World} {D : Nat} {v : IV} {out bs : List Int} {S : Nat → Prop} {R : Nat} {ao : Option Addr} {cap p : Nat} (h : InfS lo w D v .stored out bs S R ao cap p) (hlo : lo ≤ w.heap.size) (hp : up8 p + 32 ≤ 8 * bs.length) (hne : bitsAt bs (up8 p) 16 + bitsAt bs (up8 p + 16) 16 = 65535) :
    Calls Tryz.prog 128 #[.pointer (some ⟨D, 0, none⟩), .pointer (some ⟨R, 0, none⟩)] w fun e w' => ∃ er, e = .returned (.int .i64 er) ∧ ItemW lo w D v .stored out bs R ao cap p er w' := by
  have hi : ItemR bs v.most p .stored v.la out 0 (up8 p + 32) (if bitsAt bs (up8 p) 16 = 0 then endM v.la else .bytes (bitsAt bs (up8 p) 16)) v.la out := by
    unfold ItemR
    dsimp only
    rw [if_neg (by omega), if_neg (by omega)]
    exact ⟨rfl, rfl, rfl, rfl, rfl⟩
  have HA := Lib.hid (ralign_any w R ao cap bs p h.rd)
  have hlt := bitsAt_lt bs (up8 p) 32
  have hpp : p < up8 p + 32 := by unfold up8; omega
  rw [← bits_low, ← bits_high] at hne
  rw [← bits_low] at hi
  obtain ⟨x, hx⟩ : ∃ x, x = bitsAt bs (up8 p) 32 := ⟨_, rfl⟩
  have HT : Hid (∀ w, Rdr w R ao cap bs (up8 p) → Calls Tryz.prog 96 #[.pointer (some ⟨R, 0, none⟩), .int .i64 32] w fun e w' => e = .returned (.tuple #[.int .u32 (x : Nat), .bool true]) ∧ Rdr w' R ao cap bs (up8 p + 32) ∧ Kept (OneB R) w w') := Lib.hid fun w hw => by rw [hx]; exact take_yes w R ao cap bs (up8 p) 32 hw (by omega) hp
  rw [← hx] at hlt hne hi
  obtain ⟨a, ha⟩ : ∃ a, a = x % 65536 := ⟨_, rfl⟩
  rw [← ha] at hi
  have HI := Lib.hid hi
  obtain ⟨y, hy⟩ : ∃ y, y = 4294967295 - x := ⟨_, rfl⟩
  have e1 : bits .and .u32 (x : Int) 65535 = (a : Int) := by rw [and16 x (by omega), ha]
  have e2 : bits .xor .u32 IntKind.u32.max (x : Int) = (y : Int) := by rw [not32 x (by omega), hy]
  have e3 : (y : Int) / 65536 = (a : Int) := by omega
  have ha2 : a < 65536 := by omega
  have e5 : IntKind.i64.wrap (a : Int) = a := IntWalk.i64_in _ (by omega)
  have H := Lib.hid h
  clear h hp hx ha hy hne hlt hi
  go_enter Tryz.func128, Tryz.ntmps128
  go_wp2_with fail
  refine HA.out.mono ?_
  rintro e w1 ⟨rfl, hr1, hk1⟩
  have HT1 := Lib.hid (HT.out w1 hr1); have HK1 := Lib.hid hk1
  clear hr1 hk1 HA HT
  go_wp2_with fail
  refine HT1.out.mono ?_
  rintro e w2 ⟨rfl, hr2, hk2⟩
  have HK := Lib.hid (HK1.out.trans hk2)
  have HR := Lib.hid hr2
  clear hr2 hk2 HK1 HT1
  have hI2 : InfO w2 D v := H.out.obj.kept HK.out (fun e => H.out.DR e)
  have c8 := hI2.c8
  have f8 := hI2.free 8
  have hI3 := hI2.setLf (a : Int)
  obtain ⟨w3, hw3⟩ : ∃ w3, w3 = w2.setCell ⟨D, 8, none⟩ (.int .i64 (a : Int)) := ⟨_, rfl⟩
  have hk3 : Kept (OneB D) w2 w3 := by rw [hw3]; exact Kept.setCell (S := OneB D) (p := ⟨D, 8, none⟩) (Kept.refl _ w2) (.inl rfl) _
  rw [← hw3] at hI3
  have c6 := hI3.c6
  have f6 := hI3.free 6
  have hI4 := hI3.setNx 2
  obtain ⟨w4, hw4⟩ : ∃ w4, w4 = w3.setCell ⟨D, 6, none⟩ (.int .i64 2) := ⟨_, rfl⟩
  have hk4 : Kept (OneB D) w3 w4 := by rw [hw4]; exact Kept.setCell (S := OneB D) (p := ⟨D, 6, none⟩) (Kept.refl _ w3) (.inl rfl) _
  rw [← hw4] at hI4
  have d8 := hI4.c8
  simp only at c6 d8
  have HW3 := Lib.hid hw3; have HW4 := Lib.hid hw4; have HK34 := Lib.hid (hk3.trans hk4); have HI4 := Lib.hid hI4
  clear hw3 hw4 hI2 hI3 hI4 hk3 hk4
  have e4 : ((a : Int) != (a : Int)) = false := by simp
  go_upto_region 6 with fail
  go_upto_region 8 with fail
  any_goals (exfalso; simp_all; done)
  go_upto_region 9 with fail
  rw [← HW3.out]
  go_upto_region 10 with fail
  rw [← HW4.out]
  clear c8 f8 c6 f6
  by_cases h0 : a = 0
  · subst h0
    have HE := Lib.hid (endBlock_any w4 D _ HI4.out)
    go_wp2_with fail
    refine HE.out.mono ?_
    rintro e w5 ⟨rfl, ho5, hk5⟩
    have HO5 := Lib.hid ho5; have HK5 := Lib.hid hk5
    clear ho5 hk5
    go_wp2
    go_ret
    have hT := H.out.turn hlo HK.out HR.out (HK34.out.trans HK5.out) HO5.out rfl rfl rfl rfl (m' := endM v.la) (endM_nx _).symm H.out.er (fun _ e => e) (fun _ e => .inl e) (by cases hla : v.la <;> trivial) (H.out.fixAt HK.out (HK34.out.trans HK5.out) rfl rfl)
    refine ⟨0, rfl, hT.2, _, _, _, _, _, hT.1, rfl, rfl, rfl, ⟨rfl, rfl, rfl⟩, ?_⟩
    rw [if_pos rfl]
    have hi := HI.out
    first | rw [if_pos rfl] at hi | rw [if_pos trivial] at hi
    exact ⟨Steps.one hi, hpp⟩
  · have e8 : ((a : Int) == 0) = false := by simpa using h0
    go_wp2
    go_ret
    have hT := H.out.turn hlo HK.out HR.out HK34.out HI4.out rfl rfl rfl rfl (m' := .bytes a) rfl H.out.er (fun _ e => e) (fun _ e => .inl e) ⟨rfl, by omega, by omega⟩ (H.out.fixAt HK.out HK34.out rfl rfl)
    refine ⟨0, rfl, hT.2, _, _, _, _, _, hT.1, rfl, rfl, rfl, ⟨rfl, rfl, rfl⟩, ?_⟩
    rw [if_pos rfl]
    have hi := HI.out
    rw [if_neg h0] at hi
    exact ⟨Steps.one hi, hpp⟩
theorem readStored_any {lo : Nat} {w : World} {D : Nat} {v : IV} {out bs : List Int} {S : Nat → Prop} {R : Nat} {ao : Option Addr} {cap p : Nat} (h : InfS lo w D v .stored out bs S R ao cap p) (hlo : lo ≤ w.heap.size) :
    Calls Tryz.prog 128 #[.pointer (some ⟨D, 0, none⟩), .pointer (some ⟨R, 0, none⟩)] w fun e w' => ∃ er, e = .returned (.int .i64 er) ∧ ItemW lo w D v .stored out bs R ao cap p er w' := by
  by_cases hsh : 8 * bs.length < up8 p + 32
  · refine (readStored_short2 w D v R ao cap bs p h.obj h.rd hsh).mono ?_
    rintro e w' ⟨rfl, hr, hk⟩
    exact ⟨2, rfl, h.fails hlo hk (fun _ e => e) hr 2 (by decide) ⟨0, .fin, false, [], by unfold ItemR; dsimp only; rw [if_pos hsh]⟩⟩
  · by_cases hne : bitsAt bs (up8 p) 16 + bitsAt bs (up8 p + 16) 16 = 65535
    · exact readStored_yes h hlo (by omega) hne
    · refine (readStored_bad2 w D v R ao cap bs p h.obj h.rd (by omega) hne).mono ?_
      rintro e w' ⟨rfl, hr, hk⟩
      exact ⟨6, rfl, h.fails hlo hk (fun _ e => e) hr 6 (by decide) ⟨0, .fin, false, [], by unfold ItemR; dsimp only; rw [if_neg hsh, if_pos hne]⟩⟩
end Go.Proofs.YtfmjfgmbjdhogaaGreatDoor

namespace Go.Proofs.YtfmjfgmbjdhogaaGreatDoor
open Go.RowKit
set_option linter.unusedVariables false
set_option linter.unusedSimpArgs false

set_option maxRecDepth 20000 in
set_option maxHeartbeats 4000000 in
theorem readHead_any {lo : Nat} {w : World} {D : Nat} {v : IV} {out bs : List Int} {S : Nat → Prop} {R : Nat} {ao : Option Addr} {cap p : Nat} (h : InfS lo w D v .head out bs S R ao cap p) (hlo : lo ≤ w.heap.size) :
    Calls Tryz.prog 130 #[.pointer (some ⟨D, 0, none⟩), .pointer (some ⟨R, 0, none⟩)] w fun e w' => ∃ er, e = .returned (.int .i64 er) ∧ ItemW lo w D v .head out bs R ao cap p er w' := by
  have HL := Lib.hid (lensRead_any bs p R ao cap w h.rd)
  have H := Lib.hid h
  clear h
  go_enter Tryz.func130, Tryz.ntmps130
  go_wp2_with fail
  refine HL.out.mono ?_
  rintro e w1 ⟨la, lc, lit, da, dc, dist, f, q, q', rfl, hH, hr, hq, hol, hod, hk⟩
  have HH := Lib.hid hH; have HR := Lib.hid hr; have HOl := Lib.hid hol; have HOd := Lib.hid hod; have HK := Lib.hid hk; have HQ := Lib.hid hq
  clear hH hr hol hod hk hq HL
  by_cases h0 : f = 0
  · subst h0
    obtain rfl := HQ.out rfl
    obtain ⟨hcl, hcd, hpq⟩ := head_code HH.out
    have HN1 := Lib.hid (new_calls2 la lc w1.heap.size lit w1 HOl.out.reads hcl.2.1 hcl.1 hcl.2.2)
    have HCl := Lib.hid hcl; have HCd := Lib.hid hcd; have HPq := Lib.hid hpq
    clear hcl hcd hpq HQ
    go_wp2_with fail
    refine HN1.out.mono ?_
    rintro e w2 ⟨Fl, rfl, hd2, hk2⟩
    have ho2 := (H.out.obj.kept HK.out (fun e => H.out.DR e)).kept hk2 (fun e => e)
    have c9 := ho2.c9
    have f9 := ho2.free 9
    have ho3 := ho2.setLi (some ⟨Fl, 0, none⟩)
    obtain ⟨w3, hw3⟩ : ∃ w3, w3 = w2.setCell ⟨D, 9, none⟩ (.pointer (some ⟨Fl, 0, none⟩)) := ⟨_, rfl⟩
    have hk3 : Kept (OneB D) w2 w3 := by rw [hw3]; exact Kept.setCell (S := OneB D) (p := ⟨D, 9, none⟩) (Kept.refl _ w2) (.inl rfl) _
    rw [← hw3] at ho3
    have hod3 : OwnI w3 da dc dist := by
      have h2 : OwnI w2 da dc dist := hk2.row HOd.out (fun _ _ e => e)
      exact hk3.row h2 (fun k e1 e2 => row_ne h2 ho2 (by decide) k e1 e2)
    have HN2 := Lib.hid (new_calls2 da dc w3.heap.size dist w3 hod3.reads HCd.out.2.1 HCd.out.1 HCd.out.2.2)
    have HD2 := Lib.hid hd2; have HK2 := Lib.hid hk2; have HK3 := Lib.hid hk3; have HO3 := Lib.hid ho3; have HW3 := Lib.hid hw3
    clear hd2 hk2 hk3 ho3 hw3 hod3 ho2 HN1
    go_upto_region 5 with fail
    rw [← HW3.out]
    clear c9 f9
    go_wp2_with fail
    refine HN2.out.mono ?_
    rintro e w4 ⟨Fd, rfl, hd4, hk4⟩
    have ho4 := HO3.out.kept hk4 (fun e => e)
    have c10 := ho4.c10
    have f10 := ho4.free 10
    have ho5 := ho4.setDi (some ⟨Fd, 0, none⟩)
    obtain ⟨w5, hw5⟩ : ∃ w5, w5 = w4.setCell ⟨D, 10, none⟩ (.pointer (some ⟨Fd, 0, none⟩)) := ⟨_, rfl⟩
    have hk5 : Kept (OneB D) w4 w5 := by rw [hw5]; exact Kept.setCell (S := OneB D) (p := ⟨D, 10, none⟩) (Kept.refl _ w4) (.inl rfl) _
    rw [← hw5] at ho5
    have c6 := ho5.c6
    have f6 := ho5.free 6
    have ho6 := ho5.setNx 4
    have hk6 : Kept (OneB D) w5 (w5.setCell ⟨D, 6, none⟩ (.int .i64 4)) := Kept.setCell (S := OneB D) (p := ⟨D, 6, none⟩) (Kept.refl _ w5) (.inl rfl) _
    simp only at c6
    have HD4 := Lib.hid hd4; have HK4 := Lib.hid hk4; have HK56 := Lib.hid (hk5.trans hk6); have HO6 := Lib.hid ho6; have HW5 := Lib.hid hw5
    clear hd4 hk4 hk5 hk6 ho4 ho5 ho6 hw5 HN2
    go_upto_region 6 with fail
    rw [← HW5.out]
    go_wp2
    go_ret
    have hF : ∀ {S : Nat → Prop} {a b : World}, Kept NoB a b → Kept S a b := fun h => h.mono (fun _ _ e => e.elim)
    have k26 := HK3.out.trans ((hF HK4.out).trans HK56.out)
    have k46 := HK56.out
    have k16 := (hF HK2.out).trans k26
    have hDl := obj_lt H.out.obj
    have z1 := HK.out.size
    have z2 := HK2.out.size
    have z3 := HK3.out.size
    have z4 := HK4.out.size
    have z5 := k46.size
    have d1 := ((HD2.out.toG.inH).kept k26 (fun k hk e => by unfold OneB at e; omega)).mono (T := fun k => S k ∨ (w.heap.size ≤ k ∧ k < (w5.setCell ⟨D, 6, none⟩ (.int .i64 4)).heap.size)) (fun k hk => .inr ⟨by omega, by omega⟩)
    have d2 := ((HD4.out.toG.inH).kept k46 (fun k hk e => by unfold OneB at e; omega)).mono (T := fun k => S k ∨ (w.heap.size ≤ k ∧ k < (w5.setCell ⟨D, 6, none⟩ (.int .i64 4)).heap.size)) (fun k hk => .inr ⟨by omega, by omega⟩)
    have hT := H.out.turn hlo HK.out HR.out k16 HO6.out rfl rfl rfl rfl (m' := .sym lit dist) rfl H.out.er (S' := fun k => S k ∨ (w.heap.size ≤ k ∧ k < (w5.setCell ⟨D, 6, none⟩ (.int .i64 4)).heap.size)) (fun _ e => .inl e) (fun _ e => e) ⟨HCl.out, HCd.out, Fl, Fd, rfl, rfl, d1, d2⟩ ((H.out.fixAt HK.out k16 rfl rfl).more (fun _ e => .inl e))
    refine ⟨0, rfl, hT.2, _, _, _, _, _, hT.1, rfl, rfl, rfl, ⟨rfl, rfl, rfl⟩, ?_⟩
    rw [if_pos rfl]
    refine ⟨Steps.one ?_, HPq.out⟩
    unfold ItemR
    exact ⟨lit, dist, 0, _, HH.out, by rw [if_pos rfl]; exact ⟨rfl, rfl, rfl, rfl, rfl⟩⟩
  · have g0 : (f != 0) = true := by simpa using h0
    go_wp2
    go_ret
    refine ⟨f, rfl, H.out.fails hlo HK.out (fun _ e => e) HR.out f h0 ⟨0, .fin, false, [], ?_⟩⟩
    unfold ItemR
    exact ⟨lit, dist, f, q, HH.out, by rw [if_neg h0]⟩
end Go.Proofs.YtfmjfgmbjdhogaaGreatDoor

namespace Go.Proofs.YtfmjfgmbjdhogaaGreatDoor
open Go.RowKit
set_option linter.unusedVariables false
set_option linter.unusedSimpArgs false

set_option maxHeartbeats 1000000 in
theorem sleft_q (w : World) (R : Nat) (a : Option Addr) (n c m r : Nat) (c0 : w.cell? ⟨R, 0, none⟩ = some (.slice a n c)) (c1 : w.cell? ⟨R, 1, none⟩ = some (.int .i64 m)) (hm : m ≤ 9223372036854775807) (hn : n ≤ m) (hr : (r : Int) = (m : Int) - n) :
    Calls Tryz.prog 154 #[.pointer (some ⟨R, 0, none⟩)] w fun e w' => e = .returned (.int .i64 r) ∧ ∃ k, w' = w.drewN k := by
  rw [hr]
  clear hr
  go_enter Tryz.func154, Tryz.ntmps154
  go_wp2
  go_quiet (fail)
  go_wp2
  go_ret
  exact ⟨rfl, _, rfl⟩
set_option maxHeartbeats 1000000 in
theorem slen_q (w : World) (R : Nat) (a : Option Addr) (n c : Nat) (c0 : w.cell? ⟨R, 0, none⟩ = some (.slice a n c)) :
    Calls Tryz.prog 178 #[.pointer (some ⟨R, 0, none⟩)] w fun e w' => e = .returned (.int .i64 n) ∧ ∃ k, w' = w.drewN k := by
  go_enter Tryz.func178, Tryz.ntmps178
  go_wp2
  go_ret
  exact ⟨rfl, 0, rfl⟩
set_option maxHeartbeats 1000000 in
/-- Behind the window's growing: putOut. -/
theorem InfS.putCalls {lo : Nat} {w w1 : World} {D : Nat} {v : IV} {m : Md} {out bs wnd x : List Int} {S : Nat → Prop} {R : Nat} {ao : Option Addr} {cap p g n c k : Nat} (h : InfS lo w D v m out bs S R ao cap p) (hlo : lo ≤ w.heap.size) (hk1 : Kept (OwnB v.wn) w w1)
    (hwin : RowU w lo v.wn wnd) (hsx : Sfx wnd out) (hwl : wnd.length < 98304) (hown : w1.ownsRow 0 5 1 (.slice (some ⟨g, 0, none⟩) n c) n ((wnd ++ x).map (.int .u8))) (hg : v.wn.ownBlock = some g ∨ w.heap.size ≤ g)
    (hn : n = wnd.length + x.length) (hx : x.length = k) (z : Int) (hz : (k : Int) = z) (hk0 : 1 ≤ k) (hall : AllB x) (hfit : out.length + k ≤ v.most) (hsm : out.length + k ≤ 1000000) (hn2 : n ≤ 1000000) :
    Calls Tryz.prog 156 #[.pointer (some ⟨D, 0, none⟩), .slice (some ⟨g, 0, none⟩) n c, .int .i64 z] w1 fun e w2 => e = .returned (.tuple #[]) ∧ Kept (LoB lo) w w2 ∧ ∃ sk' wn', InfS lo w2 D { v with sk := sk', wn := wn' } m (out ++ x) bs S R ao cap p := by
  subst hz
  obtain ⟨ka, kc, hsk⟩ := own_shape h.sink.own
  have hD1 : ¬ OwnB v.wn D := fun e => (h.wnD D e).1 rfl
  have ho1 := h.obj.kept hk1 hD1
  have hs1 : RowU w1 lo v.sk out := h.sink.kept hk1 (fun j e1 e2 => h.sep j e1 e2)
  have hln : (wnd ++ x).length = n := by rw [List.length_append, hn]
  have hgl : lo ≤ g := by
    rcases hg with hg | hg
    · exact hwin.fresh g hg
    · omega
  have hsep : v.sk.ownBlock ≠ some g := fun e => by
    rcases hg with hg | hg
    · exact h.sep g e hg
    · have := own_lt h.sink.own g e; omega
  have hwa : AllB wnd := by
    obtain ⟨⟨pre, e⟩, _⟩ := hsx
    intro b hb
    exact h.all b (by rw [e]; exact List.mem_append_right _ hb)
  have hdr : (wnd ++ x).drop (n - k) = x := by rw [show n - k = wnd.length from by omega, List.drop_left' rfl]
  have hc := putOut_any lo w1 D v out ka kc g n c k (wnd ++ x) ho1 h.low hsk hs1 hown hgl hln.symm (by omega) hk0 h.all (fun b hb => by rcases List.mem_append.1 hb with hb | hb; exact hwa b hb; exact hall b hb) hsep hfit h.big hsm hn2
  refine hc.mono ?_
  rintro e w2 ⟨rfl, a1, c1, wnd', h1, h2, h3, h4, h5, h6, h7⟩
  rw [hdr] at h2
  have hx' : Sfx wnd' (out ++ x) ∧ wnd'.length < 98304 := by
    rw [h4]
    split
    · exact ⟨hsx.app, by omega⟩
    · refine ⟨hsx.app.cut _ (by omega), ?_⟩
      rw [List.length_drop, hln]; omega
  have hgr := h.put hlo hk1 hg h1 h2 h3 rfl hx'.1 hx'.2 h5 h6 h7 (by rw [List.length_append]; omega) hall
  exact ⟨rfl, hgr.2, _, _, hgr.1⟩
def PtR (lo : Nat) (w : World) (D : Nat) (v : IV) (m : Md) (out bs : List Int) (S : Nat → Prop) (R : Nat) (ao : Option Addr) (cap p : Nat) (t : Tk) (er : Int) (w' : World) : Prop :=
  if out.length < t.d.toNat then er = 4 ∧ Kept NoB w w'
  else if v.most < (t.put out).length then er = 5 ∧ Kept NoB w w'
  else er = 0 ∧ Kept (LoB lo) w w' ∧ ∃ sk' wn', InfS lo w' D { v with sk := sk', wn := wn' } m (t.put out) bs S R ao cap p
set_option maxRecDepth 20000 in
set_option maxHeartbeats 4000000 in
theorem put_lit {lo : Nat} {w : World} {D : Nat} {v : IV} {m : Md} {out bs : List Int} {S : Nat → Prop} {R : Nat} {ao : Option Addr} {cap p : Nat} (h : InfS lo w D v m out bs S R ao cap p) (hlo : lo ≤ w.heap.size) (c : Int) (hc : 0 ≤ c ∧ c < 256) (hsm : out.length ≤ 900000) :
    Calls Tryz.prog 160 #[.pointer (some ⟨D, 0, none⟩), .agg #[.int .i64 0, .int .i64 0, .int .u8 c]] w fun e w' => ∃ er, e = .returned (.int .i64 er) ∧ PtR lo w D v m out bs S R ao cap p ⟨0, 0, c⟩ er w' := by
  obtain ⟨i0, hi, hz0, hz1, hz2⟩ := info_parts info5
  have hk : Kept NoB w (w.alloc (.cells #[.int .i64 0, .int .i64 0, .int .u8 c] 101)) := (Kept.refl _ _).alloc _
  obtain ⟨a0, a1, a2⟩ : (w.alloc (.cells #[.int .i64 0, .int .i64 0, .int .u8 c] 101)).cell? ⟨w.heap.size, 0, none⟩ = some (.int .i64 0) ∧ (w.alloc (.cells #[.int .i64 0, .int .i64 0, .int .u8 c] 101)).cell? ⟨w.heap.size, 1, none⟩ = some (.int .i64 0) ∧ (w.alloc (.cells #[.int .i64 0, .int .i64 0, .int .u8 c] 101)).cell? ⟨w.heap.size, 2, none⟩ = some (.int .u8 c) :=
    ⟨by rw [cell_new 0 rfl]; rfl, by rw [cell_new 1 rfl]; rfl, by rw [cell_new 2 rfl]; rfl⟩
  obtain ⟨wnd, hwn, hsx, hwl⟩ := h.win
  obtain ⟨ka, kc, hsk⟩ := own_shape h.sink.own
  obtain ⟨wa, wc, hwv⟩ := own_shape hwn.own
  obtain ⟨W, hW⟩ : ∃ W, W = w.alloc (.cells #[.int .i64 0, .int .i64 0, .int .u8 c] 101) := ⟨_, rfl⟩
  rw [← hW] at hk a0 a1 a2
  have ho := h.obj.kept hk (fun e => e)
  have c0 := ho.c0
  have c1 := ho.c1
  have c2 := ho.c2
  rw [hsk] at c0
  rw [hwv] at c2
  obtain ⟨q, hq⟩ : ∃ q : Nat, (q : Int) = (v.most : Int) - out.length := ⟨v.most - out.length, by have := h.fit; omega⟩
  have HLen := Lib.hid (fun n => slen_q (W.drewN n) D ka out.length kc c0)
  have HLeft := Lib.hid (fun n => sleft_q (W.drewN n) D ka out.length kc v.most q c0 c1 h.big h.fit hq)
  have hfit := h.fit
  have hbig := h.big
  obtain ⟨N, hN⟩ : ∃ N, N = out.length := ⟨_, rfl⟩
  obtain ⟨Mx, hMx⟩ : ∃ Mx, Mx = v.most := ⟨_, rfl⟩
  have H := Lib.hid h; have HK := Lib.hid hk; have HWn := Lib.hid hwn; have HSx := Lib.hid hsx; have HSk := Lib.hid hsk; have HWv := Lib.hid hwv
  rw [← hN] at hsm hfit hq HLen c0
  rw [← hMx] at hfit hbig hq c1
  clear h hk hwn hsx hsk hwv ho
  go_enter Tryz.func160, Tryz.ntmps160
  have HN := Lib.hid hN; have HMx := Lib.hid hMx
  clear hN hMx
  have hN0 : ¬ (N : Int) < 0 := by omega
  go_upto_region 2 with fail
  rw [← hW]
  have HW := Lib.hid hW; clear hW
  go_quiet ((go_at_call 178; with_reducible exact Calls.quiet_of (HLen.out _)))
  go_wp2_with fail
  refine (HLeft.out _).mono ?_
  rintro e w2 ⟨rfl, k2, rfl⟩
  by_cases hq0 : q = 0
  · subst hq0
    go_wp2
    go_ret
    refine ⟨5, rfl, ?_⟩
    unfold PtR
    rw [if_neg (by simp), if_pos (by rw [put_len, ← HN.out, ← HMx.out]; simp; omega)]
    exact ⟨rfl, HK.out.drewN _⟩
  · have hq1 : ¬ (q : Int) < 1 := by omega
    obtain ⟨W2, hW2⟩ : ∃ W2, W2 = (W.drewN nq).drewN k2 := ⟨_, rfl⟩
    have HK2 : Hid (Kept NoB w W2) := by rw [hW2]; exact (HK.out.drewN _).drewN _
    have HBx : Hid (W2.heap[w.heap.size]? = some (.cells #[.int .i64 0, .int .i64 0, .int .u8 c] 101 (0, 0))) := by rw [hW2]; show W.heap[w.heap.size]? = _; rw [HW.out]; exact heap_alloc_new _ _
    have b0 : W2.cell? ⟨w.heap.size, 0, none⟩ = some (.int .i64 0) := by rw [hW2]; exact a0
    have b2 : W2.cell? ⟨w.heap.size, 2, none⟩ = some (.int .u8 c) := by rw [hW2]; exact a2
    have d2 : W2.cell? ⟨D, 2, none⟩ = some (.slice wa wnd.length wc) := by rw [hW2]; exact c2
    rw [← hW2]
    clear a0 a1 a2 c0 c1 c2 hW2
    have HO2 : Hid (W2.ownsRow 0 5 1 (.slice wa wnd.length wc) wnd.length (wnd.map (.int .u8))) := by
      have := HK2.out.row HWn.out.own (fun _ _ h => h)
      rw [HWv.out] at this; exact this
    obtain ⟨M, hM⟩ : ∃ M, M = wnd.length := ⟨_, rfl⟩
    have HM := Lib.hid hM
    rw [← hM] at d2 HO2 hwl
    clear hM
    go_wp2_with (at_builtin; refine wpList_app _ rfl _ _ 22 rfl 5 i0 (.int .u8 0) 1 1 Tryz.underlying22 hi hz0 hz1 hz2 rfl (by decide) _ M (wnd.map (.int .u8)) rfl ((HO2.out).alloc _) ⟨W2.heap.size, 0, none⟩ 1 1 [.int .u8 c] rfl rfl (cell_one_new _ _ _) ?d2 ?d3 ?d4 ?_)
    case d2 => first | rfl | (intro u hu; simp at hu; subst hu; rfl)
    case d3 => unfold maxLen; omega
    case d4 => omega
    intro v' w3 hown' hgrow hnew
    obtain ⟨ao', cap', rfl⟩ := own_shape hown'
    have HK3 : Hid (Kept (OwnB v.wn) W2 w3) := by
      rw [HWv.out, ← HM.out]
      exact ((Kept.refl _ W2).alloc _).grown hgrow (fun k _ h => h)
    have hbx3 : w3.heap[w.heap.size]? = some (.cells #[.int .i64 0, .int .i64 0, .int .u8 c] 101 (0, 0)) := HK3.out.obj HBx.out (fun e => by have := own_lt HWn.out.own _ e; omega)
    have b0 : w3.cell? ⟨w.heap.size, 0, none⟩ = some (.int .i64 0) := by rw [obj_cell hbx3 0]; rfl
    have HG := Lib.hid hgrow; have HNew := Lib.hid hnew; have HOwn := Lib.hid hown'
    clear hgrow hnew hown' hbx3 b2 d2
    go_wp2_with fail
    go_loopw [6, 39] (fun u i wr => u = .slice ao' (M + 1) cap' ∧ i = .int .i64 0 ∧ wr = w3) (fun _ _ _ => 0)
    case atStart => exact ⟨rfl, rfl, rfl⟩
    case round =>
      obtain ⟨rfl, rfl, rfl⟩ := hrel
      obtain ⟨g, rfl⟩ : ∃ g, ao' = some ⟨g, 0, none⟩ := by
        rcases HOwn.out.2 with ⟨_, hz⟩ | ⟨g, c, cur, hv, _⟩
        · omega
        · simp at hv; exact ⟨g, hv.1⟩
      have hnl : (M + 1 : Nat) = wnd.length + [c].length := by rw [← HM.out]; rfl
      have HP := Lib.hid (H.out.putCalls (k := 1) hlo ((HK2.out.mono (fun _ _ e => e.elim)).trans HK3.out) HWn.out HSx.out (by rw [← HM.out]; exact hwl) (x := [c]) (g := g) (n := M + 1) (c := cap') (by rw [List.map_append]; exact HOwn.out)
        (by rcases HNew.out g rfl with e | e
            · left; rw [HWv.out, ← HM.out]; exact e
            · right; have := HK2.out.size; omega) hnl rfl 1 rfl (Nat.le_refl _) (fun b hb => by simp at hb; subst hb; exact hc) (by rw [← HN.out, ← HMx.out]; omega) (by rw [← HN.out]; omega) (by omega))
      clear hnl
      go_wp2_with fail
      refine HP.out.mono ?_
      rintro e w4 ⟨rfl, hk4, sk', wn', hI⟩
      have HI := Lib.hid hI; have HK4 := Lib.hid hk4
      clear hI hk4
      go_wp2
      go_ret
      refine ⟨0, rfl, ?_⟩
      unfold PtR
      rw [if_neg (by simp), if_neg (by rw [put_len, ← HN.out, ← HMx.out]; simp; omega)]
      exact ⟨rfl, HK4.out, sk', wn', HI.out⟩
end Go.Proofs.YtfmjfgmbjdhogaaGreatDoor

namespace Go.Proofs.YtfmjfgmbjdhogaaGreatDoor
open Go.RowKit
set_option linter.unusedVariables false
set_option linter.unusedSimpArgs false

theorem bits_drop {bs : List Int} (hall : AllB bs) {f k : Nat} {xs r : List Int} (h : bs.drop f = xs ++ r) (hk : k ≤ 8 * xs.length) : bitsAt bs (8 * f) k = num xs % 2 ^ k := by
  have := bitsAt_window bs hall f 0 k xs.length (by omega)
  rw [h, List.take_left'  rfl] at this
  simpa using this.symm
theorem drop_more {bs xs r : List Int} {f : Nat} (h : bs.drop f = xs ++ r) : bs.drop (f + xs.length) = r := by
  rw [← List.drop_drop, h, List.drop_left' rfl]
end Go.Proofs.YtfmjfgmbjdhogaaGreatDoor
