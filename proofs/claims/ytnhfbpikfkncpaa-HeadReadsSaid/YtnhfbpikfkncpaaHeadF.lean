/-
  head: Encode.
-/
import Derived.Test.YtnhfbpikfkncpaaHeadE
import Derived.Test.YtnhfbpikfkncpaaOctC
import Derived.Deep.RegionWith
namespace Go.Proofs.Ytnhfbpikfkncpaa
open Go.RowKit
set_option linter.unusedVariables false
set_option linter.unusedSimpArgs false

def EncHR (w : World) (h : HdP) (e : Ending) (w' : World) : Prop :=
  (encOk h = true ∧ ∃ g, e = .returned (.tuple #[.slice (some ⟨g, 0, none⟩) 512 512, .int .i64 0]) ∧ w'.heap[g]? = some (.cells ((encL h).map (Value.int .u8)).toArray 5 (0, 0)) ∧ w.heap.size ≤ g ∧ Kept NoB w w') ∨
    (encOk h = false ∧ e = .returned (.tuple #[.slice none 0 0, .int .i64 16]) ∧ Kept NoB w w')
/-- The block as it is filled. -/
def fil (h : HdP) : List Int :=
  splice (splice (splice (splice (splice ((splice (splice (splice (splice (splice (splice (List.replicate 512 0) 0 (h.nm.take 100)) 100 (fieldS h.md 8 h.gn).1) 108 (fieldS h.us 8 h.gn).1) 116 (fieldS h.gr 8 h.gn).1) 124 (fieldS h.sz 12 h.gn).1) 136 (fieldS h.tm 12 h.gn).1).set 156 h.ty) 157 (h.lk.take 100)) 257 (magB h.gn)) 329 (fieldS h.ma 8 h.gn).1) 337 (fieldS h.mi 8 h.gn).1) 345 (h.px.take 155)
theorem set_next (P : List Int) (R : Nat) (v : Int) (n : Nat) (hR : 1 ≤ R) (h : P.length = n) : (P ++ List.replicate R 0).set n v = (P ++ [v]) ++ List.replicate (R - 1) 0 := by
  subst h
  obtain ⟨r, rfl⟩ : ∃ r, R = r + 1 := ⟨R - 1, by omega⟩
  rw [List.set_append_right _ _ (by omega), Nat.sub_self, List.replicate_succ]
  simp
theorem put_at (P ys : List Int) (R W n : Nat) (hP : P.length = n) (h : ys.length ≤ W) (hW : W ≤ R) : splice (P ++ List.replicate R 0) n ys = (P ++ padT ys W) ++ List.replicate (R - W) 0 := by
  subst hP; exact put_next P ys R W h hW
theorem padT_full (ys : List Int) (W : Nat) (h : ys.length = W) : padT ys W = ys := by simp [padT, h]
theorem gap (P : List Int) (R k : Nat) (h : k ≤ R) : P ++ List.replicate R 0 = (P ++ List.replicate k 0) ++ List.replicate (R - k) 0 := by
  rw [List.append_assoc, List.replicate_append_replicate]; congr 2; omega
theorem fil_eq {h : HdP} (o : EncO h) : fil h = preL h := by
  have f1 : (fieldS h.md 8 h.gn).1.length = 8 := field_len _ _ _ o.md (by decide)
  have f2 : (fieldS h.us 8 h.gn).1.length = 8 := field_len _ _ _ o.us (by decide)
  have f3 : (fieldS h.gr 8 h.gn).1.length = 8 := field_len _ _ _ o.gr (by decide)
  have f4 : (fieldS h.sz 12 h.gn).1.length = 12 := field_len _ _ _ o.sz (by decide)
  have f5 : (fieldS h.tm 12 h.gn).1.length = 12 := field_len _ _ _ o.tm (by decide)
  have f6 : (fieldS h.ma 8 h.gn).1.length = 8 := field_len _ _ _ o.ma (by decide)
  have f7 : (fieldS h.mi 8 h.gn).1.length = 8 := field_len _ _ _ o.mi (by decide)
  have g1 := padT_len h.nm 100 o.nm.1
  have g2 := padT_len h.lk 100 o.lk.1
  have g3 := padT_len h.px 155 o.px.1
  have g4 := magB_len h.gn
  have t1 : h.nm.take 100 = h.nm := List.take_of_length_le o.nm.1
  have t2 : h.lk.take 100 = h.lk := List.take_of_length_le o.lk.1
  have t3 : h.px.take 155 = h.px := List.take_of_length_le o.px.1
  unfold fil
  rw [t1, t2, t3]
  have s1 := put_at [] h.nm 512 100 0 rfl o.nm.1 (by omega)
  rw [List.nil_append, List.nil_append] at s1
  rw [s1, put_at _ _ _ 8 100 g1 (by omega) (by omega), padT_full _ _ f1, put_at _ _ _ 8 108 (by simp [g1, f1]) (by omega) (by omega), padT_full _ _ f2,
    put_at _ _ _ 8 116 (by simp [g1, f1, f2]) (by omega) (by omega), padT_full _ _ f3, put_at _ _ _ 12 124 (by simp [g1, f1, f2, f3]) (by omega) (by omega), padT_full _ _ f4,
    put_at _ _ _ 12 136 (by simp [g1, f1, f2, f3, f4]) (by omega) (by omega), padT_full _ _ f5]
  rw [gap _ _ 8 (by omega), set_next _ _ h.ty 156 (by omega) (by simp [g1, f1, f2, f3, f4, f5]), put_at _ _ _ 100 157 (by simp [g1, f1, f2, f3, f4, f5]) o.lk.1 (by omega),
    put_at _ _ _ 8 257 (by simp [g1, f1, f2, f3, f4, f5, g2]) (by omega) (by omega), padT_full _ _ g4, gap _ _ 64 (by omega), put_at _ _ _ 8 329 (by simp [g1, f1, f2, f3, f4, f5, g2, g4]) (by omega) (by omega), padT_full _ _ f6,
    put_at _ _ _ 8 337 (by simp [g1, f1, f2, f3, f4, f5, g2, g4, f6]) (by omega) (by omega), padT_full _ _ f7, put_at _ _ _ 155 345 (by simp [g1, f1, f2, f3, f4, f5, g2, g4, f6, f7]) o.px.1 (by omega)]
  simp [preL, oneL, twoL]
theorem own_full {w : World} {g n : Nat} {xs : List Value} (h : w.ownsRow 0 5 1 (.slice (some ⟨g, 0, none⟩) n n) n xs) : w.heap[g]? = some (.cells xs.toArray 5 (0, 0)) := by
  rcases h.2 with ⟨hv, _⟩ | ⟨g', cap, cur, hv, _, hg, h1, h2, h3, h4⟩
  · simp at hv
  · simp at hv
    obtain ⟨rfl, rfl⟩ := hv
    have e : cur.toList = xs := by
      rw [← h4, Nat.mul_one] at *
      exact (List.take_of_length_le (by rw [Array.length_toList]; omega)).symm
    rw [hg, ← e]
theorem splice_row (xs ys : List Int) (at_ : Nat) : (xs.map (Value.int .u8)).take at_ ++ (ys.map (Value.int .u8)) ++ (xs.map (Value.int .u8)).drop (at_ + ys.length) = (splice xs at_ ys).map (Value.int .u8) := by
  simp [splice, List.map_take, List.map_drop]
/-- A text that goes in is copied into a block. -/
theorem copy_text {w : World} {g : Nat} {xs ys : List Int} (hg : w.heap[g]? = some (.cells (xs.map (Value.int .u8)).toArray 5 (0, 0))) (hl : xs.length = 512) (hy : AllB ys) (at_ d c : Nat) (h1 : at_ + ys.length ≤ 512) (h2 : ys.length ≤ d) :
    (Builtin.copy_ #[24, 9] 3 #[.slice (some ⟨g, at_, none⟩) d c, .string (strOfNums ys)]).run Try.prog w = .ok (goInt ys.length) (w.setRow g ((splice xs at_ ys).map (Value.int .u8)).toArray) := by
  have hs : (strOfNums ys).size = ys.length := strOfNums_size ys
  have hm : Nat.min (strOfNums ys).size d = ys.length := by rw [hs]; exact Nat.min_eq_left h2
  have h := run_copy_str w 24 9 3 5 g at_ d c (strOfNums ys) (xs.map (Value.int .u8)).toArray 5 Try.underlying24 (by kernel_rfl) hg (by rw [hm]; simp [hl]; omega)
  have e : (ys.map (Value.int .u8)).take ys.length = ys.map (Value.int .u8) := List.take_of_length_le (by simp)
  rw [hm, scells_num hy, e] at h
  rw [h, ← splice_row]
/-- A row is copied into a block. -/
theorem copy_row {w : World} {g : Nat} {xs ys : List Int} (hg : w.heap[g]? = some (.cells (xs.map (Value.int .u8)).toArray 5 (0, 0))) (hl : xs.length = 512) (ad : Addr) (hr : Reads w (some ad) ys) (at_ d c n cs : Nat) (hn : n = ys.length) (h1 : at_ + ys.length ≤ 512) (h2 : ys.length ≤ d) :
    (Builtin.copy_ #[24, 24] 3 #[.slice (some ⟨g, at_, none⟩) d c, .slice (some ad) n cs]).run Try.prog w = .ok (goInt n) (w.setRow g ((splice xs at_ ys).map (Value.int .u8)).toArray) := by
  have hm : (ys.map (Value.int .u8)).length = Nat.min n d := by rw [List.length_map, hn]; exact (Nat.min_eq_left h2).symm
  have h := run_copy_row (P := Try.prog) w 24 24 3 5 g at_ d c ad n cs (xs.map (Value.int .u8)).toArray 5 (ys.map (Value.int .u8)) Try.underlying24 (by kernel_rfl) hg hm (reads_news hr) (by simp [hl]; omega) (news_one _)
  rw [List.length_map] at h
  rw [h, hn, ← splice_row]
theorem step_appT {ops : Array Oper} {o : Oper} {a : Act} {w w' : World} {K : Act → World → Prop} {Q : Exit → Act → World → Prop} {E : Prop} (hg : o.guard = none) (s x : Operand) (hop : o.op = Op.call { callee := Callee.builtin Builtin.append, args := #[s, x], argTypes := #[24, 24] })
    {v1 v2 v : Value} (hs : a.eval s = v1) (hx : a.eval x = v2) (hr : (Builtin.append_ #[24, 24] o.type #[v1, v2]).run Try.prog w = .ok v w') (hK : K (a.put o.dst v) w') :
    if Region.wanted o (yielded ops a.tmps) = true then Oper.wp Try.prog o a w K Q else E := by
  have hw : Region.wanted o (yielded ops a.tmps) = true := by simp [Region.wanted, hg]
  rw [if_pos hw]
  unfold Oper.wp execOp
  simp only [hop, resolve, invoke, builtin, Sem.run_bind, Sem.run_pure, Result.andThen_ok, List.map_toArray, List.map_cons, List.map_nil, hs, hx, hr]
  exact hK
theorem BlkW.row {w : World} {X g : Nat} {gn ok : Bool} {xs : List Int} (h : BlkW w X g gn ok xs) (at_ : Nat) (ys : List Int) (hf : at_ + ys.length ≤ 512) : BlkW (w.setRow g ((splice xs at_ ys).map (Value.int .u8)).toArray) X g gn ok (splice xs at_ ys) :=
  ⟨(setRow_other w g X _ (fun e => h.ne e.symm)).trans h.st, setRow_heap w g _ _ _ _ h.by_, by rw [length_splice _ _ _ (by rw [h.len]; exact hf)]; exact h.len, h.ne⟩

set_option maxRecDepth 100000 in
set_option maxHeartbeats 32000000 in
theorem henc_any (h : HdP) (w : World) (k : HdOk h) (hsz : h.nm.length ≤ 9223372036854775807 ∧ h.lk.length ≤ 9223372036854775807 ∧ h.px.length ≤ 9223372036854775807) :
    Calls Try.prog 8 #[hdV h] w (EncHR w h) := by
  obtain ⟨Hb, hHb⟩ : ∃ Hb, Hb = w.heap.size := ⟨_, rfl⟩
  obtain ⟨wB, hwB⟩ : ∃ wB, wB = w.alloc (.cells (hdC h) 23) := ⟨_, rfl⟩
  have hkB : Kept NoB w wB := by rw [hwB]; exact (Kept.refl NoB w).alloc _
  have hbox : wB.heap[Hb]? = some (.cells (hdC h) 23 (0, 0)) := by rw [hwB, hHb]; exact heap_alloc_new _ _
  obtain ⟨i0, hi0, hz0, hz1, hz2⟩ := info_parts info5
  obtain ⟨wd, hwd⟩ : ∃ wd, wd = wB.drew := ⟨_, rfl⟩
  obtain ⟨wM, hrun, hownM, hgM⟩ := run_make_full (P := Try.prog) wd 0 24 5 i0 (.int .u8 0) 1 Try.underlying24 hi0 hz0 hz1 .i64 .i64 512 (by rw [hz2]; omega) (by unfold maxLen; omega) (Nat.zero_le _)
  have hkM : Kept NoB wd wM := (Kept.refl NoB wd).grown hgM (fun _ _ e => by cases e)
  obtain ⟨g, hg⟩ : ∃ g, g = wd.heap.size := ⟨_, rfl⟩
  rw [← hg] at hrun hownM
  have hgrow : wM.heap[g]? = some (.cells ((List.replicate 512 (0 : Int)).map (Value.int .u8)).toArray 5 (0, 0)) := by
    have h1 := own_full hownM
    rw [h1]
    congr 3
    show (madeCells #[Value.int .u8 0] (512 * 1)).toList = _
    rw [Nat.mul_one, toList_madeCells_one, List.map_replicate]
  have hwB2 : w.alloc (.cells #[.string (strOfNums h.nm), .string (strOfNums h.lk), .string (strOfNums h.px), .int .u8 h.ty, .bool h.gn, .int .i64 h.md, .int .i64 h.us, .int .i64 h.gr, .int .i64 h.sz, .int .i64 h.tm, .int .i64 h.ma, .int .i64 h.mi] 23) = wB := by rw [hwB]; rfl
  have b4 : wB.cell? ⟨Hb, 4, none⟩ = some (.bool h.gn) := by rw [obj_cell hbox 4]; rfl
  have b2 : wB.cell? ⟨Hb, 2, none⟩ = some (.string (strOfNums h.px)) := by rw [obj_cell hbox 2]; rfl
  have hgB : wB.heap.size ≤ g := by rw [hg, hwd]; exact Nat.le_refl _
  have HBox := Lib.hid hbox; have HKB := Lib.hid hkB; have HWd := Lib.hid hwd; have HWB2 := Lib.hid hwB2; have HHb := Lib.hid hHb; have HGr := Lib.hid hgrow; have HKM := Lib.hid hkM; have HRun := Lib.hid hrun; have HGB := Lib.hid hgB
  have HbB : Hid (Hb < wB.heap.size) := Lib.hid (obj_lt hbox)
  clear hwB hwB2 hbox hkB hHb hg hgrow hkM hrun hwd hi0 hz0 hz1 hz2 hownM hgM hgB
  unfold hdV
  go_enter Try.func8, Try.ntmps8
  go_upto_region 1 with fail
  rw [← HHb.out, HWB2.out]
  have hrun2 : (Instr.makeSlice 24 (.int .i64 512) (.int .i64 512)).run Try.prog wB.drew = .ok (.slice (some ⟨g, 0, none⟩) 512 512) wM := by rw [← HWd.out]; exact HRun.out
  have hkBM : Kept NoB wB wM := by
    have h1 : Kept NoB wB wd := by rw [HWd.out]; exact (Kept.refl NoB wB).drew
    exact h1.trans HKM.out
  have m4 : wM.cell? ⟨Hb, 4, none⟩ = some (.bool h.gn) := hkBM.cell b4
  have m2 : wM.cell? ⟨Hb, 2, none⟩ = some (.string (strOfNums h.px)) := hkBM.cell b2
  have HKBM := Lib.hid hkBM
  clear hkBM
  go_cut [4] from 7 to 19 (fun v4 wx => ∃ X, v4 = .pointer (some ⟨X, 0, none⟩) ∧ Hid (BlkW wx X g h.gn (!h.gn || h.px.isEmpty) (List.replicate 512 0)) ∧ Hid (Kept NoB wB wx) ∧ wB.heap.size ≤ X)
  case first =>
    obtain ⟨S, hS⟩ : ∃ S, S = strOfNums h.px := ⟨_, rfl⟩
    rw [← hS] at b2 m2
    have hpe1 : S.toList.isEmpty = h.px.isEmpty := by rw [hS, num_list]; cases h.px <;> rfl
    obtain ⟨pe, hpe⟩ : ∃ pe, pe = h.px.isEmpty := ⟨_, rfl⟩
    have HPe := Lib.hid hpe
    rw [← hpe] at hpe1
    have hpe2 : (S.toList == []) = pe := by rw [← hpe1]; cases S.toList <;> rfl
    obtain ⟨X, hX⟩ : ∃ X, X = wM.heap.size := ⟨_, rfl⟩
    have hXB : wB.heap.size ≤ X := by rw [hX]; exact HKBM.out.size
    have hgX : g ≠ X := by have := obj_lt HGr.out; omega
    have hfin : ∀ (gn ok : Bool), BlkW (wM.alloc (.cells #[.slice (some ⟨g, 0, none⟩) 512 512, .bool gn, .bool ok] 55)) X g gn ok (List.replicate 512 0) := fun gn ok => ⟨by rw [hX]; exact heap_alloc_new _ _, ((Kept.refl NoB wM).alloc _).obj HGr.out (fun h => h), by simp, hgX⟩
    have HFin := Lib.hid hfin; have HX := Lib.hid hX
    clear hS hpe hX hfin
    obtain ⟨gB, hgB⟩ : ∃ b, b = h.gn := ⟨_, rfl⟩
    rw [← hgB] at b4 m4
    have HgB := Lib.hid hgB
    clear hgB
    cases gB with
    | false =>
      go_wp2_with fail
      go_region
      rw [← HX.out]
      go_wp2
      go_meet
      exact ⟨X, rfl, Lib.hid (by have := HFin.out false true; rw [← HgB.out]; exact this), Lib.hid (HKBM.out.alloc _), hXB⟩
    | true =>
      go_wp2_with fail
      go_region
      rw [← HX.out]
      go_wp2
      go_meet
      exact ⟨X, rfl, Lib.hid (by have := HFin.out true pe; rw [← HgB.out, ← HPe.out]; exact this), Lib.hid (HKBM.out.alloc _), hXB⟩
  case rest =>
  obtain ⟨X, rfl, HB0, HKx, hXB⟩ := hcut
  obtain ⟨w0, hw0⟩ : ∃ w0, w0 = wc := ⟨_, rfl⟩
  rw [← hw0] at HB0 HKx ⊢
  clear hw0 hrun2 b4 b2 m4 m2
  have HXB := Lib.hid hXB
  have HBx : Hid (∀ W, Kept (TwoB X g) w0 W → W.heap[Hb]? = some (.cells (hdC h) 23 (0, 0))) := Lib.hid (fun W hW => hW.obj (HKx.out.obj HBox.out (fun h => h)) (fun e => by
    have h1 := HbB.out
    have h2 := HXB.out
    have h3 := HGB.out
    rcases e with e | e <;> omega))
  clear hXB
  have HK0 : Hid (Kept (TwoB X g) w0 w0) := Lib.hid (Kept.refl _ _)
  obtain ⟨o0, ho0⟩ : ∃ o, o = (!h.gn || h.px.isEmpty) := ⟨_, rfl⟩
  obtain ⟨x0, hx0⟩ : ∃ x, x = List.replicate 512 (0 : Int) := ⟨_, rfl⟩
  rw [← ho0, ← hx0] at HB0
  have HO0 := Lib.hid ho0; have HX0 := Lib.hid hx0
  clear ho0 hx0
  have c0 : w0.cell? ⟨Hb, 0, none⟩ = some (.string (strOfNums h.nm)) := by rw [obj_cell (HBx.out _ HK0.out) 0]; rfl
  have HT0 : Hid (Calls Try.prog 21 #[.pointer (some ⟨X, 0, none⟩), .string (strOfNums h.nm), .int .i64 0, .int .i64 100] w0 (fun e w' => e = .returned (.tuple #[]) ∧ BlkW w' X g h.gn (o0 && okT h.nm 100) (splice x0 0 (h.nm.take 100)) ∧ Kept (TwoB X g) w0 w')) := Lib.hid (btext_any X g 0 100 h.gn o0 x0 h.nm w0 HB0.out k.nm (by omega) (by omega) hsz.1)
  go_wp2_with fail
  with_reducible refine HT0.out.mono ?_
  rintro e w1 ⟨rfl, hB1, hk1⟩
  have HK1 := Lib.hid (HK0.out.trans hk1)
  obtain ⟨o1, ho1⟩ : ∃ o, o = (o0 && okT h.nm 100) := ⟨_, rfl⟩
  obtain ⟨x1, hx1⟩ : ∃ x, x = (splice x0 0 (h.nm.take 100)) := ⟨_, rfl⟩
  rw [← ho1, ← hx1] at hB1
  have HB1 := Lib.hid hB1; have HO1 := Lib.hid ho1; have HX1 := Lib.hid hx1
  clear hB1 hk1 ho1 hx1 c0
  have c1 : w1.cell? ⟨Hb, 5, none⟩ = some (.int .i64 h.md) := by rw [obj_cell (HBx.out _ HK1.out) 5]; rfl
  have HT1 : Hid (Calls Try.prog 22 #[.pointer (some ⟨X, 0, none⟩), .int .i64 h.md, .int .i64 100, .int .i64 8] w1 (fun e w' => e = .returned (.tuple #[]) ∧ BlkW w' X g h.gn (o1 && (fieldS h.md 8 h.gn).2) (splice x1 100 (fieldS h.md 8 h.gn).1) ∧ Kept (TwoB X g) w1 w')) := Lib.hid (bnum_any X g 100 8 h.md h.gn o1 x1 w1 HB1.out k.md (by omega) (by omega))
  go_wp2_with fail
  with_reducible refine HT1.out.mono ?_
  rintro e w2 ⟨rfl, hB2, hk2⟩
  have HK2 := Lib.hid (HK1.out.trans hk2)
  obtain ⟨o2, ho2⟩ : ∃ o, o = (o1 && (fieldS h.md 8 h.gn).2) := ⟨_, rfl⟩
  obtain ⟨x2, hx2⟩ : ∃ x, x = (splice x1 100 (fieldS h.md 8 h.gn).1) := ⟨_, rfl⟩
  rw [← ho2, ← hx2] at hB2
  have HB2 := Lib.hid hB2; have HO2 := Lib.hid ho2; have HX2 := Lib.hid hx2
  clear hB2 hk2 ho2 hx2 c1
  have c2 : w2.cell? ⟨Hb, 6, none⟩ = some (.int .i64 h.us) := by rw [obj_cell (HBx.out _ HK2.out) 6]; rfl
  have HT2 : Hid (Calls Try.prog 22 #[.pointer (some ⟨X, 0, none⟩), .int .i64 h.us, .int .i64 108, .int .i64 8] w2 (fun e w' => e = .returned (.tuple #[]) ∧ BlkW w' X g h.gn (o2 && (fieldS h.us 8 h.gn).2) (splice x2 108 (fieldS h.us 8 h.gn).1) ∧ Kept (TwoB X g) w2 w')) := Lib.hid (bnum_any X g 108 8 h.us h.gn o2 x2 w2 HB2.out k.us (by omega) (by omega))
  go_wp2_with fail
  with_reducible refine HT2.out.mono ?_
  rintro e w3 ⟨rfl, hB3, hk3⟩
  have HK3 := Lib.hid (HK2.out.trans hk3)
  obtain ⟨o3, ho3⟩ : ∃ o, o = (o2 && (fieldS h.us 8 h.gn).2) := ⟨_, rfl⟩
  obtain ⟨x3, hx3⟩ : ∃ x, x = (splice x2 108 (fieldS h.us 8 h.gn).1) := ⟨_, rfl⟩
  rw [← ho3, ← hx3] at hB3
  have HB3 := Lib.hid hB3; have HO3 := Lib.hid ho3; have HX3 := Lib.hid hx3
  clear hB3 hk3 ho3 hx3 c2
  have c3 : w3.cell? ⟨Hb, 7, none⟩ = some (.int .i64 h.gr) := by rw [obj_cell (HBx.out _ HK3.out) 7]; rfl
  have HT3 : Hid (Calls Try.prog 22 #[.pointer (some ⟨X, 0, none⟩), .int .i64 h.gr, .int .i64 116, .int .i64 8] w3 (fun e w' => e = .returned (.tuple #[]) ∧ BlkW w' X g h.gn (o3 && (fieldS h.gr 8 h.gn).2) (splice x3 116 (fieldS h.gr 8 h.gn).1) ∧ Kept (TwoB X g) w3 w')) := Lib.hid (bnum_any X g 116 8 h.gr h.gn o3 x3 w3 HB3.out k.gr (by omega) (by omega))
  go_wp2_with fail
  with_reducible refine HT3.out.mono ?_
  rintro e w4 ⟨rfl, hB4, hk4⟩
  have HK4 := Lib.hid (HK3.out.trans hk4)
  obtain ⟨o4, ho4⟩ : ∃ o, o = (o3 && (fieldS h.gr 8 h.gn).2) := ⟨_, rfl⟩
  obtain ⟨x4, hx4⟩ : ∃ x, x = (splice x3 116 (fieldS h.gr 8 h.gn).1) := ⟨_, rfl⟩
  rw [← ho4, ← hx4] at hB4
  have HB4 := Lib.hid hB4; have HO4 := Lib.hid ho4; have HX4 := Lib.hid hx4
  clear hB4 hk4 ho4 hx4 c3
  have c4 : w4.cell? ⟨Hb, 8, none⟩ = some (.int .i64 h.sz) := by rw [obj_cell (HBx.out _ HK4.out) 8]; rfl
  have HT4 : Hid (Calls Try.prog 22 #[.pointer (some ⟨X, 0, none⟩), .int .i64 h.sz, .int .i64 124, .int .i64 12] w4 (fun e w' => e = .returned (.tuple #[]) ∧ BlkW w' X g h.gn (o4 && (fieldS h.sz 12 h.gn).2) (splice x4 124 (fieldS h.sz 12 h.gn).1) ∧ Kept (TwoB X g) w4 w')) := Lib.hid (bnum_any X g 124 12 h.sz h.gn o4 x4 w4 HB4.out k.sz (by omega) (by omega))
  go_wp2_with fail
  with_reducible refine HT4.out.mono ?_
  rintro e w5 ⟨rfl, hB5, hk5⟩
  have HK5 := Lib.hid (HK4.out.trans hk5)
  obtain ⟨o5, ho5⟩ : ∃ o, o = (o4 && (fieldS h.sz 12 h.gn).2) := ⟨_, rfl⟩
  obtain ⟨x5, hx5⟩ : ∃ x, x = (splice x4 124 (fieldS h.sz 12 h.gn).1) := ⟨_, rfl⟩
  rw [← ho5, ← hx5] at hB5
  have HB5 := Lib.hid hB5; have HO5 := Lib.hid ho5; have HX5 := Lib.hid hx5
  clear hB5 hk5 ho5 hx5 c4
  have c5 : w5.cell? ⟨Hb, 9, none⟩ = some (.int .i64 h.tm) := by rw [obj_cell (HBx.out _ HK5.out) 9]; rfl
  have HT5 : Hid (Calls Try.prog 22 #[.pointer (some ⟨X, 0, none⟩), .int .i64 h.tm, .int .i64 136, .int .i64 12] w5 (fun e w' => e = .returned (.tuple #[]) ∧ BlkW w' X g h.gn (o5 && (fieldS h.tm 12 h.gn).2) (splice x5 136 (fieldS h.tm 12 h.gn).1) ∧ Kept (TwoB X g) w5 w')) := Lib.hid (bnum_any X g 136 12 h.tm h.gn o5 x5 w5 HB5.out k.tm (by omega) (by omega))
  go_wp2_with fail
  with_reducible refine HT5.out.mono ?_
  rintro e w6 ⟨rfl, hB6, hk6⟩
  have HK6 := Lib.hid (HK5.out.trans hk6)
  obtain ⟨o6, ho6⟩ : ∃ o, o = (o5 && (fieldS h.tm 12 h.gn).2) := ⟨_, rfl⟩
  obtain ⟨x6, hx6⟩ : ∃ x, x = (splice x5 136 (fieldS h.tm 12 h.gn).1) := ⟨_, rfl⟩
  rw [← ho6, ← hx6] at hB6
  have HB6 := Lib.hid hB6; have HO6 := Lib.hid ho6; have HX6 := Lib.hid hx6
  clear hB6 hk6 ho6 hx6 c5
  have s0 : w6.cell? ⟨X, 0, none⟩ = some (.slice (some ⟨g, 0, none⟩) 512 512) := by rw [obj_cell HB6.out.st 0]; rfl
  have t3 : w6.cell? ⟨Hb, 3, none⟩ = some (.int .u8 h.ty) := by rw [obj_cell (HBx.out _ HK6.out) 3]; rfl
  have g6 : ∃ z, w6.cell? ⟨g, 156, none⟩ = some z := by
    rw [obj_cell HB6.out.by_ 156]
    exact ⟨_, by simp [HB6.out.len]; rfl⟩
  obtain ⟨z6, g6⟩ := g6
  have f6 : w6.frozen? ⟨g, 156, none⟩ = false := obj_free HB6.out.by_ _
  have hst : BlkW (w6.drew.setCell ⟨g, 156, none⟩ (.int .u8 h.ty)) X g h.gn o6 (x6.set 156 h.ty) := by
    have hb := HB6.out
    refine ⟨(Below.heap_setCell _ _ _ _ (fun e => hb.ne e.symm)).trans hb.st, ?_, by rw [List.length_set]; exact hb.len, hb.ne⟩
    have h2 := obj_set (w := w6.drew) hb.by_ 156 (.int .u8 h.ty)
    rw [h2]
    congr 2
    rw [List.map_set]; simp
  have hks : Kept (TwoB X g) w0 (w6.drew.setCell ⟨g, 156, none⟩ (.int .u8 h.ty)) := (HK6.out.drew).setCell (p := ⟨g, 156, none⟩) (.inl (.inr rfl)) _
  obtain ⟨x7, hx7⟩ : ∃ x, x = x6.set 156 h.ty := ⟨_, rfl⟩
  rw [← hx7] at hst
  have HB7' := Lib.hid hst; have HK7' := Lib.hid hks; have HX7 := Lib.hid hx7
  clear hst hks hx7
  go_upto_region 8 with fail
  go_cut [] from 44 to 50 (fun wx => Hid (BlkW wx X g h.gn o6 x7) ∧ Hid (Kept (TwoB X g) w0 wx))
  case first =>
    go_wp2_with fail
    go_region
    all_goals (go_wp2; go_meet; exact ⟨HB7', HK7'⟩)
  case rest =>
  obtain ⟨HB7, HK7⟩ := hcut
  obtain ⟨w7, hw7⟩ : ∃ y, y = wc := ⟨_, rfl⟩
  rw [← hw7] at HB7 HK7 ⊢
  clear hw7 HB7' HK7' s0 t3 g6 f6
  obtain ⟨o7, ho7⟩ : ∃ o, o = o6 := ⟨_, rfl⟩
  rw [← ho7] at HB7
  have HO7 := Lib.hid ho7
  clear ho7
  have c7 : w7.cell? ⟨Hb, 1, none⟩ = some (.string (strOfNums h.lk)) := by rw [obj_cell (HBx.out _ HK7.out) 1]; rfl
  have HT7 : Hid (Calls Try.prog 21 #[.pointer (some ⟨X, 0, none⟩), .string (strOfNums h.lk), .int .i64 157, .int .i64 100] w7 (fun e w' => e = .returned (.tuple #[]) ∧ BlkW w' X g h.gn (o7 && okT h.lk 100) (splice x7 157 (h.lk.take 100)) ∧ Kept (TwoB X g) w7 w')) := Lib.hid (btext_any X g 157 100 h.gn o7 x7 h.lk w7 HB7.out k.lk (by omega) (by omega) hsz.2.1)
  go_wp2_with fail
  with_reducible refine HT7.out.mono ?_
  rintro e w8 ⟨rfl, hB8, hk8⟩
  have HK8 := Lib.hid (HK7.out.trans hk8)
  obtain ⟨o8, ho8⟩ : ∃ o, o = (o7 && okT h.lk 100) := ⟨_, rfl⟩
  obtain ⟨x8, hx8⟩ : ∃ x, x = (splice x7 157 (h.lk.take 100)) := ⟨_, rfl⟩
  rw [← ho8, ← hx8] at hB8
  have HB8 := Lib.hid hB8; have HO8 := Lib.hid ho8; have HX8 := Lib.hid hx8
  clear hB8 hk8 ho8 hx8 c7
  have s0 : w8.cell? ⟨X, 0, none⟩ = some (.slice (some ⟨g, 0, none⟩) 512 512) := by rw [obj_cell HB8.out.st 0]; rfl
  have t4 : w8.cell? ⟨Hb, 4, none⟩ = some (.bool h.gn) := by rw [obj_cell (HBx.out _ HK8.out) 4]; rfl
  have hBd : BlkW w8.drew X g h.gn o8 x8 := HB8.out.kept ((Kept.refl NoB _).drew)
  have hcpM := copy_text hBd.by_ hBd.len (allB_mag h.gn) 257 255 255 (by rw [magB_len]; omega) (by rw [magB_len]; omega)
  have hBz := hBd.row 257 (magB h.gn) (by rw [magB_len]; omega)
  have hKz : Kept (TwoB X g) w0 (w8.drew.setRow g ((splice x8 257 (magB h.gn)).map (Value.int .u8)).toArray) := two_kept_row (HK8.out.drew) _
  have hSz : (w8.drew.setRow g ((splice x8 257 (magB h.gn)).map (Value.int .u8)).toArray).heap[X]? = w8.heap[X]? ∧ (w8.drew.setRow g ((splice x8 257 (magB h.gn)).map (Value.int .u8)).toArray).heap[Hb]? = w8.heap[Hb]? := ⟨setRow_other _ g X _ (fun e => hBd.ne e.symm), setRow_other _ g Hb _ (fun e => by have h1 := HbB.out; have h2 := HGB.out; omega)⟩
  obtain ⟨x9, hx9⟩ : ∃ x, x = splice x8 257 (magB h.gn) := ⟨_, rfl⟩
  rw [← hx9] at hcpM hBz hKz hSz
  have HX9 := Lib.hid hx9
  have HBz := Lib.hid hBz; have HKz := Lib.hid hKz
  clear hBz hKz hx9 hBd
  go_upto_region 10 with fail
  go_cut [] from 55 to 63 (fun wx => Hid (BlkW wx X g h.gn o8 x9) ∧ Hid (Kept (TwoB X g) w0 wx))
  case first =>
    go_wp2_with fail
    refine wp_region_noPanic ?_
    refine wp_region_held_drew (S := fun W => W.heap[X]? = w8.heap[X]? ∧ W.heap[Hb]? = w8.heap[Hb]?) (by kernel_rfl) (⟨rfl, rfl⟩) (fun hHeld => ?_)
    refine wpAnyH_take (i := 0) (v := ?_) (by rw [List.getElem?_toArray]; rfl) (by kernel_rfl) (by kernel_rfl) (by kernel_rfl) (fun _ _ _ h => h) (Or.inl ⟨by rfl, ?hyq1_⟩) (by assumption) ?restq1_
    case hyq1_ => (intro w hSw; (try dsimp only at hSw); go_simp; (try with_reducible rfl))
    try simp only [Act.put, List.setIfInBounds_toArray, List.set_cons_zero, List.set_cons_succ]
    refine wpAnyH_take (i := 1) (v := ?_) (by rw [List.getElem?_toArray]; rfl) (by kernel_rfl) (by kernel_rfl) (by kernel_rfl) (fun _ _ _ h => h) (Or.inl ⟨by rfl, ?hyq2_⟩) (by assumption) ?restq2_
    case hyq2_ => (intro w hSw; (try dsimp only at hSw); go_simp; (try with_reducible rfl))
    try simp only [Act.put, List.setIfInBounds_toArray, List.set_cons_zero, List.set_cons_succ]
    refine wpAnyH_take (i := 2) (v := ?_) (by rw [List.getElem?_toArray]; rfl) (by kernel_rfl) (by kernel_rfl) (by kernel_rfl) (fun _ _ _ h => h) (Or.inl ⟨by rfl, ?hyq3_⟩) (by assumption) ?restq3_
    case hyq3_ => (intro w hSw; (try dsimp only at hSw); go_simp; (try with_reducible rfl))
    try simp only [Act.put, List.setIfInBounds_toArray, List.set_cons_zero, List.set_cons_succ]
    refine wpAnyH_take (i := 3) (v := ?_) (by rw [List.getElem?_toArray]; rfl) (by kernel_rfl) (by kernel_rfl) (by kernel_rfl) (fun _ _ _ h => h) (Or.inl ⟨by rfl, ?hyq4_⟩) (by assumption) ?restq4_
    case hyq4_ => (intro w hSw; (try dsimp only at hSw); (try have e1 := (World.cell?_of_block (a := ⟨X, 0, none⟩) hSw.1).trans s0); go_simp; (try with_reducible rfl))
    try simp only [Act.put, List.setIfInBounds_toArray, List.set_cons_zero, List.set_cons_succ]
    refine wpAnyH_take (i := 4) (v := ?_) (by rw [List.getElem?_toArray]; rfl) (by kernel_rfl) (by kernel_rfl) (by kernel_rfl) (fun _ _ _ h => h) (Or.inl ⟨by rfl, ?hyq5_⟩) (by assumption) ?restq5_
    case hyq5_ => (intro w hSw; (try dsimp only at hSw); go_simp; (try with_reducible rfl))
    try simp only [Act.put, List.setIfInBounds_toArray, List.set_cons_zero, List.set_cons_succ]
    refine wpAnyH_take (i := 5) (v := ?_) (by rw [List.getElem?_toArray]; rfl) (by kernel_rfl) (by kernel_rfl) (by kernel_rfl) (fun _ _ _ h => h) (Or.inl ⟨by rfl, ?hyq6_⟩) (by assumption) ?restq6_
    case hyq6_ => (intro w hSw; (try dsimp only at hSw); go_simp; (try with_reducible rfl))
    try simp only [Act.put, List.setIfInBounds_toArray, List.set_cons_zero, List.set_cons_succ]
    refine wpAnyH_take (i := 6) (v := ?_) (by rw [List.getElem?_toArray]; rfl) (by kernel_rfl) (by kernel_rfl) (by kernel_rfl) (fun _ _ _ h => h) (Or.inl ⟨by rfl, ?hyq7_⟩) (by assumption) ?restq7_
    case hyq7_ => (intro w hSw; (try dsimp only at hSw); (try have e1 := (World.cell?_of_block (a := ⟨Hb, 4, none⟩) hSw.2).trans t4); go_simp; (try with_reducible rfl))
    try simp only [Act.put, List.setIfInBounds_toArray, List.set_cons_zero, List.set_cons_succ]
    refine wpAnyH_ready (rs := [7]) (by kernel_rfl) (by simp) ?_
    refine AllReadyH.cons (by rw [List.getElem?_toArray]; rfl) (fun K hK => ?_) AllReadyH.nil
    go_simp
    go_at_call 23
    (with_reducible refine (magic_any h.gn _).mono ?_)
    rintro e wn ⟨rfl, rfl⟩
    have hSn := hHeld
    go_wp2_with fail
    refine hK.out _ _ hSn (fun hHeld => ?_)
    clear hK K hSn
    try simp only [Act.put, List.setIfInBounds_toArray, List.set_cons_zero, List.set_cons_succ]
    refine wpAnyH_ready (rs := [8]) (by kernel_rfl) (by simp) ?_
    refine AllReadyH.cons (by rw [List.getElem?_toArray]; rfl) (fun K hK => ?_) AllReadyH.nil
    go_simp
    try rw [hcpM]
    try go_simp
    refine hK.out _ _ hSz (fun hHeld2 => ?_)
    clear hK K
    try simp only [Act.put, List.setIfInBounds_toArray, List.set_cons_zero, List.set_cons_succ]
    refine wpAnyH_done (by kernel_rfl) ?_ _
    refine NoPanic.normal ?_
    go_wp2
    go_meet
    exact ⟨HBz, HKz⟩
  case rest =>
  obtain ⟨HB9, HK9⟩ := hcut
  obtain ⟨w9, hw9⟩ : ∃ y, y = wc := ⟨_, rfl⟩
  rw [← hw9] at HB9 HK9 ⊢
  clear hw9 HBz HKz hSz hcpM s0 t4
  obtain ⟨o9, ho9⟩ : ∃ o, o = o8 := ⟨_, rfl⟩
  rw [← ho9] at HB9
  have HO9 := Lib.hid ho9
  clear ho9
  have c9 : w9.cell? ⟨Hb, 10, none⟩ = some (.int .i64 h.ma) := by rw [obj_cell (HBx.out _ HK9.out) 10]; rfl
  have HT9 : Hid (Calls Try.prog 22 #[.pointer (some ⟨X, 0, none⟩), .int .i64 h.ma, .int .i64 329, .int .i64 8] w9 (fun e w' => e = .returned (.tuple #[]) ∧ BlkW w' X g h.gn (o9 && (fieldS h.ma 8 h.gn).2) (splice x9 329 (fieldS h.ma 8 h.gn).1) ∧ Kept (TwoB X g) w9 w')) := Lib.hid (bnum_any X g 329 8 h.ma h.gn o9 x9 w9 HB9.out k.ma (by omega) (by omega))
  go_wp2_with fail
  with_reducible refine HT9.out.mono ?_
  rintro e w10 ⟨rfl, hB10, hk10⟩
  have HK10 := Lib.hid (HK9.out.trans hk10)
  obtain ⟨o10, ho10⟩ : ∃ o, o = (o9 && (fieldS h.ma 8 h.gn).2) := ⟨_, rfl⟩
  obtain ⟨x10, hx10⟩ : ∃ x, x = (splice x9 329 (fieldS h.ma 8 h.gn).1) := ⟨_, rfl⟩
  rw [← ho10, ← hx10] at hB10
  have HB10 := Lib.hid hB10; have HO10 := Lib.hid ho10; have HX10 := Lib.hid hx10
  clear hB10 hk10 ho10 hx10 c9
  have c10 : w10.cell? ⟨Hb, 11, none⟩ = some (.int .i64 h.mi) := by rw [obj_cell (HBx.out _ HK10.out) 11]; rfl
  have HT10 : Hid (Calls Try.prog 22 #[.pointer (some ⟨X, 0, none⟩), .int .i64 h.mi, .int .i64 337, .int .i64 8] w10 (fun e w' => e = .returned (.tuple #[]) ∧ BlkW w' X g h.gn (o10 && (fieldS h.mi 8 h.gn).2) (splice x10 337 (fieldS h.mi 8 h.gn).1) ∧ Kept (TwoB X g) w10 w')) := Lib.hid (bnum_any X g 337 8 h.mi h.gn o10 x10 w10 HB10.out k.mi (by omega) (by omega))
  go_wp2_with fail
  with_reducible refine HT10.out.mono ?_
  rintro e w11 ⟨rfl, hB11, hk11⟩
  have HK11 := Lib.hid (HK10.out.trans hk11)
  obtain ⟨o11, ho11⟩ : ∃ o, o = (o10 && (fieldS h.mi 8 h.gn).2) := ⟨_, rfl⟩
  obtain ⟨x11, hx11⟩ : ∃ x, x = (splice x10 337 (fieldS h.mi 8 h.gn).1) := ⟨_, rfl⟩
  rw [← ho11, ← hx11] at hB11
  have HB11 := Lib.hid hB11; have HO11 := Lib.hid ho11; have HX11 := Lib.hid hx11
  clear hB11 hk11 ho11 hx11 c10
  have c11 : w11.cell? ⟨Hb, 2, none⟩ = some (.string (strOfNums h.px)) := by rw [obj_cell (HBx.out _ HK11.out) 2]; rfl
  have HT11 : Hid (Calls Try.prog 21 #[.pointer (some ⟨X, 0, none⟩), .string (strOfNums h.px), .int .i64 345, .int .i64 155] w11 (fun e w' => e = .returned (.tuple #[]) ∧ BlkW w' X g h.gn (o11 && okT h.px 155) (splice x11 345 (h.px.take 155)) ∧ Kept (TwoB X g) w11 w')) := Lib.hid (btext_any X g 345 155 h.gn o11 x11 h.px w11 HB11.out k.px (by omega) (by omega) hsz.2.2)
  go_wp2_with fail
  with_reducible refine HT11.out.mono ?_
  rintro e w12 ⟨rfl, hB12, hk12⟩
  have HK12 := Lib.hid (HK11.out.trans hk12)
  obtain ⟨o12, ho12⟩ : ∃ o, o = (o11 && okT h.px 155) := ⟨_, rfl⟩
  obtain ⟨x12, hx12⟩ : ∃ x, x = (splice x11 345 (h.px.take 155)) := ⟨_, rfl⟩
  rw [← ho12, ← hx12] at hB12
  have HB12 := Lib.hid hB12; have HO12 := Lib.hid ho12; have HX12 := Lib.hid hx12
  clear hB12 hk12 ho12 hx12 c11
  have hOK : o12 = encOk h := by
    rw [HO12.out, HO11.out, HO10.out, HO9.out, HO8.out, HO7.out, HO6.out, HO5.out, HO4.out, HO3.out, HO2.out, HO1.out, HO0.out]
    rfl
  have hXS : x12 = fil h := by
    rw [HX12.out, HX11.out, HX10.out, HX9.out, HX8.out, HX7.out, HX6.out, HX5.out, HX4.out, HX3.out, HX2.out, HX1.out, HX0.out]
    rfl
  have s2 : w12.cell? ⟨X, 2, none⟩ = some (.bool o12) := by rw [obj_cell HB12.out.st 2]; rfl
  have s0 : w12.cell? ⟨X, 0, none⟩ = some (.slice (some ⟨g, 0, none⟩) 512 512) := by rw [obj_cell HB12.out.st 0]; rfl
  have HKw : Hid (Kept NoB w w12) := Lib.hid (by
    have h1 := HKB.out.trans HKx.out
    have h2 := HK12.out
    exact ⟨h2.os.trans h1.os, h2.tape.trans h1.tape, h2.output.trans h1.output, Nat.le_trans h1.size h2.size, fun q hq _ => (h2.block q (Nat.lt_of_lt_of_le hq h1.size) (fun e => by
      have h3 := HKB.out.size
      have h4 := HXB.out
      have h5 := HGB.out
      rcases e with e | e <;> omega)).trans (h1.block q hq (fun h => h))⟩)
  have HOK := Lib.hid hOK; have HXS := Lib.hid hXS
  clear hOK hXS
  obtain ⟨wF, hwF⟩ : ∃ wF, wF = w12 := ⟨_, rfl⟩
  obtain ⟨xF, hxF⟩ : ∃ xF, xF = x12 := ⟨_, rfl⟩
  have HBF := HB12
  have HBoxF := Lib.hid (HBx.out _ HK12.out)
  rw [← hwF] at s2 s0 HKw HBF HBoxF ⊢
  rw [← hxF] at HBF HXS
  clear hwF hxF
  cases hoF : o12 with
  | false =>
    rw [hoF] at s2
    have HF : Hid (encOk h = false) := Lib.hid (by rw [← HOK.out, hoF])
    go_wp2
    go_ret2
    exact .inr ⟨HF.out, rfl, HKw.out⟩
  | true =>
    rw [hoF] at s2 HBF
    have HF : Hid (encOk h = true) := Lib.hid (by rw [← HOK.out, hoF])
    have hxp : xF = preL h := by rw [HXS.out]; exact fil_eq (enc_o HF.out)
    have hall : AllB xF := by rw [hxp]; exact pre_all k
    have hrd : Reads wF (some ⟨g, 0, none⟩) xF := lit_reads (t := 5) (fr := (0, 0)) xF HBF.out.by_ (by simp)
    have HSm := Lib.hid (hsum_any (some ⟨g, 0, none⟩) 512 512 xF wF hrd hall HBF.out.len.symm (by omega))
    obtain ⟨m1, m2⟩ := sum_small hall
    have hsl : sumL xF = sumTo xF 512 := by rw [sumL, if_pos HBF.out.len]
    have hsb := sumTo_bd hall 512
    rw [hsl] at HSm
    have hOc : octS (sumTo xF 512) 7 = (fld (oc (sumTo xF 512)) 6 6 true, true) := if_pos ⟨by omega, by omega, m1, m2⟩
    obtain ⟨sm, hsm⟩ : ∃ sm, sm = sumTo xF 512 := ⟨_, rfl⟩
    rw [← hsm] at HSm hOc hsb
    have HO7 := Lib.hid (octalC_any sm 7 wF (by omega))
    obtain ⟨F7, hF7⟩ : ∃ F, F = fld (oc sm) 6 6 true := ⟨_, rfl⟩
    rw [← hF7] at hOc
    have hF7l : F7.length = 7 := by rw [hF7, fld_len]
    have hF7a : AllB F7 := by rw [hF7]; exact fld_all _ (oc_lt sm) _ _ _
    rw [hOc] at HO7
    have HE : Hid (splice xF 148 (F7 ++ [32]) = encL h) := Lib.hid (by
      have e : sumF h = F7 ++ [32] := by
        have e2 : octS (sumTo (preL h) 512) 7 = (F7, true) := by rw [← hxp, ← hsm]; exact hOc
        rw [sumF, e2]
      rw [hxp, encL, e]
      have ho := one_len (enc_o HF.out)
      have := splice_mid (oneL h) (List.replicate 8 0) (F7 ++ [32]) (twoL h) (by simp [hF7l])
      rw [ho] at this
      exact this)
    have HF7l := Lib.hid hF7l; have HF7a := Lib.hid hF7a
    clear hxp hall hrd m1 m2 hsl hsb hOc hsm hF7 hF7l hF7a
    go_wp2_with fail
    with_reducible refine HSm.out.mono ?_
    rintro e wS ⟨rfl, rfl⟩
    go_wp2_with fail
    with_reducible refine HO7.out.mono ?_
    rintro e w7 ⟨ao, cap, rfl, HRd7, HNil7, hc7, hcm7, hk7⟩
    rw [HF7l.out] at hc7
    subst hc7
    have hrd7 : Reads w7 ao F7 := HRd7.out
    obtain ⟨a7, rfl⟩ : ∃ a, ao = some a := by
      cases ao with
      | none => have := HNil7.out rfl; omega
      | some a => exact ⟨a, rfl⟩
    have hl7 := HF7l.out
    have HKw7 := Lib.hid (HKw.out.trans hk7)
    have hB7 := HBF.out.kept hk7
    obtain ⟨i0, hi0, hz0, hz1, hz2⟩ := info_parts info5
    obtain ⟨wa, hwa⟩ : ∃ wa, wa = (w7.alloc (.cells #[.int .u8 32] 5)).drew := ⟨_, rfl⟩
    obtain ⟨q7, hq7⟩ : ∃ q, q = w7.heap.size := ⟨_, rfl⟩
    have hka : Kept NoB w7 wa := by rw [hwa]; exact ((Kept.refl NoB w7).alloc _).drew
    have h32 : wa.cell? ⟨q7, 0, none⟩ = some (.int .u8 32) := by rw [hwa, hq7]; exact cell_new (w := w7) 0 rfl
    have hrA := hrd7.keptNo hka
    have hrunA := run_append_grow (P := Try.prog) (w := wa) 24 24 5 i0 (.int .u8 0) Try.underlying24 hi0 hz0 a7 7 7 (F7.map (Value.int .u8)) (by rw [List.length_map, hl7, hz1]) (reads_news hrA) ⟨q7, 0, none⟩ 1 1 [.int .u8 32] (by rw [hz1]; rfl) (by
      intro j v hj
      match j with
      | 0 => simp at hj; subst hj; exact h32
      | j + 1 => simp at hj) (by omega) (by omega) (growslice_fits (by omega) (by rw [hz2]; omega))
    obtain ⟨q8, hq8⟩ : ∃ q, q = wa.heap.size := ⟨_, rfl⟩
    obtain ⟨c8, hc8⟩ : ∃ c, c = grownCap wa (7 + 1) 7 5 := ⟨_, rfl⟩
    rw [← hq8, ← hc8] at hrunA
    obtain ⟨wb, hwb⟩ : ∃ wb, wb = wa.drew.alloc (.cells ((F7.map (Value.int .u8)).toArray ++ [Value.int .u8 32].toArray ++ Builtin.zeroCells (Value.int .u8 0).cells (c8 - (7 + 1))) 5) := ⟨_, rfl⟩
    rw [← hwb] at hrunA
    have hkb : Kept NoB w7 wb := by rw [hwb]; exact (hka.drew).alloc _
    have hr8 : Reads wb (some ⟨q8, 0, none⟩) (F7 ++ [32]) := by
      refine ⟨(fun h => by cases h), ?_⟩
      intro a ha i hi
      cases ha
      rw [addr_add, Nat.zero_add, hwb, hq8]
      show (wa.drew.alloc _).cell? ⟨wa.drew.heap.size, i, none⟩ = _
      rw [cell_of_row _ _ _ _ _ (0, 0) (heap_alloc_new _ _)]
      rw [List.length_append, hl7] at hi
      have hi8 : i < 8 := by simpa using hi
      rw [Array.getElem?_append_left (by simp [hl7]; omega)]
      have e : (F7.map (Value.int .u8)).toArray ++ [Value.int .u8 32].toArray = ((F7 ++ [32]).map (Value.int .u8)).toArray := by simp
      rw [e]
      simp only [List.getElem?_toArray, List.getElem?_map, List.getD]
      rw [List.getElem?_eq_getElem (by simp [hl7]; omega)]
      rfl
    have hBb := HBF.out.kept (hk7.trans hkb)
    have hcp := copy_row hBb.by_ hBb.len ⟨q8, 0, none⟩ hr8 148 364 364 8 c8 (by simp [hl7]) (by simp [hl7]) (by simp [hl7])
    have hBz := hBb.row 148 (F7 ++ [32]) (by simp [hl7])
    rw [HE.out] at hcp hBz
    obtain ⟨wz, hwz⟩ : ∃ wz, wz = wb.setRow g ((encL h).map (Value.int .u8)).toArray := ⟨_, rfl⟩
    rw [← hwz] at hcp hBz
    have hgw : w.heap.size ≤ g := Nat.le_trans HKB.out.size HGB.out
    have hKz : Kept NoB w wz := by rw [hwz]; exact kept_setRow (HKw7.out.trans hkb) hgw _
    have hXz : wz.heap[X]? = w7.heap[X]? := by rw [hBz.st, hB7.st]
    have hXb : wb.heap[X]? = w7.heap[X]? := by rw [hBb.st, hB7.st]
    have hXa : wa.heap[X]? = w7.heap[X]? := by rw [(HBF.out.kept (hk7.trans hka)).st, hB7.st]
    have s7 : w7.cell? ⟨X, 0, none⟩ = some (.slice (some ⟨g, 0, none⟩) 512 512) := by rw [obj_cell hB7.st 0]; rfl
    have sz : wz.cell? ⟨X, 0, none⟩ = some (.slice (some ⟨g, 0, none⟩) 512 512) := by rw [obj_cell hBz.st 0]; rfl
    have HBz := Lib.hid hBz; have HKz := Lib.hid hKz; have HWa := Lib.hid hwa; have HQ7 := Lib.hid hq7
    have e71 : (7 : Nat) + 1 = 8 := rfl
    rw [e71] at hrunA
    clear hk7 hB7 hka h32 hrA hkb hr8 hBb hBz hKz hgw hwz hwb hq8 hc8 hwa hq7 hi0 hz0 hz1 hz2 hrd7 s0 s2 e71
    rw [show ((F7, true) : List Int × Bool).1.length = 7 from hl7]
    clear hl7
    go_wp2_with fail
    refine wp_region_noPanic ?_
    refine wp_region_held_drew (S := fun W => W.heap[X]? = w7.heap[X]?) (by kernel_rfl) (rfl) (fun hHeld => ?_)
    refine wpAnyH_take (i := 0) (v := ?_) (by rw [List.getElem?_toArray]; rfl) (by kernel_rfl) (by kernel_rfl) (by kernel_rfl) (fun _ _ _ h => h) (Or.inl ⟨by rfl, ?hyq8_⟩) (by assumption) ?restq8_
    case hyq8_ => (intro w hSw; (try dsimp only at hSw); go_simp; (try with_reducible rfl))
    try simp only [Act.put, List.setIfInBounds_toArray, List.set_cons_zero, List.set_cons_succ]
    refine wpAnyH_take (i := 1) (v := ?_) (by rw [List.getElem?_toArray]; rfl) (by kernel_rfl) (by kernel_rfl) (by kernel_rfl) (fun _ _ _ h => h) (Or.inl ⟨by rfl, ?hyq9_⟩) (by assumption) ?restq9_
    case hyq9_ => (intro w hSw; (try dsimp only at hSw); go_simp; (try with_reducible rfl))
    try simp only [Act.put, List.setIfInBounds_toArray, List.set_cons_zero, List.set_cons_succ]
    refine wpAnyH_take (i := 2) (v := ?_) (by rw [List.getElem?_toArray]; rfl) (by kernel_rfl) (by kernel_rfl) (by kernel_rfl) (fun _ _ _ h => h) (Or.inl ⟨by rfl, ?hyq10_⟩) (by assumption) ?restq10_
    case hyq10_ => (intro w hSw; (try dsimp only at hSw); go_simp; (try with_reducible rfl))
    try simp only [Act.put, List.setIfInBounds_toArray, List.set_cons_zero, List.set_cons_succ]
    refine wpAnyH_take (i := 3) (v := ?_) (by rw [List.getElem?_toArray]; rfl) (by kernel_rfl) (by kernel_rfl) (by kernel_rfl) (fun _ _ _ h => h) (Or.inl ⟨by rfl, ?hyq11_⟩) (by assumption) ?restq11_
    case hyq11_ => (intro w hSw; (try dsimp only at hSw); (try have e1 := (World.cell?_of_block (a := ⟨X, 0, none⟩) hSw).trans s7); go_simp; (try with_reducible rfl))
    try simp only [Act.put, List.setIfInBounds_toArray, List.set_cons_zero, List.set_cons_succ]
    refine wpAnyH_take (i := 4) (v := ?_) (by rw [List.getElem?_toArray]; rfl) (by kernel_rfl) (by kernel_rfl) (by kernel_rfl) (fun _ _ _ h => h) (Or.inl ⟨by rfl, ?hyq12_⟩) (by assumption) ?restq12_
    case hyq12_ => (intro w hSw; (try dsimp only at hSw); go_simp; (try with_reducible rfl))
    try simp only [Act.put, List.setIfInBounds_toArray, List.set_cons_zero, List.set_cons_succ]
    refine wpAnyH_take (i := 5) (v := ?_) (by rw [List.getElem?_toArray]; rfl) (by kernel_rfl) (by kernel_rfl) (by kernel_rfl) (fun _ _ _ h => h) (Or.inl ⟨by rfl, ?hyq13_⟩) (by assumption) ?restq13_
    case hyq13_ => (intro w hSw; (try dsimp only at hSw); go_simp; (try with_reducible rfl))
    try simp only [Act.put, List.setIfInBounds_toArray, List.set_cons_zero, List.set_cons_succ]
    refine wpAnyH_ready (rs := [6]) (by kernel_rfl) (by simp) ?_
    refine AllReadyH.cons (by rw [List.getElem?_toArray]; rfl) (fun K hK => ?_) AllReadyH.nil
    go_simp
    rw [← HQ7.out, ← HWa.out]
    refine hK.out _ _ hXa (fun hHeld => ?_)
    clear hK K
    try simp only [Act.put, List.setIfInBounds_toArray, List.set_cons_zero, List.set_cons_succ]
    refine wpAnyH_ready (rs := [7]) (by kernel_rfl) (by simp) ?_
    refine AllReadyH.cons (by rw [List.getElem?_toArray]; rfl) (fun K hK => ?_) AllReadyH.nil
    refine step_appT rfl (.tmp 95) (.tmp 96) rfl rfl rfl hrunA ?_
    refine hK.out _ _ hXb (fun hHeld => ?_)
    clear hK K
    try simp only [Act.put, List.setIfInBounds_toArray, List.set_cons_zero, List.set_cons_succ]
    refine wpAnyH_ready (rs := [8]) (by kernel_rfl) (by simp) ?_
    refine AllReadyH.cons (by rw [List.getElem?_toArray]; rfl) (fun K hK => ?_) AllReadyH.nil
    go_simp
    try rw [hcp]
    try go_simp
    refine hK.out _ _ hXz (fun hHeld => ?_)
    clear hK K
    try simp only [Act.put, List.setIfInBounds_toArray, List.set_cons_zero, List.set_cons_succ]
    refine wpAnyH_done (by kernel_rfl) ?_ _
    refine NoPanic.normal ?_
    go_wp2
    go_ret2
    exact .inl ⟨HF.out, g, rfl, HBz.out.by_, Nat.le_trans HKB.out.size HGB.out, HKz.out⟩
end Go.Proofs.Ytnhfbpikfkncpaa
