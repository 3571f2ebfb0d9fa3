/-
  head: Decode.
-/
import Derived.Test.YtnhfbpikfkncpaaHeadC
import Derived.Deep.RegionWith
namespace Go.Proofs.Ytnhfbpikfkncpaa
open Go.RowKit
set_option linter.unusedVariables false
set_option linter.unusedSimpArgs false

def hdV (h : HdP) : Value := .agg #[.string (strOfNums h.nm), .string (strOfNums h.lk), .string (strOfNums h.px), .int .u8 h.ty, .bool h.gn, .int .i64 h.md, .int .i64 h.us, .int .i64 h.gr, .int .i64 h.sz, .int .i64 h.tm, .int .i64 h.ma, .int .i64 h.mi]
def DecHR (w : World) (bs : List Int) (e : Ending) (w' : World) : Prop := e = .returned (.tuple #[hdV (decL bs).1, .int .i64 (decL bs).2]) ∧ Kept NoB w w'
theorem num_list (a : List Int) : (strOfNums a).toList = a.map (fun n => n.toNat.toUInt8) := by
  rw [Lib.toList_data, strOfNums_data]
theorem num_inj {a b : List Int} (ha : AllB a) (hb : AllB b) (h : a.map (fun n => n.toNat.toUInt8) = b.map (fun n => n.toNat.toUInt8)) : a = b := by
  induction a generalizing b with
  | nil => cases b with | nil => rfl | cons y b => cases h
  | cons x a ih =>
    cases b with
    | nil => cases h
    | cons y b =>
      simp only [List.map_cons, List.cons.injEq] at h
      have hx := ha x List.mem_cons_self
      have hy := hb y List.mem_cons_self
      have := congrArg UInt8.toNat h.1
      simp at this
      rw [ih (fun z hz => ha z (List.mem_cons_of_mem _ hz)) (fun z hz => hb z (List.mem_cons_of_mem _ hz)) h.2, show x = y by omega]
theorem str_eq {a b : List Int} (ha : AllB a) (hb : AllB b) : ((strOfNums a).toList == (strOfNums b).toList) = (a == b) := by
  rw [Bool.eq_iff_iff, beq_iff_eq, beq_iff_eq, num_list, num_list]
  exact ⟨num_inj ha hb, fun h => by rw [h]⟩
/-- The block of the answer. -/
def hdC (h : HdP) : Array Value := #[.string (strOfNums h.nm), .string (strOfNums h.lk), .string (strOfNums h.px), .int .u8 h.ty, .bool h.gn, .int .i64 h.md, .int .i64 h.us, .int .i64 h.gr, .int .i64 h.sz, .int .i64 h.tm, .int .i64 h.ma, .int .i64 h.mi]

/-- A struct of twelve cells is stored whole. -/
def put12 (w : World) (R : Nat) (v0 v1 v2 v3 v4 v5 v6 v7 v8 v9 v10 v11 : Value) : World := ((((((((((((w.setCell ⟨R, 0, none⟩ v0).setCell ⟨R, 1, none⟩ v1).setCell ⟨R, 2, none⟩ v2).setCell ⟨R, 3, none⟩ v3).setCell ⟨R, 4, none⟩ v4).setCell ⟨R, 5, none⟩ v5).setCell ⟨R, 6, none⟩ v6).setCell ⟨R, 7, none⟩ v7).setCell ⟨R, 8, none⟩ v8).setCell ⟨R, 9, none⟩ v9).setCell ⟨R, 10, none⟩ v10).setCell ⟨R, 11, none⟩ v11)
set_option maxHeartbeats 4000000 in
theorem put12_obj {w : World} {R : Nat} {a0 a1 a2 a3 a4 a5 a6 a7 a8 a9 a10 a11 : Value} {t : TypeId} (h : w.heap[R]? = some (.cells #[a0, a1, a2, a3, a4, a5, a6, a7, a8, a9, a10, a11] t (0, 0))) (v0 v1 v2 v3 v4 v5 v6 v7 v8 v9 v10 v11 : Value) :
    (put12 w R v0 v1 v2 v3 v4 v5 v6 v7 v8 v9 v10 v11).heap[R]? = some (.cells #[v0, v1, v2, v3, v4, v5, v6, v7, v8, v9, v10, v11] t (0, 0)) := by
  have h0 : (w.setCell ⟨R, 0, none⟩ v0).heap[R]? = some (.cells #[v0, a1, a2, a3, a4, a5, a6, a7, a8, a9, a10, a11] t (0, 0)) := by have e := obj_set h 0 v0; exact e
  have h1 : ((w.setCell ⟨R, 0, none⟩ v0).setCell ⟨R, 1, none⟩ v1).heap[R]? = some (.cells #[v0, v1, a2, a3, a4, a5, a6, a7, a8, a9, a10, a11] t (0, 0)) := by have e := obj_set h0 1 v1; exact e
  have h2 : (((w.setCell ⟨R, 0, none⟩ v0).setCell ⟨R, 1, none⟩ v1).setCell ⟨R, 2, none⟩ v2).heap[R]? = some (.cells #[v0, v1, v2, a3, a4, a5, a6, a7, a8, a9, a10, a11] t (0, 0)) := by have e := obj_set h1 2 v2; exact e
  have h3 : ((((w.setCell ⟨R, 0, none⟩ v0).setCell ⟨R, 1, none⟩ v1).setCell ⟨R, 2, none⟩ v2).setCell ⟨R, 3, none⟩ v3).heap[R]? = some (.cells #[v0, v1, v2, v3, a4, a5, a6, a7, a8, a9, a10, a11] t (0, 0)) := by have e := obj_set h2 3 v3; exact e
  have h4 : (((((w.setCell ⟨R, 0, none⟩ v0).setCell ⟨R, 1, none⟩ v1).setCell ⟨R, 2, none⟩ v2).setCell ⟨R, 3, none⟩ v3).setCell ⟨R, 4, none⟩ v4).heap[R]? = some (.cells #[v0, v1, v2, v3, v4, a5, a6, a7, a8, a9, a10, a11] t (0, 0)) := by have e := obj_set h3 4 v4; exact e
  have h5 : ((((((w.setCell ⟨R, 0, none⟩ v0).setCell ⟨R, 1, none⟩ v1).setCell ⟨R, 2, none⟩ v2).setCell ⟨R, 3, none⟩ v3).setCell ⟨R, 4, none⟩ v4).setCell ⟨R, 5, none⟩ v5).heap[R]? = some (.cells #[v0, v1, v2, v3, v4, v5, a6, a7, a8, a9, a10, a11] t (0, 0)) := by have e := obj_set h4 5 v5; exact e
  have h6 : (((((((w.setCell ⟨R, 0, none⟩ v0).setCell ⟨R, 1, none⟩ v1).setCell ⟨R, 2, none⟩ v2).setCell ⟨R, 3, none⟩ v3).setCell ⟨R, 4, none⟩ v4).setCell ⟨R, 5, none⟩ v5).setCell ⟨R, 6, none⟩ v6).heap[R]? = some (.cells #[v0, v1, v2, v3, v4, v5, v6, a7, a8, a9, a10, a11] t (0, 0)) := by have e := obj_set h5 6 v6; exact e
  have h7 : ((((((((w.setCell ⟨R, 0, none⟩ v0).setCell ⟨R, 1, none⟩ v1).setCell ⟨R, 2, none⟩ v2).setCell ⟨R, 3, none⟩ v3).setCell ⟨R, 4, none⟩ v4).setCell ⟨R, 5, none⟩ v5).setCell ⟨R, 6, none⟩ v6).setCell ⟨R, 7, none⟩ v7).heap[R]? = some (.cells #[v0, v1, v2, v3, v4, v5, v6, v7, a8, a9, a10, a11] t (0, 0)) := by have e := obj_set h6 7 v7; exact e
  have h8 : (((((((((w.setCell ⟨R, 0, none⟩ v0).setCell ⟨R, 1, none⟩ v1).setCell ⟨R, 2, none⟩ v2).setCell ⟨R, 3, none⟩ v3).setCell ⟨R, 4, none⟩ v4).setCell ⟨R, 5, none⟩ v5).setCell ⟨R, 6, none⟩ v6).setCell ⟨R, 7, none⟩ v7).setCell ⟨R, 8, none⟩ v8).heap[R]? = some (.cells #[v0, v1, v2, v3, v4, v5, v6, v7, v8, a9, a10, a11] t (0, 0)) := by have e := obj_set h7 8 v8; exact e
  have h9 : ((((((((((w.setCell ⟨R, 0, none⟩ v0).setCell ⟨R, 1, none⟩ v1).setCell ⟨R, 2, none⟩ v2).setCell ⟨R, 3, none⟩ v3).setCell ⟨R, 4, none⟩ v4).setCell ⟨R, 5, none⟩ v5).setCell ⟨R, 6, none⟩ v6).setCell ⟨R, 7, none⟩ v7).setCell ⟨R, 8, none⟩ v8).setCell ⟨R, 9, none⟩ v9).heap[R]? = some (.cells #[v0, v1, v2, v3, v4, v5, v6, v7, v8, v9, a10, a11] t (0, 0)) := by have e := obj_set h8 9 v9; exact e
  have h10 : (((((((((((w.setCell ⟨R, 0, none⟩ v0).setCell ⟨R, 1, none⟩ v1).setCell ⟨R, 2, none⟩ v2).setCell ⟨R, 3, none⟩ v3).setCell ⟨R, 4, none⟩ v4).setCell ⟨R, 5, none⟩ v5).setCell ⟨R, 6, none⟩ v6).setCell ⟨R, 7, none⟩ v7).setCell ⟨R, 8, none⟩ v8).setCell ⟨R, 9, none⟩ v9).setCell ⟨R, 10, none⟩ v10).heap[R]? = some (.cells #[v0, v1, v2, v3, v4, v5, v6, v7, v8, v9, v10, a11] t (0, 0)) := by have e := obj_set h9 10 v10; exact e
  have h11 : ((((((((((((w.setCell ⟨R, 0, none⟩ v0).setCell ⟨R, 1, none⟩ v1).setCell ⟨R, 2, none⟩ v2).setCell ⟨R, 3, none⟩ v3).setCell ⟨R, 4, none⟩ v4).setCell ⟨R, 5, none⟩ v5).setCell ⟨R, 6, none⟩ v6).setCell ⟨R, 7, none⟩ v7).setCell ⟨R, 8, none⟩ v8).setCell ⟨R, 9, none⟩ v9).setCell ⟨R, 10, none⟩ v10).setCell ⟨R, 11, none⟩ v11).heap[R]? = some (.cells #[v0, v1, v2, v3, v4, v5, v6, v7, v8, v9, v10, v11] t (0, 0)) := by have e := obj_set h10 11 v11; exact e
  exact h11
theorem put12_kept {w0 w : World} {R : Nat} (h : Kept NoB w0 w) (hR : w0.heap.size ≤ R) (v0 v1 v2 v3 v4 v5 v6 v7 v8 v9 v10 v11 : Value) : Kept NoB w0 (put12 w R v0 v1 v2 v3 v4 v5 v6 v7 v8 v9 v10 v11) :=
  (Kept.setCell (p := ⟨R, 11, none⟩) (Kept.setCell (p := ⟨R, 10, none⟩) (Kept.setCell (p := ⟨R, 9, none⟩) (Kept.setCell (p := ⟨R, 8, none⟩) (Kept.setCell (p := ⟨R, 7, none⟩) (Kept.setCell (p := ⟨R, 6, none⟩) (Kept.setCell (p := ⟨R, 5, none⟩) (Kept.setCell (p := ⟨R, 4, none⟩) (Kept.setCell (p := ⟨R, 3, none⟩) (Kept.setCell (p := ⟨R, 2, none⟩) (Kept.setCell (p := ⟨R, 1, none⟩) (Kept.setCell (p := ⟨R, 0, none⟩) h (.inr hR) v0) (.inr hR) v1) (.inr hR) v2) (.inr hR) v3) (.inr hR) v4) (.inr hR) v5) (.inr hR) v6) (.inr hR) v7) (.inr hR) v8) (.inr hR) v9) (.inr hR) v10) (.inr hR) v11)
/-- What lies in such a block, a cell each. -/
theorem hd_cells {w : World} {R : Nat} {v0 v1 v2 v3 v4 v5 v6 v7 v8 v9 v10 v11 : Value} {t : TypeId} (h : w.heap[R]? = some (.cells #[v0, v1, v2, v3, v4, v5, v6, v7, v8, v9, v10, v11] t (0, 0))) :
    w.cell? ⟨R, 0, none⟩ = some v0 ∧ w.cell? ⟨R, 1, none⟩ = some v1 ∧ w.cell? ⟨R, 2, none⟩ = some v2 ∧ w.cell? ⟨R, 3, none⟩ = some v3 ∧ w.cell? ⟨R, 4, none⟩ = some v4 ∧ w.cell? ⟨R, 5, none⟩ = some v5 ∧ w.cell? ⟨R, 6, none⟩ = some v6 ∧ w.cell? ⟨R, 7, none⟩ = some v7 ∧ w.cell? ⟨R, 8, none⟩ = some v8 ∧ w.cell? ⟨R, 9, none⟩ = some v9 ∧ w.cell? ⟨R, 10, none⟩ = some v10 ∧ w.cell? ⟨R, 11, none⟩ = some v11 := by
  have hc := obj_cell h
  refine ⟨?_, ?_, ?_, ?_, ?_, ?_, ?_, ?_, ?_, ?_, ?_, ?_⟩ <;> rw [hc] <;> rfl

theorem hdC_one (D : HdP) : (hdC D).all (·.oneCell') = true := by
  unfold hdC
  simp [Value.oneCell']
theorem infoHd : (Try.prog.info? 23).map (·.size) = some 12 := by kernel_rfl
theorem kept_setRow {w0 w : World} {R : Nat} (h : Kept NoB w0 w) (hR : w0.heap.size ≤ R) (cs : Array Value) : Kept NoB w0 (w.setRow R cs) :=
  ⟨h.os, h.tape, h.output, by have := h.size; simpa [World.setRow] using this, fun k hk hs => (setRow_other w R k cs (by omega)).trans (h.block k hk hs)⟩
/-- The end of Decode. -/
theorem hd_end {t : Array Value} {R : Nat} {k : Int} {D : HdP} {wz : World} {Q : Ending → World → Prop} (h2 : t.getD 2 undef = .pointer (some ⟨R, 0, none⟩)) (h3 : t.getD 3 undef = .int .i64 k)
    (hz : wz.heap[R]? = some (.cells (hdC D) 23 (0, 0))) (hq : Q (.returned (.tuple #[hdV D, .int .i64 k])) wz) : bodyPost Try.prog Try.f9 Q .ret ⟨t, []⟩ wz := by
  unfold hdC at hz
  obtain ⟨k0, k1, k2, k3, k4, k5, k6, k7, k8, k9, k10, k11⟩ := hd_cells hz
  have h2' : t[2]?.getD undef = .pointer (some ⟨R, 0, none⟩) := by simpa using h2
  have h3' : t[3]?.getD undef = .int .i64 k := by simpa using h3
  refine bodyPost_ret (v := .tuple #[hdV D, .int .i64 k]) ?_ rfl hq
  simp [results, Try.results9, go_sem, h2', h3', k0, k1, k2, k3, k4, k5, k6, k7, k8, k9, k10, k11]
  rfl
set_option maxRecDepth 100000 in
set_option maxHeartbeats 32000000 in
theorem hdec_any (ao : Option Addr) (n cap : Nat) (bs : List Int) (w : World) (hn : n = bs.length) (hb : AllB bs) (hr : Reads w ao bs) (hc : n ≤ cap) (hm : cap ≤ 9223372036854775807) :
    Calls Try.prog 9 #[.slice ao n cap] w (DecHR w bs) := by
  obtain ⟨R, hR⟩ : ∃ R, R = w.heap.size := ⟨_, rfl⟩
  obtain ⟨wA, hwA⟩ : ∃ wA, wA = w.alloc (.cells #[.string ⟨#[]⟩, .string ⟨#[]⟩, .string ⟨#[]⟩, .int .u8 0, .bool false, .int .i64 0, .int .i64 0, .int .i64 0, .int .i64 0, .int .i64 0, .int .i64 0, .int .i64 0] 23) := ⟨_, rfl⟩
  have hkA : Kept NoB w wA := by rw [hwA]; exact (Kept.refl NoB w).alloc _
  have hRA : wA.heap[R]? = some (.cells #[.string ⟨#[]⟩, .string ⟨#[]⟩, .string ⟨#[]⟩, .int .u8 0, .bool false, .int .i64 0, .int .i64 0, .int .i64 0, .int .i64 0, .int .i64 0, .int .i64 0, .int .i64 0] 23 (0, 0)) := by rw [hwA, hR]; exact heap_alloc_new _ _
  have HRw : Hid (w.heap.size ≤ R) := Lib.hid (by omega)
  have HRA := Lib.hid hRA; have HKA := Lib.hid hkA
  by_cases h5 : n = 512
  · subst h5
    obtain ⟨g, o, rfl, hg, hcc⟩ := hr.at (by omega)
    have hp := str_eq (a := seg bs 257 8) (b := magB false) (seg_all hb _ _) (allB_mag _)
    have hq := str_eq (a := seg bs 257 8) (b := magB true) (seg_all hb _ _) (allB_mag _)
    have hmag : magOk bs = ((seg bs 257 8 == magB false) || (seg bs 257 8 == magB true)) := rfl
    have hgnu : gnuOf bs = (seg bs 257 8 == magB true) := rfl
    rw [num_list (magB false)] at hp
    rw [num_list (magB true)] at hq
    have hp : ((strOfNums (seg bs 257 8)).toList == [117, 115, 116, 97, 114, 0, 48, 48]) = _ := hp
    have hq : ((strOfNums (seg bs 257 8)).toList == [117, 115, 116, 97, 114, 32, 32, 0]) = _ := hq
    obtain ⟨S, hS⟩ : ∃ S, S = strOfNums (seg bs 257 8) := ⟨_, rfl⟩
    rw [← hS] at hp hq
    obtain ⟨pb, hpb⟩ : ∃ pb, pb = (seg bs 257 8 == magB false) := ⟨_, rfl⟩
    obtain ⟨gb, hgb⟩ : ∃ gb, gb = (seg bs 257 8 == magB true) := ⟨_, rfl⟩
    rw [← hpb] at hp hmag
    rw [← hgb] at hq hmag hgnu
    have hcv : ∀ W, Kept NoB w W → (convert 24 9 (.slice (some ⟨g, o + 257, none⟩) 8 (cap - 257))).run Try.prog W = .ok (.string S) W := fun W hW => by
      have h2 := reads_take 8 (reads_drop 257 (hr.keptNo hW))
      rw [addr_add] at h2
      rw [hS]
      exact conv_reads h2 (seg_len bs 257 8 (by omega)).symm (fun h => by cases h)
    have hdl : decL bs = (if magOk bs = true then if sumOk bs = true then if numsOk bs = true ∧ 0 ≤ (readS (seg bs 124 12)).1 then (decH bs, 0) else (hd0, 6) else (hd0, 7) else (hd0, 6)) := by rw [decL, if_pos hn.symm]
    have hcvA := hcv wA hkA
    have HSegR : Hid (∀ W, Kept NoB w W → ∀ A D, A + D ≤ 512 → Reads W (some ⟨g, o + A, none⟩) (seg bs A D) ∧ D = (seg bs A D).length ∧ AllB (seg bs A D)) := Lib.hid (fun W hW A D hAD => by
      have h2 := reads_take D (reads_drop A (hr.keptNo hW))
      rw [addr_add] at h2
      exact ⟨h2, (seg_len bs A D (by omega)).symm, seg_all hb A D⟩)
    have HN := Lib.hid hn; have HR := Lib.hid hr; have HB := Lib.hid hb; have HCc := Lib.hid hcc; have HMag := Lib.hid hmag; have HGnu := Lib.hid hgnu; have HDl := Lib.hid hdl
    have HgR : Hid (g < R) := Lib.hid (by omega)
    clear hn hr hb hcc hRA hkA hmag hgnu hdl hcv hS hpb hgb
    go_enter Try.func9, Try.ntmps9
    go_upto_region 3 with fail
    rw [← hR, ← hwA]
    clear hR hwA hg
    by_cases hno : pb = false ∧ gb = false
    · obtain ⟨rfl, rfl⟩ := hno
      have HF : Hid (decL bs = (hd0, 6)) := Lib.hid (by rw [HDl.out, HMag.out]; rfl)
      have HZ : Hid ((wA.setRow R (hdC hd0)).heap[R]? = some (.cells (hdC hd0) 23 (0, 0))) := Lib.hid (setRow_heap wA R _ (hdC hd0) _ _ HRA.out)
      have HKz := Lib.hid (kept_setRow HKA.out HRw.out (hdC hd0))
      go_wp2_with (refine wpList_store_row rfl 23 (.tmp 2) _ rfl R (hdC hd0) rfl rfl _ _ HRA.out infoHd rfl (hdC_one _) ?_)
      generalize wA.setRow R (hdC hd0) = wz at HZ HKz ⊢
      go_wp2
      refine hd_end (R := R) (k := 6) (D := hd0) ?_ ?_ HZ.out ?_
      · rfl
      · rfl
      · exact ⟨by rw [HF.out], HKz.out⟩
    · have HM : Hid (magOk bs = true) := Lib.hid (by
        rw [HMag.out]
        cases pb <;> cases gb <;> simp at hno ⊢)
      go_upto_region 4 with fail
      go_cut [20] from 15 to 20 (fun v20 wx => v20 = .bool false ∧ wA = wx)
      case first =>
        cases pb
        · cases gb
          · exact absurd ⟨rfl, rfl⟩ hno
          · go_wp2
            go_meet
            exact ⟨rfl, rfl⟩
        · go_wp2
          go_meet
          exact ⟨rfl, rfl⟩
      case rest =>
      obtain ⟨rfl, rfl⟩ := hcut
      clear hno hp hcvA
      have HRd : Hid (∀ W, Kept NoB w W → Calls Try.prog 25 #[.slice (some ⟨g, o + 148, none⟩) 8 (cap - 148)] W fun e w' => e = .returned (.tuple #[.int .i64 (readS (seg bs 148 8)).1, .bool (readS (seg bs 148 8)).2]) ∧ W = w') := Lib.hid (fun W hW => by
        obtain ⟨s1, s2, s3⟩ := HSegR.out W hW 148 8 (by omega)
        exact read_any _ (cap - 148) 8 _ W s1 s3 s2.symm (by omega) (by omega))
      have HSu : Hid (∀ W, Kept NoB w W → Calls Try.prog 14 #[.slice (some ⟨g, o, none⟩) 512 cap] W fun e w' => e = .returned (.int .i64 (sumL bs)) ∧ W = w') := Lib.hid (fun W hW => hsum_any _ 512 cap bs W (HR.out.keptNo hW) HB.out HN.out (by omega))
      have hso : sumOk bs = ((readS (seg bs 148 8)).2 && (readS (seg bs 148 8)).1 == sumL bs) := rfl
      obtain ⟨q1, hq1⟩ : ∃ q, q = readS (seg bs 148 8) := ⟨_, rfl⟩
      rw [← hq1] at HRd hso
      obtain ⟨x1, ok1⟩ := q1
      obtain ⟨sm, hsm⟩ : ∃ sm, sm = sumL bs := ⟨_, rfl⟩
      rw [← hsm] at HSu hso
      have HSo := Lib.hid hso
      clear hq1 hsm hso
      go_wp2_with fail
      with_reducible refine (HRd.out _ HKA.out).mono ?_
      rintro e w2 ⟨rfl, rfl⟩
      cases ok1 with
      | false =>
        have HF : Hid (decL bs = (hd0, 7)) := Lib.hid (by rw [HDl.out, if_pos HM.out, HSo.out]; rfl)
        have HZ : Hid ((wA.setRow R (hdC hd0)).heap[R]? = some (.cells (hdC hd0) 23 (0, 0))) := Lib.hid (setRow_heap wA R _ (hdC hd0) _ _ HRA.out)
        have HKz := Lib.hid (kept_setRow HKA.out HRw.out (hdC hd0))
        go_wp2_with (refine wpList_store_row rfl 23 (.tmp 2) _ rfl R (hdC hd0) rfl rfl _ _ HRA.out infoHd rfl (hdC_one _) ?_)
        generalize wA.setRow R (hdC hd0) = wz at HZ HKz ⊢
        go_wp2
        refine hd_end (R := R) (k := 7) (D := hd0) ?_ ?_ HZ.out ?_
        · rfl
        · rfl
        · exact ⟨by rw [HF.out], HKz.out⟩
      | true =>
        go_wp2_with fail
        with_reducible refine (HSu.out _ HKA.out).mono ?_
        rintro e w2 ⟨rfl, rfl⟩
        by_cases hxs : x1 = sm
        case neg =>
          have hd1 : (x1 != sm) = true := by simp [hxs]
          have hd2 : (x1 == sm) = false := by simp [hxs]
          have HF : Hid (decL bs = (hd0, 7)) := Lib.hid (by rw [HDl.out, if_pos HM.out, HSo.out, hd2]; rfl)
          clear hxs
          have HZ : Hid ((wA.setRow R (hdC hd0)).heap[R]? = some (.cells (hdC hd0) 23 (0, 0))) := Lib.hid (setRow_heap wA R _ (hdC hd0) _ _ HRA.out)
          have HKz := Lib.hid (kept_setRow HKA.out HRw.out (hdC hd0))
          go_wp2_with (refine wpList_store_row rfl 23 (.tmp 2) _ rfl R (hdC hd0) rfl rfl _ _ HRA.out infoHd rfl (hdC_one _) ?_)
          generalize wA.setRow R (hdC hd0) = wz at HZ HKz ⊢
          go_wp2
          refine hd_end (R := R) (k := 7) (D := hd0) ?_ ?_ HZ.out ?_
          · rfl
          · rfl
          · exact ⟨by rw [HF.out], HKz.out⟩
        case pos =>
        have hd2 : (x1 == sm) = true := by simp [hxs]
        have HS : Hid (sumOk bs = true) := Lib.hid (by rw [HSo.out, hd2]; rfl)
        clear hd2
        subst hxs
        have hself : (x1 != x1) = false := by simp
        have HT1 : Hid (∀ W, Kept NoB wA W → Calls Try.prog 26 #[.slice (some ⟨g, o, none⟩) 100 cap] W fun e w' => e = .returned (.string (strOfNums (cutZ (seg bs 0 100)))) ∧ Kept NoB W w') := Lib.hid (fun W hW => by
          obtain ⟨s1, s2, s3⟩ := HSegR.out W (HKA.out.trans hW) 0 100 (by omega)
          exact htext_any g o 100 cap _ W s2 s3 s1 (by omega) hm)
        have HT2 : Hid (∀ W, Kept NoB wA W → Calls Try.prog 26 #[.slice (some ⟨g, o + 157, none⟩) 100 (cap - 157)] W fun e w' => e = .returned (.string (strOfNums (cutZ (seg bs 157 100)))) ∧ Kept NoB W w') := Lib.hid (fun W hW => by
          obtain ⟨s1, s2, s3⟩ := HSegR.out W (HKA.out.trans hW) 157 100 (by omega)
          exact htext_any g (o + 157) 100 (cap - 157) _ W s2 s3 s1 (by omega) (by omega))
        have HT3 : Hid (∀ W, Kept NoB wA W → Calls Try.prog 26 #[.slice (some ⟨g, o + 345, none⟩) 155 (cap - 345)] W fun e w' => e = .returned (.string (strOfNums (cutZ (seg bs 345 155)))) ∧ Kept NoB W w') := Lib.hid (fun W hW => by
          obtain ⟨s1, s2, s3⟩ := HSegR.out W (HKA.out.trans hW) 345 155 (by omega)
          exact htext_any g (o + 345) 155 (cap - 345) _ W s2 s3 s1 (by omega) (by omega))
        have HTy : Hid (∀ W, Kept NoB wA W → W.cell? ⟨g, o + 156, none⟩ = some (.int .u8 (bs.getD 156 0))) := Lib.hid (fun W hW => (HKA.out.trans hW).cell (HCc.out 156 (by have := HN.out; omega)))
        have hDef : decH bs = ⟨cutZ (seg bs 0 100), cutZ (seg bs 157 100), if gnuOf bs = true then [] else cutZ (seg bs 345 155), bs.getD 156 0, gnuOf bs, (readS (seg bs 100 8)).1, (readS (seg bs 108 8)).1, (readS (seg bs 116 8)).1, (readS (seg bs 124 12)).1, (readS (seg bs 136 12)).1, (readS (seg bs 329 8)).1, (readS (seg bs 337 8)).1⟩ := rfl
        rw [HGnu.out] at hDef
        obtain ⟨S1, hS1⟩ : ∃ x, x = cutZ (seg bs 0 100) := ⟨_, rfl⟩
        obtain ⟨S2, hS2⟩ : ∃ x, x = cutZ (seg bs 157 100) := ⟨_, rfl⟩
        obtain ⟨S3, hS3⟩ : ∃ x, x = cutZ (seg bs 345 155) := ⟨_, rfl⟩
        obtain ⟨ty, hty⟩ : ∃ x, x = bs.getD 156 0 := ⟨_, rfl⟩
        rw [← hS1] at HT1 hDef
        rw [← hS2] at HT2 hDef
        rw [← hS3] at HT3 hDef
        rw [← hty] at HTy hDef
        have HDef := Lib.hid hDef
        clear hDef hS1 hS2 hS3 hty
        obtain ⟨wB, hwB⟩ : ∃ wB, wB = wA := ⟨_, rfl⟩
        rw [← hwB] at HT1 HT2 HT3 HTy HRA HKA ⊢
        clear hwB
        have hcI1 : (100 : Int) ≤ (cap : Int) := by omega
        have hcI2 : (257 : Int) ≤ (cap : Int) := by omega
        have hcI3 : ¬ cap = 157 := by omega
        go_upto_region 9 with fail
        go_cut [7] from 37 to 48 (fun v7 wx => ∃ H : Nat, v7 = .pointer (some ⟨H, 0, none⟩) ∧ Hid (wx.heap[H]? = some (.cells #[.string (strOfNums S1), .string (strOfNums S2), .string ⟨#[]⟩, .int .u8 ty, .bool gb, .int .i64 0, .int .i64 0, .int .i64 0, .int .i64 0, .int .i64 0, .int .i64 0, .int .i64 0] 23 (0, 0))) ∧ Hid (Kept NoB wB wx) ∧ wB.heap.size ≤ H)
        case first =>
          go_wp2_with fail
          refine wp_region_noPanic ?_
          refine wp_region_held_drew (S := fun W => Kept NoB wB W) (by kernel_rfl) (Kept.drew (Kept.refl _ _)) (fun hHeld => ?_)
          obtain ⟨wd, hwd⟩ : ∃ x, x = wB.drew := ⟨_, rfl⟩
          rw [← hwd] at hHeld ⊢
          clear hwd
          refine wpAnyH_take (i := 0) (v := ?_) (by rw [List.getElem?_toArray]; rfl) (by kernel_rfl) (by kernel_rfl) (by kernel_rfl) (fun _ _ _ h => h) (Or.inl ⟨by rfl, ?hyq1_⟩) (by assumption) ?restq1_
          case hyq1_ => (intro w hSw; (try dsimp only at hSw); go_simp; (try with_reducible rfl))
          try simp only [Act.put, List.setIfInBounds_toArray, List.set_cons_zero, List.set_cons_succ]
          refine wpAnyH_take (i := 1) (v := ?_) (by rw [List.getElem?_toArray]; rfl) (by kernel_rfl) (by kernel_rfl) (by kernel_rfl) (fun _ _ _ h => h) (Or.inl ⟨by rfl, ?hyq2_⟩) (by assumption) ?restq2_
          case hyq2_ => (intro w hSw; (try dsimp only at hSw); go_simp; (try with_reducible rfl))
          try simp only [Act.put, List.setIfInBounds_toArray, List.set_cons_zero, List.set_cons_succ]
          refine wpAnyH_take (i := 3) (v := ?_) (by rw [List.getElem?_toArray]; rfl) (by kernel_rfl) (by kernel_rfl) (by kernel_rfl) (fun _ _ _ h => h) (Or.inl ⟨by rfl, ?hyq3_⟩) (by assumption) ?restq3_
          case hyq3_ => (intro w hSw; (try dsimp only at hSw); go_simp; (try with_reducible rfl))
          try simp only [Act.put, List.setIfInBounds_toArray, List.set_cons_zero, List.set_cons_succ]
          refine wpAnyH_take (i := 4) (v := ?_) (by rw [List.getElem?_toArray]; rfl) (by kernel_rfl) (by kernel_rfl) (by kernel_rfl) (fun _ _ _ h => h) (Or.inl ⟨by rfl, ?hyq4_⟩) (by assumption) ?restq4_
          case hyq4_ => (intro w hSw; (try dsimp only at hSw); go_simp; (try with_reducible rfl))
          try simp only [Act.put, List.setIfInBounds_toArray, List.set_cons_zero, List.set_cons_succ]
          refine wpAnyH_take (i := 6) (v := ?_) (by rw [List.getElem?_toArray]; rfl) (by kernel_rfl) (by kernel_rfl) (by kernel_rfl) (fun _ _ _ h => h) (Or.inl ⟨by rfl, ?hyq5_⟩) (by assumption) ?restq5_
          case hyq5_ => (intro w hSw; (try dsimp only at hSw); go_simp; (try with_reducible rfl))
          try simp only [Act.put, List.setIfInBounds_toArray, List.set_cons_zero, List.set_cons_succ]
          refine wpAnyH_take (i := 7) (v := ?_) (by rw [List.getElem?_toArray]; rfl) (by kernel_rfl) (by kernel_rfl) (by kernel_rfl) (fun _ _ _ h => h) (Or.inl ⟨by rfl, ?hyq6_⟩) (by assumption) ?restq6_
          case hyq6_ => (intro w hSw; (try dsimp only at hSw); go_simp; (try with_reducible rfl))
          try simp only [Act.put, List.setIfInBounds_toArray, List.set_cons_zero, List.set_cons_succ]
          refine wpAnyH_take (i := 8) (v := ?_) (by rw [List.getElem?_toArray]; rfl) (by kernel_rfl) (by kernel_rfl) (by kernel_rfl) (fun _ _ _ h => h) (Or.inl ⟨by rfl, ?hyq7_⟩) (by assumption) ?restq7_
          case hyq7_ => (intro w hSw; (try dsimp only at hSw); (try have e1 := HTy.out w hSw); go_simp; (try with_reducible rfl))
          try simp only [Act.put, List.setIfInBounds_toArray, List.set_cons_zero, List.set_cons_succ]
          refine wpAnyH_take (i := 9) (v := ?_) (by rw [List.getElem?_toArray]; rfl) (by kernel_rfl) (by kernel_rfl) (by kernel_rfl) (fun _ _ _ h => h) (Or.inl ⟨by rfl, ?hyq8_⟩) (by assumption) ?restq8_
          case hyq8_ => (intro w hSw; (try dsimp only at hSw); go_simp; (try with_reducible rfl))
          try simp only [Act.put, List.setIfInBounds_toArray, List.set_cons_zero, List.set_cons_succ]
          refine wpAnyH_take (i := 10) (v := ?_) (by rw [List.getElem?_toArray]; rfl) (by kernel_rfl) (by kernel_rfl) (by kernel_rfl) (fun _ _ _ h => h) (Or.inl ⟨by rfl, ?hyq9_⟩) (by assumption) ?restq9_
          case hyq9_ => (intro w hSw; (try dsimp only at hSw); go_simp; (try with_reducible rfl))
          try simp only [Act.put, List.setIfInBounds_toArray, List.set_cons_zero, List.set_cons_succ]
          refine wpAnyH_ready (rs := [2, 12]) (by kernel_rfl) (by simp) ?_
          refine AllReadyH.cons (by rw [List.getElem?_toArray]; rfl) (fun K hK => ?_) (AllReadyH.cons (by rw [List.getElem?_toArray]; rfl) (fun K hK => ?_) (AllReadyH.nil))
          · go_simp
            go_at_call 26
            (with_reducible refine (HT1.out _ hHeld).mono ?_)
            rintro e wn1 ⟨rfl, hkn⟩
            have hSn := hHeld.trans hkn
            clear hkn
            go_wp2_with fail
            refine hK.out _ _ hSn (fun hHeld => ?_)
            clear hK K hSn
            try simp only [Act.put, List.setIfInBounds_toArray, List.set_cons_zero, List.set_cons_succ]
            refine wpAnyH_ready (rs := [5, 12]) (by kernel_rfl) (by simp) ?_
            refine AllReadyH.cons (by rw [List.getElem?_toArray]; rfl) (fun K hK => ?_) (AllReadyH.cons (by rw [List.getElem?_toArray]; rfl) (fun K hK => ?_) (AllReadyH.nil))
            · go_simp
              go_at_call 26
              (with_reducible refine (HT2.out _ hHeld).mono ?_)
              rintro e wn2 ⟨rfl, hkn⟩
              have hSn := hHeld.trans hkn
              clear hkn
              go_wp2_with fail
              refine hK.out _ _ hSn (fun hHeld => ?_)
              clear hK K hSn
              try simp only [Act.put, List.setIfInBounds_toArray, List.set_cons_zero, List.set_cons_succ]
              refine wpAnyH_take (i := 11) (v := ?_) (by rw [List.getElem?_toArray]; rfl) (by kernel_rfl) (by kernel_rfl) (by kernel_rfl) (fun _ _ _ h => h) (Or.inl ⟨by rfl, ?hyq10_⟩) (by assumption) ?restq10_
              case hyq10_ => (intro w hSw; (try dsimp only at hSw); go_simp; (try with_reducible rfl))
              try simp only [Act.put, List.setIfInBounds_toArray, List.set_cons_zero, List.set_cons_succ]
              refine wpAnyH_ready (rs := [12]) (by kernel_rfl) (by simp) ?_
              refine AllReadyH.cons (by rw [List.getElem?_toArray]; rfl) (fun K hK => ?_) (AllReadyH.nil)
              go_simp
              have hGe3 : wB.heap.size ≤ wn2.heap.size := hHeld.size
              refine hK.out _ _ (hHeld.alloc _) (fun hHeld => ?_)
              clear hK K
              try simp only [Act.put, List.setIfInBounds_toArray, List.set_cons_zero, List.set_cons_succ]
              have HO := heap_alloc_new wn2 (.cells #[.string ⟨#[]⟩, .string ⟨#[]⟩, .string ⟨#[]⟩, .int .u8 0, .bool false, .int .i64 0, .int .i64 0, .int .i64 0, .int .i64 0, .int .i64 0, .int .i64 0, .int .i64 0] 23)
              obtain ⟨hx3, hhx3⟩ : ∃ x, x = wn2.heap.size := ⟨_, rfl⟩
              obtain ⟨wx3, hwx3⟩ : ∃ x, x = wn2.alloc (.cells #[.string ⟨#[]⟩, .string ⟨#[]⟩, .string ⟨#[]⟩, .int .u8 0, .bool false, .int .i64 0, .int .i64 0, .int .i64 0, .int .i64 0, .int .i64 0, .int .i64 0, .int .i64 0] 23) := ⟨_, rfl⟩
              rw [← hhx3] at HO hGe3 ⊢
              rw [← hwx3] at HO hHeld ⊢
              clear hhx3 hwx3
              refine wpAnyH_ready (rs := [13]) (by kernel_rfl) (by simp) ?_
              refine AllReadyH.cons (by rw [List.getElem?_toArray]; rfl) (fun K hK => ?_) AllReadyH.nil
              have hfz : ∀ i, wx3.frozen? ⟨hx3, i, none⟩ = false := fun i => obj_free HO i
              obtain ⟨k0, k1, k2, k3, k4, k5, k6, k7, k8, k9, k10, k11⟩ := hd_cells HO
              go_simp
              go_wp2
              refine hK.out _ _ (put12_kept (R := hx3) hHeld (by assumption) _ _ _ _ _ _ _ _ _ _ _ _) (fun hHeld2 => ?_)
              clear hK K k0 k1 k2 k3 k4 k5 k6 k7 k8 k9 k10 k11 hfz
              try simp only [Act.put, List.setIfInBounds_toArray, List.set_cons_zero, List.set_cons_succ]
              refine wpAnyH_done (by kernel_rfl) ?_ _
              refine NoPanic.normal ?_
              go_wp2
              go_meet
              exact ⟨_, rfl, Lib.hid (put12_obj HO _ _ _ _ _ _ _ _ _ _ _ _), Lib.hid (put12_kept hHeld (by assumption) _ _ _ _ _ _ _ _ _ _ _ _), (by assumption)⟩
            · go_simp
              have hGe4 : wB.heap.size ≤ wn1.heap.size := hHeld.size
              refine hK.out _ _ (hHeld.alloc _) (fun hHeld => ?_)
              clear hK K
              try simp only [Act.put, List.setIfInBounds_toArray, List.set_cons_zero, List.set_cons_succ]
              have HO := heap_alloc_new wn1 (.cells #[.string ⟨#[]⟩, .string ⟨#[]⟩, .string ⟨#[]⟩, .int .u8 0, .bool false, .int .i64 0, .int .i64 0, .int .i64 0, .int .i64 0, .int .i64 0, .int .i64 0, .int .i64 0] 23)
              obtain ⟨hx4, hhx4⟩ : ∃ x, x = wn1.heap.size := ⟨_, rfl⟩
              obtain ⟨wx4, hwx4⟩ : ∃ x, x = wn1.alloc (.cells #[.string ⟨#[]⟩, .string ⟨#[]⟩, .string ⟨#[]⟩, .int .u8 0, .bool false, .int .i64 0, .int .i64 0, .int .i64 0, .int .i64 0, .int .i64 0, .int .i64 0, .int .i64 0] 23) := ⟨_, rfl⟩
              rw [← hhx4] at HO hGe4 ⊢
              rw [← hwx4] at HO hHeld ⊢
              clear hhx4 hwx4
              refine wpAnyH_ready (rs := [5]) (by kernel_rfl) (by simp) ?_
              refine AllReadyH.cons (by rw [List.getElem?_toArray]; rfl) (fun K hK => ?_) (AllReadyH.nil)
              go_simp
              go_at_call 26
              (with_reducible refine (HT2.out _ hHeld).mono ?_)
              rintro e wn5 ⟨rfl, hkn⟩
              have hSn := hHeld.trans hkn
              have HO := hkn.obj HO (fun h => h)
              clear hkn
              go_wp2_with fail
              refine hK.out _ _ hSn (fun hHeld => ?_)
              clear hK K hSn
              try simp only [Act.put, List.setIfInBounds_toArray, List.set_cons_zero, List.set_cons_succ]
              refine wpAnyH_take (i := 11) (v := ?_) (by rw [List.getElem?_toArray]; rfl) (by kernel_rfl) (by kernel_rfl) (by kernel_rfl) (fun _ _ _ h => h) (Or.inl ⟨by rfl, ?hyq11_⟩) (by assumption) ?restq11_
              case hyq11_ => (intro w hSw; (try dsimp only at hSw); go_simp; (try with_reducible rfl))
              try simp only [Act.put, List.setIfInBounds_toArray, List.set_cons_zero, List.set_cons_succ]
              refine wpAnyH_ready (rs := [13]) (by kernel_rfl) (by simp) ?_
              refine AllReadyH.cons (by rw [List.getElem?_toArray]; rfl) (fun K hK => ?_) AllReadyH.nil
              have hfz : ∀ i, wn5.frozen? ⟨hx4, i, none⟩ = false := fun i => obj_free HO i
              obtain ⟨k0, k1, k2, k3, k4, k5, k6, k7, k8, k9, k10, k11⟩ := hd_cells HO
              go_simp
              go_wp2
              refine hK.out _ _ (put12_kept (R := hx4) hHeld (by assumption) _ _ _ _ _ _ _ _ _ _ _ _) (fun hHeld2 => ?_)
              clear hK K k0 k1 k2 k3 k4 k5 k6 k7 k8 k9 k10 k11 hfz
              try simp only [Act.put, List.setIfInBounds_toArray, List.set_cons_zero, List.set_cons_succ]
              refine wpAnyH_done (by kernel_rfl) ?_ _
              refine NoPanic.normal ?_
              go_wp2
              go_meet
              exact ⟨_, rfl, Lib.hid (put12_obj HO _ _ _ _ _ _ _ _ _ _ _ _), Lib.hid (put12_kept hHeld (by assumption) _ _ _ _ _ _ _ _ _ _ _ _), (by assumption)⟩
          · go_simp
            have hGe6 : wB.heap.size ≤ wd.heap.size := hHeld.size
            refine hK.out _ _ (hHeld.alloc _) (fun hHeld => ?_)
            clear hK K
            try simp only [Act.put, List.setIfInBounds_toArray, List.set_cons_zero, List.set_cons_succ]
            have HO := heap_alloc_new wd (.cells #[.string ⟨#[]⟩, .string ⟨#[]⟩, .string ⟨#[]⟩, .int .u8 0, .bool false, .int .i64 0, .int .i64 0, .int .i64 0, .int .i64 0, .int .i64 0, .int .i64 0, .int .i64 0] 23)
            obtain ⟨hx6, hhx6⟩ : ∃ x, x = wd.heap.size := ⟨_, rfl⟩
            obtain ⟨wx6, hwx6⟩ : ∃ x, x = wd.alloc (.cells #[.string ⟨#[]⟩, .string ⟨#[]⟩, .string ⟨#[]⟩, .int .u8 0, .bool false, .int .i64 0, .int .i64 0, .int .i64 0, .int .i64 0, .int .i64 0, .int .i64 0, .int .i64 0] 23) := ⟨_, rfl⟩
            rw [← hhx6] at HO hGe6 ⊢
            rw [← hwx6] at HO hHeld ⊢
            clear hhx6 hwx6
            refine wpAnyH_ready (rs := [2]) (by kernel_rfl) (by simp) ?_
            refine AllReadyH.cons (by rw [List.getElem?_toArray]; rfl) (fun K hK => ?_) (AllReadyH.nil)
            go_simp
            go_at_call 26
            (with_reducible refine (HT1.out _ hHeld).mono ?_)
            rintro e wn7 ⟨rfl, hkn⟩
            have hSn := hHeld.trans hkn
            have HO := hkn.obj HO (fun h => h)
            clear hkn
            go_wp2_with fail
            refine hK.out _ _ hSn (fun hHeld => ?_)
            clear hK K hSn
            try simp only [Act.put, List.setIfInBounds_toArray, List.set_cons_zero, List.set_cons_succ]
            refine wpAnyH_ready (rs := [5]) (by kernel_rfl) (by simp) ?_
            refine AllReadyH.cons (by rw [List.getElem?_toArray]; rfl) (fun K hK => ?_) (AllReadyH.nil)
            go_simp
            go_at_call 26
            (with_reducible refine (HT2.out _ hHeld).mono ?_)
            rintro e wn8 ⟨rfl, hkn⟩
            have hSn := hHeld.trans hkn
            have HO := hkn.obj HO (fun h => h)
            clear hkn
            go_wp2_with fail
            refine hK.out _ _ hSn (fun hHeld => ?_)
            clear hK K hSn
            try simp only [Act.put, List.setIfInBounds_toArray, List.set_cons_zero, List.set_cons_succ]
            refine wpAnyH_take (i := 11) (v := ?_) (by rw [List.getElem?_toArray]; rfl) (by kernel_rfl) (by kernel_rfl) (by kernel_rfl) (fun _ _ _ h => h) (Or.inl ⟨by rfl, ?hyq12_⟩) (by assumption) ?restq12_
            case hyq12_ => (intro w hSw; (try dsimp only at hSw); go_simp; (try with_reducible rfl))
            try simp only [Act.put, List.setIfInBounds_toArray, List.set_cons_zero, List.set_cons_succ]
            refine wpAnyH_ready (rs := [13]) (by kernel_rfl) (by simp) ?_
            refine AllReadyH.cons (by rw [List.getElem?_toArray]; rfl) (fun K hK => ?_) AllReadyH.nil
            have hfz : ∀ i, wn8.frozen? ⟨hx6, i, none⟩ = false := fun i => obj_free HO i
            obtain ⟨k0, k1, k2, k3, k4, k5, k6, k7, k8, k9, k10, k11⟩ := hd_cells HO
            go_simp
            go_wp2
            refine hK.out _ _ (put12_kept (R := hx6) hHeld (by assumption) _ _ _ _ _ _ _ _ _ _ _ _) (fun hHeld2 => ?_)
            clear hK K k0 k1 k2 k3 k4 k5 k6 k7 k8 k9 k10 k11 hfz
            try simp only [Act.put, List.setIfInBounds_toArray, List.set_cons_zero, List.set_cons_succ]
            refine wpAnyH_done (by kernel_rfl) ?_ _
            refine NoPanic.normal ?_
            go_wp2
            go_meet
            exact ⟨_, rfl, Lib.hid (put12_obj HO _ _ _ _ _ _ _ _ _ _ _ _), Lib.hid (put12_kept hHeld (by assumption) _ _ _ _ _ _ _ _ _ _ _ _), (by assumption)⟩
        case rest =>
        obtain ⟨H, rfl, HH, HKx, hH⟩ := hcut
        have hHne : H ≠ R ∧ g ≠ H := by
          have h1 := HKA.out.size
          have h2 := obj_lt HRA.out
          have h3 := HgR.out
          omega
        have HNu : Hid (∀ (cs : Array Value) W, Kept NoB wB W → W.heap[H]? = some (.cells cs 23 (0, 0)) → cs.size = 12 → (∀ i, 5 ≤ i → i < 12 → ∃ z, cs[i]? = some (.int .i64 z)) → Calls Try.prog 27 #[.slice (some ⟨g, o, none⟩) 512 cap, .pointer (some ⟨H, 0, none⟩)] W (NumsR W H cs bs)) := Lib.hid (fun cs W hW h1 h2 h3 => nums_any g o cap H bs cs W HN.out.symm HB.out (HR.out.keptNo (HKA.out.trans hW)) hc hm h1 h2 h3 hHne.2)
        have HGe : Hid (w.heap.size ≤ H) := Lib.hid (Nat.le_trans HKA.out.size hH)
        have HRH := Lib.hid hHne.1
        have HhB := Lib.hid hH
        clear hHne hcI1 hcI2 hcI3 hH
        have hgz : wc.cell? ⟨H, 4, none⟩ = some (.bool gb) := obj_cell HH.out 4
        obtain ⟨PX, hPX⟩ : ∃ PX, PX = (if gb = true then [] else S3) := ⟨_, rfl⟩
        have HDef2 := HDef.out
        rw [← hPX] at HDef2
        have HDef3 := Lib.hid HDef2
        have HPX := Lib.hid hPX
        clear hPX HDef HDef2
        go_upto_if 51 with fail
        go_cut [55] from 52 to 55 (fun v55 wy => Hid (wy.heap[H]? = some (.cells #[.string (strOfNums S1), .string (strOfNums S2), .string (strOfNums PX), .int .u8 ty, .bool gb, .int .i64 0, .int .i64 0, .int .i64 0, .int .i64 0, .int .i64 0, .int .i64 0, .int .i64 0] 23 (0, 0))) ∧ Hid (Kept NoB wB wy))
        case first =>
          cases gb with
          | true =>
            have hp : PX = [] := by rw [HPX.out]; rfl
            subst hp
            go_wp2
            go_meet
            exact ⟨HH, HKx⟩
          | false =>
            have hp : PX = S3 := by rw [HPX.out]; rfl
            subst hp
            go_wp2_with fail
            with_reducible refine (HT3.out _ HKx.out).mono ?_
            rintro e w6 ⟨rfl, hk6⟩
            have hH6 := hk6.obj HH.out (fun h => h)
            have c2 : w6.cell? ⟨H, 2, none⟩ = some (.string ⟨#[]⟩) := obj_cell hH6 2
            have f2 : w6.frozen? ⟨H, 2, none⟩ = false := obj_free hH6 2
            have HE : Hid ((w6.setCell ⟨H, 2, none⟩ (.string (strOfNums PX))).heap[H]? = some (.cells #[.string (strOfNums S1), .string (strOfNums S2), .string (strOfNums PX), .int .u8 ty, .bool false, .int .i64 0, .int .i64 0, .int .i64 0, .int .i64 0, .int .i64 0, .int .i64 0, .int .i64 0] 23 (0, 0))) := Lib.hid (obj_set hH6 2 _)
            have HKe : Hid (Kept NoB wB (w6.setCell ⟨H, 2, none⟩ (.string (strOfNums PX)))) := Lib.hid (Kept.setCell (p := ⟨H, 2, none⟩) (HKx.out.trans hk6) (.inr HhB.out) _)
            clear hk6 hH6
            go_wp2
            go_meet
            exact ⟨HE, HKe⟩
        case rest =>
        obtain ⟨HHy, HKy⟩ := hcut
        have hNb : ∀ i, 5 ≤ i → i < 12 → ∃ z, (#[.string (strOfNums S1), .string (strOfNums S2), .string (strOfNums PX), .int .u8 ty, .bool gb, .int .i64 0, .int .i64 0, .int .i64 0, .int .i64 0, .int .i64 0, .int .i64 0, .int .i64 0] : Array Value)[i]? = some (.int .i64 z) := by
          intro i h1 h2
          rcases (by omega : i = 5 ∨ i = 6 ∨ i = 7 ∨ i = 8 ∨ i = 9 ∨ i = 10 ∨ i = 11) with rfl | rfl | rfl | rfl | rfl | rfl | rfl <;> exact ⟨0, rfl⟩
        have HNc := Lib.hid (HNu.out _ _ HKy.out HHy.out rfl hNb)
        have hN7 : numC #[.string (strOfNums S1), .string (strOfNums S2), .string (strOfNums PX), .int .u8 ty, .bool gb, .int .i64 0, .int .i64 0, .int .i64 0, .int .i64 0, .int .i64 0, .int .i64 0, .int .i64 0] bs 7 = hdC (decH bs) := by rw [HDef3.out, numC7]; unfold hdC; rfl
        have HN7 := Lib.hid hN7
        clear hNb hN7
        go_wp2_with fail
        with_reducible refine HNc.out.mono ?_
        rintro e w7 ⟨rfl, hk7, hyes⟩
        have hk7w : Kept NoB w w7 := by
          have h1 := HKA.out.trans HKy.out
          have h2 := HGe.out
          exact ⟨hk7.os.trans h1.os, hk7.tape.trans h1.tape, hk7.output.trans h1.output, Nat.le_trans h1.size hk7.size, fun i hi _ => (hk7.block i (Nat.lt_of_lt_of_le hi h1.size) (fun e => by have e2 : i = H := e; omega)).trans (h1.block i hi (fun h => h))⟩
        have hR7 : w7.heap[R]? = some (.cells #[.string ⟨#[]⟩, .string ⟨#[]⟩, .string ⟨#[]⟩, .int .u8 0, .bool false, .int .i64 0, .int .i64 0, .int .i64 0, .int .i64 0, .int .i64 0, .int .i64 0, .int .i64 0] 23 (0, 0)) := hk7.obj (HKy.out.obj HRA.out (fun h => h)) (fun e => HRH.out e.symm)
        have HK7 := Lib.hid hk7w; have HR7 := Lib.hid hR7; have HYes := Lib.hid hyes
        clear hk7 hk7w hR7 hyes
        obtain ⟨nk, hnk⟩ : ∃ nk, nk = numsOk bs := ⟨_, rfl⟩
        rw [← hnk] at HYes ⊢
        have HNk := Lib.hid hnk
        clear hnk
        cases nk with
        | false =>
          have HF : Hid (decL bs = (hd0, 6)) := Lib.hid (by rw [HDl.out, if_pos HM.out, if_pos HS.out, if_neg (fun h => by rw [← HNk.out] at h; cases h.1)])
          have HZ : Hid ((w7.setRow R (hdC hd0)).heap[R]? = some (.cells (hdC hd0) 23 (0, 0))) := Lib.hid (setRow_heap w7 R _ (hdC hd0) _ _ HR7.out)
          have HKz := Lib.hid (kept_setRow HK7.out HRw.out (hdC hd0))
          go_wp2_with (refine wpList_store_row rfl 23 (.tmp 2) _ rfl R (hdC hd0) rfl rfl _ _ HR7.out infoHd rfl (hdC_one _) ?_)
          generalize w7.setRow R (hdC hd0) = wz at HZ HKz ⊢
          go_wp2
          refine hd_end (R := R) (k := 6) (D := hd0) ?_ ?_ HZ.out ?_
          · rfl
          · rfl
          · exact ⟨by rw [HF.out], HKz.out⟩
        | true =>
          have hH7 := HYes.out rfl
          rw [HN7.out] at hH7
          obtain ⟨D, hD⟩ : ∃ D, D = decH bs := ⟨_, rfl⟩
          have HZz : Hid (D.sz = (readS (seg bs 124 12)).1) := Lib.hid (by rw [hD]; rfl)
          have HD := Lib.hid hD
          rw [← hD] at hH7
          clear hD
          have HH7 := Lib.hid hH7
          unfold hdC at hH7
          obtain ⟨g0, g1, g2, g3, g4, g5, g6, g7, g8, g9, g10, g11⟩ := hd_cells hH7
          clear hH7 g0 g1 g2 g3 g4 g5 g6 g7 g9 g10 g11
          obtain ⟨z, hz⟩ : ∃ z, z = D.sz := ⟨_, rfl⟩
          rw [← hz] at g8 HZz
          clear hz
          by_cases hneg : z < 0
          · have HF : Hid (decL bs = (hd0, 6)) := Lib.hid (by rw [HDl.out, if_pos HM.out, if_pos HS.out, if_neg (fun h => by have := h.2; rw [← HZz.out] at this; omega)])
            have HZ : Hid ((w7.setRow R (hdC hd0)).heap[R]? = some (.cells (hdC hd0) 23 (0, 0))) := Lib.hid (setRow_heap w7 R _ (hdC hd0) _ _ HR7.out)
            have HKz := Lib.hid (kept_setRow HK7.out HRw.out (hdC hd0))
            go_wp2_with (refine wpList_store_row rfl 23 (.tmp 2) _ rfl R (hdC hd0) rfl rfl _ _ HR7.out infoHd rfl (hdC_one _) ?_)
            generalize w7.setRow R (hdC hd0) = wz at HZ HKz ⊢
            go_wp2
            refine hd_end (R := R) (k := 6) (D := hd0) ?_ ?_ HZ.out ?_
            · rfl
            · rfl
            · exact ⟨by rw [HF.out], HKz.out⟩
          · have HF : Hid (decL bs = (D, 0)) := Lib.hid (by rw [HDl.out, if_pos HM.out, if_pos HS.out, if_pos ⟨HNk.out.symm, by rw [← HZz.out]; omega⟩, HD.out])
            have HZ : Hid ((w7.setRow R (hdC D)).heap[R]? = some (.cells (hdC D) 23 (0, 0))) := Lib.hid (setRow_heap w7 R _ (hdC D) _ _ HR7.out)
            have HKz := Lib.hid (kept_setRow HK7.out HRw.out (hdC D))
            have hdz : decide (z < 0) = false := decide_eq_false hneg
            go_wp2_with (first | (refine wpList_load_row rfl 23 (.tmp 7) rfl H rfl 23 (hdC D) (0, 0) _ HH7.out Try.underlying23 rfl infoHd ?_) | (refine wpList_store_row rfl 23 (.tmp 2) (.tmp 65) rfl R (hdC D) rfl rfl _ _ HR7.out infoHd rfl (hdC_one _) ?_))
            generalize w7.setRow R (hdC D) = wz at HZ HKz ⊢
            go_wp2
            refine hd_end (R := R) (k := 0) (D := D) ?_ ?_ HZ.out ?_
            · rfl
            · rfl
            · exact ⟨by rw [HF.out], HKz.out⟩
  · have HF : Hid (decL bs = (hd0, 6)) := Lib.hid (by rw [decL, if_neg (by omega)])
    have h2 : ((n : Int) != 512) = true := by simp; omega
    clear hn hr hb hRA hkA h5
    go_enter Try.func9, Try.ntmps9
    go_upto_region 2 with fail
    rw [← hR, ← hwA]
    clear hR hwA
    have HZ : Hid ((wA.setRow R (hdC hd0)).heap[R]? = some (.cells (hdC hd0) 23 (0, 0))) := Lib.hid (setRow_heap wA R _ (hdC hd0) _ _ HRA.out)
    have HKz := Lib.hid (kept_setRow HKA.out HRw.out (hdC hd0))
    go_wp2_with (refine wpList_store_row rfl 23 (.tmp 2) _ rfl R (hdC hd0) rfl rfl _ _ HRA.out infoHd rfl (hdC_one _) ?_)
    generalize wA.setRow R (hdC hd0) = wz at HZ HKz ⊢
    go_wp2
    refine hd_end (R := R) (k := 6) (D := hd0) ?_ ?_ HZ.out ?_
    · rfl
    · rfl
    · exact ⟨by rw [HF.out], HKz.out⟩
end Go.Proofs.Ytnhfbpikfkncpaa
