/-
  gzip.ReadHead.
  gzip: Is, noughts, checkTail; a member's bytes on paper.
  lens.appendRuns once more: which runs it tells, as a function.
  lens.Runs once more: which runs it tells, as a function.
  lens.Write once more: which head it puts, as one alone.
  deflate.Dynamic and dynamicBits: which block, and how many bits it has.
  deflate.extraBits: the bits that stand behind the codes.
  deflate.writeBest: the block that is the shortest.
  match: chains.
  match: a chain's places are tried.
  match: a new chain.
  match: the seeker.
  match: the seeker goes on.
  match: the seeker's longest.
  Tokens of bytes, on paper; own rows of tokens.
  match.Tokens, from level 1 on.
  What the document fixes of stage 7.
  A byte over and over, on paper; a row that is filled.
  match.single; match.Tokens at any level.
-/
import Derived.Test.YtfmjfgmbjdhogaaGreatDoorMg24
import Derived.BigRegion
import Derived.Deep.CutBlock
import Derived.Test.YtfmjfgmbjdhogaaGreatDoorShelfM
import Derived.ChangeKeysEq
import Derived.Laws.StructEq
import Derived.Lib.SlBytesConst
namespace Go.Proofs.YtfmjfgmbjdhogaaGreatDoor
open Go.RowKit
set_option linter.unusedVariables false
set_option linter.unusedSimpArgs false
set_option maxRecDepth 20000

theorem reads_over {w W : World} {C : Nat} {bo : Option Addr} {b : List Int} (h : Reads w bo b) (hC : w.heap.size ≤ C) (hk : Kept (OneB C) w W) : Reads W bo b := by
  by_cases hb : b = []
  · subst hb
    cases bo with
    | none => exact ⟨fun _ => rfl, fun a e => by cases e⟩
    | some a => exact reads_empty
  · obtain ⟨g, o, rfl, hg, _⟩ := h.at (by cases b with | nil => exact absurd rfl hb | cons => simp)
    exact h.kept hk (fun a e => by cases e; unfold OneB; show ¬ g = C; omega)
theorem CurRow.over {w W : World} {C : Nat} {bo : Option Addr} {c : Nat} {b : List Int} (h : CurRow w bo c b) (hC : w.heap.size ≤ C) (hk : Kept (OneB C) w W) : CurRow W bo c b := ⟨reads_over h.rd hC hk, h.all, h.cap, h.most, h.nil⟩
theorem gz_cells {w : World} {R : Nat} {v0 v1 v2 v3 v4 v5 v6 v7 v8 : Value} (h : w.heap[R]? = some (.cells #[v0, v1, v2, v3, v4, v5, v6, v7, v8] 42 (0, 0))) :
    w.cell? ⟨R, 0, none⟩ = some v0 ∧ w.cell? ⟨R, 1, none⟩ = some v1 ∧ w.cell? ⟨R, 2, none⟩ = some v2 ∧ w.cell? ⟨R, 3, none⟩ = some v3 ∧ w.cell? ⟨R, 4, none⟩ = some v4 ∧ w.cell? ⟨R, 5, none⟩ = some v5 ∧ w.cell? ⟨R, 6, none⟩ = some v6 ∧ w.cell? ⟨R, 7, none⟩ = some v7 ∧ w.cell? ⟨R, 8, none⟩ = some v8 :=
  ⟨obj_cell h 0, obj_cell h 1, obj_cell h 2, obj_cell h 3, obj_cell h 4, obj_cell h 5, obj_cell h 6, obj_cell h 7, obj_cell h 8⟩
theorem gz_end {t : Array Value} {R : Nat} {n e : Int} {v0 v1 v2 v3 v4 v5 v6 v7 v8 : Value} {wz : World} {Q : Ending → World → Prop} (h2 : t.getD 2 undef = .pointer (some ⟨R, 0, none⟩)) (h3 : t.getD 3 undef = .int .i64 n) (h4 : t.getD 4 undef = .int .i64 e)
    (hz : wz.heap[R]? = some (.cells #[v0, v1, v2, v3, v4, v5, v6, v7, v8] 42 (0, 0))) (hq : Q (.returned (.tuple #[.agg #[v0, v1, v2, v3, v4, v5, v6, v7, v8], .int .i64 n, .int .i64 e])) wz) : bodyPost Tryz.prog Tryz.f20 Q .ret ⟨t, []⟩ wz := by
  obtain ⟨k0, k1, k2, k3, k4, k5, k6, k7, k8⟩ := gz_cells hz
  have h2' : t[2]?.getD undef = .pointer (some ⟨R, 0, none⟩) := by simpa using h2
  have h3' : t[3]?.getD undef = .int .i64 n := by simpa using h3
  have h4' : t[4]?.getD undef = .int .i64 e := by simpa using h4
  refine bodyPost_ret (v := .tuple #[.agg #[v0, v1, v2, v3, v4, v5, v6, v7, v8], .int .i64 n, .int .i64 e]) ?_ rfl hq
  simp [results, Tryz.results20, go_sem, h2', h3', h4', k0, k1, k2, k3, k4, k5, k6, k7, k8]
theorem gz_set9 {w : World} {R : Nat} (h : w.heap[R]? = some (.cells gz0 42 (0, 0))) (v0 v1 v2 v3 v4 v5 v6 v7 v8 : Value) :
    ((((((((((w.setCell ⟨R, 0, none⟩ v0).setCell ⟨R, 1, none⟩ v1).setCell ⟨R, 2, none⟩ v2).setCell ⟨R, 3, none⟩ v3).setCell ⟨R, 4, none⟩ v4).setCell ⟨R, 5, none⟩ v5).setCell ⟨R, 6, none⟩ v6).setCell ⟨R, 7, none⟩ v7).setCell ⟨R, 8, none⟩ v8).drew).heap[R]? = some (.cells #[v0, v1, v2, v3, v4, v5, v6, v7, v8] 42 (0, 0)) ∧ Kept (OneB R) w ((((((((((w.setCell ⟨R, 0, none⟩ v0).setCell ⟨R, 1, none⟩ v1).setCell ⟨R, 2, none⟩ v2).setCell ⟨R, 3, none⟩ v3).setCell ⟨R, 4, none⟩ v4).setCell ⟨R, 5, none⟩ v5).setCell ⟨R, 6, none⟩ v6).setCell ⟨R, 7, none⟩ v7).setCell ⟨R, 8, none⟩ v8).drew) := by
  have st : ∀ {W : World} (i : Nat) (v : Value), Kept (OneB R) w W → Kept (OneB R) w (W.setCell ⟨R, i, none⟩ v) := fun i v hk => Kept.setCell (S := OneB R) (p := ⟨R, i, none⟩) hk (.inl rfl) v
  have k0 : Kept (OneB R) w w := Kept.refl _ _
  have h0 : w.heap[R]? = some (.cells #[.bool false, .bool false, .bool false, .slice none 0 0, .string ⟨#[]⟩, .string ⟨#[]⟩, .int .i64 0, .int .i64 0, .int .i64 0] 42 (0, 0)) := h
  have h1 : (w.setCell ⟨R, 0, none⟩ v0).heap[R]? = some (.cells #[v0, .bool false, .bool false, .slice none 0 0, .string ⟨#[]⟩, .string ⟨#[]⟩, .int .i64 0, .int .i64 0, .int .i64 0] 42 (0, 0)) := obj_set h0 0 v0
  have k1 := st 0 v0 k0
  generalize w.setCell ⟨R, 0, none⟩ v0 = w1 at h1 k1 ⊢
  have h2 : (w1.setCell ⟨R, 1, none⟩ v1).heap[R]? = some (.cells #[v0, v1, .bool false, .slice none 0 0, .string ⟨#[]⟩, .string ⟨#[]⟩, .int .i64 0, .int .i64 0, .int .i64 0] 42 (0, 0)) := obj_set h1 1 v1
  have k2 := st 1 v1 k1
  generalize w1.setCell ⟨R, 1, none⟩ v1 = w2 at h2 k2 ⊢
  have h3 : (w2.setCell ⟨R, 2, none⟩ v2).heap[R]? = some (.cells #[v0, v1, v2, .slice none 0 0, .string ⟨#[]⟩, .string ⟨#[]⟩, .int .i64 0, .int .i64 0, .int .i64 0] 42 (0, 0)) := obj_set h2 2 v2
  have k3 := st 2 v2 k2
  generalize w2.setCell ⟨R, 2, none⟩ v2 = w3 at h3 k3 ⊢
  have h4 : (w3.setCell ⟨R, 3, none⟩ v3).heap[R]? = some (.cells #[v0, v1, v2, v3, .string ⟨#[]⟩, .string ⟨#[]⟩, .int .i64 0, .int .i64 0, .int .i64 0] 42 (0, 0)) := obj_set h3 3 v3
  have k4 := st 3 v3 k3
  generalize w3.setCell ⟨R, 3, none⟩ v3 = w4 at h4 k4 ⊢
  have h5 : (w4.setCell ⟨R, 4, none⟩ v4).heap[R]? = some (.cells #[v0, v1, v2, v3, v4, .string ⟨#[]⟩, .int .i64 0, .int .i64 0, .int .i64 0] 42 (0, 0)) := obj_set h4 4 v4
  have k5 := st 4 v4 k4
  generalize w4.setCell ⟨R, 4, none⟩ v4 = w5 at h5 k5 ⊢
  have h6 : (w5.setCell ⟨R, 5, none⟩ v5).heap[R]? = some (.cells #[v0, v1, v2, v3, v4, v5, .int .i64 0, .int .i64 0, .int .i64 0] 42 (0, 0)) := obj_set h5 5 v5
  have k6 := st 5 v5 k5
  generalize w5.setCell ⟨R, 5, none⟩ v5 = w6 at h6 k6 ⊢
  have h7 : (w6.setCell ⟨R, 6, none⟩ v6).heap[R]? = some (.cells #[v0, v1, v2, v3, v4, v5, v6, .int .i64 0, .int .i64 0] 42 (0, 0)) := obj_set h6 6 v6
  have k7 := st 6 v6 k6
  generalize w6.setCell ⟨R, 6, none⟩ v6 = w7 at h7 k7 ⊢
  have h8 : (w7.setCell ⟨R, 7, none⟩ v7).heap[R]? = some (.cells #[v0, v1, v2, v3, v4, v5, v6, v7, .int .i64 0] 42 (0, 0)) := obj_set h7 7 v7
  have k8 := st 7 v7 k7
  generalize w7.setCell ⟨R, 7, none⟩ v7 = w8 at h8 k8 ⊢
  have h9 : (w8.setCell ⟨R, 8, none⟩ v8).heap[R]? = some (.cells #[v0, v1, v2, v3, v4, v5, v6, v7, v8] 42 (0, 0)) := obj_set h8 8 v8
  have k9 := st 8 v8 k8
  exact ⟨h9, k9.drew⟩
def gzN : GzP := ⟨false, false, false, [], [], [], 0, 0, 0⟩
def ReadHR (w : World) (b : List Int) (e : Ending) (w' : World) : Prop :=
  ∃ (a : Option Addr) (k : Nat) (g : GzP) (n : Nat), e = .returned (.tuple #[.agg (gzV a k g), .int .i64 (n : Int), .int .i64 (hdS b).s14.e]) ∧ Hid ((hdS b).s14.e = 0 → g = hdG b ∧ n = (hdS b).s14.at_) ∧ Hid ((hdS b).s14.e ≠ 0 → n = 0) ∧
    Hid (Reads w' a (nb g.extra) ∧ g.extra.length ≤ k ∧ k ≤ maxLen ∧ (a = none → k = 0) ∧ (∀ q, a = some q → w.heap.size ≤ q.block)) ∧ Kept NoB w w'
set_option maxHeartbeats 4000000 in
theorem readhead_any (w : World) (bo : Option Addr) (n c : Nat) (b : List Int) (hn : n = b.length) (hR : CurRow w bo c b) (hb : b.length ≤ 1000000) :
    Calls Tryz.prog 20 #[.slice bo n c] w (ReadHR w b) := by
  subst hn
  have hcur : CurO ((w.alloc (.cells gz0 42)).alloc (.cells #[.slice bo b.length c, .int .i64 0, .int .i64 0] 93)) (w.heap.size + 1) bo c b ⟨0, 0⟩ := by
    have s1 : (w.alloc (.cells gz0 42)).heap.size = w.heap.size + 1 := by simp
    unfold CurO
    rw [← s1]
    exact heap_alloc_new _ _
  have hres : ((w.alloc (.cells gz0 42)).alloc (.cells #[.slice bo b.length c, .int .i64 0, .int .i64 0] 93)).heap[w.heap.size]? = some (.cells gz0 42 (0, 0)) := ((Kept.refl NoB (w.alloc (.cells gz0 42))).alloc _).obj (heap_alloc_new _ _) (fun e => e)
  have hk0 : Kept NoB w ((w.alloc (.cells gz0 42)).alloc (.cells #[.slice bo b.length c, .int .i64 0, .int .i64 0] 93)) := ((Kept.refl _ _).alloc _).alloc _
  have HR := Lib.hid hR
  clear hR
  go_enter Tryz.func20, Tryz.ntmps20
  go_upto_region 2 with fail
  unfold gz0 at hcur hres hk0
  generalize (w.alloc (.cells #[.bool false, .bool false, .bool false, .slice none 0 0, .string ⟨#[]⟩, .string ⟨#[]⟩, .int .i64 0, .int .i64 0, .int .i64 0] 42)).alloc (.cells #[.slice bo b.length c, .int .i64 0, .int .i64 0] 93) = wb at hcur hres hk0 ⊢
  obtain ⟨C, hC⟩ : ∃ C, C = w.heap.size + 1 := ⟨_, rfl⟩
  rw [← hC] at hcur ⊢
  obtain ⟨R, hRe⟩ : ∃ R, R = w.heap.size := ⟨_, rfl⟩
  rw [← hRe] at hres ⊢
  have hCb : w.heap.size ≤ C := by omega
  have HHd := Lib.hid (head_anyG wb C bo c b hcur (fun W hk => HR.out.over hCb ((hk0.mono (fun _ _ e => e.elim)).trans hk)) hb)
  have HRs := Lib.hid hres; have HK0 := Lib.hid hk0; have HCe := Lib.hid hC; have HRe := Lib.hid hRe
  clear hcur hres hk0 hC hRe hCb
  go_wp2_with fail
  refine HHd.out.mono ?_
  rintro e' w1 ⟨a, k, rfl, h1, h2, h3, h4, h5, h6, h7⟩
  have hres1 := h2.obj HRs.out (fun e => by have := HCe.out; have := HRe.out; unfold OneB at e; omega)
  have hf := @hdS_fits b
  have HXr := Lib.hid h3; have HX := Lib.hid (And.intro h4 (And.intro h5 h6)); have HXb := Lib.hid h7
  obtain ⟨s, hs⟩ : ∃ s, s = (hdS b).s14 := ⟨_, rfl⟩
  rw [← hs] at h1 hf
  obtain ⟨p, e⟩ := s
  have HSe := Lib.hid hs; have HF := Lib.hid hf
  have hp : e = 0 → p ≤ 1000000 := fun h => by have := hf h; dsimp only at this; omega
  obtain ⟨arr, harr⟩ : ∃ arr, arr = gzV a k (hdG b) := ⟨_, rfl⟩
  have hone : arr.all (·.oneCell') = true := by rw [harr]; unfold gzV; rw [← Array.all_toList]; rfl
  have hsz : (Tryz.prog.info? 42).map (·.size) = some arr.size := by rw [harr]; exact infoGz
  have hsz2 : gz0.size = arr.size := by rw [harr]; rfl
  rw [← harr]
  have HSz2 := Lib.hid hsz2
  have HArr := Lib.hid harr; have HOne := Lib.hid hone; have HSz := Lib.hid hsz
  have HRs1 := Lib.hid hres1
  have c1 : w1.cell? ⟨C, 1, none⟩ = some (.int .i64 (p : Int)) := obj_cell h1 1
  have c2 : w1.cell? ⟨C, 2, none⟩ = some (.int .i64 e) := obj_cell h1 2
  have HK2 := Lib.hid h2
  clear h1 h2 h3 h4 h5 h6 h7 hs hf harr hone hsz hres1 HHd
  have hG : (w1.alloc (.cells gz0 42)).heap[w1.heap.size]? = some (.cells gz0 42 (0, 0)) := heap_alloc_new _ _
  have hG2 : ((w1.alloc (.cells gz0 42)).setRow w1.heap.size arr).heap[w1.heap.size]? = some (.cells arr 42 (0, 0)) := setRow_heap _ _ _ arr _ _ hG
  have hk2 : Kept NoB w1 ((w1.alloc (.cells gz0 42)).setRow w1.heap.size arr) := by
    have h1 : Kept NoB w1 (w1.alloc (.cells gz0 42)) := (Kept.refl _ _).alloc _
    exact ⟨h1.os, h1.tape, h1.output, by simp [World.setRow], fun k hk hs => (setRow_other _ _ k arr (by omega)).trans (h1.block k hk hs)⟩
  have hG1 := hG
  unfold gz0 at hG1 hG2 hk2
  have HG := Lib.hid hG1
  clear hG hG1
  go_upto_region 3 with (refine wpList_store_row rfl 42 (.tmp 6) (.tmp 11) rfl w1.heap.size arr rfl rfl _ _ HG.out HSz.out HSz2.out HOne.out ?_)
  generalize (w1.alloc (.cells #[.bool false, .bool false, .bool false, .slice none 0 0, .string ⟨#[]⟩, .string ⟨#[]⟩, .int .i64 0, .int .i64 0, .int .i64 0] 42)).setRow w1.heap.size arr = w2 at hG2 hk2 ⊢
  generalize w1.heap.size = G at hG2 ⊢
  have c1 := hk2.cell c1
  have c2 := hk2.cell c2
  have HR2 := Lib.hid (hk2.obj HRs1.out (fun e => e))
  have HG2 := Lib.hid hG2
  have HKw : Hid (Kept NoB w w2) := Lib.hid (by
    have h1 := HK2.out
    have h2 := HCe.out
    have h0 := HK0.out
    have h3 : Kept NoB w w1 := ⟨h1.os.trans h0.os, h1.tape.trans h0.tape, h1.output.trans h0.output, Nat.le_trans h0.size h1.size, fun i hi hs => (h1.block i (Nat.lt_of_lt_of_le hi h0.size) (fun e => by unfold OneB at e; omega)).trans (h0.block i hi hs)⟩
    exact h3.trans hk2)
  have HXr2 := Lib.hid (HXr.out.keptNo hk2)
  clear hG2 hk2
  have hCR : ¬ C = R := by have := HCe.out; have := HRe.out; omega
  have hRC : ¬ R = C := fun h => hCR h.symm
  have hrz : ∀ i, w2.frozen? ⟨R, i, none⟩ = false := fun i => obj_free HR2.out i
  have r0 : w2.cell? ⟨R, 0, none⟩ = some (.bool false) := obj_cell HR2.out 0
  have r1 : w2.cell? ⟨R, 1, none⟩ = some (.bool false) := obj_cell HR2.out 1
  have r2 : w2.cell? ⟨R, 2, none⟩ = some (.bool false) := obj_cell HR2.out 2
  have r3 : w2.cell? ⟨R, 3, none⟩ = some (.slice none 0 0) := obj_cell HR2.out 3
  have r4 : w2.cell? ⟨R, 4, none⟩ = some (.string ⟨#[]⟩) := obj_cell HR2.out 4
  have r5 : w2.cell? ⟨R, 5, none⟩ = some (.string ⟨#[]⟩) := obj_cell HR2.out 5
  have r6 : w2.cell? ⟨R, 6, none⟩ = some (.int .i64 0) := obj_cell HR2.out 6
  have r7 : w2.cell? ⟨R, 7, none⟩ = some (.int .i64 0) := obj_cell HR2.out 7
  have r8 : w2.cell? ⟨R, 8, none⟩ = some (.int .i64 0) := obj_cell HR2.out 8
  by_cases he : e = 0
  · subst he
    obtain ⟨⟨t, x, s, E, N, Cm, tm, xf, os⟩, hg⟩ : ∃ g, g = hdG b := ⟨_, rfl⟩
    have HGe := Lib.hid hg
    have hg2 := HG2.out
    rw [HArr.out, ← hg] at hg2
    have g0 : w2.cell? ⟨G, 0, none⟩ = some (.bool t) := obj_cell hg2 0
    have g1 : w2.cell? ⟨G, 1, none⟩ = some (.bool x) := obj_cell hg2 1
    have g2 : w2.cell? ⟨G, 2, none⟩ = some (.bool s) := obj_cell hg2 2
    have g3 : w2.cell? ⟨G, 3, none⟩ = some (.slice a E.length k) := obj_cell hg2 3
    have g4 : w2.cell? ⟨G, 4, none⟩ = some (.string (strB N)) := obj_cell hg2 4
    have g5 : w2.cell? ⟨G, 5, none⟩ = some (.string (strB Cm)) := obj_cell hg2 5
    have g6 : w2.cell? ⟨G, 6, none⟩ = some (.int .i64 tm) := obj_cell hg2 6
    have g7 : w2.cell? ⟨G, 7, none⟩ = some (.int .i64 xf) := obj_cell hg2 7
    have g8 : w2.cell? ⟨G, 8, none⟩ = some (.int .i64 os) := obj_cell hg2 8
    clear hg hg2
    have h9 := gz_set9 HR2.out (.bool t) (.bool x) (.bool s) (.slice a E.length k) (.string (strB N)) (.string (strB Cm)) (.int .i64 tm) (.int .i64 xf) (.int .i64 os)
    have H9 := Lib.hid h9
    clear h9
    go_wp2_with fail
    go_region
    go_wp2
    refine gz_end (R := R) (n := p) (e := 0) ?_ ?_ ?_ H9.out.1 ?_
    · rfl
    · rfl
    · rfl
    have hse := HSe.out
    refine ⟨a, k, hdG b, p, ?_, Lib.hid (fun _ => ⟨rfl, by rw [← hse]⟩), Lib.hid (fun h => absurd (by rw [← hse]) h), Lib.hid ⟨HXr2.out.kept H9.out.2 (fun q hq e => ?_), HX.out.1, HX.out.2.1, HX.out.2.2, fun q hq => ?_⟩, ?_⟩
    · rw [← hse, ← HGe.out]
      rfl
    · have h1 := HXb.out q hq
      have h2 := obj_lt HRs.out
      unfold OneB at e; omega
    · have h1 := HXb.out q hq
      have h2 := HK0.out.size
      omega
    · have h1 := H9.out.2
      have h2 := HKw.out
      have h3 := HRe.out
      exact ⟨h1.os.trans h2.os, h1.tape.trans h2.tape, h1.output.trans h2.output, Nat.le_trans h2.size h1.size, fun i hi hs => (h1.block i (Nat.lt_of_lt_of_le hi h2.size) (fun e => by unfold OneB at e; omega)).trans (h2.block i hi hs)⟩
  · have he2 : (e == 0) = false := by simpa using he
    have he3 : (e != 0) = true := by simpa using he
    have h9 := gz_set9 HR2.out (.bool false) (.bool false) (.bool false) (.slice none 0 0) (.string ⟨#[]⟩) (.string ⟨#[]⟩) (.int .i64 0) (.int .i64 0) (.int .i64 0)
    have H9 := Lib.hid h9
    have He := Lib.hid he
    clear h9 he
    go_wp2_with fail
    go_region
    all_goals go_wp2
    all_goals refine gz_end (R := R) (n := 0) (e := e) ?_ ?_ ?_ H9.out.1 ?_
    · rfl
    · rfl
    · rfl
    have hse := HSe.out
    refine ⟨none, 0, gzN, 0, ?_, Lib.hid (fun h => absurd (by rw [← hse] at h; exact h) He.out), Lib.hid (fun _ => rfl), Lib.hid ⟨⟨fun _ => rfl, fun a h => by cases h⟩, Nat.le_refl _, Nat.zero_le _, fun _ => rfl, fun q hq => by cases hq⟩, ?_⟩
    · rw [← hse]
      rfl
    · have h1 := H9.out.2
      have h2 := HKw.out
      have h3 := HRe.out
      exact ⟨h1.os.trans h2.os, h1.tape.trans h2.tape, h1.output.trans h2.output, Nat.le_trans h2.size h1.size, fun i hi hs => (h1.block i (Nat.lt_of_lt_of_le hi h2.size) (fun e => by unfold OneB at e; omega)).trans (h2.block i hi hs)⟩
end Go.Proofs.YtfmjfgmbjdhogaaGreatDoor

namespace Go.Proofs.YtfmjfgmbjdhogaaGreatDoor
open Go.RowKit
set_option linter.unusedVariables false
set_option linter.unusedSimpArgs false
set_option maxRecDepth 20000

set_option maxHeartbeats 1000000 in
theorem isg_yes (w : World) (ao : Option Addr) (n c : Nat) (b : List Int) (hn : n = b.length) (hr : Reads w ao b) (h2 : 2 ≤ n) (h0 : b.getD 0 0 = 31) (h1 : b.getD 1 0 = 139) : Calls Tryz.prog 21 #[.slice ao n c] w fun e w' => e = .returned (.bool true) ∧ w' = w := by
  obtain ⟨g, o, rfl, _, hc⟩ := hr.at (by omega)
  have c0 := hc 0 (by omega)
  have c1 := hc 1 (by omega)
  rw [h0, Nat.add_zero] at c0
  rw [h1] at c1
  have h2' : (2 : Int) ≤ (n : Int) := by omega
  clear hc hr hn
  go_enter Tryz.func21, Tryz.ntmps21
  go_wp2
  go_ret
  exact ⟨rfl, rfl⟩
set_option maxHeartbeats 1000000 in
theorem isg_no (w : World) (ao : Option Addr) (n c : Nat) (b : List Int) (hn : n = b.length) (hr : Reads w ao b) (h : n < 2 ∨ b.getD 0 0 ≠ 31 ∨ b.getD 1 0 ≠ 139) : Calls Tryz.prog 21 #[.slice ao n c] w fun e w' => e = .returned (.bool false) ∧ w' = w := by
  by_cases h2 : n < 2
  · have h2' : ¬ (2 : Int) ≤ (n : Int) := by omega
    clear hr hn h
    go_enter Tryz.func21, Tryz.ntmps21
    go_wp2
    go_ret
    exact ⟨rfl, rfl⟩
  · obtain ⟨g, o, rfl, _, hc⟩ := hr.at (by omega)
    have c0 := hc 0 (by omega)
    have c1 := hc 1 (by omega)
    rw [Nat.add_zero] at c0
    have h2' : (2 : Int) ≤ (n : Int) := by omega
    have h' : b.getD 0 0 ≠ 31 ∨ b.getD 1 0 ≠ 139 := by rcases h with h | h; omega; exact h
    generalize b.getD 0 0 = x at c0 h'
    generalize b.getD 1 0 = y at c1 h'
    clear hc hr hn h
    by_cases hx : x = 31
    · subst hx
      have hy : (y == 139) = false := by rcases h' with h | h; exact absurd rfl h; simpa using h
      clear h'
      go_enter Tryz.func21, Tryz.ntmps21
      go_wp2
      go_ret
      exact ⟨rfl, rfl⟩
    · have hx' : (x == 31) = false := by simpa using hx
      clear h' hx
      go_enter Tryz.func21, Tryz.ntmps21
      go_wp2
      go_ret
      exact ⟨rfl, rfl⟩
def leadZ : List Int → Nat
  | [] => 0
  | x :: r => if x = 0 then leadZ r + 1 else 0
theorem leadZ_drop : ∀ (l : List Int) (i : Nat), i < l.length → leadZ (l.drop i) = if l.getD i 0 = 0 then leadZ (l.drop (i + 1)) + 1 else 0 := by
  intro l i hi
  rw [List.drop_eq_getElem_cons hi, leadZ]
  simp [List.getD, hi]
set_option maxHeartbeats 2000000 in
theorem noughts_anyG (w : World) (ao : Option Addr) (n c : Nat) (b : List Int) (hn : n = b.length) (hr : Reads w ao b) (hl : n ≤ 1000000) : Calls Tryz.prog 47 #[.slice ao n c] w fun e w' => e = .returned (.int .i64 (leadZ b : Nat)) ∧ w' = w := by
  have HN := Lib.hid hn; have HR := Lib.hid hr
  clear hn hr
  go_enter Tryz.func47, Tryz.ntmps47
  go_wp2_with fail
  go_loopw [3, 4, 7] (fun _ _ v7 wr => ∃ i : Nat, v7 = .int .i64 (i : Int) ∧ i ≤ n ∧ wr = w ∧ Hid (leadZ b = i + leadZ (b.drop i))) (fun _ _ v7 _ => n - (intOf v7).toNat)
  case atStart => exact ⟨0, rfl, Nat.zero_le _, rfl, Lib.hid (by simp)⟩
  case round =>
    obtain ⟨i, rfl, hi, rfl, HZ⟩ := hrel
    by_cases hin : i < n
    · have hib : i < b.length := by rw [← HN.out]; exact hin
      have hst := leadZ_drop b i hib
      obtain ⟨g, o, rfl, _, hc⟩ := HR.out.at (by omega)
      have ci := hc i hib
      generalize b.getD i 0 = x at ci hst
      by_cases hx : x = 0
      · subst hx
        have HSt := Lib.hid hst
        clear hc hst
        go_wp2
        go_roundw
        case rel => exact ⟨i + 1, by go_num, by omega, by trivial, Lib.hid (by rw [HZ.out, HSt.out, if_pos rfl]; omega)⟩
        case measure => simp [intOf]; omega
      · have hx' : (x == 0) = false := by simpa using hx
        have HSt : Hid (leadZ (b.drop i) = 0) := Lib.hid (by rw [hst, if_neg hx])
        clear hc hst hx
        go_wp2
        go_ret
        exact ⟨by rw [HZ.out, HSt.out]; rfl, rfl⟩
    · have : i = n := by omega
      subst this
      go_wp2
      go_ret
      exact ⟨by rw [HZ.out, List.drop_eq_nil_of_le (by rw [← HN.out]; exact Nat.le_refl _)]; rfl, rfl⟩
def tailS (b : List Int) (cr fl : Nat) : Nat × Int := if 4 ≤ b.length ∧ num (b.take 4) ≠ cr then (0, 7) else if b.length < 8 then (b.length, 2) else if num ((b.drop 4).take 4) ≠ fl then (0, 7) else (0, 0)
set_option maxHeartbeats 4000000 in
theorem tail_any (w : World) (T : Nat) (ao : Option Addr) (n c : Nat) (b : List Int) (fo : Option Addr) (fn fc : Nat) (F : List Int) (hT : Tbl w T) (hR : CurRow w ao c b) (hn : n = b.length) (hF : CurRow w fo fc F) (hf : fn = F.length) (hfl : fn ≤ 1000000) :
    Calls Tryz.prog 46 #[.pointer (some ⟨T, 0, none⟩), .slice ao n c, .slice fo fn fc] w fun e w' => e = .returned (.tuple #[.int .i64 ((tailS b (crcOf 0 (nats F)) fn).1 : Nat), .int .i64 (tailS b (crcOf 0 (nats F)) fn).2]) ∧ Kept NoB w w' := by
  have hcap : n ≤ c := by rw [hn]; exact hR.cap
  have hlt := crc16_nat F
  have hsum : ∀ w1, Kept NoB w w1 → Calls Tryz.prog 44 #[.pointer (some ⟨T, 0, none⟩), .slice (some ⟨w1.heap.size, 0, none⟩) 1 1] (w1.alloc (.cells #[.slice fo fn fc] 22)) fun e w' => e = .returned (.int .u32 (crcOf 0 (nats F) : Nat)) ∧ Kept NoB w w' := by
    intro w1 hk
    have hk2 : Kept NoB w (w1.alloc (.cells #[.slice fo fn fc] 22)) := hk.alloc _
    have hF2 := hF.keptNo hk2
    have := sum_any (w1.alloc (.cells #[.slice fo fn fc] 22)) T (some ⟨w1.heap.size, 0, none⟩) 1 1 [F] (hT.keptNo hk2) (.inr ⟨w1.heap.size, 0, rfl, by simp, fun i hi => by
      have : i = 0 := by simpa using hi
      subst this
      exact ⟨fo, fc, by rw [cell_new 0 rfl]; simp [hf], by simpa using hF2.rd, by simpa using hF2.cap, hF2.most, hF2.nil⟩⟩) (by intro p hp; simp at hp; subst hp; exact hF.all) rfl (by decide)
    refine this.mono ?_
    rintro e w' ⟨rfl, h⟩
    exact ⟨by simp, hk2.trans h⟩
  have HS := Lib.hid hsum; have HR := Lib.hid hR; have HN := Lib.hid hn
  clear hsum hR hF hT hf hn
  obtain ⟨cr, hcr⟩ : ∃ cr, cr = crcOf 0 (nats F) := ⟨_, rfl⟩
  rw [← hcr] at HS hlt ⊢
  clear hcr
  by_cases h4 : n < 4
  · have HTv : Hid (tailS b cr fn = (n, 2)) := Lib.hid (by unfold tailS; rw [← HN.out, if_neg (by omega), if_pos (by omega)])
    rw [HTv.out]
    go_enter Tryz.func46, Tryz.ntmps46
    go_wp2
    go_ret2
    exact ⟨rfl, Kept.refl _ _⟩
  · have hnl : 4 ≤ n := by omega
    obtain ⟨o1, hs1, hp1⟩ := slg_h ao n c 4 b HN.out hnl hcap HR.out.nil
    have hs1 : ∀ W, (Instr.slice 22 (.slice ao n c) none (some (.int .i64 4)) none).run Tryz.prog W = .ok (.slice o1 4 c) W := hs1
    have hr1 := hp1.reads w HR.out.rd
    have e1 : (b.drop 0).take (4 - 0) = b.take 4 := rfl
    rw [e1] at hr1
    have HQ := Lib.hid (numG_any w o1 4 c (b.take 4) hr1 (HR.out.all.take 4) (by rw [List.length_take, ← HN.out]; omega) (by decide))
    obtain ⟨n1, hn1⟩ : ∃ n1, n1 = num (b.take 4) := ⟨_, rfl⟩
    rw [← hn1] at HQ
    obtain ⟨x, hx⟩ : ∃ x : Bool, x = decide (n1 ≠ cr) := ⟨_, rfl⟩
    have hxe : ((n1 : Int) != (cr : Int)) = x := by
      rw [hx]
      by_cases h : n1 = cr
      · rw [h]; simp
      · rw [bne_iff_ne.2 (show (n1 : Int) ≠ (cr : Int) by omega)]; simp [h]
    have HX := Lib.hid hx; have HN1 := Lib.hid hn1
    clear hp1 hr1 e1 hx hn1
    have HS0 := Lib.hid (HS.out w (Kept.refl _ _))
    cases x with
    | true =>
      have HTv : Hid (tailS b cr fn = (0, 7)) := Lib.hid (by unfold tailS; rw [if_pos ⟨by rw [← HN.out]; exact hnl, by rw [← HN1.out]; have := HX.out; simpa using this.symm⟩])
      rw [HTv.out]
      go_enter Tryz.func46, Tryz.ntmps46
      go_wp2_with fail
      refine HQ.out.mono ?_
      rintro e w1 ⟨rfl, rfl⟩
      go_wp2_with fail
      refine HS0.out.mono ?_
      rintro e w2 ⟨rfl, hk2⟩
      have HK2 := Lib.hid hk2
      clear hk2
      go_wp2
      go_ret2
      exact ⟨rfl, HK2.out⟩
    | false =>
      have HE : Hid (n1 = cr) := Lib.hid (by have := HX.out; simpa using this.symm)
      by_cases h8 : n < 8
      · have HTv : Hid (tailS b cr fn = (n, 2)) := Lib.hid (by unfold tailS; rw [← HN.out, ← HN1.out, if_neg (fun k => k.2 HE.out), if_pos h8])
        rw [HTv.out]
        go_enter Tryz.func46, Tryz.ntmps46
        go_wp2_with fail
        refine HQ.out.mono ?_
        rintro e w1 ⟨rfl, rfl⟩
        go_wp2_with fail
        refine HS0.out.mono ?_
        rintro e w2 ⟨rfl, hk2⟩
        have HK2 := Lib.hid hk2
        clear hk2
        go_wp2
        go_ret2
        exact ⟨rfl, HK2.out⟩
      · have hn8 : 8 ≤ n := by omega
        obtain ⟨o2, hs2, hp2⟩ := slg_lh ao n c 4 8 b HN.out (by decide) hn8 hcap HR.out.nil
        have hs2 : ∀ W, (Instr.slice 22 (.slice ao n c) (some (.int .i64 4)) (some (.int .i64 8)) none).run Tryz.prog W = .ok (.slice o2 4 (c - 4)) W := hs2
        have e2 : (b.drop 4).take (8 - 4) = (b.drop 4).take 4 := rfl
        have HQ2 := Lib.hid (fun (W : World) (hk : Kept NoB w W) => numG_any W o2 4 (c - 4) ((b.drop 4).take 4) (by have := hp2.reads W (HR.out.rd.keptNo hk); rw [e2] at this; exact this) ((HR.out.all.drop 4).take 4) (by rw [List.length_take, List.length_drop, ← HN.out]; omega) (by decide))
        obtain ⟨n2, hn2⟩ : ∃ n2, n2 = num ((b.drop 4).take 4) := ⟨_, rfl⟩
        rw [← hn2] at HQ2
        have hmk : bits .and .i64 (fn : Int) 4294967295 = (fn : Int) := by
          have := i64_andG fn 4294967295 (by omega) (by decide)
          rw [show fn &&& 4294967295 = fn % 2 ^ 32 from Nat.and_two_pow_sub_one_eq_mod fn 32, Nat.mod_eq_of_lt (by omega)] at this
          exact this
        obtain ⟨y, hy⟩ : ∃ y : Bool, y = decide (n2 ≠ fn) := ⟨_, rfl⟩
        have hye : ((n2 : Int) != (fn : Int)) = y := by
          rw [hy]
          by_cases h : n2 = fn
          · rw [h]; simp
          · rw [bne_iff_ne.2 (show (n2 : Int) ≠ (fn : Int) by omega)]; simp [h]
        have HY := Lib.hid hy; have HN2 := Lib.hid hn2
        clear hp2 e2 hy hn2
        cases y with
        | true =>
          have HTv : Hid (tailS b cr fn = (0, 7)) := Lib.hid (by unfold tailS; rw [← HN.out, ← HN1.out, if_neg (fun k => k.2 HE.out), if_neg h8, ← HN2.out, if_pos (by have := HY.out; simpa using this.symm)])
          rw [HTv.out]
          go_enter Tryz.func46, Tryz.ntmps46
          go_wp2_with fail
          refine HQ.out.mono ?_
          rintro e w1 ⟨rfl, rfl⟩
          go_wp2_with fail
          refine HS0.out.mono ?_
          rintro e w2 ⟨rfl, hk2⟩
          have HK2 := Lib.hid hk2
          clear hk2
          go_wp2_with fail
          refine (HQ2.out w2 HK2.out).mono ?_
          rintro e w3 ⟨rfl, rfl⟩
          go_wp2
          go_ret2
          exact ⟨rfl, HK2.out⟩
        | false =>
          have HTv : Hid (tailS b cr fn = (0, 0)) := Lib.hid (by unfold tailS; rw [← HN.out, ← HN1.out, if_neg (fun k => k.2 HE.out), if_neg h8, ← HN2.out, if_neg (by have := HY.out; simpa using this.symm)])
          rw [HTv.out]
          go_enter Tryz.func46, Tryz.ntmps46
          go_wp2_with fail
          refine HQ.out.mono ?_
          rintro e w1 ⟨rfl, rfl⟩
          go_wp2_with fail
          refine HS0.out.mono ?_
          rintro e w2 ⟨rfl, hk2⟩
          have HK2 := Lib.hid hk2
          clear hk2
          go_wp2_with fail
          refine (HQ2.out w2 HK2.out).mono ?_
          rintro e w3 ⟨rfl, rfl⟩
          go_wp2
          go_ret2
          exact ⟨rfl, HK2.out⟩
end Go.Proofs.YtfmjfgmbjdhogaaGreatDoor

namespace Go.Proofs.YtfmjfgmbjdhogaaGreatDoor
open Go.RowKit
set_option linter.unusedVariables false
set_option linter.unusedSimpArgs false

end Go.Proofs.YtfmjfgmbjdhogaaGreatDoor

namespace Go.Proofs.YtfmjfgmbjdhogaaGreatDoor
open Go.RowKit
set_option linter.unusedVariables false
set_option linter.unusedSimpArgs false

end Go.Proofs.YtfmjfgmbjdhogaaGreatDoor

namespace Go.Proofs.YtfmjfgmbjdhogaaGreatDoor
open Go.RowKit
set_option linter.unusedVariables false
set_option linter.unusedSimpArgs false

end Go.Proofs.YtfmjfgmbjdhogaaGreatDoor

namespace Go.Proofs.YtfmjfgmbjdhogaaGreatDoor
open Go.RowKit
set_option linter.unusedVariables false
set_option linter.unusedSimpArgs false
set_option maxRecDepth 20000

end Go.Proofs.YtfmjfgmbjdhogaaGreatDoor

namespace Go.Proofs.YtfmjfgmbjdhogaaGreatDoor
open Go.RowKit
set_option linter.unusedVariables false
set_option linter.unusedSimpArgs false
set_option maxRecDepth 20000

end Go.Proofs.YtfmjfgmbjdhogaaGreatDoor

namespace Go.Proofs.YtfmjfgmbjdhogaaGreatDoor
open Go.RowKit
set_option linter.unusedVariables false
set_option linter.unusedSimpArgs false
set_option maxRecDepth 20000

end Go.Proofs.YtfmjfgmbjdhogaaGreatDoor

namespace Go.Proofs.YtfmjfgmbjdhogaaGreatDoor
open Go.RowKit
set_option linter.unusedVariables false
set_option linter.unusedSimpArgs false

end Go.Proofs.YtfmjfgmbjdhogaaGreatDoor

namespace Go.Proofs.YtfmjfgmbjdhogaaGreatDoor
open Go.RowKit
set_option linter.unusedVariables false
set_option linter.unusedSimpArgs false

end Go.Proofs.YtfmjfgmbjdhogaaGreatDoor

namespace Go.Proofs.YtfmjfgmbjdhogaaGreatDoor
open Go.RowKit
set_option linter.unusedVariables false
set_option linter.unusedSimpArgs false
set_option maxRecDepth 20000

end Go.Proofs.YtfmjfgmbjdhogaaGreatDoor

namespace Go.Proofs.YtfmjfgmbjdhogaaGreatDoor
open Go.RowKit
set_option linter.unusedVariables false
set_option linter.unusedSimpArgs false
set_option maxRecDepth 20000

end Go.Proofs.YtfmjfgmbjdhogaaGreatDoor

namespace Go.Proofs.YtfmjfgmbjdhogaaGreatDoor
open Go.RowKit
set_option linter.unusedVariables false
set_option linter.unusedSimpArgs false
set_option maxRecDepth 20000

end Go.Proofs.YtfmjfgmbjdhogaaGreatDoor

namespace Go.Proofs.YtfmjfgmbjdhogaaGreatDoor
open Go.RowKit
set_option linter.unusedVariables false
set_option linter.unusedSimpArgs false
set_option maxRecDepth 20000

end Go.Proofs.YtfmjfgmbjdhogaaGreatDoor

namespace Go.Proofs.YtfmjfgmbjdhogaaGreatDoor
open Go.RowKit
set_option linter.unusedVariables false
set_option linter.unusedSimpArgs false
set_option maxRecDepth 20000

def lazyN (lv : Int) (L : List UInt8) (i : Nat) : Nat × Nat :=
  if lv < 1 then (0, 0) else if 7 ≤ lv ∧ 0 < (longN L i).1 ∧ (longN L i).1 < (longN L (i + 1)).1 then (0, 0) else longN L i
def litT (L : List UInt8) (i : Nat) : Tk := ⟨0, 0, ((L.getD i 0).toNat : Int)⟩
def stepT (lv : Int) (L : List UInt8) (i : Nat) : Tk × Nat := if (lazyN lv L i).1 = 0 then (litT L i, i + 1) else (⟨(lazyN lv L i).1, (lazyN lv L i).2, 0⟩, i + (lazyN lv L i).1)
theorem step_lt (lv : Int) (L : List UInt8) (i : Nat) : i < (stepT lv L i).2 := by
  unfold stepT
  split
  · exact Nat.lt_succ_self i
  · rename_i h
    show i < i + _
    omega
def restT (lv : Int) (L : List UInt8) (i : Nat) : List Tk := if h : i < L.length then (stepT lv L i).1 :: restT lv L (stepT lv L i).2 else []
  termination_by L.length - i
  decreasing_by (have := step_lt lv L i; omega)
theorem rest_step (lv : Int) (L : List UInt8) (i : Nat) (h : i < L.length) : restT lv L i = (stepT lv L i).1 :: restT lv L (stepT lv L i).2 := by
  rw [restT, dif_pos h]
theorem rest_end (lv : Int) (L : List UInt8) (i : Nat) (h : L.length ≤ i) : restT lv L i = [] := by
  rw [restT, dif_neg (by omega)]
theorem long_bd (L : List UInt8) (i : Nat) (hi : i ≤ L.length) : (longN L i).1 ≤ 258 ∧ i + (longN L i).1 ≤ L.length ∧ (longN L i).2 ≤ 32768 := by
  rcases long_ok L i with ⟨h1, h2, _⟩ | ⟨h1, h2, h3, h4, _⟩
  · omega
  · rw [mostN] at h2; omega
theorem lazy_bd (lv : Int) (L : List UInt8) (i : Nat) (hi : i ≤ L.length) : (lazyN lv L i).1 ≤ 258 ∧ i + (lazyN lv L i).1 ≤ L.length ∧ (lazyN lv L i).2 ≤ 32768 := by
  have h := long_bd L i hi
  have h0 : ((0, 0) : Nat × Nat).1 ≤ 258 ∧ i + ((0, 0) : Nat × Nat).1 ≤ L.length ∧ ((0, 0) : Nat × Nat).2 ≤ 32768 := ⟨by decide, hi, by decide⟩
  unfold lazyN
  split
  · exact h0
  · split
    · exact h0
    · exact h
theorem step_lit {lv : Int} {L : List UInt8} {i : Nat} (h : (lazyN lv L i).1 = 0) : stepT lv L i = (litT L i, i + 1) := if_pos h
theorem step_tok {lv : Int} {L : List UInt8} {i : Nat} (h : (lazyN lv L i).1 ≠ 0) : stepT lv L i = (⟨(lazyN lv L i).1, (lazyN lv L i).2, 0⟩, i + (lazyN lv L i).1) := if_neg h
theorem step_le (lv : Int) (L : List UInt8) (i : Nat) (hi : i < L.length) : (stepT lv L i).2 ≤ L.length := by
  have := lazy_bd lv L i (by omega)
  by_cases h : (lazyN lv L i).1 = 0
  · rw [step_lit h]; exact hi
  · rw [step_tok h]; exact this.2.1
end Go.Proofs.YtfmjfgmbjdhogaaGreatDoor

namespace Go.Proofs.YtfmjfgmbjdhogaaGreatDoor
open Go.RowKit
set_option linter.unusedVariables false
set_option linter.unusedSimpArgs false
set_option maxRecDepth 20000

end Go.Proofs.YtfmjfgmbjdhogaaGreatDoor

namespace Go.Proofs.YtfmjfgmbjdhogaaGreatDoor
open Go.RowKit
set_option linter.unusedVariables false
set_option linter.unusedSimpArgs false
set_option maxRecDepth 20000

end Go.Proofs.YtfmjfgmbjdhogaaGreatDoor

namespace Go.Proofs.YtfmjfgmbjdhogaaGreatDoor
open Go.RowKit
set_option linter.unusedVariables false
set_option linter.unusedSimpArgs false

/-! ## One byte over and over, on paper -/
end Go.Proofs.YtfmjfgmbjdhogaaGreatDoor

namespace Go.Proofs.YtfmjfgmbjdhogaaGreatDoor
open Go.RowKit
set_option linter.unusedVariables false
set_option linter.unusedSimpArgs false

end Go.Proofs.YtfmjfgmbjdhogaaGreatDoor
