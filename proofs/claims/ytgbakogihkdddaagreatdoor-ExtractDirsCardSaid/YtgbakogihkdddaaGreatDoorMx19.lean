/-
  extract: a node that is no directory and no other name is put where it goes.
  extract.One: an entry is made.
  What the library has of the keys of a map of numbers, sorted, as this program has it, in plain words (its numbers are the dump's: write it anew by iteri.sh for another).
  late: a map of numbers to entries of a call's own; which directory an entry is.
-/
import Derived.Test.YtgbakogihkdddaaGreatDoorMx18
import Derived.Shelf.SlIterI.Nil
import Derived.Shelf.SortM.Plain
import Derived.Shelf.SortM.SortNone
import Derived.Ground.GgzProg
import Derived.Ground.SlgmProg
import Derived.Test.YtgbakogihkdddaaGreatDoorProg
import Derived.Lib.SlKeysI
namespace Go.Proofs.YtgbakogihkdddaaGreatDoor
open Go.RowKit
set_option linter.unusedVariables false
set_option linter.unusedSimpArgs false
set_option maxRecDepth 20000

/-- Pieces that are read, apart from the blocks of S. -/
def RdA (S : Nat → Prop) (w : World) (ao : Option Addr) (l : List Pc) : Prop :=
  ∀ i, i < l.length → ∃ (b off : Nat) (bo : Option Addr) (bc : Nat), ao = some ⟨b, off, none⟩ ∧ ¬ S b ∧ w.cell? ⟨b, off + i * 2, none⟩ = some (.int .i64 (l.getD i (0, [])).1) ∧
    w.cell? ⟨b, off + i * 2 + 1, none⟩ = some (.slice bo (l.getD i (0, [])).2.length bc) ∧ Reads w bo (nb (l.getD i (0, [])).2) ∧ (bo = none → bc = 0) ∧ (∀ x, bo = some x → ¬ S x.block ∧ x.block < w.heap.size) ∧ (l.getD i (0, [])).2.length ≤ bc ∧ bc ≤ maxLen
theorem RdA.kept {S R : Nat → Prop} {w w' : World} {ao : Option Addr} {l : List Pc} (h : RdA S w ao l) (hk : Kept R w w') (hR : ∀ k, k < w.heap.size → R k → S k) : RdA S w' ao l := by
  intro i hi
  obtain ⟨b, off, bo, bc, h1, h2, h3, h4, h5, h6, h7, h8⟩ := h i hi
  have hb := World.block_lt_of_cell? w _ h3
  have hbR : ¬ R b := fun e => h2 (hR b hb e)
  have hb2 := hk.block b hb hbR
  exact ⟨b, off, bo, bc, h1, h2, (World.cell?_of_block (a := ⟨b, off + i * 2, none⟩) hb2).trans h3, (World.cell?_of_block (a := ⟨b, off + i * 2 + 1, none⟩) hb2).trans h4, h5.kept hk (fun a ha e => (h7 a ha).1 (hR _ (h7 a ha).2 e)), h6, fun x hx => ⟨(h7 x hx).1, Nat.lt_of_lt_of_le (h7 x hx).2 hk.size⟩, h8⟩
theorem RdA.rd {S : Nat → Prop} {w : World} {ao : Option Addr} {l : List Pc} (h : RdA S w ao l) : RdP w w.heap.size ao l := by
  intro i hi
  obtain ⟨b, off, bo, bc, h1, h2, h3, h4, h5, h6, h7, h8⟩ := h i hi
  exact ⟨b, off, bo, bc, h1, World.block_lt_of_cell? w _ h3, h3, by rw [← Nat.add_assoc]; exact h4, h5, h6, h8⟩
/-- The blocks of S grow: what lies apart stays apart. -/
theorem RdA.grow {S : Nat → Prop} {w W : World} {ao : Option Addr} {l : List Pc} (h : RdA S w ao l) : RdA (Grow S w W) w ao l := by
  intro i hi
  obtain ⟨b, off, bo, bc, h1, h2, h3, h4, h5, h6, h7, h8⟩ := h i hi
  exact ⟨b, off, bo, bc, h1, grow_not h2 (World.block_lt_of_cell? w _ h3), h3, h4, h5, h6, fun x hx => ⟨grow_not (h7 x hx).1 (h7 x hx).2, (h7 x hx).2⟩, h8⟩
theorem writesP_cons (T : FsP) (ino : Int) (p : Pc) (r : List Pc) : writesP T ino (p :: r) = if (writeP T ino p.1 p.2).2 = 0 then writesP (writeP T ino p.1 p.2).1 ino r else writeP T ino p.1 p.2 := rfl
theorem drop_getDp (l : List Pc) (i : Nat) (h : i < l.length) : l.drop i = l.getD i (0, []) :: l.drop (i + 1) := by
  rw [List.drop_eq_getElem_cons h]; simp [List.getD, h]

set_option maxHeartbeats 8000000 in
theorem putOther_any {S : Nat → Prop} {w : World} {f p : Nat} {T : FsP} {P : SpotV} (h : FsSt S w f T) (hlow : ∀ k, S k → k < w.heap.size) (hp : w.heap[p]? = some (.cells (spC (some f) P).toArray 81 (0, 0))) (hpS : ¬ S p) (hP : OkS T P) (E : EntV) (hE : EntI E) (pa : Option Addr) (pc : Nat) (B : Value) (hr : RdA S w pa E.pcs)
    (hq : ∀ q ∈ E.pcs, okI q.1 ∧ q.2.length ≤ 1099511627776) (hn : E.pcs.length ≤ 1000) (hclk : T.clock + 2000 ≤ 4611686018427387904) (hquo : T.quota ≤ 4611686018427387904) :
    Calls Tryz.prog 37 #[.pointer (some ⟨p, 0, none⟩), .agg (entC E (.slice pa E.pcs.length pc) B).toArray] w fun e w' => e = .returned (.int .i64 (putOtherP T P E).2) ∧ Turn S w w' f (putOtherP T P E).1 := by
  obtain ⟨A, hA⟩ : ∃ A : Value, A = .slice pa E.pcs.length pc := ⟨_, rfl⟩
  rw [← hA]
  obtain ⟨w1, hw1, hob, hk1⟩ := ent_boxed E A B w
  have hp1 := hk1.obj hp id
  have hplt := obj_lt hp
  have hB : putOtherP T P E = if (clearP T P).2 = 0 then putOtherQ (makeP (clearP T P).1 P.dir P.last (nodeE E)) E else clearP T P := rfl
  obtain ⟨C, hC⟩ : ∃ C, C = putOtherP T P E := ⟨_, rfl⟩
  rw [← hC] at hB ⊢
  have HNode := Lib.hid (fun W => node_anyX E A B W)
  have HCl := Lib.hid (clear_any (h.keptNo hk1) hp1 hP (by omega))
  have HB := Lib.hid hB; have HW := Lib.hid hw1; have HK := Lib.hid hk1; have HO := Lib.hid hob; have HPS := Lib.hid hpS; have HP1 := Lib.hid hp1; have HE := Lib.hid hE; have HP := Lib.hid hP
  have HLt := Lib.hid hplt; have HLow := Lib.hid hlow; have HA := Lib.hid hA; have HR := Lib.hid hr; have HQ := Lib.hid hq
  have HOl : Hid (w.heap.size < w1.heap.size) := Lib.hid (obj_lt hob)
  have HX2 : Hid (∀ W, Kept S w1 W → W.cell? ⟨p, 0, none⟩ = some (.pointer (some ⟨f, 0, none⟩)) ∧ W.cell? ⟨p, 1, none⟩ = some (.int .i64 P.dir) ∧ W.cell? ⟨p, 2, none⟩ = some (.string (strB P.last)) ∧ W.cell? ⟨w.heap.size, 0, none⟩ = some (.int .i64 E.kind) ∧ W.cell? ⟨w.heap.size, 1, none⟩ = some (.string (strB E.name)) ∧ W.cell? ⟨w.heap.size, 2, none⟩ = some (.string (strB E.link)) ∧ W.cell? ⟨w.heap.size, 3, none⟩ = some (.int .i64 E.mode) ∧ W.cell? ⟨w.heap.size, 4, none⟩ = some (.int .i64 E.user) ∧ W.cell? ⟨w.heap.size, 5, none⟩ = some (.int .i64 E.group) ∧ W.cell? ⟨w.heap.size, 6, none⟩ = some (.int .i64 E.time) ∧ W.cell? ⟨w.heap.size, 7, none⟩ = some (.int .i64 E.major) ∧ W.cell? ⟨w.heap.size, 8, none⟩ = some (.int .i64 E.minor) ∧ W.cell? ⟨w.heap.size, 9, none⟩ = some (.int .i64 E.size) ∧ W.cell? ⟨w.heap.size, 10, none⟩ = some (A) ∧ W.cell? ⟨w.heap.size, 11, none⟩ = some (B)) := Lib.hid (fun W hW => by
    have hpl := HLt.out
    obtain ⟨y0, y1, y2, y3, y4, y5⟩ := pl_cells (hW.obj HP1.out HPS.out)
    obtain ⟨x0, x1, x2, x3, x4, x5, x6, x7, x8, x9, x10, x11⟩ := ent_cells (hW.obj HO.out (fun e => by have := HLow.out _ e; omega))
    exact ⟨y0, y1, y2, x0, x1, x2, x3, x4, x5, x6, x7, x8, x9, x10, x11⟩)
  have HTc := Lib.hid (tame_clear T P)
  obtain ⟨C1, hC1⟩ : ∃ x, x = (clearP T P).1 := ⟨_, rfl⟩
  obtain ⟨C2, hC2⟩ : ∃ x, x = (clearP T P).2 := ⟨_, rfl⟩
  have hCC : clearP T P = (C1, C2) := by rw [hC1, hC2]
  have hB2 : C = if (clearP T P).2 = 0 then putOtherQ (makeP (clearP T P).1 P.dir P.last (nodeE E)) E else clearP T P := hB
  rw [hCC] at hB2 HCl HTc
  dsimp only at hB2 HCl HTc
  have HB2 := Lib.hid hB2
  clear h hw1 hob hk1 hB hC hA hp hp1 hpS hE hP hplt hlow hr hq HB hB2 hC1 hC2 hCC
  go_enter Tryz.func37, Tryz.ntmps37
  go_upto_region 1 with fail
  rw [← HW.out]
  go_upto_region 2 with (go_at_call 60; refine HCl.out.mono ?_; rintro e w3 ⟨rfl, ht3⟩)
  have HT3 := Lib.hid ht3
  clear ht3 HCl
  by_cases h0 : C2 = 0
  rotate_left
  · have h02 : (C2 != 0) = true := by simpa using h0
    have HF : Hid (C = (C1, C2)) := Lib.hid (by rw [HB2.out, if_neg h0])
    clear HB2 h0
    go_wp2
    go_ret
    exact ⟨by rw [HF.out]; rfl, by rw [HF.out]; exact Turn.pre HK.out HT3.out⟩
  subst h0
  have HF : Hid (C = putOtherQ (makeP C1 P.dir P.last (nodeE E)) E) := Lib.hid (by rw [HB2.out, if_pos rfl])
  clear HB2
  have HMk : Hid (∀ W, Kept NoB w3 W → Calls Tryz.prog 10 #[.pointer (some ⟨f, 0, none⟩), .int .i64 P.dir, .string (strB P.last), .agg (nvC (nodeE E)).toArray] W fun e w' => e = .returned (.tuple #[.int .i64 (makeP C1 P.dir P.last (nodeE E)).2.1, .int .i64 (makeP C1 P.dir P.last (nodeE E)).2.2]) ∧ Turn S w1 w' f (makeP C1 P.dir P.last (nodeE E)).1) := Lib.hid (fun W hW =>
    (make_any (HT3.out.1.keptNo hW) P.dir HP.out.dir P.last (by have := HP.out.last; omega) (nodeE E) HE.out.time (by have := HTc.out.2.2; omega)).mono fun e w' ⟨e1, e2⟩ => ⟨e1, HT3.out.next hW e2⟩)
  have HTm := Lib.hid (HTc.out.trans (tame_make C1 P.dir P.last (nodeE E)))
  have HOm := Lib.hid (make_okI HT3.out.ok (by have := HTc.out.2.2; omega) P.dir P.last (nodeE E))
  obtain ⟨M, hM⟩ : ∃ M, M = makeP C1 P.dir P.last (nodeE E) := ⟨_, rfl⟩
  rw [← hM] at HMk HTm HOm HF
  obtain ⟨M0, M1, M2⟩ := M
  dsimp only at HMk HTm HOm
  clear hM
  go_upto_region 4 with fail
  go_region_held3 (fun W => W.cell? ⟨p, 0, none⟩ = some (.pointer (some ⟨f, 0, none⟩)) ∧ W.cell? ⟨p, 1, none⟩ = some (.int .i64 P.dir) ∧ W.cell? ⟨p, 2, none⟩ = some (.string (strB P.last)) ∧ W.cell? ⟨w.heap.size, 0, none⟩ = some (.int .i64 E.kind) ∧ W.cell? ⟨w.heap.size, 1, none⟩ = some (.string (strB E.name)) ∧ W.cell? ⟨w.heap.size, 2, none⟩ = some (.string (strB E.link)) ∧ W.cell? ⟨w.heap.size, 3, none⟩ = some (.int .i64 E.mode) ∧ W.cell? ⟨w.heap.size, 4, none⟩ = some (.int .i64 E.user) ∧ W.cell? ⟨w.heap.size, 5, none⟩ = some (.int .i64 E.group) ∧ W.cell? ⟨w.heap.size, 6, none⟩ = some (.int .i64 E.time) ∧ W.cell? ⟨w.heap.size, 7, none⟩ = some (.int .i64 E.major) ∧ W.cell? ⟨w.heap.size, 8, none⟩ = some (.int .i64 E.minor) ∧ W.cell? ⟨w.heap.size, 9, none⟩ = some (.int .i64 E.size) ∧ W.cell? ⟨w.heap.size, 10, none⟩ = some (A) ∧ W.cell? ⟨w.heap.size, 11, none⟩ = some (B)) (first | exact HX2.out _ HT3.out.2 | exact HX2.out _ HT3.out.2.drew | exact HX2.out _ (HT3.out.2.trans (hk4.mono (fun k _ e => e.elim))) | exact HX2.out _ (HT3.out.2.drew.trans (hk4.mono (fun k _ e => e.elim))) | exact HX2.out _ ht5.2) ((first
    | (go_at_call 59; (with_reducible refine (HNode.out _).mono ?_); rintro e w4 ⟨rfl, hk4⟩)
    | (go_at_call 10; (with_reducible refine (HMk.out _ ((Kept.refl _ _).drew.trans hk4)).mono ?_); rintro e w5 ⟨rfl, ht5⟩)))
  have HT5 := Lib.hid ht5
  clear ht5 hk4 HMk HNode
  obtain ⟨y0, _, _, x0, _, _, _, _, _, _, _, _, x9, x10, _⟩ := HX2.out _ HT5.out.2
  by_cases hm0 : M2 = 0
  rotate_left
  · have hm2 : (M2 != 0) = true := by simpa using hm0
    have HF2 : Hid (C = (M0, M2)) := Lib.hid (by rw [HF.out]; unfold putOtherQ; rw [if_neg (fun e => hm0 e.1)])
    clear hm0 HF
    go_wp2
    go_ret
    exact ⟨by rw [HF2.out]; rfl, by rw [HF2.out]; exact Turn.pre HK.out HT5.out⟩
  subst hm0
  by_cases hk1 : E.kind = 1
  rotate_left
  · have hk2 : (E.kind != 1) = true := by simpa using hk1
    have HF2 : Hid (C = (M0, 0)) := Lib.hid (by rw [HF.out]; unfold putOtherQ; rw [if_neg (fun e => hk1 e.2)])
    clear hk1 HF
    go_wp2
    go_ret
    exact ⟨by rw [HF2.out]; rfl, by rw [HF2.out]; exact Turn.pre HK.out HT5.out⟩
  have HF2 : Hid (C = fillP M0 M1 E) := Lib.hid (by rw [HF.out]; unfold putOtherQ; rw [if_pos ⟨rfl, hk1⟩])
  have hk2 : (E.kind != 1) = false := by simpa using hk1
  clear hk1 HF
  have HGr : Hid (∀ W, Kept NoB w5 W → Calls Tryz.prog 61 #[.pointer (some ⟨f, 0, none⟩), .int .i64 M1, .int .i64 E.size] W fun e w' => e = .returned (.int .i64 (growP M0 M1 E.size).2) ∧ Turn S w1 w' f (growP M0 M1 E.size).1) := Lib.hid (fun W hW =>
    (grow_any (HT5.out.1.keptNo hW) M1 HOm.out E.size HE.out.size (by have := HTm.out.2.2; omega) (by have := HTm.out.1; omega)).mono fun e w' ⟨e1, e2⟩ => ⟨e1, HT5.out.next hW e2⟩)
  have HTg := Lib.hid (HTm.out.trans (tame_grow M0 M1 E.size))
  have HFg : Hid (C = if (growP M0 M1 E.size).2 = 0 then writesP (growP M0 M1 E.size).1 M1 E.pcs else growP M0 M1 E.size) := Lib.hid (by rw [HF2.out]; rfl)
  clear HF2
  obtain ⟨G, hG⟩ : ∃ G, G = growP M0 M1 E.size := ⟨_, rfl⟩
  rw [← hG] at HGr HTg HFg
  obtain ⟨G1, G2⟩ := G
  dsimp only at HGr HTg HFg
  clear hG
  go_upto_region 7 with fail
  go_region_held3 (fun W => W.cell? ⟨p, 0, none⟩ = some (.pointer (some ⟨f, 0, none⟩)) ∧ W.cell? ⟨w.heap.size, 9, none⟩ = some (.int .i64 E.size)) (first | exact ⟨y0, x9⟩ | exact ⟨(HX2.out _ HT5.out.2.drew).1, (HX2.out _ HT5.out.2.drew).2.2.2.2.2.2.2.2.2.2.2.2.1⟩ | exact ⟨(HX2.out _ ht6.2).1, (HX2.out _ ht6.2).2.2.2.2.2.2.2.2.2.2.2.2.1⟩) ((first
    | (go_at_call 61; (with_reducible refine (HGr.out _ (Kept.refl _ _).drew).mono ?_); rintro e w6 ⟨rfl, ht6⟩)))
  have HT6 := Lib.hid ht6
  clear ht6 HGr y0 x0 x9 x10
  by_cases hg0 : G2 = 0
  rotate_left
  · have hg2 : (G2 != 0) = true := by simpa using hg0
    have HF : Hid (C = (G1, G2)) := Lib.hid (by rw [HFg.out, if_neg hg0])
    clear hg0 HFg
    go_wp2
    go_ret
    exact ⟨by rw [HF.out]; rfl, by rw [HF.out]; exact Turn.pre HK.out HT6.out⟩
  subst hg0
  have HF : Hid (C = writesP G1 M1 E.pcs) := Lib.hid (by rw [HFg.out, if_pos rfl])
  clear HFg
  obtain ⟨n, hnn⟩ : ∃ n, n = E.pcs.length := ⟨_, rfl⟩
  have x10 : w6.cell? ⟨w.heap.size, 10, none⟩ = some (.slice pa n pc) := by
    rw [hnn, ← HA.out]
    exact (HX2.out _ HT6.out.2).2.2.2.2.2.2.2.2.2.2.2.2.2.1
  have HN := Lib.hid hnn
  have hn2 : n ≤ 1000 := by omega
  clear hn hnn
  go_upto_region 11 with fail
  go_loopw [10, 11, 57] (fun v10 v11 v57 wr => ∃ (i : Nat) (Ti : FsP), v57 = .int .i64 (i : Int) ∧ i ≤ n ∧ Hid (Turn S w1 wr f Ti) ∧ Hid (C = writesP Ti M1 (E.pcs.drop i)) ∧ Hid (Tame i G1 Ti)) (fun _ _ v57 _ => n - (intOf v57).toNat)
  case atStart => exact ⟨0, G1, rfl, by omega, HT6, Lib.hid HF.out, Lib.hid (Tame.refl G1)⟩
  case round =>
    obtain ⟨i, Ti, rfl, hi, HT, HC, HTi⟩ := hrel
    by_cases hlt : (i : Int) < n
    · have hin : i < E.pcs.length := by have := HN.out; omega
      have hdr := drop_getDp E.pcs i hin
      obtain ⟨q2, hq2⟩ : ∃ q, q = E.pcs.getD i (0, []) := ⟨_, rfl⟩
      have hqm : q2 ∈ E.pcs := by rw [hq2]; simp [List.getD, hin]
      have hqo := HQ.out q2 hqm
      have hRi := (RdA.grow (W := wr) (HR.out.kept HK.out (fun k _ e => e.elim))).kept HT.out.2 (fun k _ e => .inl e)
      obtain ⟨b, off, bo, bc, rfl, hbS, d0, d1, hrd, hno, hap, hl1, hl2⟩ := hRi i hin
      rw [← hq2] at hdr d0 d1 hrd hl1
      obtain ⟨z, hz⟩ : ∃ z, z = q2.1 := ⟨_, rfl⟩
      obtain ⟨k, hk⟩ : ∃ k, k = q2.2.length := ⟨_, rfl⟩
      rw [← hz] at d0
      rw [← hk] at d1 hl1
      obtain ⟨w7, hw7⟩ : ∃ w7, w7 = wr.alloc (.cells #[.int .i64 z, .slice bo k bc] 40) := ⟨_, rfl⟩
      have hk7 : Kept NoB wr w7 := by rw [hw7]; exact (Kept.refl NoB wr).alloc _
      have ob7 : w7.heap[wr.heap.size]? = some (.cells #[.int .i64 z, .slice bo k bc] 40 (0, 0)) := by rw [hw7]; exact heap_alloc_new _ _
      obtain ⟨q, hqb⟩ : ∃ q, q = wr.heap.size := ⟨_, rfl⟩
      rw [← hqb] at ob7
      have HWr : Hid (∀ W, Kept NoB w7 W → Calls Tryz.prog 11 #[.pointer (some ⟨f, 0, none⟩), .int .i64 M1, .int .i64 z, .slice bo k bc] W fun e w' => e = .returned (.int .i64 (writeP Ti M1 q2.1 q2.2).2) ∧ Kept (Grow S w1 wr) w7 w' ∧ Turn S w1 w' f (writeP Ti M1 q2.1 q2.2).1) := Lib.hid (fun W hW => by
        have hkW := hk7.trans hW
        rw [hz, hk]
        refine (write_all (HT.out.1.keptNo hkW) M1 HOm.out q2.1 hqo.1 q2.2 bo bc (hrd.keptNo hkW) (by rw [← hk]; exact hl1) hl2 hqo.2 (fun _ x hx e => (hap x hx).1 e) (by have := HTi.out.2.2; have := HTg.out.2.2; omega) (by have := HTi.out.1; have := HTg.out.1; omega)).mono fun e w' ⟨e1, e2⟩ => ⟨e1, (hW.mono (fun k _ e => e.elim)).trans e2.2, HT.out.next hkW e2⟩)
      have HXq : Hid (∀ W, Kept (Grow S w1 wr) w7 W → W.cell? ⟨p, 0, none⟩ = some (.pointer (some ⟨f, 0, none⟩)) ∧ W.cell? ⟨q, 0, none⟩ = some (.int .i64 z) ∧ W.cell? ⟨q, 1, none⟩ = some (.slice bo k bc)) := Lib.hid (fun W hW => by
        have hpl := HLt.out
        have hol := HOl.out
        have hps : ¬ Grow S w1 wr p := grow_not HPS.out (by omega)
        have hqs : ¬ Grow S w1 wr q := fun e => by
          have h9 := HT.out.2.size
          rcases e with e | e
          · have := HLow.out _ e; omega
          · have := e.2; omega
        obtain ⟨z0, _⟩ := HX2.out w7 (HT.out.2.trans (hk7.mono (fun k _ e => e.elim)))
        have zq := hW.obj ob7 hqs
        exact ⟨(World.cell?_of_block (a := ⟨p, 0, none⟩) (hW.block p (World.block_lt_of_cell? w7 _ z0) hps)).trans z0, by rw [obj_cell zq]; rfl, by rw [obj_cell zq]; rfl⟩)
      have HTw := Lib.hid (HTi.out.trans (tame_write Ti M1 q2.1 q2.2))
      have HC2 : Hid (C = if (writeP Ti M1 q2.1 q2.2).2 = 0 then writesP (writeP Ti M1 q2.1 q2.2).1 M1 (E.pcs.drop (i + 1)) else writeP Ti M1 q2.1 q2.2) := Lib.hid (by rw [HC.out, hdr]; rfl)
      obtain ⟨V, hV⟩ : ∃ V, V = writeP Ti M1 q2.1 q2.2 := ⟨_, rfl⟩
      rw [← hV] at HWr HTw HC2
      obtain ⟨V1, V2⟩ := V
      dsimp only at HWr HTw HC2
      have HW7 := Lib.hid hw7; have HKr := Lib.hid hk7; have HQb := Lib.hid hqb
      clear hV hdr hq2 hqm hqo hbS hno hap hl1 hz hk hw7 hk7 ob7 HC
      go_upto_region 13 with fail
      rw [← HW7.out, ← hqb]
      clear hqb d0 d1
      go_region_held3 (fun W => W.cell? ⟨p, 0, none⟩ = some (.pointer (some ⟨f, 0, none⟩)) ∧ W.cell? ⟨q, 0, none⟩ = some (.int .i64 z) ∧ W.cell? ⟨q, 1, none⟩ = some (.slice bo k bc)) (first | exact HXq.out _ (Kept.refl _ _) | exact HXq.out _ (Kept.refl _ _).drew | exact HXq.out _ hk8) ((first
        | (go_at_call 11; (with_reducible refine (HWr.out _ (Kept.refl _ _).drew).mono ?_); rintro e w8 ⟨rfl, hk8, ht8⟩)))
      have HT8 := Lib.hid ht8
      clear ht8 hk8 HWr HXq
      by_cases hv0 : V2 = 0
      · subst hv0
        have HC3 : Hid (C = writesP V1 M1 (E.pcs.drop (i + 1))) := Lib.hid (by rw [HC2.out, if_pos rfl])
        clear HC2
        go_wp2
        go_roundw
        case rel => exact ⟨i + 1, V1, by go_num, by omega, HT8, HC3, HTw⟩
        case measure => simp [intOf]; omega
      · have hv2 : (V2 != 0) = true := by simpa using hv0
        have HC3 : Hid (C = (V1, V2)) := Lib.hid (by rw [HC2.out, if_neg hv0])
        clear hv0 HC2
        go_wp2
        go_ret
        exact ⟨by rw [HC3.out]; rfl, by rw [HC3.out]; exact Turn.pre HK.out HT8.out⟩
    · have hin : i = n := by omega
      subst hin
      have HC3 : Hid (C = (Ti, 0)) := Lib.hid (by
        have h9 := HC.out
        rw [HN.out, List.drop_length] at h9
        exact h9)
      clear HC
      go_wp2
      go_ret
      exact ⟨by rw [HC3.out]; rfl, by rw [HC3.out]; exact Turn.pre HK.out HT.out⟩
end Go.Proofs.YtgbakogihkdddaaGreatDoor

namespace Go.Proofs.YtgbakogihkdddaaGreatDoor
open Go.RowKit Go.Shelf
set_option linter.unusedVariables false
set_option linter.unusedSimpArgs false
set_option maxRecDepth 20000

/-- What name.Parts tells, as it is read. -/
def PartsR (W : World) (l : List UInt8) (e : Ending) (w' : World) : Prop :=
  (partsOf l = none ∧ e = .returned (.tuple #[.slice none 0 0, .int .i64 9]) ∧ Kept NoB W w') ∨
  (∃ ps ao cap, partsOf l = some ps ∧ e = .returned (.tuple #[.slice ao ps.length cap, .int .i64 0]) ∧ ps.length ≤ cap ∧ RdS w' w'.heap.size ao ps ∧ (∀ x, ao = some x → W.heap.size ≤ x.block) ∧ Kept NoB W w')
theorem parts_any (l : List UInt8) (W : World) (hl : l.length ≤ 1000000) : Calls Tryz.prog 32 #[.string (strB l)] W (PartsR W l) := by
  refine (parts_calls l W hl).mono ?_
  rintro e w' (⟨h1, h2, h3⟩ | ⟨ps, ao, cap, h1, h2, h3, h4⟩)
  · exact .inl ⟨h1, h2, (Kept.refl NoB W).ofBelow h3⟩
  · refine .inr ⟨ps, ao, cap, h1, h2, ?_, own_readsS h3 rfl, ?_, (Kept.refl NoB W).ofBelow h4⟩
    · rcases h3.2 with ⟨q1, q2⟩ | ⟨g, c, cur, q1, q2, q3, q4, _⟩
      · omega
      · cases q1; exact q4
    · intro x hx
      subst hx
      exact (h3.lt x.block rfl).1
theorem parts_none {l : List UInt8} (h : partsOf l = none) (W : World) (hl : l.length ≤ 1000000) : Calls Tryz.prog 32 #[.string (strB l)] W fun e w' => e = .returned (.tuple #[.slice none 0 0, .int .i64 9]) ∧ Kept NoB W w' :=
  (parts_any l W hl).mono fun e w' hp => by
    rcases hp with ⟨_, h2, h3⟩ | ⟨ps, ao, cap, h1, _⟩
    · exact ⟨h2, h3⟩
    · rw [h] at h1; cases h1
theorem parts_some {l : List UInt8} {ps : List (List UInt8)} (h : partsOf l = some ps) (W : World) (hl : l.length ≤ 1000000) : Calls Tryz.prog 32 #[.string (strB l)] W fun e w' => ∃ ao cap, e = .returned (.tuple #[.slice ao ps.length cap, .int .i64 0]) ∧ ps.length ≤ cap ∧ Hid (RdS w' w'.heap.size ao ps ∧ (∀ x, ao = some x → W.heap.size ≤ x.block) ∧ Kept NoB W w') :=
  (parts_any l W hl).mono fun e w' hp => by
    rcases hp with ⟨h2, _⟩ | ⟨ps', ao, cap, h1, h2, h3, h4⟩
    · rw [h] at h2; cases h2
    · rw [h] at h1; cases h1
      exact ⟨ao, cap, h2, h3, Lib.hid h4⟩
theorem parts_split (p : List UInt8) (r : List (List UInt8)) : p :: r = (p :: r).dropLast ++ [(p :: r).getLastD []] := by
  have h := List.dropLast_concat_getLast (l := p :: r) (by simp)
  have e : (p :: r).getLastD [] = (p :: r).getLast (by simp) := by rw [List.getLastD_eq_getLast?, List.getLast?_eq_some_getLast (by simp)]; rfl
  rw [e, h]
theorem okE_pcsL {E : EntV} (h : okE E = true) : ∀ q ∈ E.pcs, q.2.length ≤ 1099511627776 := by
  simp only [okE, Bool.and_eq_true] at h
  have h2 := h.2
  unfold okFi at h2
  split at h2
  · simp only [okS, Bool.and_eq_true, decide_eq_true_eq] at h2
    have key : ∀ (l : List Pc) (fr : Int), 0 ≤ fr → okG E.size fr l = true → ∀ q ∈ l, (q.2.length : Int) ≤ E.size := by
      intro l
      induction l with
      | nil => intro fr _ _ q hq; cases hq
      | cons a t ih =>
        intro fr h0 hg q hq
        simp only [okG, Bool.and_eq_true, decide_eq_true_eq] at hg
        rcases List.mem_cons.1 hq with e | e
        · subst e; have := hg.1.2; have := hg.1.1.2; omega
        · exact ih _ (by have := hg.1.1.2; omega) hg.2 q e
    intro q hq
    have := key E.pcs 0 (by decide) h2.2 q hq
    have := h2.1.1.2
    omega
  · simp only [Bool.and_eq_true, List.isEmpty_iff] at h2
    rw [h2.2]
    intro q hq; cases hq
theorem okE_name {E : EntV} (h : okE E = true) : E.name.length ≤ 4096 ∧ (E.kind = 2 → E.link.length ≤ 4096) := by
  simp only [okE, okTxs, okTx, Bool.and_eq_true, decide_eq_true_eq] at h
  refine ⟨by have := h.1.1.1.1.2.1; omega, fun h2 => ?_⟩
  have h3 := h.1.1.2
  rw [if_pos (by rw [h2]; rfl)] at h3
  simp only [Bool.and_eq_true, decide_eq_true_eq] at h3
  have := h3.2.1
  omega
/-- Of where an entry goes: a place, or an error. -/
theorem spot_cases (T : FsP) (dir : Int) (pre : List (List UInt8)) (last : List UInt8) : (∃ P, (spotP T dir pre last).2 = (some P, 0)) ∨ (∃ e, e ≠ 0 ∧ (spotP T dir pre last).2 = (none, e)) := by
  unfold spotP
  split
  · unfold spotAt
    dsimp only
    split
    · exact .inl ⟨_, rfl⟩
    · split
      · exact .inl ⟨_, rfl⟩
      · rename_i h
        exact .inr ⟨_, h, rfl⟩
  · rename_i h
    exact .inr ⟨_, h, rfl⟩
theorem linkP2_none {E : EntV} (hk : E.kind = 2) (h : partsOf E.link = none ∨ partsOf E.link = some []) : linkP2 E = none := by
  unfold linkP2
  rw [if_pos hk]
  rcases h with h | h <;> rw [h]
theorem linkP2_some {E : EntV} (hk : E.kind = 2) {a : List UInt8} {r : List (List UInt8)} (h : partsOf E.link = some (a :: r)) : linkP2 E = some (a :: r) := by
  unfold linkP2
  rw [if_pos hk, h]
set_option maxHeartbeats 8000000 in
theorem one_any {S : Nat → Prop} {w : World} {f : Nat} {T : FsP} (h : FsSt S w f T) (hlow : ∀ k, S k → k < w.heap.size) (dir : Int) (hdir : okI dir) (E : EntV) (hE : EntI E) (pa : Option Addr) (pc : Nat) (na : Option Addr) (nc : Nat) (hr : RdA S w pa E.pcs) (hi : IntP E.pcs) (hpc : E.pcs.length ≤ pc) (hpm : pc ≤ maxLen)
    (hclk : T.clock + 10000 ≤ 4611686018427387904) (hquo : T.quota ≤ 4611686018427387904) :
    Calls Tryz.prog 13 #[.pointer (some ⟨f, 0, none⟩), .int .i64 dir, .agg (entC E (.slice pa E.pcs.length pc) (.slice na 0 nc)).toArray] w fun e w' => e = .returned (.int .i64 (oneP T dir E).2) ∧ Turn S w w' f (oneP T dir E).1 := by
  obtain ⟨A, hA⟩ : ∃ A : Value, A = .slice pa E.pcs.length pc := ⟨_, rfl⟩
  obtain ⟨B, hB⟩ : ∃ B : Value, B = .slice na 0 nc := ⟨_, rfl⟩
  rw [← hA, ← hB]
  obtain ⟨w1, hw1, hob, hk1⟩ := ent_boxed E A B w
  obtain ⟨C, hC⟩ : ∃ C, C = oneP T dir E := ⟨_, rfl⟩
  rw [← hC]
  have hER : EntR w1 E pa pc := ⟨(hr.kept hk1 (fun k _ e => e.elim)).rd, hi, hpc, hpm, hE.size⟩
  have HOk : Hid (Calls Tryz.prog 31 #[.agg (entC E A B).toArray] w1 fun e w' => e = .returned (.bool (okE E)) ∧ Kept NoB w1 w') := Lib.hid (by rw [hA, hB]; exact entOk_any E pa pc na nc w1 hER hE.name hE.link)
  have HC := Lib.hid hC; have HW := Lib.hid hw1; have HK := Lib.hid hk1; have HO := Lib.hid hob; have H := Lib.hid h; have HLow := Lib.hid hlow; have HE := Lib.hid hE; have HR := Lib.hid hr; have HI := Lib.hid hi; have HA := Lib.hid hA; have HB := Lib.hid hB
  have HOl : Hid (w.heap.size < w1.heap.size) := Lib.hid (obj_lt hob)
  have HOb : Hid (∀ W, Kept S w1 W → W.heap[w.heap.size]? = some (.cells (entC E A B).toArray 38 (0, 0))) := Lib.hid (fun W hW => hW.obj hob (fun e => by have := hlow _ e; omega))
  clear h hlow hE hr hi hA hB hw1 hob hk1 hC hER hpc hpm
  go_enter Tryz.func13, Tryz.ntmps13
  go_upto_region 1 with fail
  rw [← HW.out]
  obtain ⟨ok, hok⟩ : ∃ b, b = okE E := ⟨_, rfl⟩
  rw [← hok] at HOk
  cases ok
  · have HF : Hid (C = (T, 1)) := Lib.hid (by rw [HC.out]; unfold oneP; rw [if_neg (by rw [← hok]; decide)])
    clear HC hok
    go_wp2_with (first | (refine load_rowE (by rfl) (.tmp 5) rfl w.heap.size rfl E A B HO.out ?_) | (go_at_call 31; refine HOk.out.mono ?_; rintro e w2 ⟨rfl, hk2⟩))
    go_ret
    exact ⟨by rw [HF.out]; rfl, by rw [HF.out]; exact (Turn.nil H.out).kept (HK.out.trans hk2)⟩
  have HOkE : Hid (okE E = true) := Lib.hid hok.symm
  have HC1 : Hid (C = match partsOf E.name with | none => (T, 9) | some ps => match linkP2 E with | none => (T, 9) | some lk => partQ T dir E lk ps) := Lib.hid (by rw [HC.out]; unfold oneP; rw [if_pos HOkE.out]; rfl)
  clear HC hok
  go_upto_region 3 with (first | (refine load_rowE (by rfl) (.tmp 5) rfl w.heap.size rfl E A B HO.out ?_) | (go_at_call 31; refine HOk.out.mono ?_; rintro e w2 ⟨rfl, hk2⟩))
  have HK2 := Lib.hid hk2
  have hnm := (okE_name HOkE.out).1
  have ho2 := hk2.obj HO.out id
  have x1 : w2.cell? ⟨w.heap.size, 1, none⟩ = some (.string (strB E.name)) := by rw [obj_cell ho2]; rfl
  have HNm := Lib.hid hnm
  clear hk2 ho2 HOk hnm
  cases hps : partsOf E.name with
  | none =>
    have HPt := Lib.hid (parts_none hps w2 (by have := HNm.out; omega))
    have HF : Hid (C = (T, 9)) := Lib.hid (by rw [HC1.out, hps])
    clear HC1 hps
    go_wp2_with (go_at_call 32; refine HPt.out.mono ?_; rintro e w3 ⟨rfl, hk3⟩)
    go_ret
    exact ⟨by rw [HF.out]; rfl, by rw [HF.out]; exact (Turn.nil H.out).kept ((HK.out.trans HK2.out).trans hk3)⟩
  | some ps =>
  have HPt := Lib.hid (parts_some hps w2 (by have := HNm.out; omega))
  have HC2 : Hid (C = match linkP2 E with | none => (T, 9) | some lk => partQ T dir E lk ps) := Lib.hid (by rw [HC1.out, hps])
  have HPf := Lib.hid (parts_few hps)
  clear HC1 hps
  go_upto_region 6 with (go_at_call 32; refine HPt.out.mono ?_; rintro e w3 ⟨ao, cap, rfl, hcp, hrs⟩)
  have HPs := hrs
  clear HPt hrs x1
  have HK3 := Lib.hid ((HK2.out.trans HPs.out.2.2))
  have ho3 := HK3.out.obj HO.out id
  have x0 : w3.cell? ⟨w.heap.size, 0, none⟩ = some (.int .i64 E.kind) := by rw [obj_cell ho3]; rfl
  have x2 : w3.cell? ⟨w.heap.size, 2, none⟩ = some (.string (strB E.link)) := by rw [obj_cell ho3]; rfl
  clear ho3
  by_cases hk : E.kind = 2
  · have e2 : (E.kind == 2) = true := by simpa using hk
    have hlk : E.link.length ≤ 4096 := (okE_name HOkE.out).2 hk
    cases hls : partsOf E.link with
    | none =>
      have HPl := Lib.hid (parts_none hls w3 (by omega))
      have HF : Hid (C = (T, 9)) := Lib.hid (by rw [HC2.out, linkP2_none hk (.inl hls)])
      clear HC2 hls hk
      go_wp2_with (go_at_call 32; refine HPl.out.mono ?_; rintro e w4 ⟨rfl, hk4⟩)
      go_ret
      exact ⟨by rw [HF.out]; rfl, by rw [HF.out]; exact (Turn.nil H.out).kept ((HK.out.trans HK3.out).trans hk4)⟩
    | some lk =>
    have HPl := Lib.hid (parts_some hls w3 (by omega))
    cases lk with
    | nil =>
      have HF : Hid (C = (T, 9)) := Lib.hid (by rw [HC2.out, linkP2_none hk (.inr hls)])
      clear HC2 hls hk
      go_wp2_with (go_at_call 32; refine HPl.out.mono ?_; rintro e w4 ⟨lo, lc, rfl, hlc, hlr⟩)
      go_ret
      exact ⟨by rw [HF.out]; rfl, by rw [HF.out]; exact (Turn.nil H.out).kept ((HK.out.trans HK3.out).trans hlr.out.2.2)⟩
    | cons l0 lr =>
    have HLe := Lib.hid (linkP2_some hk hls)
    have HLf := Lib.hid (parts_few hls)
    have hlz : (((l0 :: lr).length : Int) == 0) = false := by simp; omega
    obtain ⟨lk, hlk2⟩ : ∃ lk, lk = l0 :: lr := ⟨_, rfl⟩
    rw [← hlk2] at HPl HLe HLf hlz
    clear hlk2 hls
    go_upto_region 11 with (go_at_call 32; refine HPl.out.mono ?_; rintro e w4 ⟨lo, lc, rfl, hlc, hlr⟩)
    have HC3 : Hid (C = partQ T dir E lk ps) := Lib.hid (by rw [HC2.out, HLe.out])
    have HK4 := Lib.hid (HK3.out.trans hlr.out.2.2)
    clear HC2 HPl x0 x2 hlk
    have HKw := Lib.hid (HK.out.trans HK4.out)
    have how := HK4.out.obj HO.out id
    have HOw := Lib.hid how
    clear how
    have HTop := Lib.hid (setTop_any (H.out.keptNo HKw.out) dir hdir E HE.out A B (by omega))
    cases ps with
    | nil =>
      have HF : Hid (C = topP T dir E) := Lib.hid (by rw [HC3.out]; rfl)
      clear HC3
      go_wp2_with (first | (refine load_rowE (by rfl) (.tmp 5) rfl w.heap.size rfl E A B HOw.out ?_) | (go_at_call 33; refine HTop.out.mono ?_; rintro e w6 ⟨rfl, ht6⟩))
      go_ret
      exact ⟨by rw [HF.out]; rfl, by rw [HF.out]; exact Turn.pre HKw.out ht6⟩
    | cons p0 r0 =>
    have hpl : (((p0 :: r0).length : Int) == 0) = false := by simp; omega
    have HSp := Lib.hid (parts_split p0 r0)
    obtain ⟨pre, hpre⟩ : ∃ pre, pre = (p0 :: r0).dropLast := ⟨_, rfl⟩
    obtain ⟨last, hlast⟩ : ∃ last, last = (p0 :: r0).getLastD [] := ⟨_, rfl⟩
    have HC4 : Hid (C = spotQ (spotP T dir pre last) dir E lk) := Lib.hid (by rw [HC3.out, hpre, hlast]; rfl)
    rw [← hpre, ← hlast] at HSp
    obtain ⟨ps, hpse⟩ : ∃ ps, ps = p0 :: r0 := ⟨_, rfl⟩
    rw [← hpse] at hpl HSp HPs HPf hcp ⊢
    have hnl : ps.length = pre.length + 1 := by rw [HSp.out]; simp
    have HPO := Lib.hid (placeOf_any (H.out.keptNo HKw.out) (fun k e => Nat.lt_of_lt_of_le (HLow.out k e) HKw.out.size) dir hdir pre last ao cap w3.heap.size ps.length (by rw [← HSp.out]; exact HPs.out.1.keptNo hlr.out.2.2) hnl hcp (by rw [← HSp.out]; exact fun q hq => (HPf.out.2 q hq).1) HPf.out.1 (fun x hx e => by
      have q1 := HPs.out.2.1 x hx
      have q2 := HLow.out _ e
      have q3 := HK2.out.size
      have q4 := HOl.out
      omega) (by omega))
    have HTw : Hid (Tame 5000 T (spotP T dir pre last).1) := Lib.hid (by
      rw [spot_fst]
      exact (tame_way pre T dir).mono (by have := HPf.out.1; omega))
    have hcs := spot_cases T dir pre last
    obtain ⟨X, hX⟩ : ∃ X, X = spotP T dir pre last := ⟨_, rfl⟩
    rw [← hX] at HPO HTw HC4 hcs
    obtain ⟨X1, X2⟩ := X
    dsimp only at HPO HTw hcs
    clear hX hpre hlast hpse HC3 hnl HTop
    rcases hcs with ⟨P, rfl⟩ | ⟨er, her, rfl⟩
    rotate_left
    · have her2 : (er != 0) = true := by simpa using her
      have HF : Hid (C = (X1, er)) := Lib.hid (by rw [HC4.out]; rfl)
      have HZ := Lib.hid (sp_one none noSpot)
      have HPO2 : Hid (Calls Tryz.prog 34 #[.pointer (some ⟨f, 0, none⟩), .int .i64 dir, .slice ao ps.length cap] w4 fun e w' => e = .returned (.tuple #[.agg (spC none noSpot).toArray, .int .i64 er]) ∧ Turn S w4 w' f X1) := Lib.hid (HPO.out.mono fun e w' ⟨q1, q2, q3⟩ => ⟨q1, q3⟩)
      clear HPO HC4 her
      go_upto_region 14 with (first | (go_at_call 34; refine HPO2.out.mono ?_; rintro e w6 ⟨rfl, ht6⟩) | (refine wpList_store_row rfl 81 (.tmp 10) (.tmp 51) rfl w6.heap.size (spC none noSpot).toArray rfl rfl _ _ (heap_alloc_new _ _) infoPl rfl HZ.out ?_))
      go_wp2
      go_ret
      exact ⟨by rw [HF.out]; rfl, by rw [HF.out]; exact (Turn.pre HKw.out ht6).kept (((Kept.refl NoB _).alloc _).setRow (.inr (Nat.le_refl _)) _)⟩
    have HF : Hid (C = putP3 X1 dir P E lk) := Lib.hid (by rw [HC4.out]; rfl)
    have HZ := Lib.hid (sp_one (some f) P)
    have HPO2 : Hid (Calls Tryz.prog 34 #[.pointer (some ⟨f, 0, none⟩), .int .i64 dir, .slice ao ps.length cap] w4 fun e w' => e = .returned (.tuple #[.agg (spC (some f) P).toArray, .int .i64 0]) ∧ OkS X1 P ∧ Turn S w4 w' f X1) := Lib.hid (HPO.out.mono fun e w' ⟨q1, q2, q3⟩ => ⟨q1, q2 P rfl, q3⟩)
    clear HPO HC4
    go_upto_region 14 with (first | (go_at_call 34; refine HPO2.out.mono ?_; rintro e w6 ⟨rfl, hos, ht6⟩) | (refine wpList_store_row rfl 81 (.tmp 10) (.tmp 51) rfl w6.heap.size (spC (some f) P).toArray rfl rfl _ _ (heap_alloc_new _ _) infoPl rfl HZ.out ?_))
    obtain ⟨w7, hw7⟩ : ∃ w7, w7 = (w6.alloc (.cells #[.pointer none, .int .i64 0, .string { data := #[] }, .int .i64 0, .bool false, .bool false] 81)).setRow w6.heap.size (spC (some f) P).toArray := ⟨_, rfl⟩
    rw [← hw7]
    have hk7 : Kept NoB w6 w7 := by rw [hw7]; exact ((Kept.refl NoB w6).alloc _).setRow (.inr (Nat.le_refl _)) _
    have ob7 : w7.heap[w6.heap.size]? = some (.cells (spC (some f) P).toArray 81 (0, 0)) := by rw [hw7]; exact setRow_heap _ _ _ _ _ _ (heap_alloc_new _ _)
    obtain ⟨b, hb⟩ : ∃ b, b = w6.heap.size := ⟨_, rfl⟩
    rw [← hb] at ob7 ⊢
    have HLw : Hid (∀ k, Grow S w4 w6 k → k < w7.heap.size) := Lib.hid (fun k e => by
      have q1 := hk7.size
      have q2 := ht6.2.size
      rcases e with e | e
      · have := HLow.out k e; have := HKw.out.size; omega
      · have := e.2; omega)
    have HbS : Hid (¬ Grow S w4 w6 b) := Lib.hid (fun e => by
      have q2 := ht6.2.size
      rcases e with e | e
      · have := HLow.out b e; have := HKw.out.size; omega
      · have := e.2; omega)
    have hoe7 := HOb.out w7 (((HK4.out.mono (fun k _ e => e.elim)).trans ht6.2).trans (hk7.mono (fun k _ e => e.elim)))
    have z0 : w7.cell? ⟨w.heap.size, 0, none⟩ = some (.int .i64 E.kind) := by rw [obj_cell hoe7]; rfl
    have HOe := Lib.hid hoe7; have HB7 := Lib.hid ob7; have HT6 := Lib.hid ht6; have HOs := Lib.hid hos; have HK7 := Lib.hid hk7
    have HFs : Hid (FsSt (Grow S w4 w6) w7 f X1) := Lib.hid (ht6.1.keptNo hk7)
    have HEnd : Hid (∀ (T' : FsP) (W' : World), Turn (Grow S w4 w6) w7 W' f T' → Turn S w W' f T') := Lib.hid (fun T' W' ht => Turn.pre HKw.out (ht6.next hk7 ht))
    clear hw7 hk7 ob7 hb ht6 hos hoe7 HPO2
    have HPn := Lib.hid (putName_any HFs.out HLw.out HB7.out HbS.out HOs.out dir hdir lk lo lc w4.heap.size ((hlr.out.1.keptX HT6.out.2 (fun x hx e => by
      have q1 := hlr.out.2.1 x hx
      have q2 := HLow.out _ e
      have q3 := HK3.out.size
      have q4 := HOl.out
      omega)).keptNo HK7.out) (fun q hq => (HLf.out.2 q hq).1) HLf.out.1 (by have := HTw.out.2.2; omega))
    have HF2 : Hid (C = putNameP X1 P dir lk) := Lib.hid (by rw [HF.out]; unfold putP3; rw [hk]; rfl)
    have e6 : (E.kind == 6) = false := by rw [hk]; rfl
    have e8 : (E.kind == 8) = false := by rw [hk]; rfl
    go_wp2_with (go_at_call 36; refine HPn.out.mono ?_; rintro e w8 ⟨rfl, ht8⟩)
    go_ret
    exact ⟨by rw [HF2.out]; rfl, by rw [HF2.out]; exact HEnd.out _ _ ht8⟩
  · have e2 : (E.kind == 2) = false := by simpa using hk
    have HC3 : Hid (C = partQ T dir E [] ps) := Lib.hid (by rw [HC2.out]; unfold linkP2; rw [if_neg hk])
    clear HC2
    go_upto_region 11 with fail
    clear x0 x2
    have HKw := Lib.hid (HK.out.trans HK3.out)
    have how := HK3.out.obj HO.out id
    have HOw := Lib.hid how
    clear how
    have HTop := Lib.hid (setTop_any (H.out.keptNo HKw.out) dir hdir E HE.out A B (by omega))
    cases ps with
    | nil =>
      have HF : Hid (C = topP T dir E) := Lib.hid (by rw [HC3.out]; rfl)
      clear HC3
      go_wp2_with (first | (refine load_rowE (by rfl) (.tmp 5) rfl w.heap.size rfl E A B HOw.out ?_) | (go_at_call 33; refine HTop.out.mono ?_; rintro e w6 ⟨rfl, ht6⟩))
      go_ret
      exact ⟨by rw [HF.out]; rfl, by rw [HF.out]; exact Turn.pre HKw.out ht6⟩
    | cons p0 r0 =>
    have hpl : (((p0 :: r0).length : Int) == 0) = false := by simp; omega
    have HSp := Lib.hid (parts_split p0 r0)
    obtain ⟨pre, hpre⟩ : ∃ pre, pre = (p0 :: r0).dropLast := ⟨_, rfl⟩
    obtain ⟨last, hlast⟩ : ∃ last, last = (p0 :: r0).getLastD [] := ⟨_, rfl⟩
    have HC4 : Hid (C = spotQ (spotP T dir pre last) dir E []) := Lib.hid (by rw [HC3.out, hpre, hlast]; rfl)
    rw [← hpre, ← hlast] at HSp
    obtain ⟨ps, hpse⟩ : ∃ ps, ps = p0 :: r0 := ⟨_, rfl⟩
    rw [← hpse] at hpl HSp HPs HPf hcp ⊢
    have hnl : ps.length = pre.length + 1 := by rw [HSp.out]; simp
    have HPO := Lib.hid (placeOf_any (H.out.keptNo HKw.out) (fun k e => Nat.lt_of_lt_of_le (HLow.out k e) HKw.out.size) dir hdir pre last ao cap w3.heap.size ps.length (by rw [← HSp.out]; exact HPs.out.1) hnl hcp (by rw [← HSp.out]; exact fun q hq => (HPf.out.2 q hq).1) HPf.out.1 (fun x hx e => by
      have q1 := HPs.out.2.1 x hx
      have q2 := HLow.out _ e
      have q3 := HK2.out.size
      have q4 := HOl.out
      omega) (by omega))
    have HTw : Hid (Tame 5000 T (spotP T dir pre last).1) := Lib.hid (by
      rw [spot_fst]
      exact (tame_way pre T dir).mono (by have := HPf.out.1; omega))
    have hcs := spot_cases T dir pre last
    obtain ⟨X, hX⟩ : ∃ X, X = spotP T dir pre last := ⟨_, rfl⟩
    rw [← hX] at HPO HTw HC4 hcs
    obtain ⟨X1, X2⟩ := X
    dsimp only at HPO HTw hcs
    clear hX hpre hlast hpse HC3 hnl HTop
    rcases hcs with ⟨P, rfl⟩ | ⟨er, her, rfl⟩
    rotate_left
    · have her2 : (er != 0) = true := by simpa using her
      have HF : Hid (C = (X1, er)) := Lib.hid (by rw [HC4.out]; rfl)
      have HZ := Lib.hid (sp_one none noSpot)
      have HPO2 : Hid (Calls Tryz.prog 34 #[.pointer (some ⟨f, 0, none⟩), .int .i64 dir, .slice ao ps.length cap] w3 fun e w' => e = .returned (.tuple #[.agg (spC none noSpot).toArray, .int .i64 er]) ∧ Turn S w3 w' f X1) := Lib.hid (HPO.out.mono fun e w' ⟨q1, q2, q3⟩ => ⟨q1, q3⟩)
      clear HPO HC4 her
      go_upto_region 14 with (first | (go_at_call 34; refine HPO2.out.mono ?_; rintro e w6 ⟨rfl, ht6⟩) | (refine wpList_store_row rfl 81 (.tmp 10) (.tmp 51) rfl w6.heap.size (spC none noSpot).toArray rfl rfl _ _ (heap_alloc_new _ _) infoPl rfl HZ.out ?_))
      go_wp2
      go_ret
      exact ⟨by rw [HF.out]; rfl, by rw [HF.out]; exact (Turn.pre HKw.out ht6).kept (((Kept.refl NoB _).alloc _).setRow (.inr (Nat.le_refl _)) _)⟩
    have HF : Hid (C = putP3 X1 dir P E []) := Lib.hid (by rw [HC4.out]; rfl)
    have HZ := Lib.hid (sp_one (some f) P)
    have HPO2 : Hid (Calls Tryz.prog 34 #[.pointer (some ⟨f, 0, none⟩), .int .i64 dir, .slice ao ps.length cap] w3 fun e w' => e = .returned (.tuple #[.agg (spC (some f) P).toArray, .int .i64 0]) ∧ OkS X1 P ∧ Turn S w3 w' f X1) := Lib.hid (HPO.out.mono fun e w' ⟨q1, q2, q3⟩ => ⟨q1, q2 P rfl, q3⟩)
    clear HPO HC4
    go_upto_region 14 with (first | (go_at_call 34; refine HPO2.out.mono ?_; rintro e w6 ⟨rfl, hos, ht6⟩) | (refine wpList_store_row rfl 81 (.tmp 10) (.tmp 51) rfl w6.heap.size (spC (some f) P).toArray rfl rfl _ _ (heap_alloc_new _ _) infoPl rfl HZ.out ?_))
    obtain ⟨w7, hw7⟩ : ∃ w7, w7 = (w6.alloc (.cells #[.pointer none, .int .i64 0, .string { data := #[] }, .int .i64 0, .bool false, .bool false] 81)).setRow w6.heap.size (spC (some f) P).toArray := ⟨_, rfl⟩
    rw [← hw7]
    have hk7 : Kept NoB w6 w7 := by rw [hw7]; exact ((Kept.refl NoB w6).alloc _).setRow (.inr (Nat.le_refl _)) _
    have ob7 : w7.heap[w6.heap.size]? = some (.cells (spC (some f) P).toArray 81 (0, 0)) := by rw [hw7]; exact setRow_heap _ _ _ _ _ _ (heap_alloc_new _ _)
    obtain ⟨b, hb⟩ : ∃ b, b = w6.heap.size := ⟨_, rfl⟩
    rw [← hb] at ob7 ⊢
    have HLw : Hid (∀ k, Grow S w3 w6 k → k < w7.heap.size) := Lib.hid (fun k e => by
      have q1 := hk7.size
      have q2 := ht6.2.size
      rcases e with e | e
      · have := HLow.out k e; have := HKw.out.size; omega
      · have := e.2; omega)
    have HbS : Hid (¬ Grow S w3 w6 b) := Lib.hid (fun e => by
      have q2 := ht6.2.size
      rcases e with e | e
      · have := HLow.out b e; have := HKw.out.size; omega
      · have := e.2; omega)
    have hoe7 := HOb.out w7 (((HK3.out.mono (fun k _ e => e.elim)).trans ht6.2).trans (hk7.mono (fun k _ e => e.elim)))
    have z0 : w7.cell? ⟨w.heap.size, 0, none⟩ = some (.int .i64 E.kind) := by rw [obj_cell hoe7]; rfl
    have HOe := Lib.hid hoe7; have HB7 := Lib.hid ob7; have HT6 := Lib.hid ht6; have HOs := Lib.hid hos; have HK7 := Lib.hid hk7
    have HFs : Hid (FsSt (Grow S w3 w6) w7 f X1) := Lib.hid (ht6.1.keptNo hk7)
    have HEnd : Hid (∀ (T' : FsP) (W' : World), Turn (Grow S w3 w6) w7 W' f T' → Turn S w W' f T') := Lib.hid (fun T' W' ht => Turn.pre HKw.out (ht6.next hk7 ht))
    clear hw7 hk7 ob7 hb ht6 hos hoe7 HPO2
    by_cases hd : dirK E.kind = true
    · have HF2 : Hid (C = putDirP X1 P E) := Lib.hid (by rw [HF.out]; unfold putP3; rw [if_pos hd])
      have HPd := Lib.hid (putDir_any HFs.out HLw.out HB7.out HbS.out HOs.out E HE.out A B (by have := HTw.out.2.2; omega))
      by_cases h6 : E.kind = 6
      · have e6 : (E.kind == 6) = true := by rw [h6]; rfl
        clear hk hd
        go_wp2_with (first | (refine load_rowE (by rfl) (.tmp 5) rfl w.heap.size rfl E A B HOe.out ?_) | (go_at_call 35; refine HPd.out.mono ?_; rintro e w8 ⟨rfl, ht8⟩))
        go_ret
        exact ⟨by rw [HF2.out]; rfl, by rw [HF2.out]; exact HEnd.out _ _ ht8⟩
      · have e6 : (E.kind == 6) = false := by simpa using h6
        have e8 : (E.kind == 8) = true := by unfold dirK at hd; rw [e6, Bool.false_or] at hd; exact hd
        clear hk hd h6
        go_wp2_with (first | (refine load_rowE (by rfl) (.tmp 5) rfl w.heap.size rfl E A B HOe.out ?_) | (go_at_call 35; refine HPd.out.mono ?_; rintro e w8 ⟨rfl, ht8⟩))
        go_ret
        exact ⟨by rw [HF2.out]; rfl, by rw [HF2.out]; exact HEnd.out _ _ ht8⟩
    · have HF2 : Hid (C = putOtherP X1 P E) := Lib.hid (by rw [HF.out]; unfold putP3; rw [if_neg hd, if_neg hk])
      have HPo : Hid (Calls Tryz.prog 37 #[.pointer (some ⟨b, 0, none⟩), .agg (entC E A B).toArray] w7 fun e w' => e = .returned (.int .i64 (putOtherP X1 P E).2) ∧ Turn (Grow S w3 w6) w7 w' f (putOtherP X1 P E).1) := Lib.hid (by
        rw [HA.out]
        exact putOther_any HFs.out HLw.out HB7.out HbS.out HOs.out E HE.out pa pc B (((RdA.grow (W := w6) (HR.out.kept HKw.out (fun k _ e => e.elim))).kept HT6.out.2 (fun k _ e => .inl e)).kept HK7.out (fun k _ e => e.elim)) (fun q hq => ⟨HI.out q hq, okE_pcsL HOkE.out q hq⟩) (okE_pcs HOkE.out) (by have := HTw.out.2.2; omega) (by have := HTw.out.1; omega))
      have e6 : (E.kind == 6) = false := by
        unfold dirK at hd
        cases h : (E.kind == 6)
        · rfl
        · rw [h] at hd; exact absurd rfl hd
      have e8 : (E.kind == 8) = false := by
        unfold dirK at hd
        cases h : (E.kind == 8)
        · rfl
        · rw [h, Bool.or_true] at hd; exact absurd rfl hd
      clear hk hd
      go_wp2_with (first | (refine load_rowE (by rfl) (.tmp 5) rfl w.heap.size rfl E A B HOe.out ?_) | (go_at_call 37; refine HPo.out.mono ?_; rintro e w8 ⟨rfl, ht8⟩))
      go_ret
      exact ⟨by rw [HF2.out]; rfl, by rw [HF2.out]; exact HEnd.out _ _ ht8⟩
end Go.Proofs.YtgbakogihkdddaaGreatDoor

namespace Go.Proofs
open Go.Shelf
def Tryz.keysI_ren : Go.Shelf.Ren := ⟨fun | 7 => 64 | 10 => 88 | n => n, fun | 23 => 111 | 26 => 3 | 3 => 38 | 28 => 115 | 0 => 0 | 27 => 114 | 33 => 101 | 4 => 4 | n => n, fun | n => n⟩
theorem Tryz.keysI : Go.Proofs.SlLaysZI.n7 Tryz.prog Tryz.keysI_ren := {
  mixed := by kernel_rfl
  f7 := ⟨Tryz.f64.name, by decide, Tryz.func64.trans (congrArg some (by kernel_rfl))⟩
  f10 := ⟨Tryz.f88.name, by decide, Tryz.func88.trans (congrArg some (by kernel_rfl))⟩
  t0 := Tryz.underlying0
  a0 := Tryz.isAgg0
  z0 := Tryz.sizeOf0
  v0 := Tryz.zeroValue0
  t4 := Tryz.underlying4
  a4 := Tryz.isAgg4
  z4 := Tryz.sizeOf4
  v4 := Tryz.zeroValue4
  t23 := Tryz.underlying111
  a23 := Tryz.isAgg111
  z23 := Tryz.sizeOf111
  v23 := Tryz.zeroValue111
  t26 := Tryz.underlying3
  a26 := Tryz.isAgg3
  z26 := Tryz.sizeOf3
  v26 := Tryz.zeroValue3
  t27 := Tryz.underlying114
  a27 := Tryz.isAgg114
  z27 := Tryz.sizeOf114
  v27 := Tryz.zeroValue114
  t28 := Tryz.underlying115
  a28 := Tryz.isAgg115
  z28 := Tryz.sizeOf115
  v28 := Tryz.zeroValue115
  t33 := Tryz.underlying101
  a33 := Tryz.isAgg101
  z33 := Tryz.sizeOf101
  v33 := Tryz.zeroValue101 }
def Tryz.sortedI_ren : Go.Shelf.Ren := ⟨fun | 6 => 63 | 8 => 86 | 9 => 87 | 11 => 101 | 13 => 91 | 12 => 102 | 23 => 112 | 24 => 113 | 14 => 124 | 15 => 125 | 16 => 126 | 17 => 127 | 18 => 128 | 19 => 129 | 20 => 130 | 21 => 131 | 22 => 132 | 25 => 143 | 26 => 134 | 27 => 135 | 28 => 144 | 29 => 145 | 30 => 146 | 31 => 148 | n => n, fun | 26 => 3 | 28 => 115 | 24 => 34 | 0 => 0 | 3 => 3 | 37 => 92 | 48 => 145 | 50 => 147 | 4 => 4 | 40 => 139 | 39 => 138 | 45 => 70 | 5 => 5 | 9 => 9 | 51 => 161 | 55 => 165 | 57 => 177 | 58 => 73 | 33 => 101 | n => n, fun | n => n⟩
theorem Tryz.sortedI : Go.Proofs.SlLaysZI.n6 Tryz.prog Tryz.sortedI_ren := {
  mixed := by kernel_rfl
  f6 := ⟨Tryz.f63.name, by decide, Tryz.func63.trans (congrArg some (by kernel_rfl))⟩
  f8 := ⟨Tryz.f86.name, by decide, Tryz.func86.trans (congrArg some (by kernel_rfl))⟩
  f11 := ⟨Tryz.f101.name, by decide, Tryz.func101.trans (congrArg some (by kernel_rfl))⟩
  t0 := Tryz.underlying0
  a0 := Tryz.isAgg0
  z0 := Tryz.sizeOf0
  v0 := Tryz.zeroValue0
  t24 := Tryz.underlying34
  a24 := Tryz.isAgg34
  z24 := Tryz.sizeOf34
  v24 := Tryz.zeroValue34
  t26 := Tryz.underlying3
  a26 := Tryz.isAgg3
  z26 := Tryz.sizeOf3
  v26 := Tryz.zeroValue3
  t28 := Tryz.underlying115
  a28 := Tryz.isAgg115
  z28 := Tryz.sizeOf115
  v28 := Tryz.zeroValue115
  i26 := by kernel_rfl }
def Tryz.sortI_ren : Go.Shelf.Ren := ⟨fun | 5 => 87 | 8 => 91 | 7 => 102 | 19 => 112 | 20 => 113 | 10 => 124 | 11 => 125 | 12 => 126 | 13 => 127 | 14 => 128 | 15 => 129 | 16 => 130 | 17 => 131 | 18 => 132 | 30 => 143 | 31 => 134 | 32 => 135 | 33 => 144 | 34 => 145 | 35 => 146 | 40 => 148 | n => n, fun | 23 => 34 | 25 => 3 | 3 => 3 | 32 => 92 | 22 => 34 | 0 => 0 | 44 => 145 | 46 => 147 | 4 => 4 | 36 => 139 | 35 => 138 | 41 => 70 | 5 => 5 | 9 => 9 | 53 => 161 | 57 => 165 | 63 => 177 | 64 => 73 | n => n, fun | n => n⟩
theorem Tryz.sortI : Go.Proofs.SlLaysM.n5 Tryz.prog Tryz.sortI_ren := {
  mixed := by kernel_rfl
  f5 := ⟨Tryz.f87.name, by decide, Tryz.func87.trans (congrArg some (by kernel_rfl))⟩
  f7 := ⟨Tryz.f102.name, by decide, Tryz.func102.trans (congrArg some (by kernel_rfl))⟩
  f8 := Tryz.func91.trans (congrArg some (by kernel_rfl))
  f10 := ⟨Tryz.f124.name, by decide, Tryz.func124.trans (congrArg some (by kernel_rfl))⟩
  f11 := ⟨Tryz.f125.name, by decide, Tryz.func125.trans (congrArg some (by kernel_rfl))⟩
  f12 := ⟨Tryz.f126.name, by decide, Tryz.func126.trans (congrArg some (by kernel_rfl))⟩
  f13 := ⟨Tryz.f127.name, by decide, Tryz.func127.trans (congrArg some (by kernel_rfl))⟩
  f14 := ⟨Tryz.f128.name, by decide, Tryz.func128.trans (congrArg some (by kernel_rfl))⟩
  f15 := ⟨Tryz.f129.name, by decide, Tryz.func129.trans (congrArg some (by kernel_rfl))⟩
  f16 := ⟨Tryz.f130.name, by decide, Tryz.func130.trans (congrArg some (by kernel_rfl))⟩
  f17 := ⟨Tryz.f131.name, by decide, Tryz.func131.trans (congrArg some (by kernel_rfl))⟩
  f18 := ⟨Tryz.f132.name, by decide, Tryz.func132.trans (congrArg some (by kernel_rfl))⟩
  f19 := Tryz.func112.trans (congrArg some (by kernel_rfl))
  f20 := Tryz.func113.trans (congrArg some (by kernel_rfl))
  f30 := ⟨Tryz.f143.name, by decide, Tryz.func143.trans (congrArg some (by kernel_rfl))⟩
  f31 := Tryz.func134.trans (congrArg some (by kernel_rfl))
  f32 := Tryz.func135.trans (congrArg some (by kernel_rfl))
  f33 := ⟨Tryz.f144.name, by decide, Tryz.func144.trans (congrArg some (by kernel_rfl))⟩
  f34 := ⟨Tryz.f145.name, by decide, Tryz.func145.trans (congrArg some (by kernel_rfl))⟩
  f35 := ⟨Tryz.f146.name, by decide, Tryz.func146.trans (congrArg some (by kernel_rfl))⟩
  f40 := ⟨Tryz.f148.name, by decide, Tryz.func148.trans (congrArg some (by kernel_rfl))⟩
  t0 := Tryz.underlying0
  a0 := Tryz.isAgg0
  z0 := Tryz.sizeOf0
  v0 := Tryz.zeroValue0
  t3 := Tryz.underlying3
  a3 := Tryz.isAgg3
  z3 := Tryz.sizeOf3
  v3 := Tryz.zeroValue3
  t4 := Tryz.underlying4
  a4 := Tryz.isAgg4
  z4 := Tryz.sizeOf4
  v4 := Tryz.zeroValue4
  t5 := Tryz.underlying5
  a5 := Tryz.isAgg5
  z5 := Tryz.sizeOf5
  v5 := Tryz.zeroValue5
  t9 := Tryz.underlying9
  a9 := Tryz.isAgg9
  z9 := Tryz.sizeOf9
  v9 := Tryz.zeroValue9
  t22 := Tryz.underlying34
  a22 := Tryz.isAgg34
  z22 := Tryz.sizeOf34
  v22 := Tryz.zeroValue34
  t23 := Tryz.underlying34
  a23 := Tryz.isAgg34
  z23 := Tryz.sizeOf34
  v23 := Tryz.zeroValue34
  t25 := Tryz.underlying3
  a25 := Tryz.isAgg3
  z25 := Tryz.sizeOf3
  v25 := Tryz.zeroValue3
  t32 := Tryz.underlying92
  a32 := Tryz.isAgg92
  z32 := Tryz.sizeOf92
  v32 := Tryz.zeroValue92
  t35 := Tryz.underlying138
  a35 := Tryz.isAgg138
  z35 := Tryz.sizeOf138
  v35 := Tryz.zeroValue138
  t36 := Tryz.underlying139
  a36 := Tryz.isAgg139
  z36 := Tryz.sizeOf139
  v36 := Tryz.zeroValue139
  t41 := Tryz.underlying70
  a41 := Tryz.isAgg70
  z41 := Tryz.sizeOf70
  v41 := Tryz.zeroValue70
  t44 := Tryz.underlying145
  a44 := Tryz.isAgg145
  z44 := Tryz.sizeOf145
  v44 := Tryz.zeroValue145
  t46 := Tryz.underlying147
  a46 := Tryz.isAgg147
  z46 := Tryz.sizeOf147
  v46 := Tryz.zeroValue147
  t53 := Tryz.underlying161
  a53 := Tryz.isAgg161
  z53 := Tryz.sizeOf161
  v53 := Tryz.zeroValue161
  t57 := Tryz.underlying165
  a57 := Tryz.isAgg165
  z57 := Tryz.sizeOf165
  v57 := Tryz.zeroValue165
  t63 := Tryz.underlying177
  a63 := Tryz.isAgg177
  z63 := Tryz.sizeOf177
  v63 := Tryz.zeroValue177
  t64 := Tryz.underlying73
  a64 := Tryz.isAgg73
  z64 := Tryz.sizeOf73
  v64 := Tryz.zeroValue73 }
end Go.Proofs

namespace Go.Proofs.YtgbakogihkdddaaGreatDoor
open Go.RowKit Go.Shelf
open Go.Maps (Keyed)
set_option linter.unusedVariables false
set_option linter.unusedSimpArgs false
set_option maxRecDepth 20000

def zeroEv : Value := .agg #[.int .i64 0, .string { data := #[] }, .string { data := #[] }, .int .i64 0, .int .i64 0, .int .i64 0, .int .i64 0, .int .i64 0, .int .i64 0, .int .i64 0, .slice none 0 0, .slice none 0 0]
open Classical in
/-- Which of some values it is. -/
noncomputable def codeV (vs : Nat → Value) (n : Nat) (v : Value) : Nat := if h : ∃ i, i < n ∧ vs i = v then Classical.choose h else n
open Classical in
noncomputable def codeR (vs : Nat → Value) (n : Nat) : Rdr := fun v => if v = zeroEv then some (.nil, []) else if codeV vs n v < n then some (.lit (.int .i64 (codeV vs n v : Nat)), []) else none
theorem codeV_lt {vs : Nat → Value} {n : Nat} {v : Value} (h : codeV vs n v < n) : vs (codeV vs n v) = v := by
  unfold codeV at h ⊢
  split
  · rename_i h1; exact (Classical.choose_spec h1).2
  · rename_i h1; rw [dif_neg h1] at h; omega
theorem codeV_at {vs : Nat → Value} {n i : Nat} (hi : i < n) : codeV vs n (vs i) < n ∧ vs (codeV vs n (vs i)) = vs i := by
  have h : ∃ j, j < n ∧ vs j = vs i := ⟨i, hi, rfl⟩
  have h1 : codeV vs n (vs i) < n := by
    unfold codeV
    rw [dif_pos h]
    exact (Classical.choose_spec h).1
  exact ⟨h1, codeV_lt h1⟩
theorem codeR_mk {vs : Nat → Value} {n i : Nat} (hi : i < n) (hz : vs i ≠ zeroEv) : codeR vs n (vs i) = some (.lit (.int .i64 (codeV vs n (vs i) : Nat)), []) := by
  unfold codeR
  rw [if_neg hz, if_pos (codeV_at hi).1]
theorem codeR_inv {vs : Nat → Value} {n i : Nat} (hi : i < n) {v : Value} {ps : List MemPlace} (h : codeR vs n v = some (.lit (.int .i64 (codeV vs n (vs i) : Nat)), ps)) : v = vs i := by
  classical
  unfold codeR at h
  split at h
  · cases h
  · split at h
    · rename_i h1 h2
      have e : codeV vs n v = codeV vs n (vs i) := by
        have := Option.some.inj h
        injection this with e1 e2
        injection e1 with e1
        injection e1 with e1 e3
        omega
      have h4 : vs (codeV vs n v) = v := codeV_lt h2
      rw [← h4, e]
      exact (codeV_at hi).2
    · cases h
noncomputable def sdF (vs : Nat → Value) (n : Nat) (S : Said) : Lit → Option Dt
  | .int .i64 k => (getS S k).map fun j => .lit (.int .i64 (codeV vs n (vs j) : Nat))
  | _ => none
theorem sdF_nil (vs : Nat → Value) (n : Nat) : sdF vs n [] = fun _ => none := by
  funext x
  cases x with
  | int q m => cases q <;> rfl
  | _ => rfl
theorem sdF_upd (vs : Nat → Value) (n : Nat) (S : Said) (k : Int) (j : Nat) : updF (sdF vs n S) (.int .i64 k) (.lit (.int .i64 (codeV vs n (vs j) : Nat))) = sdF vs n (putSaid S k j) := by
  funext l
  unfold updF
  by_cases h : l.sameKey (.int .i64 k) = true
  · have := WideAt.sameKey_eq h
    subst this
    rw [if_pos h]
    simp [sdF, getS_put]
  · rw [if_neg h]
    cases l with
    | int q m =>
      cases q <;> try rfl
      have : m ≠ k := fun e => h (by rw [e]; exact WideAt.sameKey_self trivial)
      simp [sdF, getS_put, this]
    | _ => rfl
/-- The map of what was said. -/
def SdAt (w : World) (mb : Nat) (vs : Nat → Value) (n : Nat) (S : Said) : Prop := MapF w Tryz.prog 3 (codeR vs n) mb (sdF vs n S) S.length
theorem sd_put {w : World} {mb : Nat} {vs : Nat → Value} {n : Nat} {S : Said} (h : SdAt w mb vs n S) (hS : OkSd S) (k : Int) (hk : okI k) (j : Nat) (hj : j < n) (hz : vs j ≠ zeroEv) (hc : S.length < maxLen) :
    ∃ w', (Instr.mapUpdate 111 (.map (some mb)) (.int .i64 k) (vs j)).run Tryz.prog w = .ok () w' ∧ SdAt w' mb vs n (putSaid S k j) ∧ Kept (OneB mb) w w' ∧ w'.heap.size = w.heap.size := by
  obtain ⟨w', hr, h1, h2⟩ := MapF.store h law_int Tryz.underlying111 hc (Maps.keyOf_int_mk Tryz.underlying3 (i64_wf hk)) (codeR_mk hj hz)
  refine ⟨w', hr, ?_, turned_kept h2, turned_size h2⟩
  rw [sdF_upd] at h1
  have e : (sdF vs n S (.int .i64 k)).isSome = (getS S k).isSome := by simp [sdF]
  rw [e, ← put_len S k j hS] at h1
  exact h1
theorem sd_at {w : World} {mb : Nat} {vs : Nat → Value} {n : Nat} {S : Said} (h : SdAt w mb vs n S) (k : Int) (hk : okI k) (j : Nat) (hj : j < n) (hg : getS S k = some j) :
    ∀ W, W.heap[mb]? = w.heap[mb]? → (Instr.lookup 111 (.map (some mb)) (.int .i64 k) false).run Tryz.prog W = .ok (vs j) W := by
  intro W hW
  have hm : SdAt W mb vs n S := MapF.heap h hW
  have hz : (zeroValue 38).run Tryz.prog W = .ok zeroEv W := by kernel_rfl
  have hzr : codeR vs n zeroEv = some (.nil, []) := by unfold codeR; rw [if_pos rfl]
  obtain ⟨v, ps, hr, hv⟩ := MapF.look hm law_int Tryz.underlying111 hz hzr (Maps.keyOf_int_mk Tryz.underlying3 (i64_wf hk))
  have e : sdF vs n S (.int .i64 k) = some (.lit (.int .i64 (codeV vs n (vs j) : Nat))) := by simp [sdF, hg]
  rw [e] at hv
  rw [hr, codeR_inv hj hv]
theorem sd_keys {w : World} {mb : Nat} {vs : Nat → Value} {n : Nat} {S : Said} (hS : OkSd S) {D : Dt} (ho : w.ownsMap Tryz.prog 3 (codeR vs n) mb S.length D) (hh : ∀ x, Maps.has D x = (sdF vs n S x).isSome) : (S.map Prod.fst).Perm (intKeys D) := by
  refine CollectedI.perm (left := fun _ => false) ⟨?_, fun x => ?_⟩ ho law_int Tryz.underlying3 (fun _ => rfl)
  · exact List.pairwise_map.2 (hS.imp (fun {p q} h => fun (e : p.1 = q.1) => by omega))
  · rw [hh]
    have e : (sdF vs n S (.int .i64 x)).isSome = (getS S x).isSome := by simp [sdF]
    rw [e, getS_iff]
    simp
theorem sd_sorted {S : Said} (hS : OkSd S) {ss : List Int} (hp : ss.Perm (S.map Prod.fst)) : ss.mergeSort (fun x y => decide (x ≤ y)) = S.map Prod.fst := by
  have tr : ∀ a b c : Int, decide (a ≤ b) = true → decide (b ≤ c) = true → decide (a ≤ c) = true := fun a b c h1 h2 => by simp only [decide_eq_true_eq] at *; omega
  have tot : ∀ a b : Int, (decide (a ≤ b) || decide (b ≤ a)) = true := fun a b => by simp only [Bool.or_eq_true, decide_eq_true_eq]; omega
  refine List.Perm.eq_of_pairwise (le := fun a b : Int => decide (a ≤ b) = true) (fun a b _ _ h1 h2 => ?_) (List.pairwise_mergeSort tr tot ss) ?_ ((List.mergeSort_perm ss _).trans hp)
  · simp only [decide_eq_true_eq] at h1 h2
    omega
  · refine List.pairwise_map.2 (hS.imp (fun {p q} h => ?_))
    simp only [decide_eq_true_eq]
    omega
theorem sorts_int (m : Nat) : AnyZI.SortsIn Tryz.prog Tryz.sortedI_ren Fence.wide m :=
  ⟨fun blk off cap ss W hH hblk hsz => callsIn_wide.2 (AnyM.slices_Sort_int Tryz.sortI blk off cap ss W hH hblk hsz),
   fun p cap W => callsIn_wide.2 (AnyM.slices_Sort_int_none Tryz.sortI p cap W)⟩
theorem keys_of (mb : Option Nat) (W : World) : Calls Tryz.prog 64 #[.map mb] W fun e w' => e = .returned (.func (.func 88) #[] #[.pointer (some ⟨W.heap.size, 0, none⟩)]) ∧ w' = W.alloc (.cells #[.map mb] 111) :=
  (callsIn_wide (n := 5)).1 (AnyZI.keys_in Tryz.keysI Fence.wide 5 trivial rfl mb W)
/-- A row of numbers of a call's own. -/
def IntsR (w : World) (S : Said) (v : Value) (w' : World) : Prop := w'.ownsRow w.heap.size 3 1 v S.length ((S.map Prod.fst).map (.int .i64)) ∧ Kept NoB w w'
set_option maxHeartbeats 1000000 in
theorem sd_list {w : World} {mb : Nat} {vs : Nat → Value} {n : Nat} {S : Said} (h : SdAt w mb vs n S) (hS : OkSd S) (hl : S.length ≤ 1000000000) :
    Calls Tryz.prog 63 #[.func (.func 88) #[] #[.pointer (some ⟨w.heap.size, 0, none⟩)]] (w.alloc (.cells #[.map (some mb)] 111)) fun e w' => ∃ ao c, e = .returned (.slice ao S.length c) ∧ Hid (IntsR w S (.slice ao S.length c) w') := by
  obtain ⟨D, ho, hsz, hh, ha⟩ := h
  have hbl := ho.lt
  have hseq : SeqGives Fence.wide 2 Tryz.prog 88 #[.pointer (some ⟨w.heap.size, 0, none⟩)] encZ (fun ss => ss.Perm (intKeys D)) (Maps.size D) (w.alloc (.cells #[.map (some mb)] 111)) :=
    AnyZI.keys_gives (ρ := Tryz.keysI_ren) { Tryz.keysI with } Fence.wide _ trivial rfl (by omega) w.heap.size mb S.length D _ (by simp) (by simp) (by
      obtain ⟨es, clock, hb, Ft, hs, hD⟩ := ho
      exact ⟨es, clock, (Below.heap_alloc _ _ mb hbl).trans hb, Ft, hs, hD⟩)
  have cS := AnyZI.sorted_in Tryz.sortedI Fence.wide 5 trivial trivial trivial trivial rfl (by omega) (sorts_int _) (enters_of Tryz.func87 (by kernel_rfl) rfl) 88 #[.pointer (some ⟨w.heap.size, 0, none⟩)] trivial (enters_of Tryz.func88 (by kernel_rfl) rfl) _ _ (by rw [hsz]; unfold maxLen; omega) (by rw [hsz]; omega) _ hseq
  change CallsIn _ _ Tryz.prog 63 _ _ _ at cS
  refine ((callsIn_wide (n := 5)).1 cS).mono ?_
  rintro e w' ⟨v, ss, rfl, hperm, hrow, hnil, hb⟩
  have hp2 := hperm.trans (sd_keys hS ho hh).symm
  have hs : ss.mergeSort (fun x y => decide (x ≤ y)) = S.map Prod.fst := sd_sorted hS hp2
  have hl2 : ss.length = S.length := by rw [hp2.length_eq, List.length_map]
  have hs2 : ss.mergeSort leI = S.map Prod.fst := hs
  rw [show (ss.mergeSort (fun x y => decide (x ≤ y))) = S.map Prod.fst from hs, hl2] at hrow
  obtain ⟨ao, c, rfl⟩ := row_shape hrow
  refine ⟨ao, c, rfl, Lib.hid ⟨ownsRow_base_a hrow (by simp), ((Kept.refl NoB w).alloc _).trans ((Kept.refl NoB _).ofBelow hb)⟩⟩
end Go.Proofs.YtgbakogihkdddaaGreatDoor
