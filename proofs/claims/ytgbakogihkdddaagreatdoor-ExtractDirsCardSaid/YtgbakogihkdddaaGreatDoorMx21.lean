/-
  A tree of files in memory: a directory's names, in order.
  What was written of a file, in memory: copied; a file's pieces.
  What was written of a file: read, on paper; copy onto an own row.
  A tree of files on paper: what the document fixes.
  A tree of files that a call has made for itself; what the document fixes (awake).
  What was written of a file, in memory: read.
  A tree of files in memory: a file's bytes, read.
-/
import Derived.Test.YtgbakogihkdddaaGreatDoorMx20
import Derived.Sort.KeysCollected
import Derived.Lib.SlBytesConst
namespace Go.Proofs.YtgbakogihkdddaaGreatDoor
open Go.RowKit
open Go.Proofs (encStr)
set_option linter.unusedVariables false
set_option linter.unusedSimpArgs false
set_option maxRecDepth 20000

theorem keys_perm {w : World} {mb : Nat} {l : Nms} (hl : OkK l) {D : Dt} (ho : w.ownsMap Tryz.prog 9 (plainElem Tryz.prog 3) mb l.length D) (hh : ∀ x, Maps.has D x = (nmF l x).isSome) : (l.map Prod.fst).Perm (strKeys D) := by
  refine Collected.perm (left := fun _ => false) ⟨?_, fun x => ?_⟩ ho law_str Tryz.underlying9 (fun _ => rfl)
  · exact List.pairwise_map.2 (hl.imp (fun {p q} h => fun (e : p.1 = q.1) => lt_irr q.1 (by rw [e] at h; exact h)))
  · rw [hh]
    simp only [nmF, Option.isSome_map, and_true]
    constructor
    · intro h
      obtain ⟨p, hp, rfl⟩ := List.mem_map.1 h
      rw [(getK_iff hl).2 (show (p.1, p.2) ∈ l from hp)]; rfl
    · intro h
      obtain ⟨i, hi⟩ := Option.isSome_iff_exists.1 h
      exact List.mem_map.2 ⟨_, getK_mem hi, rfl⟩
theorem keys_sorted {l : Nms} (hl : OkK l) {ss : List (List UInt8)} (hp : ss.Perm (l.map Prod.fst)) : ss.mergeSort leB = l.map Prod.fst := by
  have tr : ∀ a b c : List UInt8, leB a b = true → leB b c = true → leB a c = true := fun a b c h1 h2 => by simp only [leB, decide_eq_true_eq] at *; exact List.le_trans h1 h2
  have tot : ∀ a b : List UInt8, (leB a b || leB b a) = true := fun a b => by simp only [leB, Bool.or_eq_true, decide_eq_true_eq]; exact List.le_total a b
  refine List.Perm.eq_of_pairwise (le := fun a b => leB a b = true) (fun a b _ _ h1 h2 => ?_) (List.pairwise_mergeSort tr tot ss) ?_ ((List.mergeSort_perm ss leB).trans hp)
  · simp only [leB, decide_eq_true_eq] at h1 h2
    exact List.le_antisymm h1 h2
  · refine List.pairwise_map.2 (hl.imp (fun {p q} h => ?_))
    simp only [leB, decide_eq_true_eq]
    exact List.le_of_lt h
/-- The names as texts. -/
def nmC (l : Nms) : List Value := l.map (fun p => .string (strB p.1))
theorem keys_none (l : Nms) : ∀ v : Value, v = .slice none 0 0 → l = [] → ∀ W : World, W.ownsRow 0 9 1 v l.length (nmC l) := by
  rintro v rfl rfl W
  exact World.ownsRow_nil _ _ _ _
/-- What Names tells. -/
def NmsP (w : World) (l : Nms) (v : Value) (w' : World) : Prop := w'.ownsRow 0 9 1 v l.length (nmC l) ∧ (∀ k, v.ownBlock = some k → w.heap.size ≤ k) ∧ Kept NoB w w'
theorem below_keptNo {w w' : World} (h : Below w.heap.size w w') : Kept NoB w w' := (Kept.refl NoB w).ofBelow h
set_option maxHeartbeats 2000000 in
theorem names_any {S : Nat → Prop} {w : World} {f : Nat} {T : FsP} (h : FsSt S w f T) (dir : Int) (hdir : -9223372036854775808 ≤ dir ∧ dir ≤ 9223372036854775807) (hclk : T.clock ≤ 1000000000) :
    Calls Tryz.prog 19 #[.pointer (some ⟨f, 0, none⟩), .int .i64 dir] w fun e w' => ∃ ao c, e = .returned (.slice ao (namesP T dir).length c) ∧ Hid (NmsP w (namesP T dir) (.slice ao (namesP T dir).length c) w') := by
  obtain ⟨L, B, mb, h⟩ := h
  obtain ⟨c0, c1, c2, c3, c4⟩ := h.cells
  have HT := Lib.hid h.tab
  have HK := Lib.hid (fun (o : Option Nat) (W : World) => (callsIn_wide (n := 5)).1 (Tryz.keysIn o W))
  cases hn : T.nd dir with
  | none =>
    have hB := h.gone hn
    have hp : namesP T dir = [] := by unfold namesP; rw [hn]
    rw [hp]
    clear h hp hn
    go_enter Tryz.func19, Tryz.ntmps19
    go_wp2_with (at_lookup; refine wpList_nodes_ok rfl _ _ rfl HT.out rfl rfl hdir ?_; rw [hB, ptrV_none])
    go_ret
    exact ⟨none, 0, rfl, Lib.hid ⟨World.ownsRow_nil _ _ _ _, fun k e => by simp [Value.ownBlock] at e, Kept.refl _ _⟩⟩
  | some n =>
    obtain ⟨b, m, a, c, qs, hB, hN⟩ := h.at hn
    have hp : namesP T dir = n.names := by unfold namesP; rw [hn]
    rw [hp]
    have k11 := hN.cell 11
    simp [ndC, nvC] at k11
    have okn := (h.ok.node dir n hn)
    by_cases h6 : n.v.kind = 6
    · obtain ⟨mb2, rfl, _, hM⟩ := hN.dir h6
      obtain ⟨D, ho, hsz, hh, ha⟩ := hM
      have hle : n.names.length ≤ 1000000000 := by have := okn.few; omega
      have HS : Hid (Calls Tryz.prog 40 #[.func (.func 67) #[] #[.pointer (some ⟨w.heap.size, 0, none⟩)]] (w.alloc (.cells #[.map (some mb2)] 60)) fun e w' => ∃ ao c, e = .returned (.slice ao n.names.length c) ∧ Hid (NmsP w n.names (.slice ao n.names.length c) w')) := Lib.hid (by
        have := (callsIn_wide (n := 5)).1 (Tryz.sortedKeys mb2 n.names.length D (plainElem Tryz.prog 3) w ho (by rw [hsz]; unfold maxLen; omega) (by rw [hsz]; omega))
        refine this.mono ?_
        rintro e w' ⟨v, ss, rfl, hperm, hrow, hnil, hb⟩
        have hp2 := hperm.trans (keys_perm okn.sorted ho hh).symm
        have hs : ss.mergeSort (fun x y => decide (x ≤ y)) = n.names.map Prod.fst := keys_sorted okn.sorted hp2
        have hl : ss.length = n.names.length := by rw [hp2.length_eq, List.length_map]
        rw [hs, hl] at hrow
        have hc : (n.names.map Prod.fst).map encStr = nmC n.names := by
          unfold nmC; rw [List.map_map]; rfl
        rw [hc] at hrow
        obtain ⟨ao, c, rfl⟩ := row_shape hrow
        refine ⟨ao, c, rfl, Lib.hid ⟨ownsRow_base_a hrow (Nat.zero_le _), fun k hk => ?_, ((Kept.refl NoB w).alloc _).trans (below_keptNo hb)⟩⟩
        have := (hrow.lt k hk).1
        simp at this
        omega)
      clear h hp hn hN h6 ho hsz hh ha okn
      go_enter Tryz.func19, Tryz.ntmps19
      go_wp2_with (first | (at_lookup; refine wpList_nodes_ok rfl _ _ rfl HT.out rfl rfl hdir ?_; rw [hB, ptrV_some]) | (go_at_call 41; refine (HK.out _ _).mono ?_; rintro e w' ⟨rfl, rfl⟩) | (go_at_call 40; refine HS.out.mono ?_; rintro e w' ⟨ao, c, rfl, hq⟩))
      go_ret
      exact ⟨ao, c, rfl, hq⟩
    · have hm := hN.plain h6
      subst hm
      have hnn := okn.file h6
      rw [hnn]
      have HS : Hid (Calls Tryz.prog 40 #[.func (.func 67) #[] #[.pointer (some ⟨w.heap.size, 0, none⟩)]] (w.alloc (.cells #[.map none] 60)) fun e w' => e = .returned (.slice none 0 0) ∧ Hid (NmsP w [] (.slice none 0 0) w')) := Lib.hid (by
        have := (callsIn_wide (n := 5)).1 (Tryz.sortedKeysNil w)
        refine this.mono ?_
        rintro e w' ⟨v, ss, rfl, hss, hrow, hnil, hb⟩
        rw [hnil.2 hss]
        exact ⟨rfl, Lib.hid ⟨World.ownsRow_nil _ _ _ _, fun k e => by simp [Value.ownBlock] at e, ((Kept.refl NoB w).alloc _).trans (below_keptNo hb)⟩⟩)
      clear h hp hn hN h6 okn hnn
      go_enter Tryz.func19, Tryz.ntmps19
      go_wp2_with (first | (at_lookup; refine wpList_nodes_ok rfl _ _ rfl HT.out rfl rfl hdir ?_; rw [hB, ptrV_some]) | (go_at_call 41; refine (HK.out _ _).mono ?_; rintro e w' ⟨rfl, rfl⟩) | (go_at_call 40; refine HS.out.mono ?_; rintro e w' ⟨rfl, hq⟩))
      go_ret
      exact ⟨none, 0, rfl, hq⟩
end Go.Proofs.YtgbakogihkdddaaGreatDoor

namespace Go.Proofs.YtgbakogihkdddaaGreatDoor
open Go.RowKit
set_option linter.unusedVariables false
set_option linter.unusedSimpArgs false
set_option maxRecDepth 20000

/-- A row of pieces, and each one's bytes, made since w0. -/
structure CpS (w0 w : World) (a : Option Addr) (l c : Nat) (qs : List FpQ) : Prop where
  len : l = qs.length
  own : w.ownsRow 0 40 2 (.slice a l c) l (fcells qs)
  fresh : ∀ k, (Value.slice a l c).ownBlock = some k → w0.heap.size ≤ k
  each : ∀ q ∈ qs, w.ownsRow 0 5 1 (.slice q.2.1 q.1.2.length q.2.2) q.1.2.length (bc q.1.2)
  bfresh : ∀ q ∈ qs, ∀ j, pcB q = some j → w0.heap.size ≤ j
  kept : Kept NoB w0 w
theorem CpS.start {w0 w : World} (hk : Kept NoB w0 w) : CpS w0 w none 0 0 [] := ⟨rfl, World.ownsRow_nil _ _ _ _, (fun k hk => by simp [Value.ownBlock] at hk), (fun q hq => by cases hq), (fun q hq => by cases hq), hk⟩
theorem CpS.on {w0 w w' : World} {a : Option Addr} {l c : Nat} {qs : List FpQ} (h : CpS w0 w a l c qs) (hk : Kept NoB w w') : CpS w0 w' a l c qs :=
  ⟨h.len, hk.row h.own (fun _ _ e => e), h.fresh, fun q hq => hk.row (h.each q hq) (fun _ _ e => e), h.bfresh, h.kept.trans hk⟩
theorem CpS.apart {w0 w : World} {a : Option Addr} {l c : Nat} {qs : List FpQ} (h : CpS w0 w a l c qs) : ∀ q ∈ qs, ∀ j, pcB q = some j → (Value.slice a l c).ownBlock ≠ some j := fun q hq j hj e => by
  rcases h.own.2 with ⟨q1, q2⟩ | ⟨g, cc, cur, q1, _, q2, _⟩
  · rw [q1] at e; cases e
  · rw [q1] at e
    have e2 : g = j := by injection e
    exact row2_ne (h.each q hq) (by rw [e2] at q2; exact q2) (by decide) j hj rfl
/-- One more. -/
theorem CpS.app {w0 w : World} {a : Option Addr} {l c : Nat} {qs : List FpQ} (h : CpS w0 w a l c qs) (q : FpQ) (hq : w.ownsRow 0 5 1 (.slice q.2.1 q.1.2.length q.2.2) q.1.2.length (bc q.1.2)) (hqb : ∀ j, pcB q = some j → w0.heap.size ≤ j ∧ (Value.slice a l c).ownBlock ≠ some j) (hl : l ≤ 1099511627776)
    (vb : Nat) (hv : w.heap[vb]? = some (.cells #[.int .i64 q.1.1, .slice q.2.1 q.1.2.length q.2.2] 40 (0, 0))) :
    ∃ a2 c2 w', (Builtin.append_ #[35, 35] 35 #[.slice a l c, .slice (some ⟨vb, 0, none⟩) 1 1]).run Tryz.prog w = .ok (.slice a2 (l + 1) c2) w' ∧ CpS w0 w' a2 (l + 1) c2 (qs ++ [q]) := by
  obtain ⟨i0, hi, hz0, hz1, hz2⟩ := info_parts infoFp
  obtain ⟨v', w', hr, h2, h3, h4⟩ := run_app (P := Tryz.prog) w 40 35 35 i0 (.agg #[.int .i64 0, .slice none 0 0]) 2 32 Tryz.underlying35 hi hz0 hz1 hz2 rfl (by decide) _ l (fcells qs) h.own ⟨vb, 0, none⟩ 1 1 [.int .i64 q.1.1, .slice q.2.1 q.1.2.length q.2.2] rfl (by
    intro j u hu
    rw [addr_add, Nat.zero_add, obj_cell hv]
    simpa using hu) (two_one _ _ _ _) (by unfold maxLen; omega) (by omega)
  obtain ⟨a2, c2, rfl⟩ := row_shape h2
  have hka : Kept (OwnB (Value.slice a l c)) w w' := (Kept.refl _ w).grown h3 (fun k hk e => e)
  have hw := h.kept.size
  refine ⟨a2, c2, w', hr, ⟨by rw [List.length_append, h.len]; rfl, by rw [fcells_app]; exact h2, fun k hk => ?_, fun x hx => ?_, fun x hx j hj => ?_, kept_on2 h.kept hka (fun i hi e => by have := h.fresh i e; omega)⟩⟩
  · rcases h4 k hk with e | e
    · exact h.fresh k e
    · omega
  · rcases List.mem_append.1 hx with e | e
    · exact hka.row (h.each x e) (fun j hj e2 => h.apart x e j hj e2)
    · rw [List.mem_singleton] at e; subst e
      exact hka.row hq (fun j hj e2 => (hqb j hj).2 e2)
  · rcases List.mem_append.1 hx with e | e
    · exact h.bfresh x e j hj
    · rw [List.mem_singleton] at e; subst e
      exact (hqb j hj).1
/-- What Pieces tells. -/
def PcsP (w : World) (l : List Fp) (v : Option Addr) (c : Nat) (w' : World) : Prop := ∃ qs : List FpQ, qs.map Prod.fst = l ∧ CpS w w' v l.length c qs
def piecesP (T : FsP) (i : Int) : List Fp := match T.nd i with | some n => n.data | none => []
end Go.Proofs.YtgbakogihkdddaaGreatDoor

namespace Go.Proofs.YtgbakogihkdddaaGreatDoor
open Go.RowKit
set_option linter.unusedVariables false
set_option linter.unusedSimpArgs false
set_option maxRecDepth 20000

/-- The byte at a place: nought where none was written. -/
def byteAt (l : List Fp) (x : Int) : UInt8 := match l.find? (fun p => decide (p.1 ≤ x) && decide (x < endP p)) with
  | some p => p.2.getD (x - p.1).toNat 0
  | none => 0
def readD (l : List Fp) (k : Int) (n : Nat) : List UInt8 := (List.range n).map (fun t : Nat => byteAt l (k + t))
theorem readD_len (l : List Fp) (k : Int) (n : Nat) : (readD l k n).length = n := by simp [readD]
theorem readD_at (l : List Fp) (k : Int) (n t : Nat) (h : t < n) : (readD l k n)[t]? = some (byteAt l (k + t)) := by simp [readD, h]
theorem byteAt_append (a b : List Fp) (x : Int) (h : ∀ p ∈ a, ¬ (p.1 ≤ x ∧ x < endP p)) : byteAt (a ++ b) x = byteAt b x := by
  unfold byteAt
  rw [List.find?_append]
  have : a.find? (fun p => decide (p.1 ≤ x) && decide (x < endP p)) = none := by
    rw [List.find?_eq_none]
    intro p hp
    have := h p hp
    simp
    intro h1
    omega
  rw [this]; rfl
theorem byteAt_prefix (a b : List Fp) (x : Int) (h : ∀ p ∈ b, ¬ (p.1 ≤ x ∧ x < endP p)) : byteAt (a ++ b) x = byteAt a x := by
  unfold byteAt
  rw [List.find?_append]
  have : b.find? (fun p => decide (p.1 ≤ x) && decide (x < endP p)) = none := by
    rw [List.find?_eq_none]
    intro p hp
    have := h p hp
    simp
    intro h1
    omega
  rw [this]
  cases a.find? (fun p => decide (p.1 ≤ x) && decide (x < endP p)) <;> rfl
theorem byteAt_one (p : Fp) (x : Int) (h : p.1 ≤ x ∧ x < endP p) : byteAt [p] x = p.2.getD (x - p.1).toNat 0 := by
  unfold byteAt
  rw [List.find?_cons]
  simp [h.1, h.2]
theorem byteAt_no (p : Fp) (x : Int) (h : ¬ (p.1 ≤ x ∧ x < endP p)) : byteAt [p] x = 0 := by
  unfold byteAt
  rw [List.find?_cons]
  have : (decide (p.1 ≤ x) && decide (x < endP p)) = false := by simp; intro h1; omega
  rw [this]; rfl
/-- One piece more, over what was there. -/
theorem read_step {a : List Fp} {p : Fp} (hok : OkD (a ++ [p])) (k : Int) (n P m d : Nat) (hP : k + (P : Int) = max k p.1) (hd : (d : Int) = max k p.1 - p.1) (hm : m = min (p.2.length - d) (n - P)) (hPn : P ≤ n) (he : k < endP p) :
    readD (a ++ [p]) k n = (readD a k n).take P ++ (p.2.drop d).take m ++ (readD a k n).drop (P + m) := by
  have hel : endP p = p.1 + p.2.length := rfl
  have hap : ∀ q ∈ a, endP q < p.1 := fun q hq => by
    have := hok.apart
    rw [List.pairwise_append] at this
    exact this.2.2 q hq p (by simp)
  have hsl : ((p.2.drop d).take m).length = m := by rw [List.length_take, List.length_drop]; omega
  apply List.ext_getElem?
  intro t
  rcases Nat.lt_or_ge t n with ht | ht
  · rw [readD_at _ _ _ _ ht]
    rcases Nat.lt_or_ge t P with h1 | h1
    · rw [List.append_assoc, List.getElem?_append_left (by rw [List.length_take, readD_len]; omega), List.getElem?_take, if_pos h1, readD_at _ _ _ _ ht]
      rw [byteAt_prefix _ _ _ (fun q hq => by rw [List.mem_singleton] at hq; subst hq; omega)]
    · rcases Nat.lt_or_ge t (P + m) with h2 | h2
      · rw [List.append_assoc, List.getElem?_append_right (by rw [List.length_take, readD_len]; omega), List.getElem?_append_left (by rw [hsl, List.length_take, readD_len]; omega), List.length_take, readD_len, Nat.min_eq_left hPn, List.getElem?_take, if_pos (by omega), List.getElem?_drop]
        have hin : p.1 ≤ k + (t : Int) ∧ k + (t : Int) < endP p := by rw [hel]; omega
        rw [byteAt_append _ _ _ (fun q hq => by have := hap q hq; omega), byteAt_one p _ hin]
        have e1 : (k + (t : Int) - p.1).toNat = d + (t - P) := by omega
        rw [e1, List.getD_eq_getElem?_getD]
        have hlt : d + (t - P) < p.2.length := by omega
        rw [List.getElem?_eq_getElem hlt]; rfl
      · have hnin : ¬ (p.1 ≤ k + (t : Int) ∧ k + (t : Int) < endP p) := by rw [hel]; omega
        rw [byteAt_prefix _ _ _ (fun q hq => by rw [List.mem_singleton] at hq; subst hq; exact hnin)]
        rw [List.getElem?_append_right (by simp only [List.length_append, hsl, List.length_take, readD_len]; omega), List.getElem?_drop]
        simp only [List.length_append, hsl, List.length_take, readD_len]
        rw [Nat.min_eq_left hPn, show P + m + (t - (P + m)) = t by omega, readD_at _ _ _ _ ht]
  · rw [List.getElem?_eq_none (by rw [readD_len]; exact ht), List.getElem?_eq_none]
    simp only [List.length_append, hsl, List.length_take, List.length_drop, readD_len]
    omega
/-- copy of as many bytes as there is room for. -/
theorem run_copy_by2 (w : World) (gf fn fc P : Nat) (x : List UInt8) (hx : fn = x.length) (hown : w.ownsRow 0 5 1 (.slice (some ⟨gf, 0, none⟩) fn fc) fn (bc x)) (y : Addr) (bs : List UInt8) (cb dc : Nat) (hc : ∀ j v, (bc bs)[j]? = some v → w.cell? (y.add j) = some v) (hP : P ≤ fn) (m : Nat) (hm : m = min bs.length (fn - P)) :
    ∃ w', (Builtin.copy_ #[22, 22] 3 #[.slice (some ⟨gf, P, none⟩) (fn - P) dc, .slice (some y) bs.length cb]).run Tryz.prog w = .ok (goInt m) w' ∧ w'.ownsRow 0 5 1 (.slice (some ⟨gf, 0, none⟩) fn fc) fn (bc (x.take P ++ bs.take m ++ x.drop (P + m))) ∧ Kept (OneB gf) w w' := by
  rcases hown.2 with ⟨h1, h2⟩ | ⟨g', cc, cur, h1, hb0, hg, hnc, hcm, hcs, htk⟩
  · cases h1
  · simp only [Value.slice.injEq, Option.some.injEq, Addr.mk.injEq, and_true, true_and] at h1
    obtain ⟨rfl, rfl⟩ := h1
    have htl : (bs.take m).length = m := by rw [List.length_take]; omega
    have hc' : ∀ j v, (bc (bs.take m))[j]? = some v → w.cell? (y.add j) = some v := fun j v hj => by
      refine hc j v ?_
      have e : bc (bs.take m) = (bc bs).take m := by simp [bc, List.map_take]
      rw [e, List.getElem?_take] at hj
      split at hj
      · exact hj
      · cases hj
    have := run_copy_row (P := Tryz.prog) w 22 22 3 5 gf P (fn - P) dc y bs.length cb cur 5 (bc (bs.take m)) Tryz.underlying22 (by kernel_rfl) hg (by rw [bc_len, htl, hm]) hc' (by rw [bc_len, hcs, htl]; omega) (bc_one _)
    rw [bc_len, htl] at this
    have hxl : (x.take P ++ bs.take m ++ x.drop (P + m)).length = fn := by simp only [List.length_append, List.length_take, List.length_drop]; omega
    refine ⟨_, this, ⟨by rw [bc_len, hxl]; omega, .inr ⟨gf, fc, _, rfl, Nat.zero_le _, setRow_heap _ _ _ _ _ _ hg, hnc, hcm, ?_, ?_⟩⟩, Kept.setRow (S := OneB gf) (Kept.refl _ w) (.inl rfl) _⟩
    · simp only [List.size_toArray, List.length_append, List.length_take, List.length_drop, Array.length_toList, bc_len, hcs, htl]; omega
    · have htk' : cur.toList.take fn = bc x := by rw [Nat.mul_one] at htk; exact htk
      have e1 : cur.toList.take P = bc (x.take P) := by
        have := congrArg (List.take P) htk'
        rw [List.take_take, Nat.min_eq_left (by omega)] at this
        rw [this]; simp [bc, List.map_take]
      have e2 : (cur.toList.drop (P + m)).take (fn - (P + m)) = bc (x.drop (P + m)) := by
        have := congrArg (List.drop (P + m)) htk'
        rw [List.drop_take] at this
        rw [this]; simp [bc, List.map_drop]
      rw [List.toList_toArray, Nat.mul_one, bc_app, bc_app, ← e1, ← e2]
      have hl : (cur.toList.take P ++ bc (bs.take m)).length = P + m := by rw [List.length_append, List.length_take, bc_len, Array.length_toList, hcs, htl]; omega
      rw [List.take_append, List.take_of_length_le (by omega), hl]
end Go.Proofs.YtgbakogihkdddaaGreatDoor

namespace Go.Proofs.YtgbakogihkdddaaGreatDoor
set_option linter.unusedVariables false
set_option linter.unusedSimpArgs false
set_option maxRecDepth 20000

def fileV : NodeV := { kind := 1, mode := 0, user := 0, group := 0, time := 0, tgt := ⟨#[]⟩, major := 0, minor := 0, size := 0, links := 0, change := 0 }
def aw1 : FsP := (makeP (newT 10) 1 [102] fileV).1
def aw2 : FsP := (writeP aw1 2 10 [97, 98, 99]).1
def aw3 : FsP := (writeP aw2 2 0 (List.replicate 9 0)).1
theorem aw_make : (makeP (newT 10) 1 [102] fileV).2 = (2, 0) := by kernel_rfl
theorem aw_write1 : (writeP aw1 2 10 [97, 98, 99]).2 = 0 := by kernel_rfl
theorem aw_write2 : (writeP aw2 2 0 (List.replicate 9 0)).2 = 5 := by kernel_rfl
theorem aw_find : findP aw3 2 [120] = (0, 12) := by kernel_rfl
theorem aw_stat : (statP aw3 2).2 = 0 ∧ (statP aw3 2).1.size = 13 := ⟨by kernel_rfl, by kernel_rfl⟩
theorem aw_used : aw3.used = 10 := by kernel_rfl
theorem aw_clock : (newT 10).clock = 0 ∧ aw1.clock = 1 ∧ aw2.clock = 2 := ⟨rfl, by kernel_rfl, by kernel_rfl⟩
theorem aw_quota : aw1.quota = 10 ∧ aw2.quota = 10 := ⟨by kernel_rfl, by kernel_rfl⟩
theorem aw_nd1 : ∃ n, aw1.nd 2 = some n ∧ n.data = [] := ⟨freshN fileV 1 1, by kernel_rfl, rfl⟩
theorem aw_nd2 : ∃ n, aw2.nd 2 = some n ∧ n.data = [(10, [97, 98, 99])] ∧ (fitP aw2 n 0 (List.replicate 9 0)).1 = 7 := ⟨wrN (freshN fileV 1 1) 2 10 [97, 98, 99], by kernel_rfl, by kernel_rfl, by kernel_rfl⟩
theorem aw_put1 : ∀ n, aw1.nd 2 = some n → PutOk n.data 10 ([97, 98, 99].take (fitP aw1 n 10 [97, 98, 99]).1) := fun n hn => by
  obtain ⟨n', h1, h2⟩ := aw_nd1
  rw [h1] at hn; cases hn
  rw [h2]
  exact putOk_free rfl
theorem aw_put2 : ∀ n, aw2.nd 2 = some n → PutOk n.data 0 ((List.replicate 9 0).take (fitP aw2 n 0 (List.replicate 9 0)).1) := fun n hn => by
  obtain ⟨n', h1, h2, h3⟩ := aw_nd2
  rw [h1] at hn; cases hn
  rw [h2, h3]
  refine putOk_free ?_
  decide
end Go.Proofs.YtgbakogihkdddaaGreatDoor

namespace Go.Proofs.YtgbakogihkdddaaGreatDoor
open Go.RowKit
set_option linter.unusedVariables false
set_option linter.unusedSimpArgs false
set_option maxRecDepth 20000

theorem keep_on {S : Nat → Prop} {a b c : World} (h : Kept NoB a b) (k : Kept S b c) (hs : ∀ i, i < a.heap.size → S i → False) : Kept NoB a c :=
  ⟨k.os.trans h.os, k.tape.trans h.tape, k.output.trans h.output, Nat.le_trans h.size k.size, fun i hi _ => (k.block i (Nat.lt_of_lt_of_le hi h.size) (hs i hi)).trans (h.block i hi id)⟩
/-- The blocks of W that w lacks. -/
def NewB (w W : World) : Nat → Prop := fun k => w.heap.size ≤ k ∧ k < W.heap.size
/-- A tree that was made since w. -/
structure FsOwn (w W : World) (f : Nat) (T : FsP) : Prop where
  st : FsSt (NewB w W) W f T
  keep : Kept NoB w W
theorem FsOwn.made {w W : World} {f : Nat} {T : FsP} (h : FsSt (Grow NoB w W) W f T) (hk : Kept NoB w W) : FsOwn w W f T :=
  ⟨h.mono (fun k e => by rcases e with e | e; exact e.elim; exact e), hk⟩
theorem FsOwn.kept {w W W' : World} {f : Nat} {T : FsP} (h : FsOwn w W f T) (hk : Kept NoB W W') : FsOwn w W' f T :=
  ⟨(h.st.keptNo hk).mono (fun k e => ⟨e.1, Nat.lt_of_lt_of_le e.2 hk.size⟩), h.keep.trans hk⟩
theorem FsOwn.step {w W W' : World} {f : Nat} {T T' : FsP} (h : FsOwn w W f T) (hs : FsSt (Grow (NewB w W) W W') W' f T') (hk : Kept (NewB w W) W W') : FsOwn w W' f T' :=
  ⟨hs.mono (fun k e => by
    have h1 := hk.size
    have h2 := h.keep.size
    rcases e with e | e
    · exact ⟨e.1, Nat.lt_of_lt_of_le e.2 h1⟩
    · exact ⟨by omega, e.2⟩), keep_on h.keep hk (fun i hi e => by have := e.1; omega)⟩
theorem FsOwn.lt {w W : World} {f : Nat} {T : FsP} (h : FsOwn w W f T) : f < W.heap.size := by
  obtain ⟨L, B, mb, h1⟩ := h.st
  exact obj_lt h1.obj
theorem reads_made (W : World) (bs : List UInt8) (cs : Array Value) (fr : Nat × Nat) (hcs : cs = (bc bs).toArray) : Reads (W.alloc (.cells cs 5 fr)) (some ⟨W.heap.size, 0, none⟩) (nb bs) :=
  lit_reads (nb bs) (heap_alloc_new W (.cells cs 5 fr)) (by rw [hcs, bc_nb])
/-- 'make([]byte, n)'. -/
theorem wpList_make_bytes (w : World) {ops : Array Oper} {rest : List Oper} {o : Oper} {a : Act} {Q : Exit → Act → World → Prop}
    (hg : o.guard = none) (l c : Operand) (hop : o.op = Op.makeSlice 22 l c) (n : Nat) (hl : a.eval l = .int .i64 (n : Int)) (hc : a.eval c = .int .i64 (n : Int)) (hm : n ≤ 1048576)
    (hK : ∀ w', w'.heap[w.heap.size]? = some (.cells (bc (List.replicate n 0)).toArray 5 (0, 0)) → Kept NoB w w' → wpList Tryz.prog ops Q rest (a.put o.dst (.slice (some ⟨w.heap.size, 0, none⟩) n n)) w') :
    wpList Tryz.prog ops Q (o :: rest) a w := by
  obtain ⟨i0, hi, hz0, hz1, hz2⟩ := info_parts info5
  refine wpList_plain hg fun K hK' => ?_
  have hr := run_make (P := Tryz.prog) w 22 5 i0 (.int .u8 0) Tryz.underlying22 hi hz0 .i64 .i64 n n (by omega) (by omega) (by rw [hz2]; omega) (by omega)
  simp only [Int.toNat_natCast] at hr
  unfold Oper.wp
  simp only [execOp, hop, hl, hc, hr, Sem.run_bind, Sem.run_pure, Result.andThen_ok]
  refine hK' _ _ (hK _ ?_ ((Kept.refl _ _).alloc _))
  refine (heap_alloc_new _ _).trans (congrArg (fun c => some (Obj.cells c 5 (0, 0))) ?_)
  apply Array.ext'
  rw [hz1, bc, List.map_replicate, List.toArray_replicate]
  have e : (madeCells #[Value.int .u8 0] (n * 1)).toList = List.replicate n (.int .u8 0) := by
    rw [List.eq_replicate_iff]
    refine ⟨by simp [madeCells], ?_⟩
    intro x hx
    simp only [madeCells, Array.toList_map, List.mem_map] at hx
    obtain ⟨i, _, rfl⟩ := hx
    rw [show i % (#[Value.int .u8 0] : Array Value).size = 0 from Nat.mod_one i]
    rfl
  exact e
end Go.Proofs.YtgbakogihkdddaaGreatDoor

namespace Go.Proofs.YtgbakogihkdddaaGreatDoor
open Go.RowKit
set_option linter.unusedVariables false
set_option linter.unusedSimpArgs false
set_option maxRecDepth 20000

theorem readD_nil (k : Int) (n : Nat) : readD [] k n = List.replicate n 0 := by
  unfold readD byteAt
  simp [List.map_const']
theorem readD_low {a : List Fp} (k : Int) (n : Nat) (h : ∀ p ∈ a, endP p ≤ k) : readD a k n = List.replicate n 0 := by
  rw [← readD_nil k n]
  unfold readD
  refine List.map_congr_left (fun t _ => ?_)
  have := byteAt_append a [] (k + t) (fun p hp => by have := h p hp; omega)
  rw [List.append_nil] at this
  exact this
theorem readD_high {a b : List Fp} (k : Int) (n : Nat) (h : ∀ p ∈ b, k + (n : Int) ≤ p.1) : readD (a ++ b) k n = readD a k n := by
  unfold readD
  refine List.map_congr_left (fun t ht => ?_)
  rw [List.mem_range] at ht
  exact byteAt_prefix a b (k + t) (fun p hp => by have := h p hp; omega)
set_option maxHeartbeats 4000000 in
theorem dread_any (a : Option Addr) (c : Nat) (qs : List FpQ) (k : Int) (n : Nat) (w : World) (hd : DatO w a c qs) (hl : OkD (qs.map Prod.fst)) (hk : 0 ≤ k ∧ k ≤ 4000000000000) (hn : n ≤ 1048576) :
    Calls Tryz.prog 38 #[.slice a qs.length c, .int .i64 k, .int .i64 (n : Int)] w fun e w' => ∃ g, e = .returned (.slice (some ⟨g, 0, none⟩) n n) ∧ Hid (w'.ownsRow 0 5 1 (.slice (some ⟨g, 0, none⟩) n n) n (bc (readD (qs.map Prod.fst) k n)) ∧ w.heap.size ≤ g ∧ Kept NoB w w') := by
  have hr := bytes_rd hd
  have hol := ok_len hl
  obtain ⟨l, hle⟩ : ∃ l, l = qs.map Prod.fst := ⟨_, rfl⟩
  rw [← hle] at hr hl hol ⊢
  have hll : l.length = qs.length := by rw [hle]; simp
  obtain ⟨N, hN⟩ : ∃ N, N = qs.length := ⟨_, rfl⟩
  have hown := hd.own
  rw [← hN] at hown hll ⊢
  have hlen : N ≤ 1099511627776 := by omega
  have hcap : N ≤ c ∧ c ≤ maxLen ∧ (a = none → c = 0) := by
    rcases hown.2 with ⟨h1, h2⟩ | ⟨g, cc, cur, h1, _, _, h2, h3, _⟩
    · simp at h1; exact ⟨by omega, by unfold maxLen; omega, fun _ => h1.2.2⟩
    · simp at h1; obtain ⟨rfl, rfl⟩ := h1; exact ⟨h2, h3, fun e => by cases e⟩
  have hc63 : (c : Int) ≤ 9223372036854775807 := by have := hcap.2.1; unfold maxLen at this; omega
  obtain ⟨A, hA⟩ : ∃ A, A = (aheadP l (k + 1)).length := ⟨_, rfl⟩
  have hAN : A ≤ N := by rw [hA, ← hll]; exact ahead_le l (k + 1)
  have HAf : Hid (∀ W, Kept NoB w W → Calls Tryz.prog 46 #[.slice a N c, .int .i64 k] W fun e w' => e = .returned (.int .i64 (A : Int)) ∧ Kept NoB W w') := Lib.hid (fun W hW => by
    have := after_any l hl a c k W (hr.kept hW) (by omega) hcap.2.1 (by omega) (by omega)
    rw [hll, ← hA] at this
    exact this)
  -- what is ahead ends no later
  have hahead : ∀ p ∈ l.take A, endP p ≤ k := fun p hp => by
    have e : l.take A = aheadP l (k + 1) := by
      have hs := split3 l (k + 1) (k + 1)
      conv => lhs; rw [hs]
      rw [hA, List.take_left]
    rw [e] at hp
    have := ahead_end p hp
    omega
  have hbehind : ∀ i (hi : i < l.length), A ≤ i → k < endP l[i] := fun i hi hAi => by
    have hm : l[i] ∈ l.dropWhile (fun p => decide (endP p < k + 1)) := by
      have hs : l = aheadP l (k + 1) ++ l.dropWhile (fun p => decide (endP p < k + 1)) := (List.takeWhile_append_dropWhile).symm
      obtain ⟨p, hp⟩ : ∃ p, p = l[i] := ⟨_, rfl⟩
      have h1 : l[i]? = some p := by rw [hp]; exact List.getElem?_eq_getElem hi
      have h2 : (aheadP l (k + 1) ++ l.dropWhile (fun p => decide (endP p < k + 1)))[i]? = some p := by rw [← hs]; exact h1
      rw [List.getElem?_append_right (by omega)] at h2
      rw [← hp]
      exact List.mem_of_getElem? h2
    have := drop_end hl (k + 1) _ hm
    omega
  obtain ⟨sa, sc, hsl, hsa⟩ : ∃ (sa : Option Addr) (sc : Nat), (∀ W, (Instr.slice 61 (.slice a N c) (some (.int .i64 (A : Int))) none none).run Tryz.prog W = .ok (.slice sa (N - A) sc) W) ∧ (A < N → ∃ g, a = some ⟨g, 0, none⟩ ∧ sa = some ⟨g, A * 2, none⟩) := by
    cases a with
    | none =>
      have hN0 : N = 0 := by have := hcap.2.2 rfl; omega
      refine ⟨none, 0, fun W => ?_, fun h => by omega⟩
      have hA0 : A = 0 := by omega
      have hc0 := hcap.2.2 rfl
      subst hN0; subst hA0; subst hc0
      rw [run_slice_l (P := Tryz.prog) (w := W) 61 none 0 0 (by kernel_rfl) .i64 ((0 : Nat) : Int) (by omega) (by omega)]
      have hs : (sizeOf (Tryz.prog.elem 61)).run Tryz.prog W = .ok 2 W := by kernel_rfl
      rw [hs]
      rfl
    | some x =>
      obtain ⟨g, rfl⟩ : ∃ g, x = ⟨g, 0, none⟩ := by
        rcases hown.2 with ⟨h1, h2⟩ | ⟨g, cc, cur, h1, _⟩
        · cases h1
        · simp only [Value.slice.injEq, Option.some.injEq] at h1; exact ⟨g, h1.1⟩
      obtain ⟨q, h1, h2⟩ := slice_l2 g N c A hAN hcap.1
      exact ⟨some q, c - A, h1, fun hlt => ⟨g, rfl, by rcases h2 with e | e; rw [e]; omega⟩⟩
  have HAll := Lib.hid (⟨hd, hl, hle, hN, hll, hahead, hbehind, hsa, hown⟩ : _ ∧ _ ∧ _ ∧ _ ∧ _ ∧ _ ∧ _ ∧ _ ∧ _)
  clear hr hol hA hahead hbehind hsa hown hcap hle hd hl hll hN
  go_enter Tryz.func38, Tryz.ntmps38
  go_upto_region 2 with (first | (refine wpList_make_bytes _ rfl (.tmp 10) (.tmp 10) rfl n rfl rfl hn ?_; intro w1 hz1 hk1) | fail)
  obtain ⟨g, hg⟩ : ∃ g, g = w.heap.size := ⟨_, rfl⟩
  rw [← hg] at hz1 ⊢
  have HG := Lib.hid hg
  clear hg
  have HR1 : Hid (w1.ownsRow 0 5 1 (.slice (some ⟨g, 0, none⟩) n n) n (bc (readD (l.take A) k n)) ∧ Kept NoB w w1) := Lib.hid ⟨⟨by rw [bc_len, readD_len]; omega, .inr ⟨g, n, _, rfl, Nat.zero_le _, hz1, Nat.le_refl _, by unfold maxLen; omega, by simp [bc], by rw [readD_low k n HAll.out.2.2.2.2.2.1, List.toList_toArray, Nat.mul_one, List.take_of_length_le (by simp [bc])]⟩⟩, hk1⟩
  clear hz1
  go_wp2_with (go_at_call 46; refine (HAf.out _ hk1).mono ?_; rintro e w2 ⟨rfl, hk2⟩; have HR2 := Lib.hid (⟨hk2.row HR1.out.1 (fun _ _ e => e), HR1.out.2.trans hk2⟩ : _ ∧ _))
  clear HR1 hk1 hk2 HAf
  have hsl2 := Lib.hid hsl
  clear hsl
  go_loopw [9, 18] (fun v9 v18 wr => ∃ (i : Nat), v18 = .int .i64 (i : Int) ∧ i ≤ N - A ∧ Hid (wr.ownsRow 0 5 1 (.slice (some ⟨g, 0, none⟩) n n) n (bc (readD (l.take (A + i)) k n)) ∧ Kept NoB w wr)) (fun _ v18 _ => N - A - (intOf v18).toNat)
  case atStart => exact ⟨0, rfl, by omega, Lib.hid HR2.out⟩
  case round =>
    obtain ⟨i, rfl, hi, HR⟩ := hrel
    clear HR2
    have hgw : w.heap.size ≤ g := by rw [HG.out]; exact Nat.le_refl _
    by_cases hlt : (i : Int) < ((N - A : Nat) : Int)
    · have hAi : A + i < qs.length := by have := HAll.out.2.2.2.1; omega
      obtain ⟨g0, rfl, rfl⟩ := HAll.out.2.2.2.2.2.2.2.1 (by omega)
      obtain ⟨q, hq⟩ : ∃ q, q = qs[A + i] := ⟨_, rfl⟩
      have hqi : qs[A + i]? = some q := by rw [hq]; exact List.getElem?_eq_getElem hAi
      have hqm : q ∈ qs := by rw [hq]; exact List.getElem_mem hAi
      have hql : l[A + i]? = some q.1 := by rw [HAll.out.2.2.1, List.getElem?_map, hqi]; rfl
      have hqml : q.1 ∈ l := List.mem_of_getElem? hql
      have hok1 := HAll.out.2.1.each q.1 hqml
      obtain ⟨z, hz⟩ : ∃ z, z = q.1.1 := ⟨_, rfl⟩
      obtain ⟨m, hm⟩ : ∃ m, m = q.1.2.length := ⟨_, rfl⟩
      obtain ⟨qc, hqc⟩ : ∃ qc, qc = q.2.2 := ⟨_, rfl⟩
      have hqr := HAll.out.1.each q hqm
      have hm0 : 0 < m := by rw [hm]; exact List.length_pos_iff.2 hok1.2.1
      obtain ⟨gq, hqa, hmc⟩ : ∃ gq, q.2.1 = some ⟨gq, 0, none⟩ ∧ m ≤ qc ∧ qc ≤ maxLen := by
        rcases hqr.2 with ⟨h1, h2⟩ | ⟨gx, cc, cux, h1, _, _, h2, h3, _⟩
        · omega
        · simp only [Value.slice.injEq, true_and] at h1
          exact ⟨gx, h1.1, by rw [hm, hqc, h1.2]; exact ⟨h2, h3⟩⟩
      have hqc63 : (qc : Int) ≤ 9223372036854775807 := by have := hmc.2; unfold maxLen at this; omega
      have hke : k < z + (m : Int) := by
        have h1 := HAll.out.2.2.2.2.2.2.1 (A + i) (by have := HAll.out.2.2.2.2.1; have := HAll.out.2.2.2.1; omega) (by omega)
        have h2 : l[A + i]'(by have := HAll.out.2.2.2.2.1; have := HAll.out.2.2.2.1; omega) = q.1 := by
          have := List.getElem?_eq_getElem (show A + i < l.length by have := HAll.out.2.2.2.2.1; have := HAll.out.2.2.2.1; omega)
          rw [hql] at this
          exact (Option.some.inj this).symm
        rw [h2] at h1
        unfold endP at h1
        rw [← hz, ← hm] at h1
        exact h1
      have hend : z + (m : Int) ≤ 1099511627776 ∧ 0 ≤ z := by
        have h1 := hok1.2.2
        unfold endP at h1
        rw [← hz, ← hm] at h1
        exact ⟨h1, by rw [hz]; exact hok1.1⟩
      have hrow := HR.out.2.row HAll.out.2.2.2.2.2.2.2.2 (fun _ _ e => e)
      have y0 : wr.cell? ⟨g0, A * 2 + i * 2, none⟩ = some (.int .i64 z) := by
        have := hrow.cells (g := g0) rfl _ _ (fcells_at2 qs (A + i) q hqi).1
        rw [Addr.add_lit, Nat.zero_add, ← hz, show (A + i) * 2 = A * 2 + i * 2 by omega] at this; exact this
      have y1 : wr.cell? ⟨g0, A * 2 + i * 2 + 1, none⟩ = some (.slice (some ⟨gq, 0, none⟩) m qc) := by
        have := hrow.cells (g := g0) rfl _ _ (fcells_at2 qs (A + i) q hqi).2
        rw [Addr.add_lit, Nat.zero_add, hqa, ← hm, ← hqc, show (A + i) * 2 + 1 = A * 2 + i * 2 + 1 by omega] at this; exact this
      have HQ := Lib.hid (⟨hqi, hqm, hql, hz, hm, hqc, hqa⟩ : _ ∧ _ ∧ _ ∧ _ ∧ _ ∧ _ ∧ _)
      have HQr := Lib.hid hqr
      clear hq hqi hqm hql hqml hok1 hz hm hqc hqr hqa hrow hAi
      obtain ⟨kn, hkn⟩ : ∃ kn : Int, kn = k + (n : Int) := ⟨_, rfl⟩
      have hknw : IntKind.i64.wrap (k + (n : Int)) = kn := by rw [IntKind.wrap_i64]; omega
      have HKn := Lib.hid hkn
      clear hkn
      go_upto_region 5 with fail
      obtain ⟨bp, hbp⟩ : ∃ bp, bp = wr.heap.size := ⟨_, rfl⟩
      obtain ⟨w5, hw5⟩ : ∃ w5, w5 = wr.alloc (.cells #[.int .i64 z, .slice (some ⟨gq, 0, none⟩) m qc] 40) := ⟨_, rfl⟩
      rw [← hbp, ← hw5]
      have b5 : w5.heap[bp]? = some (.cells #[.int .i64 z, .slice (some ⟨gq, 0, none⟩) m qc] 40 (0, 0)) := by rw [hw5, hbp]; exact heap_push _ _
      have k5 : Kept NoB wr w5 := by rw [hw5]; exact (Kept.refl _ _).alloc _
      have z0 : w5.cell? ⟨bp, 0, none⟩ = some (.int .i64 z) := by rw [obj_cell b5]; rfl
      have z1 : w5.cell? ⟨bp, 1, none⟩ = some (.slice (some ⟨gq, 0, none⟩) m qc) := by rw [obj_cell b5]; rfl
      have HR5 : Hid (w5.ownsRow 0 5 1 (.slice (some ⟨g, 0, none⟩) n n) n (bc (readD (l.take (A + i)) k n)) ∧ Kept NoB w w5) := Lib.hid ⟨k5.row HR.out.1 (fun _ _ e => e), HR.out.2.trans k5⟩
      clear hbp hw5 b5 k5 y0 y1 HR
      by_cases hbr : kn ≤ z
      · have HF : Hid (readD l k n = readD (l.take (A + i)) k n) := Lib.hid (by
          have e : l = l.take (A + i) ++ l.drop (A + i) := (List.take_append_drop _ _).symm
          conv => lhs; rw [e]
          refine readD_high k n (fun p hp => ?_)
          have hlt2 : A + i < l.length := by have := HAll.out.2.2.2.2.1; omega
          rw [List.drop_eq_getElem_cons hlt2] at hp
          have hq1 : l[A + i] = q.1 := by
            have := List.getElem?_eq_getElem hlt2
            rw [HQ.out.2.2.1] at this
            exact (Option.some.inj this).symm
          have hpw := HAll.out.2.1.apart.sublist (List.drop_sublist (A + i) l)
          rw [List.drop_eq_getElem_cons hlt2, List.pairwise_cons] at hpw
          have h1 := HQ.out.2.2.2.1
          have h2 := HKn.out
          rcases List.mem_cons.1 hp with h | h
          · rw [h, hq1]; omega
          · have h3 := hpw.1 p h
            rw [hq1] at h3
            unfold endP at h3
            omega)
        go_wp2
        go_ret
        exact ⟨g, rfl, Lib.hid ⟨by have := HR5.out.1; rw [← HF.out] at this; exact this, hgw, HR5.out.2⟩⟩
      · go_upto_if 31 with fail
        have hstep : Hid (∀ P d : Nat, k + (P : Int) = max k z → (d : Int) = max k z - z → P ≤ n → readD (l.take (A + i + 1)) k n = (readD (l.take (A + i)) k n).take P ++ (q.1.2.drop d).take (min (m - d) (n - P)) ++ (readD (l.take (A + i)) k n).drop (P + min (m - d) (n - P))) := Lib.hid (fun P d h1 h2 h3 => by
          have e : l.take (A + i + 1) = l.take (A + i) ++ [q.1] := by rw [List.take_add_one, HQ.out.2.2.1]; rfl
          have hok : OkD (l.take (A + i + 1)) := ⟨fun p hp => HAll.out.2.1.each p (List.mem_of_mem_take hp), HAll.out.2.1.apart.sublist (List.take_sublist _ _)⟩
          rw [e] at hok ⊢
          have hz := HQ.out.2.2.2.1
          have hm := HQ.out.2.2.2.2.1
          exact read_step hok k n P _ d (by rw [← hz]; exact h1) (by rw [← hz]; exact h2) (by rw [hm]) h3 (by unfold endP; rw [← hz, ← hm]; exact hke))
        have hcells : Hid (∀ W, Kept NoB w W → ∀ d : Nat, ∀ j v, (bc (q.1.2.drop d))[j]? = some v → W.cell? ((⟨gq, d, none⟩ : Addr).add j) = some v) := Lib.hid (fun W hW d j v hj => by
          have h1 := hW.row HQr.out (fun _ _ e => e)
          have e : bc (q.1.2.drop d) = (bc q.1.2).drop d := by simp [bc, List.map_drop]
          rw [e, List.getElem?_drop] at hj
          have h2 := h1.cells (g := gq) (by rw [HQ.out.2.2.2.2.2.2]; rfl) _ _ hj
          rw [Addr.add_lit, Nat.zero_add] at h2
          rw [Addr.add_lit]
          exact h2)
        by_cases hzk : z < k
        · obtain ⟨d, hd⟩ : ∃ d, d = (k - z).toNat := ⟨_, rfl⟩
          have hdw : IntKind.i64.wrap (k - z) = k - z := by rw [IntKind.wrap_i64]; omega
          have hd1 : k - z ≤ (m : Int) := by omega
          have hd0 : 0 ≤ k - z := by omega
          have hdc : k - z ≤ (qc : Int) := by omega
          have hdq : ¬ qc = (k - z).toNat := by omega
          have hzk2 : z ≤ k := by omega
          obtain ⟨w7, r7, o7, k7⟩ := run_copy_by2 w5 g n n 0 (readD (l.take (A + i)) k n) (readD_len _ _ _).symm HR5.out.1 ⟨gq, d, none⟩ (q.1.2.drop d) (qc - d) n (hcells.out w5 HR5.out.2 d) (Nat.zero_le _) (min (m - d) n) (by rw [List.length_drop, ← HQ.out.2.2.2.2.1, Nat.sub_zero])
          rw [List.length_drop, ← HQ.out.2.2.2.2.1, hd, Nat.sub_zero] at r7
          have hst := hstep.out 0 d (by omega) (by omega) (by omega)
          rw [Nat.sub_zero] at hst
          rw [← hst] at o7
          have HE := Lib.hid (⟨o7, kept_on2 HR5.out.2 k7 (fun j hlt hj => by have hj : j = g := hj; omega)⟩ : _ ∧ _)
          clear o7 k7 hst hd
          go_upto_region 7 with fail
          go_wp2_with (refine wpList_copy_known rfl (.tmp 32) (.tmp 39) 22 22 rfl _ _ rfl rfl _ _ r7 ?_)
          go_roundw
          · exact ⟨i + 1, by simp, by omega, Lib.hid (by rw [show A + (i + 1) = A + i + 1 by omega]; exact HE.out)⟩
          · simp only [intOf]; omega
        · obtain ⟨P, hP⟩ : ∃ P, P = (z - k).toNat := ⟨_, rfl⟩
          have hzw : IntKind.i64.wrap (z - k) = z - k := by rw [IntKind.wrap_i64]; omega
          have hkn2 := HKn.out
          have hP1 : z - k ≤ (n : Int) := by omega
          have hP0 : 0 ≤ z - k := by omega
          have hPn : ¬ n = (z - k).toNat := by omega
          have hkz2 : k ≤ z := by omega
          obtain ⟨w7, r7, o7, k7⟩ := run_copy_by2 w5.drew g n n P (readD (l.take (A + i)) k n) (readD_len _ _ _).symm ((Kept.refl NoB w5).drew.row HR5.out.1 (fun _ _ e => e)) ⟨gq, 0, none⟩ q.1.2 qc (n - P) (fun j v hj => hcells.out w5.drew HR5.out.2.drew 0 j v (by rw [List.drop_zero]; exact hj)) (by omega) (min m (n - P)) (by rw [← HQ.out.2.2.2.2.1])
          rw [← HQ.out.2.2.2.2.1, hP] at r7
          have hst := hstep.out P 0 (by omega) (by omega) (by omega)
          rw [List.drop_zero, Nat.sub_zero] at hst
          rw [← hst] at o7
          have HE := Lib.hid (⟨o7, kept_on2 HR5.out.2.drew k7 (fun j hlt hj => by have hj : j = g := hj; omega)⟩ : _ ∧ _)
          clear o7 k7 hst hP hkn2
          go_upto_region 8 with fail
          go_region_law (refine wpList_copy_known rfl (.tmp 46) (.tmp 48) 22 22 rfl _ _ rfl rfl _ _ r7 ?_)
          all_goals go_simp
          all_goals go_wp2
          all_goals go_roundw
          all_goals first
            | exact ⟨i + 1, by simp, by omega, Lib.hid (by rw [show A + (i + 1) = A + i + 1 by omega]; exact HE.out)⟩
            | (simp only [intOf]; omega)
    · have hi2 : i = N - A := by omega
      have HF : Hid (l.take (A + i) = l) := Lib.hid (List.take_of_length_le (by have := HAll.out.2.2.2.2.1; omega))
      clear hi2
      go_wp2
      go_ret
      exact ⟨g, rfl, Lib.hid ⟨by have := HR.out.1; rw [HF.out] at this; exact this, hgw, HR.out.2⟩⟩
end Go.Proofs.YtgbakogihkdddaaGreatDoor

namespace Go.Proofs.YtgbakogihkdddaaGreatDoor
open Go.RowKit
set_option linter.unusedVariables false
set_option linter.unusedSimpArgs false
set_option maxRecDepth 20000

/-- So many bytes are read. -/
def manyP (s k m : Int) : Nat := (min m (min 1048576 (max (s - k) 0))).toNat
def readP (T : FsP) (i k m : Int) : List UInt8 × Int :=
  match T.nd i with
  | none => ([], 10)
  | some n => if n.v.kind = 1 then (if k < 0 ∨ m < 0 then ([], 1) else (readD n.data k (manyP n.v.size k m), 0)) else ([], 13)
theorem readP_no {T : FsP} {i k m : Int} (h : fileE T i ≠ 0) : readP T i k m = ([], fileE T i) := by
  unfold readP fileE at *
  cases hn : T.nd i with
  | none => rfl
  | some n =>
    rw [hn] at h
    simp only at h ⊢
    by_cases h1 : n.v.kind = 1
    · rw [if_pos h1] at h; exact absurd rfl h
    · rw [if_neg h1, if_neg h1]
theorem readP_yes {T : FsP} {i k m : Int} {n : NdP} (hn : T.nd i = some n) (h1 : n.v.kind = 1) : readP T i k m = if k < 0 ∨ m < 0 then ([], 1) else (readD n.data k (manyP n.v.size k m), 0) := by
  unfold readP
  rw [hn]
  simp only
  rw [if_pos h1]
/-- What was read is a row of its own. -/
def ReadR (w : World) (l : List UInt8) (a : Option Addr) (c : Nat) (w' : World) : Prop :=
  w'.ownsRow 0 5 1 (.slice a l.length c) l.length (bc l) ∧ (∀ j, (Value.slice a l.length c).ownBlock = some j → w.heap.size ≤ j) ∧ Kept NoB w w'
theorem ReadR.empty {w w' : World} (h : Kept NoB w w') : ReadR w [] none 0 w' := ⟨World.ownsRow_nil _ _ _ _, fun k e => by simp [Value.ownBlock] at e, h⟩

set_option maxHeartbeats 4000000 in
theorem read_any {S : Nat → Prop} {w : World} {f : Nat} {T : FsP} (h : FsSt S w f T) (i : Int) (hi : -9223372036854775808 ≤ i ∧ i ≤ 9223372036854775807) (k : Int) (hk : -9223372036854775808 ≤ k ∧ k ≤ 4000000000000) (m : Int) (hm : -9223372036854775808 ≤ m ∧ m ≤ 9223372036854775807) :
    Calls Tryz.prog 16 #[.pointer (some ⟨f, 0, none⟩), .int .i64 i, .int .i64 k, .int .i64 m] w fun e w' =>
      ∃ a c, e = .returned (.tuple #[.slice a (readP T i k m).1.length c, .int .i64 (readP T i k m).2]) ∧ Hid (ReadR w (readP T i k m).1 a c w') := by
  obtain ⟨L, B, mb, h⟩ := h
  have HP := Lib.hid (file_in h i hi)
  by_cases hp : fileE T i = 0
  rotate_left
  · rw [if_neg hp, ptrV_none] at HP
    rw [readP_no hp]
    obtain ⟨z, hz⟩ : ∃ z, z = fileE T i := ⟨_, rfl⟩
    rw [← hz] at hp HP ⊢
    have hz2 : (z == 0) = false := by simpa using hp
    clear hz h hp
    go_enter Tryz.func16, Tryz.ntmps16
    go_wp2_with fail
    refine HP.out.mono ?_
    rintro e w2 ⟨rfl, hk2⟩
    go_wp2
    go_ret2
    exact ⟨none, 0, rfl, Lib.hid (ReadR.empty hk2)⟩
  obtain ⟨n, hn, h1⟩ := fileE_file hp
  rw [readP_yes hn h1]
  rw [if_pos hp, hp] at HP
  obtain ⟨D, mo, a, c, qs, hB, hN⟩ := h.at hn
  rw [hB, ptrV_some] at HP
  by_cases hbad : k < 0 ∨ m < 0
  · rw [if_pos hbad]
    clear h hp hN hB
    go_enter Tryz.func16, Tryz.ntmps16
    by_cases hb1 : k < 0
    · go_wp2_with fail
      refine HP.out.mono ?_
      rintro e w2 ⟨rfl, hk2⟩
      go_wp2
      go_ret2
      exact ⟨none, 0, rfl, Lib.hid (ReadR.empty hk2)⟩
    · have hb2 : m < 0 := by omega
      go_wp2_with fail
      refine HP.out.mono ?_
      rintro e w2 ⟨rfl, hk2⟩
      go_wp2
      go_ret2
      exact ⟨none, 0, rfl, Lib.hid (ReadR.empty hk2)⟩
  rw [if_neg hbad]
  have HOn := Lib.hid (h.ok.node i n hn)
  have hlen : n.data.length = qs.length := hN.dat.len
  have hdat : DatO w a c qs := ⟨by have := hN.dat.own; rw [hlen] at this; exact this, hN.dat.each, hN.dat.apart⟩
  obtain ⟨s, hs⟩ : ∃ s, s = n.v.size := ⟨_, rfl⟩
  have hs0 : 0 ≤ s ∧ s ≤ 1099511627776 := by rw [hs]; exact HOn.out.size
  obtain ⟨M, hM⟩ : ∃ M, M = manyP n.v.size k m := ⟨_, rfl⟩
  have hMi : (M : Int) = min m (min 1048576 (max (s - k) 0)) := by rw [hM, hs]; unfold manyP; omega
  have HRd : Hid (∀ W, Kept NoB w W → Calls Tryz.prog 38 #[.slice a qs.length c, .int .i64 k, .int .i64 (M : Int)] W fun e w' => ∃ g, e = .returned (.slice (some ⟨g, 0, none⟩) M M) ∧ Hid (w'.ownsRow 0 5 1 (.slice (some ⟨g, 0, none⟩) M M) M (bc (readD n.data k M)) ∧ w.heap.size ≤ g ∧ Kept NoB W w')) := Lib.hid (fun W hW => by
    have := dread_any a c qs k M W ⟨hW.row hdat.own (fun _ _ e => e), fun q hq => hW.row (hdat.each q hq) (fun _ _ e => e), hdat.apart⟩ (by rw [hN.data]; exact HOn.out.data) (by omega) (by omega)
    rw [hN.data] at this
    refine this.mono ?_
    rintro e w' ⟨g, rfl, hq⟩
    exact ⟨g, rfl, Lib.hid ⟨hq.out.1, Nat.le_trans hW.size hq.out.2.1, hq.out.2.2⟩⟩)
  have k13 : ∀ W, Kept NoB w W → W.cell? ⟨D, 13, none⟩ = some (.slice a qs.length c) := fun W hW => by
    have := (hN.kept hW (fun _ _ e => e) (fun _ _ e => e) (fun _ _ e => e) (fun _ _ e => e)).cell 13
    simp [ndC, nvC] at this
    rw [hlen] at this
    exact this
  have k8 : ∀ W, Kept NoB w W → W.cell? ⟨D, 8, none⟩ = some (.int .i64 s) := fun W hW => by
    have := (hN.kept hW (fun _ _ e => e) (fun _ _ e => e) (fun _ _ e => e) (fun _ _ e => e)).cell 8
    simp [ndC, nvC] at this
    rw [hs]
    exact this
  obtain ⟨ql, hql⟩ : ∃ ql, ql = qs.length := ⟨_, rfl⟩
  have hDl : D < w.heap.size := World.block_lt_of_cell? _ _ (k8 w (Kept.refl _ _))
  rw [← hM]
  rw [← hql] at HRd k13
  have hb1 : ¬ k < 0 := by omega
  have hb2 : ¬ m < 0 := by omega
  have hwk : IntKind.i64.wrap (s - k) = s - k := by rw [IntKind.wrap_i64]; omega
  have HMi := Lib.hid hMi
  clear h hp hN hB hn h1 hlen hdat hs hM hMi hql hbad HOn
  go_enter Tryz.func16, Tryz.ntmps16
  go_wp2_with fail
  refine HP.out.mono ?_
  rintro e wn ⟨rfl, hkw⟩
  have HKw := Lib.hid hkw
  have K13 : ∀ W, Kept NoB wn W → W.cell? ⟨D, 13, none⟩ = some (.slice a ql c) := fun W hW => k13 W (HKw.out.trans hW)
  have K8 : ∀ W, Kept NoB wn W → W.cell? ⟨D, 8, none⟩ = some (.int .i64 s) := fun W hW => k8 W (HKw.out.trans hW)
  have HRd := Lib.hid (fun W (hW : Kept NoB wn W) => HRd.out W (HKw.out.trans hW))
  clear hkw HP k13 k8
  obtain ⟨mx, hmx⟩ : ∃ mx, mx = max (s - k) 0 := ⟨_, rfl⟩
  have hx1 : (if 0 > s - k then 0 else s - k) = mx := by rw [hmx]; split <;> omega
  have hx2 : (if mx < (if 1048576 < m then 1048576 else m) then mx else (if 1048576 < m then 1048576 else m)) = (M : Int) := by
    rw [HMi.out, ← hmx]; split <;> split <;> omega
  have hx3 : max (s - k) 0 = mx := hmx.symm
  clear hmx
  go_upto_region 6 with fail
  go_region_held3 (fun W => Kept NoB wn W) (first | assumption | exact Kept.refl _ _ | exact Kept.drew (Kept.refl _ _) | exact Kept.drew (by assumption) | exact Kept.trans (by assumption) hge.out.2.2) ((go_at_call 38; ((with_reducible refine (HRd.out _ (by assumption)).mono ?_); rintro e we ⟨g, rfl, hge⟩)))
  have hkw2 : Kept NoB wn we := by assumption
  have HF := Lib.hid (HKw.out.trans hkw2)
  clear K13 K8 HRd
  go_wp2
  go_ret2
  have hl : M = (readD n.data k M).length := (readD_len _ _ _).symm
  refine ⟨some ⟨g, 0, none⟩, M, by rw [← hl]; rfl, Lib.hid ⟨by rw [← hl]; exact hge.out.1, fun j hj => ?_, HF.out⟩⟩
  have : g = j := by injection hj
  rw [← this]
  exact hge.out.2.1
end Go.Proofs.YtgbakogihkdddaaGreatDoor
