/-
  late.All: entries one by one, and at the end what was said of directories; extract.All.
  late.All: entries one by one, and at the end what was said of directories; extract.All.
  Rows of entries that a call has built; what the document fixes of trees made of entries (awake).
  The keys of a map of names, sorted, as this program has them, in plain words (its numbers are the dump's: write it anew by iterp.sh for another).
-/
import Derived.Test.YtgbakogihkdddaaGreatDoorMx19
import Derived.Shelf.SlIter.Nil
import Derived.Shelf.SortM.Plain
import Derived.Shelf.SortM.SortNone
import Derived.Ground.GgzProg
import Derived.Ground.SlgmProg
import Derived.Test.YtgbakogihkdddaaGreatDoorProg
namespace Go.Proofs.YtgbakogihkdddaaGreatDoor
open Go.RowKit Go.Shelf
set_option linter.unusedVariables false
set_option linter.unusedSimpArgs false
set_option maxRecDepth 20000

theorem downP_no {T : FsP} : ∀ (l : List (List UInt8)) (d : Int), (downP T d l).2 ≠ 0 → (downP T d l).1 = 0
  | [], d, h => absurd rfl h
  | q :: r, d, h => by
    unfold downP at h ⊢
    split
    · rename_i h1
      rw [if_pos h1] at h
      exact downP_no r _ h
    · rfl
theorem downP_okI {T : FsP} (hok : OkT T) (hc : T.clock ≤ 4611686018427387904) : ∀ (l : List (List UInt8)) (d : Int), okI d → okI (downP T d l).1
  | [], d, hd => hd
  | q :: r, d, hd => by
    unfold downP
    split
    · exact downP_okI hok hc r _ (find_okI hok hc d q)
    · exact ⟨by dsimp only; omega, by dsimp only; omega⟩
theorem dirOf_okI {T : FsP} (hok : OkT T) (hc : T.clock ≤ 4611686018427387904) {dir : Int} (hd : okI dir) {E : EntV} {i : Int} (h : dirOf T dir E = some i) : okI i ∧ dirK E.kind = true := by
  unfold dirOf at h
  split at h
  · rename_i hk
    split at h
    · cases h
    · split at h
      · cases h
        exact ⟨downP_okI hok hc _ _ hd, hk⟩
      · cases h
  · cases h
set_option maxHeartbeats 4000000 in
theorem directory_any {S : Nat → Prop} {w : World} {f : Nat} {T : FsP} (h : FsSt S w f T) (dir : Int) (hdir : okI dir) (E : EntV) (hn : E.name.length ≤ 4096) (A B : Value) (hclk : T.clock + 1 ≤ 4611686018427387904) :
    Calls Tryz.prog 62 #[.pointer (some ⟨f, 0, none⟩), .int .i64 dir, .agg (entC E A B).toArray] w fun e w' => e = .returned (.tuple #[.int .i64 ((dirOf T dir E).getD 0), .bool (dirOf T dir E).isSome]) ∧ Kept NoB w w' := by
  obtain ⟨w1, hw1, hob, hk1⟩ := ent_boxed E A B w
  have x0 : w1.cell? ⟨w.heap.size, 0, none⟩ = some (.int .i64 E.kind) := by rw [obj_cell hob]; rfl
  have x1 : w1.cell? ⟨w.heap.size, 1, none⟩ = some (.string (strB E.name)) := by rw [obj_cell hob]; rfl
  have hB : dirOf T dir E = if dirK E.kind = true then (match partsOf E.name with | none => none | some ps => if (downP T dir ps).2 = 0 then some (downP T dir ps).1 else none) else none := rfl
  obtain ⟨C, hC⟩ : ∃ C, C = dirOf T dir E := ⟨_, rfl⟩
  rw [← hC] at hB ⊢
  have HB := Lib.hid hB; have HW := Lib.hid hw1; have HK := Lib.hid hk1; have H := Lib.hid h
  have hnx := h.okT.next
  have HNx : Hid (T.next ≤ 4611686018427387904) := Lib.hid (by omega)
  clear hw1 hob hk1 hB hC h hnx
  go_enter Tryz.func62, Tryz.ntmps62
  go_upto_region 1 with fail
  rw [← HW.out]
  by_cases hd : dirK E.kind = true
  rotate_left
  · have e6 : (E.kind != 6) = true := by
      unfold dirK at hd
      cases h6 : (E.kind == 6)
      · simp [bne, h6]
      · rw [h6] at hd; exact absurd rfl hd
    have e8 : (E.kind != 8) = true := by
      unfold dirK at hd
      cases h6 : (E.kind == 8)
      · simp [bne, h6]
      · rw [h6, Bool.or_true] at hd; exact absurd rfl hd
    have HF : Hid (C = none) := Lib.hid (by rw [HB.out, if_neg hd])
    clear HB hd
    go_wp2
    go_ret2
    exact ⟨by rw [HF.out]; rfl, HK.out⟩
  have HB2 : Hid (C = match partsOf E.name with | none => none | some ps => if (downP T dir ps).2 = 0 then some (downP T dir ps).1 else none) := Lib.hid (by rw [HB.out, if_pos hd])
  clear HB
  have hd2 : E.kind = 6 ∨ E.kind = 8 := by simpa [dirK] using hd
  clear hd
  rcases hd2 with hd2 | hd2
  · have e6 : (E.kind != 6) = false := by rw [hd2]; rfl
    cases hps : partsOf E.name with
    | none =>
      have HPt := Lib.hid (parts_none hps w1 (by omega))
      have HF : Hid (C = none) := Lib.hid (by rw [HB2.out, hps])
      clear HB2 hps
      go_wp2_with (go_at_call 32; refine HPt.out.mono ?_; rintro e w3 ⟨rfl, hk3⟩)
      go_ret2
      exact ⟨by rw [HF.out]; rfl, HK.out.trans hk3⟩
    | some ps =>
    have HPt := Lib.hid (parts_some hps w1 (by omega))
    have HPf := Lib.hid (parts_few hps)
    have HB3 : Hid (C = if (downP T dir ps).2 = 0 then some (downP T dir ps).1 else none) := Lib.hid (by rw [HB2.out, hps])
    clear HB2 hps
    go_upto_region 6 with (go_at_call 32; refine HPt.out.mono ?_; rintro e w3 ⟨ao, cap, rfl, hcp, hrs⟩)
    have HDn := Lib.hid (down_any (H.out.keptNo (HK.out.trans hrs.out.2.2)) HNx.out dir hdir ao cap w3.heap.size ps hrs.out.1 (fun q hq => by have := (HPf.out.2 q hq).1; omega) (by have := HPf.out.1; omega))
    have HNo := Lib.hid (downP_no (T := T) ps dir)
    obtain ⟨D, hD⟩ : ∃ D, D = downP T dir ps := ⟨_, rfl⟩
    rw [← hD] at HDn HB3 HNo
    obtain ⟨D1, D2⟩ := D
    dsimp only at HDn HB3 HNo
    clear hD HPt
    by_cases h0 : D2 = 0
    · subst h0
      have HF : Hid (C = some D1) := Lib.hid (by rw [HB3.out, if_pos rfl])
      clear HB3 HNo
      go_wp2_with (go_at_call 23; refine HDn.out.mono ?_; rintro e w4 ⟨rfl, hk4⟩)
      go_ret2
      exact ⟨by rw [HF.out]; rfl, (HK.out.trans hrs.out.2.2).trans hk4⟩
    · have h02 : (D2 == 0) = false := by simpa using h0
      have HF : Hid (C = none) := Lib.hid (by rw [HB3.out, if_neg h0])
      have hD1 : D1 = 0 := HNo.out h0
      subst hD1
      clear HB3 HNo h0
      go_wp2_with (go_at_call 23; refine HDn.out.mono ?_; rintro e w4 ⟨rfl, hk4⟩)
      go_ret2
      exact ⟨by rw [HF.out]; rfl, (HK.out.trans hrs.out.2.2).trans hk4⟩
  · have e6 : (E.kind != 6) = true := by rw [hd2]; rfl
    have e8 : (E.kind != 8) = false := by rw [hd2]; rfl
    cases hps : partsOf E.name with
    | none =>
      have HPt := Lib.hid (parts_none hps w1 (by omega))
      have HF : Hid (C = none) := Lib.hid (by rw [HB2.out, hps])
      clear HB2 hps
      go_wp2_with (go_at_call 32; refine HPt.out.mono ?_; rintro e w3 ⟨rfl, hk3⟩)
      go_ret2
      exact ⟨by rw [HF.out]; rfl, HK.out.trans hk3⟩
    | some ps =>
    have HPt := Lib.hid (parts_some hps w1 (by omega))
    have HPf := Lib.hid (parts_few hps)
    have HB3 : Hid (C = if (downP T dir ps).2 = 0 then some (downP T dir ps).1 else none) := Lib.hid (by rw [HB2.out, hps])
    clear HB2 hps
    go_upto_region 6 with (go_at_call 32; refine HPt.out.mono ?_; rintro e w3 ⟨ao, cap, rfl, hcp, hrs⟩)
    have HDn := Lib.hid (down_any (H.out.keptNo (HK.out.trans hrs.out.2.2)) HNx.out dir hdir ao cap w3.heap.size ps hrs.out.1 (fun q hq => by have := (HPf.out.2 q hq).1; omega) (by have := HPf.out.1; omega))
    have HNo := Lib.hid (downP_no (T := T) ps dir)
    obtain ⟨D, hD⟩ : ∃ D, D = downP T dir ps := ⟨_, rfl⟩
    rw [← hD] at HDn HB3 HNo
    obtain ⟨D1, D2⟩ := D
    dsimp only at HDn HB3 HNo
    clear hD HPt
    by_cases h0 : D2 = 0
    · subst h0
      have HF : Hid (C = some D1) := Lib.hid (by rw [HB3.out, if_pos rfl])
      clear HB3 HNo
      go_wp2_with (go_at_call 23; refine HDn.out.mono ?_; rintro e w4 ⟨rfl, hk4⟩)
      go_ret2
      exact ⟨by rw [HF.out]; rfl, (HK.out.trans hrs.out.2.2).trans hk4⟩
    · have h02 : (D2 == 0) = false := by simpa using h0
      have HF : Hid (C = none) := Lib.hid (by rw [HB3.out, if_neg h0])
      have hD1 : D1 = 0 := HNo.out h0
      subst hD1
      clear HB3 HNo h0
      go_wp2_with (go_at_call 23; refine HDn.out.mono ?_; rintro e w4 ⟨rfl, hk4⟩)
      go_ret2
      exact ⟨by rw [HF.out]; rfl, (HK.out.trans hrs.out.2.2).trans hk4⟩

/-- Where each entry's pieces and names lie. -/
abbrev EnX := Nat → (Option Addr × Nat) × (Option Addr × Nat)
def cellsE (l : List EntV) (xs : EnX) (i : Nat) : List Value := entC (l.getD i noE) (.slice (xs i).1.1 (l.getD i noE).pcs.length (xs i).1.2) (.slice (xs i).2.1 0 (xs i).2.2)
def valE (l : List EntV) (xs : EnX) (i : Nat) : Value := .agg (cellsE l xs i).toArray
theorem valE_zero {l : List EntV} {xs : EnX} {i : Nat} (h : (l.getD i noE).kind ≠ 0) : valE l xs i ≠ zeroEv := fun e => by
  unfold valE zeroEv at e
  injection e with e
  have := congrArg (fun a : Array Value => a.toList.head?) e
  simp [cellsE, entC] at this
  exact h this
/-- A row of entries that is read, apart from the blocks of S. -/
def RdEs (S : Nat → Prop) (w : World) (ao : Option Addr) (l : List EntV) (xs : EnX) : Prop :=
  ∀ i, i < l.length → ∃ b off, ao = some ⟨b, off, none⟩ ∧ ¬ S b ∧ w.rangeAt b (off + i * 12) (cellsE l xs i) ∧ RdA S w (xs i).1.1 (l.getD i noE).pcs ∧ IntP (l.getD i noE).pcs ∧ (l.getD i noE).pcs.length ≤ (xs i).1.2 ∧ (xs i).1.2 ≤ maxLen ∧ EntI (l.getD i noE)
theorem range_kept {R : Nat → Prop} {w w' : World} {b o : Nat} {cs : List Value} (h : w.rangeAt b o cs) (hk : Kept R w w') (hb : ¬ R b) : w'.rangeAt b o cs := fun j v hj =>
  (World.cell?_of_block (a := ⟨b, o + j, none⟩) (hk.block b (World.block_lt_of_cell? w _ (h j v hj)) hb)).trans (h j v hj)
/-- The map of what was said, and what holds of it. -/
structure SdOk (w : World) (mb : Nat) (l : List EntV) (xs : EnX) (S : Said) : Prop where
  at_ : SdAt w mb (valE l xs) l.length S
  sd : OkSd S
  each : ∀ p ∈ S, p.2 < l.length ∧ okI p.1
theorem SdAt.kept {R : Nat → Prop} {w w' : World} {mb : Nat} {vs : Nat → Value} {n : Nat} {S : Said} (h : SdAt w mb vs n S) (hk : Kept R w w') (hb : ¬ R mb) : SdAt w' mb vs n S := MapF.kept h hk hb
theorem wpList_sd_at {ops : Array Oper} {rest : List Oper} {o : Oper} {a : Act} {w : World} {Q : Exit → Act → World → Prop} (hgd : o.guard = none) (m x : Operand) (hop : o.op = Op.lookup 111 m x false) {mb : Nat} {vs : Nat → Value} {n : Nat} {S : Said} (hM : SdAt w mb vs n S) (hm : a.eval m = .map (some mb)) {k : Int} (hx : a.eval x = .int .i64 k) (hk : okI k) {j : Nat} (hj : j < n) (hg : getS S k = some j)
    (h : wpList Tryz.prog ops Q rest (a.put o.dst (vs j)) w) : wpList Tryz.prog ops Q (o :: rest) a w := by
  refine wpList_plain hgd fun K' hK' => ?_
  unfold Oper.wp
  simp [execOp, hop, hm, hx, sd_at hM k hk j hj hg w rfl, Result.andThen]
  exact hK' _ _ h
end Go.Proofs.YtgbakogihkdddaaGreatDoor

namespace Go.Proofs.YtgbakogihkdddaaGreatDoor
open Go.RowKit Go.Shelf
set_option linter.unusedVariables false
set_option linter.unusedSimpArgs false
set_option maxRecDepth 20000

theorem load_midE {ops : Array Oper} {rest : List Oper} {o : Oper} {a : Act} {w : World} {Q : Exit → Act → World → Prop} (hgd : o.guard = none) (x : Operand) (ho : o.op = .load 38 x) (b off : Nat) (hx : a.eval x = .pointer (some ⟨b, off, none⟩)) (l : List EntV) (xs : EnX) (i : Nat) (hr : w.rangeAt b off (cellsE l xs i))
    (h : wpList Tryz.prog ops Q rest (a.put o.dst (.agg (cellsE l xs i).toArray)) w) : wpList Tryz.prog ops Q (o :: rest) a w :=
  wpList_load_mid hgd 38 x ho b off hx (cellsE l xs i) _ hr Tryz.underlying38 rfl infoEn h
theorem setsP_cons (l : List EntV) (T : FsP) (p : Int × Nat) (r : Said) : setsP l T (p :: r) = setsP l (setP T p.1 (ownE (l.getD p.2 noE))).1 r := rfl
theorem sd_max {S : Said} {n : Nat} (h : S.length ≤ n) (hn : n ≤ 100000) : S.length < maxLen := by unfold maxLen; omega
theorem putSaid_le (S : Said) (i : Int) (E : Nat) (h : OkSd S) : (putSaid S i E).length ≤ S.length + 1 := by
  rw [put_len S i E h]
  split <;> omega
theorem saidN_le (S : Said) (T : FsP) (dir : Int) (E : EntV) (j : Nat) (h : OkSd S) : (saidN S T dir E j).length ≤ S.length + 1 := by
  unfold saidN
  split
  · exact putSaid_le S _ j h
  · omega

theorem RdA.out {S : Nat → Prop} {w : World} {ao : Option Addr} {l : List Pc} (h : RdA S w ao l) : RdA (fun k => S k ∨ w.heap.size ≤ k) w ao l := by
  intro i hi
  obtain ⟨b, off, bo, bc, h1, h2, h3, h4, h5, h6, h7, h8⟩ := h i hi
  have hb := World.block_lt_of_cell? w _ h3
  exact ⟨b, off, bo, bc, h1, (fun e => by rcases e with e | e; exact h2 e; exact absurd e (by dsimp only at hb; omega)), h3, h4, h5, h6, fun x hx => ⟨(fun e => by rcases e with e | e; exact (h7 x hx).1 e; exact absurd e (by have := (h7 x hx).2; omega)), (h7 x hx).2⟩, h8⟩
theorem RdA.less {S R : Nat → Prop} {w : World} {ao : Option Addr} {l : List Pc} (h : RdA S w ao l) (hs : ∀ k, R k → S k) : RdA R w ao l := by
  intro i hi
  obtain ⟨b, off, bo, bc, h1, h2, h3, h4, h5, h6, h7, h8⟩ := h i hi
  exact ⟨b, off, bo, bc, h1, fun e => h2 (hs b e), h3, h4, h5, h6, fun x hx => ⟨fun e => (h7 x hx).1 (hs _ e), (h7 x hx).2⟩, h8⟩
/-- The tree's state beside a map of the call's own. -/
def Bes (S : Nat → Prop) (mb : Nat) (w1 W : World) (f : Nat) (T : FsP) : Prop := FsSt (Grow S w1 W) W f T ∧ Kept (fun k => S k ∨ k = mb) w1 W
theorem Bes.turn {S : Nat → Prop} {mb : Nat} {w1 W W' : World} {f : Nat} {T T' : FsP} (h : Bes S mb w1 W f T) (h2 : Turn (Grow S w1 W) W W' f T') : Bes S mb w1 W' f T' :=
  ⟨h2.1.mono (fun k e => by
    have q1 := h2.2.size
    have q2 := h.2.size
    rcases e with (e | e) | e
    · exact .inl e
    · exact .inr ⟨e.1, Nat.lt_of_lt_of_le e.2 q1⟩
    · exact .inr ⟨by omega, e.2⟩), keep_onS h.2 h2.2 (fun i hi e => by rcases e with e | e; exact .inl e; have := e.1; omega)⟩
theorem Bes.no {S : Nat → Prop} {mb : Nat} {w1 W W' : World} {f : Nat} {T : FsP} (h : Bes S mb w1 W f T) (hk : Kept NoB W W') : Bes S mb w1 W' f T :=
  ⟨(h.1.keptNo hk).mono (fun k e => by rcases e with e | e; exact .inl e; exact .inr ⟨e.1, Nat.lt_of_lt_of_le e.2 hk.size⟩), h.2.trans (hk.mono (fun k _ e => e.elim))⟩
theorem Bes.map {S : Nat → Prop} {mb : Nat} {w1 W W' : World} {f : Nat} {T : FsP} (h : Bes S mb w1 W f T) (hm : mb < w1.heap.size) (hS : ¬ S mb) (hk : Kept (OneB mb) W W') : Bes S mb w1 W' f T :=
  ⟨(h.1.kept hk (fun k e e' => by
      have e' : k = mb := e'
      subst e'
      rcases e with e | e
      · exact hS e
      · have := e.1; omega)).mono (fun k e => by rcases e with e | e; exact .inl e; exact .inr ⟨e.1, Nat.lt_of_lt_of_le e.2 hk.size⟩), h.2.trans (hk.mono (fun k _ e => .inr e))⟩
theorem Bes.fin {S : Nat → Prop} {mb : Nat} {w w1 W : World} {f : Nat} {T : FsP} (h : Bes S mb w1 W f T) (hk : Kept NoB w w1) (hm : w.heap.size ≤ mb) : Turn S w W f T :=
  ⟨h.1.mono (fun k e => by
    have q1 := hk.size
    rcases e with e | e
    · exact .inl e
    · exact .inr ⟨by omega, e.2⟩), keep_onS (hk.mono (fun k _ e => e.elim)) h.2 (fun i hi e => by rcases e with e | e; exact e; omega)⟩
theorem Turn.more {S R : Nat → Prop} {w W : World} {f : Nat} {T : FsP} (h : Turn S w W f T) (hs : ∀ k, S k → R k) : Turn R w W f T :=
  ⟨h.1.mono (fun k e => by rcases e with e | e; exact .inl (hs k e); exact .inr e), h.2.mono (fun k _ e => hs k e)⟩
theorem own_readsI {w : World} {base n cap : Nat} {ao : Option Addr} {zs : List Int} (h : w.ownsRow base 3 1 (.slice ao n cap) n (zs.map (.int .i64))) (hn : zs.length = n) (i : Nat) (hi : i < n) : ∃ g, ao = some ⟨g, 0, none⟩ ∧ base ≤ g ∧ w.cell? ⟨g, i, none⟩ = some (.int .i64 (zs.getD i 0)) := by
  rcases h.2 with ⟨_, hz⟩ | ⟨g, c, cur, hv, hb, hg, h1, h2, h3, h4⟩
  · omega
  · cases hv
    refine ⟨g, rfl, hb, ?_⟩
    rw [cell_of_row _ _ _ _ _ _ hg]
    have h5 : (cur.toList.take (n * 1))[i]? = (zs.map (Value.int .i64))[i]? := by rw [h4]
    rw [List.getElem?_take_of_lt (by omega)] at h5
    rw [Array.getElem?_toList] at h5
    rw [h5]
    simp [List.getD, show i < zs.length by omega]
theorem one_okE {T : FsP} {dir : Int} {E : EntV} (h : (oneP T dir E).2 = 0) : okE E = true := by
  unfold oneP at h
  split at h
  · rename_i h1; exact h1
  · cases h
theorem wpList_sd_look {ops : Array Oper} {rest : List Oper} {o : Oper} {a : Act} {w : World} {Q : Exit → Act → World → Prop} (hgd : o.guard = none) (m x : Operand) (hop : o.op = Op.lookup 111 m x false) {mb : Nat} {l : List EntV} {xs : EnX} {S : Said} (hM : SdOk w mb l xs S) (hm : a.eval m = .map (some mb)) {k : Int} (hx : a.eval x = .int .i64 k) (hk : okI k) {j : Nat} (hj : j < l.length) (hg : getS S k = some j)
    (h : wpList Tryz.prog ops Q rest (a.put o.dst (.agg (cellsE l xs j).toArray)) w) : wpList Tryz.prog ops Q (o :: rest) a w :=
  wpList_sd_at hgd m x hop hM.at_ hm hx hk hj hg h

set_option maxHeartbeats 8000000 in
theorem lateAll_any {S : Nat → Prop} {w : World} {f : Nat} {T : FsP} (h : FsSt S w f T) (hlow : ∀ k, S k → k < w.heap.size) (dir : Int) (hdir : okI dir) (l : List EntV) (xs : EnX) (ao : Option Addr) (c n : Nat) (hr : RdEs S w ao l xs) (hn : n = l.length) (hnm : n ≤ 10000) (hclk : T.clock + 100000000 ≤ 4611686018427387904) (hquo : T.quota ≤ 4611686018427387904) :
    Calls Tryz.prog 39 #[.pointer (some ⟨f, 0, none⟩), .int .i64 dir, .slice ao n c, .func (.func 13) #[] #[]] w fun e w' => e = .returned (.tuple #[.int .i64 ((allE T dir l).2.1 : Nat), .int .i64 (allE T dir l).2.2]) ∧ Turn S w w' f (allE T dir l).1 := by
  obtain ⟨C, hC⟩ : ∃ C, C = allE T dir l := ⟨_, rfl⟩
  rw [← hC]
  obtain ⟨w1, hw1⟩ : ∃ w1, w1 = w.alloc (.map #[] 0) := ⟨_, rfl⟩
  have hk1 : Kept NoB w w1 := by rw [hw1]; exact (Kept.refl NoB w).alloc _
  have hs1 : w1.heap.size = w.heap.size + 1 := by rw [hw1]; simp
  have hmap : SdAt w1 w.heap.size (valE l xs) l.length [] := by
    rw [hw1]
    unfold SdAt
    rw [sdF_nil]
    exact MapF.made w _ _ _
  obtain ⟨mb, hmb⟩ : ∃ mb, mb = w.heap.size := ⟨_, rfl⟩
  rw [← hmb] at hmap
  have HC := Lib.hid hC; have HW := Lib.hid hw1; have HK := Lib.hid hk1; have H1 := Lib.hid (h.keptNo hk1); have HLow := Lib.hid hlow; have HR := Lib.hid hr; have HN := Lib.hid hn; have HS1 := Lib.hid hs1; have HMb := Lib.hid hmb
  have HMap : Hid (SdOk w1 mb l xs []) := Lib.hid ⟨hmap, List.Pairwise.nil, fun p hp => by cases hp⟩
  have hmm := @run_makeMap Tryz.prog
  clear hC hw1 hk1 h hlow hr hn hs1 hmap
  go_enter Tryz.func39, Tryz.ntmps39
  go_upto_region 2 with fail
  rw [← HW.out, ← hmb]
  clear hmm hmb
  go_upto_region 3 with fail
  go_loopw [11, 12, 13, 14] (fun v11 v12 v13 v14 wr => ∃ (i : Nat) (Ti : FsP) (Si : Said), v11 = .int .i64 (i : Int) ∧ v12 = .int .i64 0 ∧ i ≤ n ∧ Hid (FsSt (Grow S w1 wr) wr f Ti ∧ Kept (fun k => S k ∨ k = mb) w1 wr ∧ goE T dir [] 0 l = goE Ti dir Si i (l.drop i) ∧ Tame (6000 * i) T Ti ∧ SdOk wr mb l xs Si ∧ Si.length ≤ i)) (fun v11 _ _ _ _ => n - (intOf v11).toNat)
  case atStart => exact ⟨0, T, [], rfl, rfl, by omega, Lib.hid ⟨H1.out.mono (fun k e => .inl e), Kept.refl _ _, rfl, Tame.refl T, HMap.out, Nat.le_refl _⟩⟩
  case round =>
    obtain ⟨i, Ti, Si, rfl, rfl, hi, HI⟩ := hrel
    by_cases hlt : (i : Int) < n
    · have hin : i < l.length := by have := HN.out; omega
      obtain ⟨q1, q2, q3, q4, q5, q6⟩ := HI.out
      have hdr := drop_getDe l i hin
      rw [hdr, goE_cons] at q3
      obtain ⟨b, off, rfl, hbS, hrg, hra, hint, hr1, hr2, hei⟩ := HR.out i hin
      have hbl : b < w.heap.size := World.block_lt_of_cell? w _ (hrg 0 _ rfl)
      have hrg1 : wr.rangeAt b (off + i * 12) (cellsE l xs i) := range_kept (range_kept hrg HK.out id) q2 (fun e => by
        rcases e with e | e
        · exact hbS e
        · have := HMb.out; omega)
      obtain ⟨E, hE⟩ : ∃ E, E = l.getD i noE := ⟨_, rfl⟩
      have hsz1 := HS1.out
      have hswr := q2.size
      have hcl := q4.2.2
      have hqu := q4.1
      have hcm : Ti.clock + 20000 ≤ 4611686018427387904 := by omega
      have HOne : Hid (Calls Tryz.prog 13 #[.pointer (some ⟨f, 0, none⟩), .int .i64 dir, .agg (cellsE l xs i).toArray] wr fun e w' => e = .returned (.int .i64 (oneP Ti dir E).2) ∧ Turn (Grow S w1 wr) wr w' f (oneP Ti dir E).1) := Lib.hid (by
        rw [hE]
        unfold cellsE
        refine one_any q1 (fun k e => ?_) dir hdir (l.getD i noE) hei (xs i).1.1 (xs i).1.2 (xs i).2.1 (xs i).2.2 ?_ hint hr1 hr2 (by omega) (by omega)
        · rcases e with e | e
          · have := HLow.out k e; have := HMb.out; omega
          · exact e.2
        · refine ((((hra.out).kept HK.out (fun k _ e => e.elim))).kept (R := fun k => S k ∨ k = mb) q2 (fun k hk e => ?_)).less (fun k e => ?_)
          · rcases e with e | e
            · exact .inl e
            · exact .inr (by have := HMb.out; omega)
          · rcases e with e | e
            · exact .inl e
            · exact .inr (by have := e.1; omega))
      have HBi : Hid (Bes S mb w1 wr f Ti) := Lib.hid ⟨q1, q2⟩
      have HTo := Lib.hid (q4.trans (tame_one Ti dir E))
      have HOkE := Lib.hid (one_okE (T := Ti) (dir := dir) (E := E))
      have HSi := Lib.hid q5; have HLi := Lib.hid q6; have HQ3 := Lib.hid q3
      have HRg := Lib.hid (fun (W : World) (R : Nat → Prop) (hk : Kept R wr W) (hb : ¬ R b) => range_kept hrg1 hk hb)
      have HbG : Hid (¬ Grow S w1 wr b) := Lib.hid (fun e => by
        rcases e with e | e
        · exact hbS e
        · have := e.1; omega)
      obtain ⟨O, hO⟩ : ∃ O, O = oneP Ti dir E := ⟨_, rfl⟩
      rw [← hE, ← hO] at HQ3
      rw [← hO] at HOne HTo HOkE
      obtain ⟨O1, O2⟩ := O
      dsimp only at HOne HTo HOkE HQ3
      have HE := Lib.hid hE; have HRg1 := Lib.hid hrg1
      clear q1 q2 q3 q4 q5 q6 hdr hbS hrg hra hint hr1 hr2 hei hO hrg1 hE hcl hqu hcm
      go_upto_region 5 with (first | (refine load_midE rfl (.tmp 28) rfl b (off + i * 12) rfl l xs i HRg1.out ?_) | (go_at_call 13; refine HOne.out.mono ?_; rintro e w2 ⟨rfl, ht2⟩))
      have HT2 := Lib.hid ht2
      have HB2 := Lib.hid (HBi.out.turn ht2)
      clear ht2 HOne
      by_cases h0 : O2 = 0
      · subst h0
        have HQ4 : Hid (goE T dir [] 0 l = goE O1 dir (saidN Si O1 dir E i) (i + 1) (l.drop (i + 1))) := Lib.hid (by rw [HQ3.out, if_pos rfl])
        have HDr := Lib.hid (directory_any HB2.out.1 dir hdir E (okE_name (HOkE.out rfl)).1 (.slice (xs i).1.1 E.pcs.length (xs i).1.2) (.slice (xs i).2.1 0 (xs i).2.2) (by have := HTo.out.2.2; omega))
        have hce : (entC E (.slice (xs i).1.1 E.pcs.length (xs i).1.2) (.slice (xs i).2.1 0 (xs i).2.2)) = cellsE l xs i := by rw [HE.out]; rfl
        rw [hce] at HDr
        have HRg2 := Lib.hid (HRg.out w2 _ HT2.out.2 HbG.out)
        have HmG : Hid (¬ Grow S w1 wr mb) := Lib.hid (fun e => by
          have := HMb.out
          rcases e with e | e
          · have := HLow.out mb e; omega
          · have := e.1; omega)
        have HS2 : Hid (SdOk w2 mb l xs Si) := Lib.hid ⟨HSi.out.at_.kept HT2.out.2 HmG.out, HSi.out.sd, HSi.out.each⟩
        have HSn : saidN Si O1 dir E i = match dirOf O1 dir E with | some x => putSaid Si x i | none => Si := rfl
        have HDk : Hid (∀ x, dirOf O1 dir E = some x → okI x ∧ dirK E.kind = true) := Lib.hid (fun x hx => dirOf_okI HB2.out.1.okT (by have := HTo.out.2.2; omega) hdir hx)
        obtain ⟨D, hD⟩ : ∃ D, D = dirOf O1 dir E := ⟨_, rfl⟩
        rw [← hD] at HDr HSn HDk
        rw [HSn] at HQ4
        clear HQ3 HSn hce
        cases D with
        | none =>
          have HTo2 := Lib.hid HTo.out
          clear hD
          go_wp2_with (first | (refine load_midE rfl (.tmp 38) rfl b (off + i * 12) rfl l xs i HRg2.out ?_) | (go_at_call 62; refine HDr.out.mono ?_; rintro e w3 ⟨rfl, hk3⟩))
          go_roundw
          case rel => exact ⟨i + 1, O1, Si, by go_num, rfl, by omega, Lib.hid ⟨(HB2.out.no hk3).1, (HB2.out.no hk3).2, HQ4.out, HTo2.out.mono (by omega), ⟨HS2.out.at_.kept hk3 id, HS2.out.sd, HS2.out.each⟩, by have := HLi.out; omega⟩⟩
          case measure => simp [intOf]; omega
        | some x =>
          obtain ⟨hxi, hxk⟩ := HDk.out x rfl
          clear hD
          have hzz : valE l xs i ≠ zeroEv := valE_zero (by
            rw [← HE.out]
            intro e
            rw [e] at hxk
            revert hxk; decide)
          go_upto_region 8 with (first | (refine load_midE rfl (.tmp 38) rfl b (off + i * 12) rfl l xs i HRg2.out ?_) | (go_at_call 62; refine HDr.out.mono ?_; rintro e w3 ⟨rfl, hk3⟩))
          have HK3 := Lib.hid hk3
          have HRg3 := Lib.hid (range_kept HRg2.out hk3 id)
          obtain ⟨w4, hr4, s4, k4, z4⟩ := sd_put (HS2.out.at_.kept hk3 id) HS2.out.sd x hxi i hin hzz (sd_max HLi.out (by omega))
          have hr4' : (Instr.mapUpdate 111 (.map (some mb)) (.int .i64 x) (.agg (cellsE l xs i).toArray)).run Tryz.prog w3 = .ok () w4 := hr4
          have HB4 := Lib.hid ((HB2.out.no hk3).map (by have := HMb.out; omega) (fun e => by have := HLow.out mb e; have := HMb.out; omega) k4)
          have HS4 : Hid (SdOk w4 mb l xs (putSaid Si x i)) := Lib.hid ⟨s4, put_sd Si x i HS2.out.sd, fun p hp => by
            rcases mem_put Si x i p hp with e | e
            · rw [e]; exact ⟨hin, hxi⟩
            · exact HS2.out.each p e⟩
          have HL4 := Lib.hid (putSaid_le Si x i HS2.out.sd)
          clear hr4 s4 k4 z4 hk3 hxk hzz
          go_wp2_with (first | (refine load_midE rfl (.tmp 48) rfl b (off + i * 12) rfl l xs i HRg3.out ?_))
          go_roundw
          case rel => exact ⟨i + 1, O1, putSaid Si x i, by go_num, rfl, by omega, Lib.hid ⟨HB4.out.1, HB4.out.2, HQ4.out, HTo.out.mono (by omega), HS4.out, by have := HLi.out; have := HL4.out; omega⟩⟩
          case measure => simp [intOf]; omega
      · have h02 : (O2 != 0) = true := by simpa using h0
        have HBs : Hid (Bes S mb w1 w2 f O1) := Lib.hid HB2.out
        have HSd : Hid (SdOk w2 mb l xs Si) := Lib.hid (by
          refine ⟨HSi.out.at_.kept HT2.out.2 (fun e => ?_), HSi.out.sd, HSi.out.each⟩
          have := HMb.out
          rcases e with e | e
          · have := HLow.out mb e; omega
          · have := e.1; omega)
        have HLe : Hid (Si.length ≤ 10000) := Lib.hid (by have := HLi.out; omega)
        have HClk : Hid (O1.clock + 20000 ≤ 4611686018427387904) := Lib.hid (by have := HTo.out.2.2; omega)
        have HCx : Hid (C = (setsP l O1 Si, i, O2)) := Lib.hid (by
          rw [HC.out]; unfold allE
          rw [HQ3.out, if_neg h0])
        clear HB2 HT2 HTo HQ3 HSi HLi HBi HRg HRg1 HbG HOkE h0
        have HSl := Lib.hid (sd_list HSd.out.at_ HSd.out.sd (by have := HLe.out; omega))
        obtain ⟨m, hm⟩ : ∃ m, m = Si.length := ⟨_, rfl⟩
        rw [← hm] at HSl
        have HKy := Lib.hid (fun (o : Option Nat) (W : World) => keys_of o W)
        go_upto_region 11 with (first | (go_at_call 64; refine (HKy.out _ _).mono ?_; rintro e w' ⟨rfl, rfl⟩) | (go_at_call 63; refine HSl.out.mono ?_; rintro e w9 ⟨ro, rc, rfl, hrow⟩))
        have HF9 := Lib.hid (HBs.out.1.keptNo hrow.out.2)
        have HM := Lib.hid hm
        have hmn : m ≤ 10000 := by have := HLe.out; omega
        clear HSl HKy hm
        go_loopw [16, 17, 56] (fun v16 v17 v56 wr => ∃ (k : Nat) (Tk : FsP), v56 = .int .i64 (k : Int) ∧ k ≤ m ∧ Hid (Turn (Grow S w1 w2) w9 wr f Tk ∧ setsP l O1 Si = setsP l Tk (Si.drop k) ∧ Tame k O1 Tk)) (fun _ _ v56 _ => m - (intOf v56).toNat)
        case atStart => exact ⟨0, O1, rfl, by omega, Lib.hid ⟨Turn.nil HF9.out, rfl, Tame.refl O1⟩⟩
        case round =>
          obtain ⟨k, Tk, rfl, hk, HJ⟩ := hrel
          obtain ⟨t1, t2, t3⟩ := HJ.out
          by_cases hlk : (k : Int) < m
          · have hks : k < Si.length := by have := HM.out; omega
            have hdr := drop_getDsd Si k hks
            rw [hdr, setsP_cons] at t2
            obtain ⟨p, hp⟩ : ∃ p, p = Si.getD k (0, 0) := ⟨_, rfl⟩
            rw [← hp] at t2
            have hpm : p ∈ Si := by rw [hp]; simp [List.getD, hks]
            obtain ⟨p1, p2⟩ := HSd.out.each p hpm
            have hpg := getS_mem HSd.out.sd hpm
            have hrw := hrow.out.1
            rw [← HM.out] at hrw
            obtain ⟨g, hro, hgb, hgc⟩ := own_readsI hrw (by rw [List.length_map]; exact HM.out.symm) k (by omega)
            subst hro
            have hpe : (Si.map Prod.fst).getD k 0 = p.1 := by rw [hp]; simp [List.getD, hks]
            rw [hpe] at hgc
            have hx1 := hrow.out.2.size
            have hs1 := HS1.out
            have hmbv := HMb.out
            have hbs := HBs.out.2.size
            have hgG : ¬ Grow S w1 w2 g := fun e => by
              rcases e with e | e
              · have := HLow.out g e; omega
              · have := e.2; omega
            have hmG : ¬ Grow S w1 w2 mb := fun e => by
              rcases e with e | e
              · have := HLow.out mb e; omega
              · have := e.1; omega
            have hgc2 : wr.cell? ⟨g, k, none⟩ = some (.int .i64 p.1) := (World.cell?_of_block (a := ⟨g, k, none⟩) (t1.2.block g (World.block_lt_of_cell? w9 _ hgc) hgG)).trans hgc
            have HSq : Hid (SdOk wr mb l xs Si) := Lib.hid ⟨(HSd.out.at_.kept hrow.out.2 id).kept t1.2 hmG, HSd.out.sd, HSd.out.each⟩
            obtain ⟨E, hE⟩ : ∃ E, E = l.getD p.2 noE := ⟨_, rfl⟩
            obtain ⟨ino, hino⟩ : ∃ x, x = p.1 := ⟨_, rfl⟩
            obtain ⟨j, hj⟩ : ∃ x, x = p.2 := ⟨_, rfl⟩
            rw [← hino] at hgc2 p2 hpg t2
            rw [← hj] at p1 hpg hE t2
            rw [← hE] at t2
            have hei : EntI (l.getD j noE) := by
              obtain ⟨_, _, _, _, _, _, _, _, _, h9⟩ := HR.out j p1
              exact h9
            rw [← hE] at hei
            have HSt : Hid (∀ W, Kept NoB wr W → Calls Tryz.prog 58 #[.pointer (some ⟨f, 0, none⟩), .int .i64 ino, .agg #[.int .i64 0, .int .i64 E.mode, .int .i64 E.user, .int .i64 E.group, .int .i64 E.time, .string { data := #[] }, .int .i64 0, .int .i64 0, .int .i64 0, .int .i64 0, .int .i64 0]] W fun e w' => e = .returned (.int .i64 (setP Tk ino (ownE E)).2) ∧ Turn (Grow S w1 w2) w9 w' f (setP Tk ino (ownE E)).1) := Lib.hid (fun W hW =>
              (set_any (t1.1.keptNo hW) ino p2 (ownE E) hei.time (by have := t3.2.2; have := HClk.out; omega)).mono fun e w' ⟨e1, e2⟩ => ⟨e1, t1.next hW e2⟩)
            have HTs := Lib.hid (t3.trans (tame_set Tk ino (ownE E)))
            have HJ2 := Lib.hid t2
            have HOc : Hid ((cellsE l xs j).toArray.all (·.oneCell') = true) := Lib.hid (ent_one _ _ _ _ _ _ _)
            clear t1 t2 t3 hdr hp hpm hrw hpe hgc hgG hmG hino hj hei HJ hx1 hs1 hmbv hbs hgb
            have HP1 := Lib.hid p1; have HP2 := Lib.hid p2; have HPg := Lib.hid hpg
            go_upto_region 13 with fail
            go_upto_region 14 with (first | (at_lookup; refine wpList_sd_look rfl _ _ rfl HSq.out rfl rfl HP2.out HP1.out HPg.out ?_) | (refine wpList_store_row rfl 38 (.tmp 17) (.tmp 62) rfl wr.heap.size (cellsE l xs j).toArray rfl rfl _ _ (heap_alloc_new _ _) infoEn rfl HOc.out ?_))
            obtain ⟨v1, hv1⟩ : ∃ v1, v1 = (wr.alloc (.cells #[.int .i64 0, .string { data := #[] }, .string { data := #[] }, .int .i64 0, .int .i64 0, .int .i64 0, .int .i64 0, .int .i64 0, .int .i64 0, .int .i64 0, .slice none 0 0, .slice none 0 0] 38)).setRow wr.heap.size (cellsE l xs j).toArray := ⟨_, rfl⟩
            rw [← hv1]
            have hkv : Kept NoB wr v1 := by rw [hv1]; exact ((Kept.refl NoB wr).alloc _).setRow (.inr (Nat.le_refl _)) _
            have obv : v1.heap[wr.heap.size]? = some (.cells (cellsE l xs j).toArray 38 (0, 0)) := by rw [hv1]; exact setRow_heap _ _ _ _ _ _ (heap_alloc_new _ _)
            obtain ⟨_, _, _, y3, y4, y5, y6, _⟩ := ent_cells obv
            rw [← hE] at y3 y4 y5 y6
            have HKv := Lib.hid hkv
            clear hv1 hkv obv hE hgc2
            go_wp2_with (go_at_call 58; refine (HSt.out _ HKv.out).mono ?_; rintro e v2 ⟨rfl, ht2⟩)
            go_roundw
            case rel => exact ⟨k + 1, (setP Tk ino (ownE E)).1, by go_num, by omega, Lib.hid ⟨ht2, HJ2.out, HTs.out⟩⟩
            case measure => simp [intOf]; omega
          · have hkm : k = m := by omega
            have HF : Hid (C = (Tk, i, O2)) := Lib.hid (by
              rw [HCx.out, t2, hkm, HM.out, List.drop_length]; rfl)
            have hlk2 : ¬ ((k : Int) < (Si.length : Int)) := by have := HM.out; omega
            clear t1 t2 t3 hkm
            go_wp2

            go_ret2
            refine ⟨by rw [HF.out]; rfl, ?_⟩
            rw [HF.out]
            have e1 := HBs.out.fin HK.out (by have := HMb.out; omega)
            refine e1.next hrow.out.2 (HJ.out.1.more (fun k e => ?_))
            have q1 := HK.out.size
            rcases e with e | e
            · exact .inl e
            · exact .inr ⟨by omega, e.2⟩
    · have him : i = n := by omega
      obtain ⟨q1, q2, q3, q4, q5, q6⟩ := HI.out
      have HBs : Hid (Bes S mb w1 wr f Ti) := Lib.hid ⟨q1, q2⟩
      have HSd : Hid (SdOk wr mb l xs Si) := Lib.hid q5
      have HLe : Hid (Si.length ≤ 10000) := Lib.hid (by omega)
      have HClk : Hid (Ti.clock + 20000 ≤ 4611686018427387904) := Lib.hid (by have := q4.2.2; omega)
      have HCx : Hid (C = (setsP l Ti Si, n, 0)) := Lib.hid (by
        rw [HC.out]; unfold allE
        rw [q3, him, HN.out, List.drop_length]; rfl)
      clear q1 q2 q3 q4 q5 q6 HI
      obtain ⟨wY, hwY⟩ : ∃ wY, wY = wr := ⟨_, rfl⟩
      subst hwY
      have HSl := Lib.hid (sd_list HSd.out.at_ HSd.out.sd (by have := HLe.out; omega))
      obtain ⟨m, hm⟩ : ∃ m, m = Si.length := ⟨_, rfl⟩
      rw [← hm] at HSl
      have HKy := Lib.hid (fun (o : Option Nat) (W : World) => keys_of o W)
      go_upto_region 11 with (first | (go_at_call 64; refine (HKy.out _ _).mono ?_; rintro e w' ⟨rfl, rfl⟩) | (go_at_call 63; refine HSl.out.mono ?_; rintro e w9 ⟨ro, rc, rfl, hrow⟩))
      have HF9 := Lib.hid (HBs.out.1.keptNo hrow.out.2)
      have HM := Lib.hid hm
      have hmn : m ≤ 10000 := by have := HLe.out; omega
      clear HSl HKy hm
      go_loopw [16, 17, 56] (fun v16 v17 v56 wr => ∃ (k : Nat) (Tk : FsP), v56 = .int .i64 (k : Int) ∧ k ≤ m ∧ Hid (Turn (Grow S w1 wY) w9 wr f Tk ∧ setsP l Ti Si = setsP l Tk (Si.drop k) ∧ Tame k Ti Tk)) (fun _ _ v56 _ => m - (intOf v56).toNat)
      case atStart => exact ⟨0, Ti, rfl, by omega, Lib.hid ⟨Turn.nil HF9.out, rfl, Tame.refl Ti⟩⟩
      case round =>
        obtain ⟨k, Tk, rfl, hk, HJ⟩ := hrel
        obtain ⟨t1, t2, t3⟩ := HJ.out
        by_cases hlk : (k : Int) < m
        · have hks : k < Si.length := by have := HM.out; omega
          have hdr := drop_getDsd Si k hks
          rw [hdr, setsP_cons] at t2
          obtain ⟨p, hp⟩ : ∃ p, p = Si.getD k (0, 0) := ⟨_, rfl⟩
          rw [← hp] at t2
          have hpm : p ∈ Si := by rw [hp]; simp [List.getD, hks]
          obtain ⟨p1, p2⟩ := HSd.out.each p hpm
          have hpg := getS_mem HSd.out.sd hpm
          have hrw := hrow.out.1
          rw [← HM.out] at hrw
          obtain ⟨g, hro, hgb, hgc⟩ := own_readsI hrw (by rw [List.length_map]; exact HM.out.symm) k (by omega)
          subst hro
          have hpe : (Si.map Prod.fst).getD k 0 = p.1 := by rw [hp]; simp [List.getD, hks]
          rw [hpe] at hgc
          have hx1 := hrow.out.2.size
          have hs1 := HS1.out
          have hmbv := HMb.out
          have hbs := HBs.out.2.size
          have hgG : ¬ Grow S w1 wY g := fun e => by
            rcases e with e | e
            · have := HLow.out g e; omega
            · have := e.2; omega
          have hmG : ¬ Grow S w1 wY mb := fun e => by
            rcases e with e | e
            · have := HLow.out mb e; omega
            · have := e.1; omega
          have hgc2 : wr.cell? ⟨g, k, none⟩ = some (.int .i64 p.1) := (World.cell?_of_block (a := ⟨g, k, none⟩) (t1.2.block g (World.block_lt_of_cell? w9 _ hgc) hgG)).trans hgc
          have HSq : Hid (SdOk wr mb l xs Si) := Lib.hid ⟨(HSd.out.at_.kept hrow.out.2 id).kept t1.2 hmG, HSd.out.sd, HSd.out.each⟩
          obtain ⟨E, hE⟩ : ∃ E, E = l.getD p.2 noE := ⟨_, rfl⟩
          obtain ⟨ino, hino⟩ : ∃ x, x = p.1 := ⟨_, rfl⟩
          obtain ⟨j, hj⟩ : ∃ x, x = p.2 := ⟨_, rfl⟩
          rw [← hino] at hgc2 p2 hpg t2
          rw [← hj] at p1 hpg hE t2
          rw [← hE] at t2
          have hei : EntI (l.getD j noE) := by
            obtain ⟨_, _, _, _, _, _, _, _, _, h9⟩ := HR.out j p1
            exact h9
          rw [← hE] at hei
          have HSt : Hid (∀ W, Kept NoB wr W → Calls Tryz.prog 58 #[.pointer (some ⟨f, 0, none⟩), .int .i64 ino, .agg #[.int .i64 0, .int .i64 E.mode, .int .i64 E.user, .int .i64 E.group, .int .i64 E.time, .string { data := #[] }, .int .i64 0, .int .i64 0, .int .i64 0, .int .i64 0, .int .i64 0]] W fun e w' => e = .returned (.int .i64 (setP Tk ino (ownE E)).2) ∧ Turn (Grow S w1 wY) w9 w' f (setP Tk ino (ownE E)).1) := Lib.hid (fun W hW =>
            (set_any (t1.1.keptNo hW) ino p2 (ownE E) hei.time (by have := t3.2.2; have := HClk.out; omega)).mono fun e w' ⟨e1, e2⟩ => ⟨e1, t1.next hW e2⟩)
          have HTs := Lib.hid (t3.trans (tame_set Tk ino (ownE E)))
          have HJ2 := Lib.hid t2
          have HOc : Hid ((cellsE l xs j).toArray.all (·.oneCell') = true) := Lib.hid (ent_one _ _ _ _ _ _ _)
          clear t1 t2 t3 hdr hp hpm hrw hpe hgc hgG hmG hino hj hei HJ hx1 hs1 hmbv hbs hgb
          have HP1 := Lib.hid p1; have HP2 := Lib.hid p2; have HPg := Lib.hid hpg
          go_upto_region 13 with fail
          go_upto_region 14 with (first | (at_lookup; refine wpList_sd_look rfl _ _ rfl HSq.out rfl rfl HP2.out HP1.out HPg.out ?_) | (refine wpList_store_row rfl 38 (.tmp 17) (.tmp 62) rfl wr.heap.size (cellsE l xs j).toArray rfl rfl _ _ (heap_alloc_new _ _) infoEn rfl HOc.out ?_))
          obtain ⟨v1, hv1⟩ : ∃ v1, v1 = (wr.alloc (.cells #[.int .i64 0, .string { data := #[] }, .string { data := #[] }, .int .i64 0, .int .i64 0, .int .i64 0, .int .i64 0, .int .i64 0, .int .i64 0, .int .i64 0, .slice none 0 0, .slice none 0 0] 38)).setRow wr.heap.size (cellsE l xs j).toArray := ⟨_, rfl⟩
          rw [← hv1]
          have hkv : Kept NoB wr v1 := by rw [hv1]; exact ((Kept.refl NoB wr).alloc _).setRow (.inr (Nat.le_refl _)) _
          have obv : v1.heap[wr.heap.size]? = some (.cells (cellsE l xs j).toArray 38 (0, 0)) := by rw [hv1]; exact setRow_heap _ _ _ _ _ _ (heap_alloc_new _ _)
          obtain ⟨_, _, _, y3, y4, y5, y6, _⟩ := ent_cells obv
          rw [← hE] at y3 y4 y5 y6
          have HKv := Lib.hid hkv
          clear hv1 hkv obv hE hgc2
          go_wp2_with (go_at_call 58; refine (HSt.out _ HKv.out).mono ?_; rintro e v2 ⟨rfl, ht2⟩)
          go_roundw
          case rel => exact ⟨k + 1, (setP Tk ino (ownE E)).1, by go_num, by omega, Lib.hid ⟨ht2, HJ2.out, HTs.out⟩⟩
          case measure => simp [intOf]; omega
        · have hkm : k = m := by omega
          have HF : Hid (C = (Tk, n, 0)) := Lib.hid (by
            rw [HCx.out, t2, hkm, HM.out, List.drop_length]; rfl)
          have hlk2 : ¬ ((k : Int) < (Si.length : Int)) := by have := HM.out; omega
          clear t1 t2 t3 hkm
          go_wp2

          go_ret2
          refine ⟨by rw [HF.out]; rfl, ?_⟩
          rw [HF.out]
          have e1 := HBs.out.fin HK.out (by have := HMb.out; omega)
          refine e1.next hrow.out.2 (HJ.out.1.more (fun k e => ?_))
          have q1 := HK.out.size
          rcases e with e | e
          · exact .inl e
          · exact .inr ⟨by omega, e.2⟩

theorem exAll_any {S : Nat → Prop} {w : World} {f : Nat} {T : FsP} (h : FsSt S w f T) (hlow : ∀ k, S k → k < w.heap.size) (dir : Int) (hdir : okI dir) (l : List EntV) (xs : EnX) (ao : Option Addr) (c n : Nat) (hr : RdEs S w ao l xs) (hn : n = l.length) (hnm : n ≤ 10000) (hclk : T.clock + 100000000 ≤ 4611686018427387904) (hquo : T.quota ≤ 4611686018427387904) :
    Calls Tryz.prog 17 #[.pointer (some ⟨f, 0, none⟩), .int .i64 dir, .slice ao n c] w fun e w' => e = .returned (.tuple #[.int .i64 ((allE T dir l).2.1 : Nat), .int .i64 (allE T dir l).2.2]) ∧ Turn S w w' f (allE T dir l).1 := by
  have HL := Lib.hid (lateAll_any h hlow dir hdir l xs ao c n hr hn hnm hclk hquo)
  clear h hlow hr hn
  go_enter Tryz.func17, Tryz.ntmps17
  go_wp2_with (go_at_call 39; refine HL.out.mono ?_; rintro e w2 ⟨rfl, ht2⟩)
  go_ret2
  exact ⟨rfl, ht2⟩
end Go.Proofs.YtgbakogihkdddaaGreatDoor

namespace Go.Proofs.YtgbakogihkdddaaGreatDoor
open Go.RowKit
set_option linter.unusedVariables false
set_option linter.unusedSimpArgs false
set_option maxRecDepth 20000

theorem flat12 (f : EntV → List Value) (hf : ∀ E, (f E).length = 12) : ∀ (l : List EntV) (i j : Nat), j < 12 → (l.flatMap f)[i * 12 + j]? = (l[i]?).bind (fun E => (f E)[j]?)
  | [], i, j, h => by simp
  | a :: r, 0, j, h => by
    rw [List.flatMap_cons, List.getElem?_append_left (by rw [hf]; omega)]
    simp
  | a :: r, i + 1, j, h => by
    rw [List.flatMap_cons, List.getElem?_append_right (by rw [hf]; omega), hf, show (i + 1) * 12 + j - 12 = i * 12 + j by omega, flat12 f hf r i j h]
    simp
def noX : EnX := fun _ => ((none, 0), (none, 0))
def flatE (l : List EntV) : List Value := l.flatMap (fun E => entC E (.slice none 0 0) (.slice none 0 0))
/-- A row of entries without pieces. -/
theorem rdEs_plain {S : Nat → Prop} {w : World} {g : Nat} {l : List EntV} {t : TypeId} {fr : Nat × Nat} (hl : ∀ E ∈ l, E.pcs = [] ∧ EntI E) (hob : w.heap[g]? = some (.cells (flatE l).toArray t fr)) (hS : ¬ S g) : RdEs S w (some ⟨g, 0, none⟩) l noX := by
  intro i hi
  have hE : l.getD i noE = l[i] := by simp [List.getD, hi]
  obtain ⟨h1, h2⟩ := hl l[i] (List.getElem_mem hi)
  refine ⟨g, 0, rfl, hS, ?_, ?_, ?_, ?_, ?_, ?_⟩
  · intro j v hj
    have hj12 : j < 12 := by
      have := (List.getElem?_eq_some_iff.1 hj).1
      exact this
    rw [cell_of_row _ _ _ _ _ _ hob, List.getElem?_toArray, show 0 + i * 12 + j = i * 12 + j by omega]
    unfold flatE
    rw [flat12 _ (fun _ => rfl) l i j hj12, List.getElem?_eq_getElem hi]
    unfold cellsE noX at hj
    rw [hE, h1] at hj
    exact hj
  · rw [hE, h1]; intro k hk; exact absurd hk (by simp)
  · rw [hE, h1]; intro p hp; cases hp
  · rw [hE, h1]; exact Nat.le_refl _
  · unfold noX maxLen; simp
  · rw [hE]; exact h2
theorem entI_small {E : EntV} (h : (decide (E.name.length ≤ 1000) && decide (E.link.length ≤ 1000) && decide (-9223372036854775808 ≤ E.time) && decide (E.time ≤ 9223372036854775807) && decide (-9223372036854775808 ≤ E.size) && decide (E.size ≤ 9223372036854775807)) = true) : EntI E := by
  simp only [Bool.and_eq_true, decide_eq_true_eq] at h
  exact ⟨by omega, by omega, ⟨h.1.1.1.2, h.1.1.2⟩, ⟨h.1.2, h.2⟩⟩

def eD : EntV := ⟨6, [100], [], 0, 0, 0, 7, 0, 0, 0, []⟩
def eF : EntV := ⟨1, [100, 47, 97], [], 0, 0, 0, 0, 0, 0, 0, []⟩
def eU : EntV := ⟨1, [46, 46, 47, 97], [], 0, 0, 0, 0, 0, 0, 0, []⟩
theorem aw24_all : (allE (newT 10) 1 [eD, eF, eU]).2 = (2, 9) := by kernel_rfl
theorem aw24_find : findP (allE (newT 10) 1 [eD, eF, eU]).1 1 [100] = (2, 0) := by kernel_rfl
theorem aw24_stat : (statP (allE (newT 10) 1 [eD, eF, eU]).1 2).2 = 0 ∧ (statP (allE (newT 10) 1 [eD, eF, eU]).1 2).1.time = 7 := ⟨by kernel_rfl, by kernel_rfl⟩

set_option maxHeartbeats 4000000 in
theorem awake24_any (w : World) : Calls Tryz.prog 8 #[] w fun e w' => e = .returned (.bool true) ∧ Kept NoB w w' := by
  have HNew := Lib.hid (new_any 10 w (by decide))
  go_enter Tryz.func8, Tryz.ntmps8
  go_wp2_with fail
  refine HNew.out.mono ?_
  rintro e w1 ⟨f, rfl, hf1, hk1⟩
  have HF1 := Lib.hid hf1; have HK1 := Lib.hid hk1
  clear hf1 hk1 HNew
  obtain ⟨AT, hAT⟩ : ∃ AT, AT = (allE (newT 10) 1 [eD, eF, eU]).1 := ⟨_, rfl⟩
  have hfd := aw24_find
  have hst := aw24_stat
  rw [← hAT] at hfd hst
  have HAl : Hid (∀ W, W.heap[w1.heap.size]? = some (.cells (flatE [eD, eF, eU]).toArray 38 (0, 0)) → Kept NoB w1 W → Calls Tryz.prog 17 #[.pointer (some ⟨f, 0, none⟩), .int .i64 1, .slice (some ⟨w1.heap.size, 0, none⟩) 3 3] W fun e w' => e = .returned (.tuple #[.int .i64 2, .int .i64 9]) ∧ Turn (Grow NoB w w1) W w' f AT) := Lib.hid (fun W hob hW => by
    have hG : ∀ k, Grow NoB w w1 k → k < w1.heap.size := fun k e => by
      rcases e with e | e
      · exact e.elim
      · exact e.2
    have := exAll_any (HF1.out.keptNo hW) (fun k e => Nat.lt_of_lt_of_le (hG k e) hW.size) 1 ⟨by decide, by decide⟩ [eD, eF, eU] noX (some ⟨w1.heap.size, 0, none⟩) 3 3 (rdEs_plain (by
      intro E hE
      simp only [List.mem_cons, List.not_mem_nil, or_false] at hE
      rcases hE with rfl | rfl | rfl
      · exact ⟨rfl, entI_small (by decide)⟩
      · exact ⟨rfl, entI_small (by decide)⟩
      · exact ⟨rfl, entI_small (by decide)⟩) hob (fun e => by have := hG _ e; omega)) rfl (by decide) (by decide) (by decide)
    rw [aw24_all, ← hAT] at this
    exact this)
  clear hAT
  go_upto_region 4 with fail
  go_wp2_with fail
  refine (HAl.out _ (heap_alloc_new _ _) ((Kept.refl _ _).alloc _)).mono ?_
  rintro e w2 ⟨rfl, ht2⟩
  have HK2 : Hid (Kept NoB w w2) := Lib.hid (keep_onS (S := NoB) (HK1.out.trans ((Kept.refl _ _).alloc _)) ht2.2 (fun i hi e => by
    rcases e with e | e
    · exact e.elim
    · have := e.1; omega))
  have HF2 := Lib.hid ht2.1
  clear ht2 HAl
  have HFd : Hid (Calls Tryz.prog 14 #[.pointer (some ⟨f, 0, none⟩), .int .i64 1, .string { data := #[100] }] w2 fun e w' => e = .returned (.tuple #[.int .i64 2, .int .i64 0]) ∧ Kept NoB w2 w') := Lib.hid (by
    have := find_any HF2.out 1 (by decide) [100] (by decide)
    rw [hfd] at this
    exact this)
  go_wp2_with fail
  refine HFd.out.mono ?_
  rintro e w3 ⟨rfl, hk3⟩
  obtain ⟨v, hv⟩ : ∃ v, v = (statP AT 2).1 := ⟨_, rfl⟩
  have HSt : Hid (Calls Tryz.prog 15 #[.pointer (some ⟨f, 0, none⟩), .int .i64 2] w3 fun e w' => e = .returned (.tuple #[.agg (nvC v).toArray, .int .i64 0]) ∧ Kept NoB w3 w') := Lib.hid (by
    have := stat_any (HF2.out.keptNo hk3) 2 (by decide)
    rw [hst.1, ← hv] at this
    exact this)
  have hvt : v.time = 7 := by rw [hv]; exact hst.2
  have HK3 := Lib.hid (HK2.out.trans hk3)
  have HOne := Lib.hid (nv_one v)
  have HVt := Lib.hid hvt
  clear hv hfd hst hk3 HFd hvt
  go_upto_region 7 with (first | (go_at_call 15; refine HSt.out.mono ?_; rintro e w4 ⟨rfl, hk4⟩) | (refine wpList_store_row rfl 27 (.tmp 6) (.tmp 29) rfl w4.heap.size (nvC v).toArray rfl rfl _ _ (heap_alloc_new _ _) infoNd rfl HOne.out ?_))
  obtain ⟨w5, hw5⟩ : ∃ w5, w5 = (w4.alloc (.cells #[.int .i64 0, .int .i64 0, .int .i64 0, .int .i64 0, .int .i64 0, .string { data := #[] }, .int .i64 0, .int .i64 0, .int .i64 0, .int .i64 0, .int .i64 0] 27)).setRow w4.heap.size (nvC v).toArray := ⟨_, rfl⟩
  rw [← hw5]
  have hk5 : Kept NoB w4 w5 := by rw [hw5]; exact ((Kept.refl NoB w4).alloc _).setRow (.inr (Nat.le_refl _)) _
  have d4 : w5.cell? ⟨w4.heap.size, 4, none⟩ = some (.int .i64 7) := by
    rw [hw5, cell_of_row _ _ _ _ _ (0, 0) (setRow_heap _ _ _ _ _ _ (heap_alloc_new _ _)), ← HVt.out]; rfl
  have HK5 := Lib.hid ((HK3.out.trans hk4).trans hk5)
  clear hw5 hk5 hk4
  go_wp2
  go_ret
  exact ⟨rfl, HK5.out⟩
end Go.Proofs.YtgbakogihkdddaaGreatDoor

namespace Go.Proofs
open Go.Shelf
def Tryz.keys41_ren : Go.Shelf.Ren := ⟨fun | 7 => 41 | 10 => 67 | n => n, fun | 23 => 60 | 26 => 9 | 3 => 3 | 28 => 90 | 0 => 0 | 27 => 89 | 33 => 93 | 4 => 4 | n => n, fun | n => n⟩
theorem Tryz.keys41 : Go.Proofs.SlLaysZ.n7 Tryz.prog Tryz.keys41_ren := {
  mixed := by kernel_rfl
  f7 := ⟨Tryz.f41.name, by decide, Tryz.func41.trans (congrArg some (by kernel_rfl))⟩
  f10 := ⟨Tryz.f67.name, by decide, Tryz.func67.trans (congrArg some (by kernel_rfl))⟩
  t0 := Tryz.underlying0
  a0 := Tryz.isAgg0
  z0 := Tryz.sizeOf0
  v0 := Tryz.zeroValue0
  t4 := Tryz.underlying4
  a4 := Tryz.isAgg4
  z4 := Tryz.sizeOf4
  v4 := Tryz.zeroValue4
  t23 := Tryz.underlying60
  a23 := Tryz.isAgg60
  z23 := Tryz.sizeOf60
  v23 := Tryz.zeroValue60
  t26 := Tryz.underlying9
  a26 := Tryz.isAgg9
  z26 := Tryz.sizeOf9
  v26 := Tryz.zeroValue9
  t27 := Tryz.underlying89
  a27 := Tryz.isAgg89
  z27 := Tryz.sizeOf89
  v27 := Tryz.zeroValue89
  t28 := Tryz.underlying90
  a28 := Tryz.isAgg90
  z28 := Tryz.sizeOf90
  v28 := Tryz.zeroValue90
  t33 := Tryz.underlying93
  a33 := Tryz.isAgg93
  z33 := Tryz.sizeOf93
  v33 := Tryz.zeroValue93 }
def Tryz.sorted40_ren : Go.Shelf.Ren := ⟨fun | 6 => 40 | 8 => 65 | 9 => 66 | 11 => 89 | 13 => 91 | 12 => 90 | 23 => 112 | 24 => 113 | 14 => 103 | 15 => 104 | 16 => 105 | 17 => 106 | 18 => 107 | 19 => 108 | 20 => 109 | 21 => 110 | 22 => 111 | 25 => 133 | 26 => 134 | 27 => 135 | 28 => 136 | 29 => 137 | 30 => 138 | 31 => 147 | n => n, fun | 26 => 9 | 28 => 90 | 24 => 36 | 0 => 0 | 3 => 3 | 37 => 92 | 48 => 145 | 50 => 147 | 4 => 4 | 40 => 139 | 39 => 138 | 45 => 70 | 5 => 5 | 9 => 9 | 51 => 161 | 55 => 165 | 57 => 177 | 58 => 73 | 33 => 93 | n => n, fun | n => n⟩
theorem Tryz.sorted40 : Go.Proofs.SlLaysZ.n6 Tryz.prog Tryz.sorted40_ren := {
  mixed := by kernel_rfl
  f6 := ⟨Tryz.f40.name, by decide, Tryz.func40.trans (congrArg some (by kernel_rfl))⟩
  f8 := ⟨Tryz.f65.name, by decide, Tryz.func65.trans (congrArg some (by kernel_rfl))⟩
  f11 := ⟨Tryz.f89.name, by decide, Tryz.func89.trans (congrArg some (by kernel_rfl))⟩
  t0 := Tryz.underlying0
  a0 := Tryz.isAgg0
  z0 := Tryz.sizeOf0
  v0 := Tryz.zeroValue0
  t24 := Tryz.underlying36
  a24 := Tryz.isAgg36
  z24 := Tryz.sizeOf36
  v24 := Tryz.zeroValue36
  t26 := Tryz.underlying9
  a26 := Tryz.isAgg9
  z26 := Tryz.sizeOf9
  v26 := Tryz.zeroValue9
  t28 := Tryz.underlying90
  a28 := Tryz.isAgg90
  z28 := Tryz.sizeOf90
  v28 := Tryz.zeroValue90
  i26 := by kernel_rfl }
def Tryz.sort66_ren : Go.Shelf.Ren := ⟨fun | 6 => 66 | 8 => 91 | 9 => 90 | 19 => 112 | 20 => 113 | 21 => 103 | 22 => 104 | 23 => 105 | 24 => 106 | 25 => 107 | 26 => 108 | 27 => 109 | 28 => 110 | 29 => 111 | 36 => 133 | 31 => 134 | 32 => 135 | 37 => 136 | 38 => 137 | 39 => 138 | 41 => 147 | n => n, fun | 27 => 36 | 29 => 9 | 3 => 3 | 32 => 92 | 26 => 36 | 0 => 0 | 44 => 145 | 46 => 147 | 4 => 4 | 36 => 139 | 35 => 138 | 41 => 70 | 5 => 5 | 9 => 9 | 53 => 161 | 57 => 165 | 63 => 177 | 64 => 73 | n => n, fun | n => n⟩
theorem Tryz.sort66 : Go.Proofs.SlLaysM.n6 Tryz.prog Tryz.sort66_ren := {
  mixed := by kernel_rfl
  f6 := ⟨Tryz.f66.name, by decide, Tryz.func66.trans (congrArg some (by kernel_rfl))⟩
  f8 := Tryz.func91.trans (congrArg some (by kernel_rfl))
  f9 := ⟨Tryz.f90.name, by decide, Tryz.func90.trans (congrArg some (by kernel_rfl))⟩
  f19 := Tryz.func112.trans (congrArg some (by kernel_rfl))
  f20 := Tryz.func113.trans (congrArg some (by kernel_rfl))
  f21 := ⟨Tryz.f103.name, by decide, Tryz.func103.trans (congrArg some (by kernel_rfl))⟩
  f22 := ⟨Tryz.f104.name, by decide, Tryz.func104.trans (congrArg some (by kernel_rfl))⟩
  f23 := ⟨Tryz.f105.name, by decide, Tryz.func105.trans (congrArg some (by kernel_rfl))⟩
  f24 := ⟨Tryz.f106.name, by decide, Tryz.func106.trans (congrArg some (by kernel_rfl))⟩
  f25 := ⟨Tryz.f107.name, by decide, Tryz.func107.trans (congrArg some (by kernel_rfl))⟩
  f26 := ⟨Tryz.f108.name, by decide, Tryz.func108.trans (congrArg some (by kernel_rfl))⟩
  f27 := ⟨Tryz.f109.name, by decide, Tryz.func109.trans (congrArg some (by kernel_rfl))⟩
  f28 := ⟨Tryz.f110.name, by decide, Tryz.func110.trans (congrArg some (by kernel_rfl))⟩
  f29 := ⟨Tryz.f111.name, by decide, Tryz.func111.trans (congrArg some (by kernel_rfl))⟩
  f31 := Tryz.func134.trans (congrArg some (by kernel_rfl))
  f32 := Tryz.func135.trans (congrArg some (by kernel_rfl))
  f36 := ⟨Tryz.f133.name, by decide, Tryz.func133.trans (congrArg some (by kernel_rfl))⟩
  f37 := ⟨Tryz.f136.name, by decide, Tryz.func136.trans (congrArg some (by kernel_rfl))⟩
  f38 := ⟨Tryz.f137.name, by decide, Tryz.func137.trans (congrArg some (by kernel_rfl))⟩
  f39 := ⟨Tryz.f138.name, by decide, Tryz.func138.trans (congrArg some (by kernel_rfl))⟩
  f41 := ⟨Tryz.f147.name, by decide, Tryz.func147.trans (congrArg some (by kernel_rfl))⟩
  t0 := Tryz.underlying0
  a0 := Tryz.isAgg0
  z0 := Tryz.sizeOf0
  v0 := Tryz.zeroValue0
  t3 := Tryz.underlying3
  a3 := Tryz.isAgg3
  z3 := Tryz.sizeOf3
  v3 := Tryz.zeroValue3
  t4 := Tryz.underlying4
  a4 := Tryz.isAgg4
  z4 := Tryz.sizeOf4
  v4 := Tryz.zeroValue4
  t5 := Tryz.underlying5
  a5 := Tryz.isAgg5
  z5 := Tryz.sizeOf5
  v5 := Tryz.zeroValue5
  t9 := Tryz.underlying9
  a9 := Tryz.isAgg9
  z9 := Tryz.sizeOf9
  v9 := Tryz.zeroValue9
  t26 := Tryz.underlying36
  a26 := Tryz.isAgg36
  z26 := Tryz.sizeOf36
  v26 := Tryz.zeroValue36
  t27 := Tryz.underlying36
  a27 := Tryz.isAgg36
  z27 := Tryz.sizeOf36
  v27 := Tryz.zeroValue36
  t29 := Tryz.underlying9
  a29 := Tryz.isAgg9
  z29 := Tryz.sizeOf9
  v29 := Tryz.zeroValue9
  t32 := Tryz.underlying92
  a32 := Tryz.isAgg92
  z32 := Tryz.sizeOf92
  v32 := Tryz.zeroValue92
  t35 := Tryz.underlying138
  a35 := Tryz.isAgg138
  z35 := Tryz.sizeOf138
  v35 := Tryz.zeroValue138
  t36 := Tryz.underlying139
  a36 := Tryz.isAgg139
  z36 := Tryz.sizeOf139
  v36 := Tryz.zeroValue139
  t41 := Tryz.underlying70
  a41 := Tryz.isAgg70
  z41 := Tryz.sizeOf70
  v41 := Tryz.zeroValue70
  t44 := Tryz.underlying145
  a44 := Tryz.isAgg145
  z44 := Tryz.sizeOf145
  v44 := Tryz.zeroValue145
  t46 := Tryz.underlying147
  a46 := Tryz.isAgg147
  z46 := Tryz.sizeOf147
  v46 := Tryz.zeroValue147
  t53 := Tryz.underlying161
  a53 := Tryz.isAgg161
  z53 := Tryz.sizeOf161
  v53 := Tryz.zeroValue161
  t57 := Tryz.underlying165
  a57 := Tryz.isAgg165
  z57 := Tryz.sizeOf165
  v57 := Tryz.zeroValue165
  t63 := Tryz.underlying177
  a63 := Tryz.isAgg177
  z63 := Tryz.sizeOf177
  v63 := Tryz.zeroValue177
  t64 := Tryz.underlying73
  a64 := Tryz.isAgg73
  z64 := Tryz.sizeOf73
  v64 := Tryz.zeroValue73 }
open Go.RowKit Go.Maps Go.Sort
theorem Tryz.sorts40 (m : Nat) : AnyZ.SortsIn Tryz.prog Tryz.sorted40_ren Fence.wide m :=
  ⟨fun blk off cap ss W hH hblk hsz => callsIn_wide.2 (AnyM.slices_Sort_string Tryz.sort66 blk off cap ss W hH hblk hsz),
   fun p cap W => callsIn_wide.2 (AnyM.slices_Sort_string_none Tryz.sort66 p cap W)⟩

theorem Tryz.keysIn (mb : Option Nat) (W : World) : CallsIn Fence.wide 5 Tryz.prog 41 #[.map mb] W fun e w' => e = .returned (.func (.func 67) #[] #[.pointer (some ⟨W.heap.size, 0, none⟩)]) ∧ w' = W.alloc (.cells #[.map mb] 60) :=
  AnyZ.keys_in Tryz.keys41 Fence.wide 5 trivial rfl mb W

set_option maxHeartbeats 1000000 in
theorem Tryz.sortedKeys {H : Type} (b nn : Nat) (D0 : DataW H) (R : Value → Option (DataW H × List MemPlace)) (w : World) (hown : w.ownsMap Tryz.prog 9 R b nn D0) (hmax : Maps.size D0 ≤ maxLen) (hbytes : Maps.size D0 * 16 ≤ 140737488355328) :
    CallsIn Fence.wide 5 Tryz.prog 40 #[.func (.func 67) #[] #[.pointer (some ⟨w.heap.size, 0, none⟩)]] (w.alloc (.cells #[.map (some b)] 60)) fun e w' => ∃ (v : Value) (ss : List (List UInt8)), e = .returned v ∧ ss.Perm (strKeys D0) ∧
      w'.ownsRow (w.alloc (.cells #[.map (some b)] 60)).heap.size 9 1 v ss.length ((ss.mergeSort (fun x y => decide (x ≤ y))).map encStr) ∧ (v = .slice none 0 0 ↔ ss = []) ∧ Below (w.alloc (.cells #[.map (some b)] 60)).heap.size (w.alloc (.cells #[.map (some b)] 60)) w' := by
  have hbl := hown.lt
  have hseq : SeqGives Fence.wide 2 Tryz.prog 67 #[.pointer (some ⟨w.heap.size, 0, none⟩)] encStr (fun ss => ss.Perm (strKeys D0)) (Maps.size D0) (w.alloc (.cells #[.map (some b)] 60)) :=
    AnyZ.keys_gives (ρ := Tryz.keys41_ren) { Tryz.keys41 with } Fence.wide _ trivial rfl (by omega) w.heap.size b nn D0 _ (by simp) (by simp) (by
      obtain ⟨es, clock, hb, Ft, hs, hD⟩ := hown
      exact ⟨es, clock, (Below.heap_alloc _ _ b hbl).trans hb, Ft, hs, hD⟩)
  exact AnyZ.sorted_in Tryz.sorted40 Fence.wide 5 trivial trivial trivial trivial rfl (by omega) (Tryz.sorts40 _) (enters_of Tryz.func66 (by kernel_rfl) rfl) 67 #[.pointer (some ⟨w.heap.size, 0, none⟩)] trivial (enters_of Tryz.func67 (by kernel_rfl) rfl) _ _ hmax hbytes _ hseq

set_option maxHeartbeats 1000000 in
theorem Tryz.sortedKeysNil (w : World) :
    CallsIn Fence.wide 5 Tryz.prog 40 #[.func (.func 67) #[] #[.pointer (some ⟨w.heap.size, 0, none⟩)]] (w.alloc (.cells #[.map none] 60)) fun e w' => ∃ (v : Value) (ss : List (List UInt8)), e = .returned v ∧ ss = [] ∧
      w'.ownsRow (w.alloc (.cells #[.map none] 60)).heap.size 9 1 v ss.length ((ss.mergeSort (fun x y => decide (x ≤ y))).map encStr) ∧ (v = .slice none 0 0 ↔ ss = []) ∧ Below (w.alloc (.cells #[.map none] 60)).heap.size (w.alloc (.cells #[.map none] 60)) w' := by
  have hseq : SeqGives Fence.wide 2 Tryz.prog 67 #[.pointer (some ⟨w.heap.size, 0, none⟩)] encStr (fun ss : List (List UInt8) => ss = []) 0 (w.alloc (.cells #[.map none] 60)) :=
    AnyZ.keys_gives_nil (ρ := Tryz.keys41_ren) { Tryz.keys41 with } Fence.wide _ trivial rfl w.heap.size _ (by simp) (by simp)
  exact AnyZ.sorted_in Tryz.sorted40 Fence.wide 5 trivial trivial trivial trivial rfl (by omega) (Tryz.sorts40 _) (enters_of Tryz.func66 (by kernel_rfl) rfl) 67 #[.pointer (some ⟨w.heap.size, 0, none⟩)] trivial (enters_of Tryz.func67 (by kernel_rfl) rfl) _ 0 (Nat.zero_le _) (by omega) _ hseq


end Go.Proofs
