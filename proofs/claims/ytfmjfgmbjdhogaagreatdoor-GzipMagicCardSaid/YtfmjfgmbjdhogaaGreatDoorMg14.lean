/-
  Blocks on paper, further: where reading ends is one place; codes stay codes; each item takes a bit at least.
  inflate.Fixed: the lengths of the fixed codes.
  deflate.FixedBlock.
  deflate.Counts.
  The weights of runs, and the code that they have, on paper.
  The best codes of what tokens tell, as many lengths as a head must tell, on paper.
  What layer 1's statements ask of themselves first: a few bits, put and taken.
  What the document fixes of stage 10: All of nothing at level 0, Most.
  The document's symbols: SymLen, SymDist, LenSym, DistSym.
  A slice of calls (three numbers each) that came in; what was put is there to be taken.
  What layer 2's statements ask of themselves first: the check of a few bytes.
  The document's own check, bit by bit.
  A row of rows of bytes that came in.
  CrcParts: however bytes are parted, their check is the same.
  Slices of bytes as strings; the check of one part and of two.
  Two writers of bits, each with a row of its own; what is put by one leaves the other as it was.
  The document's own writer of bits: Put and Align, bit by bit.
  What the document's writer was given, put after put (as WroteP for the program's).
  What is put for tokens, as a function of them; the document's LenSym and DistSym tell just its parts.
  What tokens take, in bits, by codes: the cost of the counts and the bits behind.
  Numbers appended onto an own row, in a plain region; apart from the texts on least costs.
  slices.Concat of two rows of numbers.
  lens.Write: a head is put, or refused.
  deflate.trimmed, bestLens and Dynamic of tokens that may be.
  deflate.bestLens and Dynamic, of tokens that may be and of such as may not.
  deflate.Stored of bytes that are there; of none nothing is asked.
  A row of numbers, and a copy of it; a source of bytes in pieces.
  A source of bytes in pieces: NewSource, At, size, Next.
-/
import Derived.Test.YtfmjfgmbjdhogaaGreatDoorMg13
import Derived.Laws.BytesArg
import Derived.Lib.SlBytesConst
import Derived.Laws.AppendOwnNone
import Derived.Lib.AppendZerosOnto
import Derived.Deep.CutBlock
import Derived.Deep.DeepCutAuto
import Derived.Deep.RegionHeld3
import Derived.BigRegion
namespace Go.Proofs.YtfmjfgmbjdhogaaGreatDoor
open Go.RowKit
set_option linter.unusedVariables false
set_option linter.unusedSimpArgs false

theorem ReadS.le {code : List Int} {T v p q : Nat} {s f : Int} (h : ReadS code T v p s f q) : p ≤ q ∧ (f = 0 → p < q) := by
  rcases h with ⟨n, i, h1, _, _, _, _, _, _, _, h2⟩ | ⟨_, _, h1, h2⟩
  · exact ⟨by omega, fun _ => by omega⟩
  · refine ⟨by omega, fun h0 => ?_⟩
    rw [h0] at h1
    split at h1 <;> exact absurd h1 (by decide)
theorem SymR.le {bs code : List Int} {p q : Nat} {s f : Int} (h : SymR bs code p s f q) : p ≤ q ∧ (f = 0 → p < q) := by
  obtain ⟨T, _, h⟩ := h
  exact h.le
theorem RowR.le {code bs : List Int} {N : Nat} {p : Nat} {l : List Int} {p1 : Nat} {l1 : List Int} {e1 : Int} (h : RowR code bs N p l p1 l1 e1) : p ≤ p1 := by
  induction h with
  | done ha => exact Nat.le_refl _
  | fail ha hT hR hf => exact Nat.le_refl _
  | short => exact Nat.le_refl _
  | bad => exact Nat.le_refl _
  | step ha hT hR hq hok hfit hrest ih => have := hR.le; omega
theorem mayL_of {ls : List Int} (h : fullB ls = true ∨ kindA ls = 1) : Small 15 ls ∧ ls.length ≤ 320 ∧ refS ls = 0 := by
  have hm : MayL ls := by
    rcases h with h | h
    · exact full_may h
    · apply Classical.byContradiction
      intro hn
      have := kindA_bad hn
      omega
  refine ⟨hm.small, hm.len, ?_⟩
  rcases h with h | h
  · exact full_ref h
  · unfold kindA at h
    rw [if_pos hm] at h
    unfold refS
    rw [h]; rfl
theorem head_code {bs : List Int} {p q : Nat} {lit dist : List Int} (h : HeadR bs p lit dist 0 q) : CodeOk lit ∧ CodeOk dist ∧ p < q := by
  unfold HeadR at h
  split at h
  · exact absurd h.2.2 (by decide)
  · split at h
    · exact absurd h.2.2 (by decide)
    · split at h
      · exact absurd h.2.2 (by decide)
      · split at h
        · exact absurd h.2.2 (by decide)
        · obtain ⟨row, q', f, hr, h⟩ := h
          split at h
          · split at h
            · rename_i hm
              obtain ⟨rfl, rfl, _, rfl⟩ := h
              have hle := hr.le
              unfold mayB at hm
              obtain ⟨h4, h5⟩ := Bool.and_eq_true_iff.1 hm
              obtain ⟨_, h6⟩ := Bool.and_eq_true_iff.1 h4
              have a := mayL_of (.inl h6)
              have b := mayL_of (show fullB _ = true ∨ kindA _ = 1 from by
                rcases Bool.or_eq_true_iff.1 h5 with h | h
                · exact .inl h
                · exact .inr (of_decide_eq_true h))
              exact ⟨⟨a.2.1, a.1, a.2.2⟩, ⟨b.2.1, b.1, b.2.2⟩, by omega⟩
            · exact absurd h.2.2 (by decide)
          · rename_i hf
            exact absurd h.2.2.symm hf
theorem endM_ok (l : Bool) : (endM l).ok := by cases l <;> trivial
theorem ItemR.next {bs : List Int} {most p : Nat} {m : Md} {last : Bool} {out : List Int} {p1 : Nat} {m1 : Md} {l1 : Bool} {o1 : List Int} (hm : m.ok) (h : ItemR bs most p m last out 0 p1 m1 l1 o1) : m1.ok ∧ p < p1 := by
  cases m with
  | fin => exact h.elim
  | block =>
    unfold ItemR at h
    simp only at h
    split at h
    · exact absurd h (by decide)
    · split at h
      · obtain ⟨_, rfl, rfl, _⟩ := h; exact ⟨trivial, by omega⟩
      · split at h
        · obtain ⟨_, rfl, rfl, _⟩ := h; exact ⟨⟨fixL_ok, fixD_ok⟩, by omega⟩
        · split at h
          · obtain ⟨_, rfl, rfl, _⟩ := h; exact ⟨trivial, by omega⟩
          · exact absurd h (by decide)
  | stored =>
    unfold ItemR at h
    simp only at h
    split at h
    · exact absurd h (by decide)
    · split at h
      · exact absurd h (by decide)
      · obtain ⟨_, rfl, rfl, _⟩ := h
        refine ⟨?_, by unfold up8; omega⟩
        split
        · exact endM_ok _
        · trivial
  | bytes n =>
    unfold ItemR at h
    simp only at h
    split at h
    · exact absurd h (by decide)
    · split at h
      · exact absurd h (by decide)
      · obtain ⟨_, rfl, rfl, _⟩ := h
        refine ⟨?_, by omega⟩
        split
        · exact endM_ok _
        · trivial
  | head =>
    unfold ItemR at h
    simp only at h
    obtain ⟨lit, dist, f, q, hh, h⟩ := h
    split at h
    · rename_i hf
      obtain ⟨_, rfl, rfl, _⟩ := h
      rw [hf] at hh
      exact ⟨⟨(head_code hh).1, (head_code hh).2.1⟩, (head_code hh).2.2⟩
    · rename_i hf
      exact absurd h.symm hf
  | sym lit dist =>
    unfold ItemR at h
    simp only at h
    obtain ⟨s, f, q, hh, h⟩ := h
    split at h
    · rename_i hf
      exact absurd h.symm hf
    · rename_i hf
      have hq := hh.le.2 (Classical.not_not.1 hf)
      split at h
      · split at h
        · obtain ⟨_, rfl, rfl, _⟩ := h; exact ⟨hm, by omega⟩
        · exact absurd h (by decide)
      · split at h
        · obtain ⟨_, rfl, rfl, _⟩ := h; exact ⟨endM_ok _, by omega⟩
        · split at h
          · exact absurd h (by decide)
          · split at h
            · exact absurd h (by decide)
            · obtain ⟨d, g, r, hd, h⟩ := h
              have hr := hd.le.1
              split at h
              · rename_i hg
                exact absurd h.symm hg
              · split at h
                · exact absurd h (by decide)
                · split at h
                  · exact absurd h (by decide)
                  · split at h
                    · exact absurd h (by decide)
                    · split at h
                      · exact absurd h (by decide)
                      · obtain ⟨_, rfl, rfl, _⟩ := h; exact ⟨hm, by omega⟩
theorem Steps.ok {bs : List Int} {most p p1 : Nat} {m m1 : Md} {l l1 : Bool} {o o1 : List Int} (h : Steps bs most p m l o p1 m1 l1 o1) (hm : m.ok) : m1.ok ∧ p ≤ p1 := by
  induction h with
  | refl => exact ⟨hm, Nat.le_refl _⟩
  | step a _ ih => have b := a.next hm; have c := ih b.1; exact ⟨c.1, by omega⟩
def Stuck (bs : List Int) (most p : Nat) (m : Md) (l : Bool) (o : List Int) : Prop := m = .fin ∨ ∃ (e : Int) (p1 : Nat) (m1 : Md) (l1 : Bool) (o1 : List Int), e ≠ 0 ∧ ItemR bs most p m l o e p1 m1 l1 o1
theorem Stuck.no {bs : List Int} {most p p1 : Nat} {m m1 : Md} {l l1 : Bool} {o o1 : List Int} (h : Stuck bs most p m l o) (hm : m.ok) (hi : ItemR bs most p m l o 0 p1 m1 l1 o1) : False := by
  rcases h with rfl | ⟨e, p2, m2, l2, o2, he, h2⟩
  · exact hi.elim
  · exact he (ItemR.det hm h2 hi).1
theorem Steps.det {bs : List Int} {most p p1 p2 : Nat} {m m1 m2 : Md} {l l1 l2 : Bool} {o o1 o2 : List Int} (h : Steps bs most p m l o p1 m1 l1 o1) (hm : m.ok) (hs : Stuck bs most p1 m1 l1 o1) (h2 : Steps bs most p m l o p2 m2 l2 o2) (hs2 : Stuck bs most p2 m2 l2 o2) : p1 = p2 ∧ m1 = m2 ∧ l1 = l2 ∧ o1 = o2 := by
  induction h with
  | refl =>
    cases h2 with
    | refl => exact ⟨rfl, rfl, rfl, rfl⟩
    | step a _ => exact (hs.no hm a).elim
  | step a _ ih =>
    cases h2 with
    | refl => exact (hs2.no hm a).elim
    | step b hb =>
      obtain ⟨_, e⟩ := ItemR.det hm a b
      obtain ⟨rfl, rfl, rfl, rfl⟩ := e rfl
      exact ih (a.next hm).1 hs hb
theorem copyN_ex (d : Nat) : ∀ (k : Nat) (bs : List Int), ∃ x, copyN d k bs = bs ++ x ∧ x.length = k := by
  intro k
  induction k with
  | zero => intro bs; exact ⟨[], by simp [copyN], rfl⟩
  | succ k ih =>
    intro bs
    obtain ⟨x, hx, hl⟩ := ih bs
    exact ⟨x ++ [(copyN d k bs).getD ((copyN d k bs).length - d) 0], by rw [copyN, hx, List.append_assoc], by rw [List.length_append, hl]; rfl⟩
theorem copyN_app (d : Nat) : ∀ (k : Nat) (pre wnd : List Int), 1 ≤ d → d ≤ wnd.length → copyN d k (pre ++ wnd) = pre ++ copyN d k wnd := by
  intro k
  induction k with
  | zero => intro pre wnd _ _; rfl
  | succ k ih =>
    intro pre wnd h1 h2
    rw [copyN, copyN, ih pre wnd h1 h2, List.append_assoc]
    have hl := copyN_len d k wnd
    have e : (pre ++ copyN d k wnd).getD ((pre ++ copyN d k wnd).length - d) 0 = (copyN d k wnd).getD ((copyN d k wnd).length - d) 0 := by
      unfold List.getD
      rw [List.length_append, List.getElem?_append_right (by omega)]
      congr 2; omega
    rw [e]
end Go.Proofs.YtfmjfgmbjdhogaaGreatDoor

namespace Go.Proofs.YtfmjfgmbjdhogaaGreatDoor
open Go.RowKit
set_option linter.unusedVariables false
set_option linter.unusedSimpArgs false

def upTo (L : List Int) (j : Nat) : List Int := L.take j ++ List.replicate (L.length - j) 0
theorem upTo_zero (L : List Int) : upTo L 0 = List.replicate L.length 0 := by simp [upTo]
theorem upTo_all (L : List Int) : upTo L L.length = L := by simp [upTo]
theorem upTo_len (L : List Int) (j : Nat) (h : j ≤ L.length) : (upTo L j).length = L.length := by simp [upTo]; omega
theorem upTo_step (L : List Int) (j : Nat) (h : j < L.length) : (upTo L j).set j (L.getD j 0) = upTo L (j + 1) := by
  apply List.ext_getElem?
  intro i
  unfold upTo
  by_cases hi : i = j
  · subst hi
    rw [List.getElem?_set_self (by simp; omega), List.getElem?_append_left (by simp; omega), List.getElem?_take, if_pos (by omega), List.getElem?_eq_getElem h]
    simp [List.getD, h]
  · rw [List.getElem?_set_ne (by omega)]
    by_cases hij : i < j
    · rw [List.getElem?_append_left (by simp; omega), List.getElem?_append_left (by simp; omega), List.getElem?_take, List.getElem?_take, if_pos hij, if_pos (by omega)]
    · rw [List.getElem?_append_right (by simp; omega), List.getElem?_append_right (by simp; omega)]
      simp only [List.length_take, List.getElem?_replicate]
      by_cases hil : i < L.length
      · rw [if_pos (by omega), if_pos (by omega)]
      · rw [if_neg (by omega), if_neg (by omega)]
theorem fixD_len : fixD.length = 32 := by decide +kernel
theorem fixL_get : ∀ j, j < 288 → fixL.getD j 0 = if j < 144 then 8 else if j < 256 then 9 else if j < 280 then 7 else 8 := by decide +kernel
theorem fixD_get : ∀ j, j < 32 → fixD.getD j 0 = 5 := by decide +kernel
def OwnZ (w : World) (G n : Nat) (L : List Int) : Prop := w.ownsRow 0 3 1 (.slice (some ⟨G, 0, none⟩) n n) n (L.map (.int .i64))
theorem OwnZ.reads {w : World} {G n : Nat} {L : List Int} (h : OwnZ w G n L) (hl : L.length = n) : RdI w w.heap.size (some ⟨G, 0, none⟩) L := by
  subst hl
  exact own_readsI h rfl
theorem OwnZ.set {w : World} {G n j : Nat} {L : List Int} (h : OwnZ w G n (upTo L j)) (hj : j < L.length) (z : Int) (hz : L.getD j 0 = z) : OwnZ (w.setCell ⟨G, j, none⟩ (.int .i64 z)) G n (upTo L (j + 1)) := by
  subst hz
  obtain ⟨s1, s2⟩ := World.ownsRow.stored h j (.int .i64 (L.getD j 0))
  rw [← List.map_set, upTo_step L j hj] at s1
  exact s1
structure TwoZ (w0 w : World) (G n H m : Nat) (L M : List Int) : Prop where
  a : OwnZ w G n L
  b : OwnZ w H m M
  k : Kept NoB w0 w
  g : w0.heap.size ≤ G
  h : w0.heap.size ≤ H
  ne : G ≠ H
theorem TwoZ.from {w0 w : World} {G n H m : Nat} {L M : List Int} (h : TwoZ w0.drew w G n H m L M) : TwoZ w0 w G n H m L M := ⟨h.a, h.b, (Kept.refl NoB w0).drew.trans h.k, h.g, h.h, h.ne⟩
theorem TwoZ.swap {w0 w : World} {G n H m : Nat} {L M : List Int} (h : TwoZ w0 w G n H m L M) : TwoZ w0 w H m G n M L := ⟨h.b, h.a, h.k, h.h, h.g, fun e => h.ne e.symm⟩
theorem make_one (w : World) (n : Nat) (hn : n ≤ 100000) : ∃ w', (Instr.makeSlice 30 (.int .i64 (n : Int)) (.int .i64 (n : Int))).run Tryz.prog w = .ok (.slice (some ⟨w.heap.size, 0, none⟩) n n) w' ∧ OwnZ w' w.heap.size n (List.replicate n 0) ∧ Kept NoB w w' := by
  obtain ⟨i0, hi, hz0, hz1, hz2⟩ := info_parts infoI
  obtain ⟨w', hr, ho, hg⟩ := run_make_full (P := Tryz.prog) w 0 30 3 i0 (.int .i64 0) 1 Tryz.underlying30 hi hz0 hz1 .i64 .i64 n (by rw [hz2]; omega) (by unfold maxLen; omega) (Nat.zero_le _)
  have e : (madeCells (Value.int .i64 0).cells (n * 1)).toList = List.replicate n (Value.int .i64 0) := by rw [Nat.mul_one]; exact toList_madeCells_one ..
  rw [e] at ho
  refine ⟨w', hr, ?_, (Kept.refl _ _).grown hg (fun k _ e => by cases e)⟩
  unfold OwnZ
  rw [List.map_replicate]
  exact ho
theorem make_two (w : World) (n m : Nat) (hn : n ≤ 100000) (hm : m ≤ 100000) : ∃ w1 w2, (Instr.makeSlice 30 (.int .i64 (n : Int)) (.int .i64 (n : Int))).run Tryz.prog w = .ok (.slice (some ⟨w.heap.size, 0, none⟩) n n) w1 ∧
    (Instr.makeSlice 30 (.int .i64 (m : Int)) (.int .i64 (m : Int))).run Tryz.prog w1 = .ok (.slice (some ⟨w1.heap.size, 0, none⟩) m m) w2 ∧ TwoZ w w2 w.heap.size n w1.heap.size m (List.replicate n 0) (List.replicate m 0) := by
  obtain ⟨w1, r1, o1, k1⟩ := make_one w n hn
  obtain ⟨w2, r2, o2, k2⟩ := make_one w1 m hm
  have hl : w.heap.size < w1.heap.size := own_lt o1 _ rfl
  exact ⟨w1, w2, r1, r2, k2.row o1 (fun _ _ e => e), o2, k1.trans k2, Nat.le_refl _, by omega, by omega⟩
set_option maxRecDepth 20000 in
set_option maxHeartbeats 4000000 in
theorem fixed_any (w : World) : Calls Tryz.prog 61 #[] w fun e w' => ∃ G H, e = .returned (.tuple #[.slice (some ⟨G, 0, none⟩) 288 288, .slice (some ⟨H, 0, none⟩) 32 32]) ∧ TwoZ w w' G 288 H 32 fixL fixD := by
  obtain ⟨wa, wb, ra, rb, tab⟩ := make_two w.drew 288 32 (by decide) (by decide)
  obtain ⟨wc, wd, rc, rd, tcd⟩ := make_two w.drew 32 288 (by decide) (by decide)
  have T1 := Lib.hid tab; have T2 := Lib.hid tcd
  have ra : (Instr.makeSlice 30 (.int .i64 288) (.int .i64 288)).run Tryz.prog w.drew = .ok (.slice (some ⟨w.heap.size, 0, none⟩) 288 288) wa := ra
  have rb : (Instr.makeSlice 30 (.int .i64 32) (.int .i64 32)).run Tryz.prog wa = .ok (.slice (some ⟨wa.heap.size, 0, none⟩) 32 32) wb := rb
  have rc : (Instr.makeSlice 30 (.int .i64 32) (.int .i64 32)).run Tryz.prog w.drew = .ok (.slice (some ⟨w.heap.size, 0, none⟩) 32 32) wc := rc
  have rd : (Instr.makeSlice 30 (.int .i64 288) (.int .i64 288)).run Tryz.prog wc = .ok (.slice (some ⟨wc.heap.size, 0, none⟩) 288 288) wd := rd
  clear tab tcd
  go_enter Tryz.func61, Tryz.ntmps61
  go_upto_region 1 with fail
  go_cut [0, 1] from 4 to 5 (fun s t wx => ∃ G H, s = .slice (some ⟨G, 0, none⟩) 288 288 ∧ t = .slice (some ⟨H, 0, none⟩) 32 32 ∧ TwoZ w wx G 288 H 32 (List.replicate 288 0) (List.replicate 32 0))
  case first =>
    go_region
    all_goals go_wp2
    all_goals go_meet
    · exact ⟨_, _, rfl, rfl, T1.out.from⟩
    · exact ⟨_, _, rfl, rfl, T2.out.swap.from⟩
  case rest =>
    obtain ⟨G, H, rfl, rfl, hT⟩ := hcut
    have HA := Lib.hid hT.a; have HB := Lib.hid hT.b; have HK := Lib.hid hT.k; have HG := Lib.hid hT.g; have HH := Lib.hid hT.h; have HN := Lib.hid hT.ne
    clear hT ra rb rc rd T1 T2
    have hGH : ¬ G = H := HN.out
    have hHG : ¬ H = G := fun e => HN.out e.symm
    go_wp2_with fail
    go_loopw [2, 8] (fun _u i wr => ∃ j : Nat, j ≤ 288 ∧ i = .int .i64 j ∧ Hid (OwnZ wr G 288 (upTo fixL j)) ∧ Hid (OwnZ wr H 32 (List.replicate 32 0)) ∧ Hid (Kept NoB w wr)) (fun _ i _ => 288 - (intOf i).toNat)
    case atStart => exact ⟨0, by omega, rfl, by rw [upTo_zero, fixL_len]; exact HA.out, HB, HK⟩
    case round =>
      clear HA HB HK
      obtain ⟨j, hj, rfl, HA, HB, HK⟩ := hrel
      by_cases hlt : (j : Int) < 288
      · have hg := fixL_get j (by omega)
        obtain ⟨z, hz⟩ : ∃ z, z = fixL.getD j 0 := ⟨_, rfl⟩
        have hud : ∃ u, wr.cell? ⟨G, j, none⟩ = some u := by
          rw [HA.out.cellAt j (by omega)]
          exact ⟨_, List.getElem?_eq_getElem (by rw [List.length_map, upTo_len _ _ (by rw [fixL_len]; omega), fixL_len]; omega)⟩
        obtain ⟨u, hu⟩ := hud
        have hfd := World.ownsRow.frozenAt HA.out j
        have HA2 := Lib.hid (HA.out.set (by rw [fixL_len]; omega) z hz.symm)
        have hk1 : Kept (OneB G) wr (wr.setCell ⟨G, j, none⟩ (.int .i64 z)) := Kept.setCell (S := OneB G) (p := ⟨G, j, none⟩) (Kept.refl _ wr) (.inl rfl) _
        have HB2 := Lib.hid (show OwnZ (wr.setCell ⟨G, j, none⟩ (.int .i64 z)) H 32 (List.replicate 32 0) from hk1.row HB.out (fun k e1 e2 => by
          simp [Value.ownBlock] at e1
          unfold OneB at e2; omega))
        have HK2 := Lib.hid (show Kept NoB w (wr.setCell ⟨G, j, none⟩ (.int .i64 z)) from Kept.setCell (p := ⟨G, j, none⟩) HK.out (.inr HG.out) _)
        rw [← hz] at hg
        clear hz hk1
        by_cases h1 : (j : Int) < 144
        · obtain rfl : z = 8 := by rw [hg, if_pos (by omega)]
          clear hg
          go_wp2
          go_roundw
          case rel => exact ⟨j + 1, by omega, by go_num, HA2, HB2, HK2⟩
          case measure => simp [intOf]; omega
        · by_cases h2 : (j : Int) < 256
          · obtain rfl : z = 9 := by rw [hg, if_neg (by omega), if_pos (by omega)]
            clear hg
            go_wp2
            go_roundw
            case rel => exact ⟨j + 1, by omega, by go_num, HA2, HB2, HK2⟩
            case measure => simp [intOf]; omega
          · by_cases h3 : (j : Int) < 280
            · obtain rfl : z = 7 := by rw [hg, if_neg (by omega), if_neg (by omega), if_pos (by omega)]
              clear hg
              go_wp2
              go_roundw
              case rel => exact ⟨j + 1, by omega, by go_num, HA2, HB2, HK2⟩
              case measure => simp [intOf]; omega
            · obtain rfl : z = 8 := by rw [hg, if_neg (by omega), if_neg (by omega), if_neg (by omega)]
              clear hg
              go_wp2
              go_roundw
              case rel => exact ⟨j + 1, by omega, by go_num, HA2, HB2, HK2⟩
              case measure => simp [intOf]; omega
      · obtain rfl : j = 288 := by omega
        have HA1 : Hid (OwnZ wr G 288 fixL) := by
          have := HA.out
          rw [show (288 : Nat) = fixL.length from fixL_len.symm, upTo_all, fixL_len] at this
          exact this
        clear HA
        go_wp2_with fail
        go_loopw [3, 35] (fun _u i wq => ∃ j : Nat, j ≤ 32 ∧ i = .int .i64 j ∧ Hid (OwnZ wq G 288 fixL) ∧ Hid (OwnZ wq H 32 (upTo fixD j)) ∧ Hid (Kept NoB w wq)) (fun _ i _ => 32 - (intOf i).toNat)
        case atStart => exact ⟨0, by omega, rfl, HA1, by rw [upTo_zero, fixD_len]; exact HB, HK⟩
        case round =>
          clear HA1 HB HK
          obtain ⟨j, hj, rfl, HA, HB, HK⟩ := hrel
          by_cases hlt : (j : Int) < 32
          · have hg := fixD_get j (by omega)
            have hud : ∃ u, wr.cell? ⟨H, j, none⟩ = some u := by
              rw [HB.out.cellAt j (by omega)]
              exact ⟨_, List.getElem?_eq_getElem (by rw [List.length_map, upTo_len _ _ (by rw [fixD_len]; omega), fixD_len]; omega)⟩
            obtain ⟨u, hu⟩ := hud
            have hfd := World.ownsRow.frozenAt HB.out j
            have HB2 := Lib.hid (HB.out.set (by rw [fixD_len]; omega) 5 hg)
            have hk1 : Kept (OneB H) wr (wr.setCell ⟨H, j, none⟩ (.int .i64 5)) := Kept.setCell (S := OneB H) (p := ⟨H, j, none⟩) (Kept.refl _ wr) (.inl rfl) _
            have HA2 := Lib.hid (show OwnZ (wr.setCell ⟨H, j, none⟩ (.int .i64 5)) G 288 fixL from hk1.row HA.out (fun k e1 e2 => by
              simp [Value.ownBlock] at e1
              unfold OneB at e2; omega))
            have HK2 := Lib.hid (show Kept NoB w (wr.setCell ⟨H, j, none⟩ (.int .i64 5)) from Kept.setCell (p := ⟨H, j, none⟩) HK.out (.inr HH.out) _)
            clear hg hk1
            go_wp2
            go_roundw
            case rel => exact ⟨j + 1, by omega, by go_num, HA2, HB2, HK2⟩
            case measure => simp [intOf]; omega
          · obtain rfl : j = 32 := by omega
            have HB1 : Hid (OwnZ wr H 32 fixD) := by
              have := HB.out
              rw [show (32 : Nat) = fixD.length from fixD_len.symm, upTo_all, fixD_len] at this
              exact this
            clear HB
            go_wp2
            go_ret2
            exact ⟨G, H, rfl, HA.out, HB1.out, HK.out, HG.out, HH.out, HN.out⟩
end Go.Proofs.YtfmjfgmbjdhogaaGreatDoor

namespace Go.Proofs.YtfmjfgmbjdhogaaGreatDoor
open Go.RowKit
set_option linter.unusedVariables false
set_option linter.unusedSimpArgs false

end Go.Proofs.YtfmjfgmbjdhogaaGreatDoor

namespace Go.Proofs.YtfmjfgmbjdhogaaGreatDoor
open Go.RowKit
set_option linter.unusedVariables false
set_option linter.unusedSimpArgs false

end Go.Proofs.YtfmjfgmbjdhogaaGreatDoor

namespace Go.Proofs.YtfmjfgmbjdhogaaGreatDoor
open Go.RowKit
set_option linter.unusedVariables false
set_option linter.unusedSimpArgs false

theorem runAll_ok (n : Int) : ∀ (rs : List (Int × Int)) (l F : List Int), runAll n l rs = some F → ∀ y ∈ rs, 0 ≤ y.1 ∧ y.1 ≤ 18 ∧ 0 ≤ y.2 ∧ y.2 ≤ spanM y.1
  | [], l, F, h, y, hy => absurd hy (by simp)
  | (s, x) :: r, l, F, h, y, hy => by
    rw [runAll] at h
    split at h
    · rename_i hok
      rcases List.mem_cons.1 hy with e | hm
      · subst e; exact ⟨hok.1.1, hok.1.2.1, hok.1.2.2.1, hok.1.2.2.2.1⟩
      · exact runAll_ok n r _ F h y hm
    · cases h
end Go.Proofs.YtfmjfgmbjdhogaaGreatDoor

namespace Go.Proofs.YtfmjfgmbjdhogaaGreatDoor
open Go.RowKit
set_option linter.unusedVariables false
set_option linter.unusedSimpArgs false

end Go.Proofs.YtfmjfgmbjdhogaaGreatDoor

namespace Go.Proofs.YtfmjfgmbjdhogaaGreatDoor
open Go.RowKit
set_option linter.unusedVariables false

end Go.Proofs.YtfmjfgmbjdhogaaGreatDoor

namespace Go.Proofs.YtfmjfgmbjdhogaaGreatDoor
open Go.RowKit
set_option linter.unusedVariables false
set_option linter.unusedSimpArgs false
set_option maxRecDepth 20000

set_option maxHeartbeats 2000000 in
/-- Few bytes are stored as one block. -/
theorem storeAll_few (w : World) (R : Nat) (ao : Option Addr) (cap : Nat) (bs : List Int) (s : Nat) (last : Bool) (ba : Option Addr) (bc : Nat) (b : List Int) (h : Wtr w R ao cap bs s) (hs : s ≤ 700000000000) (hr : Reads w ba b) (hb : AllB b) (hl : b.length ≤ 65535)
    (hsep : ∀ a, ba = some a → a.block ≠ R ∧ (Value.slice ao bs.length cap).ownBlock ≠ some a.block) :
    Calls Tryz.prog 26 #[.pointer (some ⟨R, 0, none⟩), .slice ba b.length bc, .bool last] w fun e w' => ∃ ao' cap' bs', e = .returned (.tuple #[]) ∧ WroteP w R (.slice ao bs.length cap) bs s (storedW last (up8 (s + 3) - (s + 3)) b) w' ao' cap' bs' := by
  have HS := Lib.hid (stored_yes w R ao cap bs s last ba bc b h hs hr hb hl hsep)
  obtain ⟨n, hn⟩ : ∃ n, n = b.length := ⟨_, rfl⟩
  rw [← hn] at HS hl ⊢
  clear h hr hb hsep hn
  go_enter Tryz.func26, Tryz.ntmps26
  go_wp2_with fail
  go_loopw [1] (fun v wr => v = .slice ba n bc ∧ w = wr) (fun _ _ => 0)
  case atStart => exact ⟨rfl, rfl⟩
  case round =>
    obtain ⟨rfl, rfl⟩ := hrel
    have hg : ¬ ((65535 : Int) < (n : Int)) := by omega
    go_wp2_with fail
    refine HS.out.mono ?_
    rintro e w1 ⟨ao', cap', bs', rfl, hW⟩
    have HW := Lib.hid hW
    clear hW HS
    go_wp2
    refine bodyPost_end (results_none rfl _ _ _) rfl ?_
    exact ⟨ao', cap', bs', rfl, HW.out⟩
end Go.Proofs.YtfmjfgmbjdhogaaGreatDoor

namespace Go.Proofs.YtfmjfgmbjdhogaaGreatDoor
open Go.RowKit
set_option linter.unusedVariables false
set_option linter.unusedSimpArgs false
set_option maxRecDepth 20000

end Go.Proofs.YtfmjfgmbjdhogaaGreatDoor

namespace Go.Proofs.YtfmjfgmbjdhogaaGreatDoor
open Go.RowKit
set_option linter.unusedVariables false

end Go.Proofs.YtfmjfgmbjdhogaaGreatDoor

namespace Go.Proofs.YtfmjfgmbjdhogaaGreatDoor
open Go.RowKit
set_option linter.unusedVariables false

end Go.Proofs.YtfmjfgmbjdhogaaGreatDoor

namespace Go.Proofs.YtfmjfgmbjdhogaaGreatDoor
open Go.RowKit
set_option linter.unusedVariables false

end Go.Proofs.YtfmjfgmbjdhogaaGreatDoor

namespace Go.Proofs.YtfmjfgmbjdhogaaGreatDoor
open Go.RowKit
set_option linter.unusedVariables false

end Go.Proofs.YtfmjfgmbjdhogaaGreatDoor

namespace Go.Proofs.YtfmjfgmbjdhogaaGreatDoor
open Go.RowKit
set_option linter.unusedVariables false

end Go.Proofs.YtfmjfgmbjdhogaaGreatDoor

namespace Go.Proofs.YtfmjfgmbjdhogaaGreatDoor
open Go.RowKit
set_option linter.unusedVariables false

end Go.Proofs.YtfmjfgmbjdhogaaGreatDoor

namespace Go.Proofs.YtfmjfgmbjdhogaaGreatDoor
open Go.RowKit
set_option linter.unusedVariables false

structure Two (T1 T2 : TypeId) (w0 w : World) (A : Nat) (aoa : Option Addr) (capa : Nat) (ba : List Int) (sa : Nat) (B : Nat) (aob : Option Addr) (capb : Nat) (bb : List Int) (sb : Nat) : Prop where
  a : WtrT T1 w A aoa capa ba sa
  b : WtrT T2 w B aob capb bb sb
  ne : A ≠ B
  fa : w0.heap.size ≤ A
  fb : w0.heap.size ≤ B
  oa : ∀ k, (Value.slice aoa ba.length capa).ownBlock = some k → w0.heap.size ≤ k
  ob : ∀ k, (Value.slice aob bb.length capb).ownBlock = some k → w0.heap.size ≤ k
  ab : ∀ k, (Value.slice aoa ba.length capa).ownBlock = some k → (Value.slice aob bb.length capb).ownBlock ≠ some k
  ta : T1 ≠ 5
  tb : T2 ≠ 5
  bel : Below w0.heap.size w0 w
variable {T1 T2 : TypeId} {w0 w w' : World} {A : Nat} {aoa : Option Addr} {capa : Nat} {ba : List Int} {sa : Nat} {B : Nat} {aob : Option Addr} {capb : Nat} {bb : List Int} {sb : Nat}
end Go.Proofs.YtfmjfgmbjdhogaaGreatDoor

namespace Go.Proofs.YtfmjfgmbjdhogaaGreatDoor
open Go.RowKit
set_option linter.unusedVariables false
set_option maxRecDepth 20000

end Go.Proofs.YtfmjfgmbjdhogaaGreatDoor

namespace Go.Proofs.YtfmjfgmbjdhogaaGreatDoor
open Go.RowKit
set_option linter.unusedVariables false
set_option linter.unusedSimpArgs false

end Go.Proofs.YtfmjfgmbjdhogaaGreatDoor

namespace Go.Proofs.YtfmjfgmbjdhogaaGreatDoor
open Go.RowKit
set_option linter.unusedVariables false
set_option linter.unusedSimpArgs false
set_option maxRecDepth 20000

end Go.Proofs.YtfmjfgmbjdhogaaGreatDoor

namespace Go.Proofs.YtfmjfgmbjdhogaaGreatDoor
open Go.RowKit
set_option linter.unusedVariables false
set_option linter.unusedSimpArgs false

end Go.Proofs.YtfmjfgmbjdhogaaGreatDoor

namespace Go.Proofs.YtfmjfgmbjdhogaaGreatDoor
open Go.RowKit
set_option linter.unusedVariables false
set_option linter.unusedSimpArgs false

theorem emp_sa {w0 w : World} (hk : Kept NoB w0 w) (k : Nat) (he : k = w.heap.size) : IntSt w0 (w.alloc (.cells #[] 3)) (some ⟨k, 0, none⟩) 0 0 [] := by
  subst he; exact ⟨rfl, World.ownsRow_lit w #[] 0 (Nat.zero_le _) (Nat.zero_le _) rfl, hk.alloc _, fun k e => by have := hk.size; simp [Value.ownBlock] at e; omega⟩
theorem wpList_intsA {ops : Array Oper} {rest : List Oper} {o : Oper} {a : Act} {w : World} {Q : Exit → Act → World → Prop} (hgd : o.guard = none) (s x : Operand)
    (ho : o.op = .call { callee := .builtin .append, args := #[s, x], argTypes := #[30, 30] })
    {w0 : World} {a1 : Option Addr} {l1 c1 : Nat} {zs : List Int} (hS : IntSt w0 w a1 l1 c1 zs) (hs : a.eval s = .slice a1 l1 c1)
    (ad : Addr) (m c : Nat) (news : List Int) (hx : a.eval x = .slice (some ad) m c) (hl : news.length = m) (hnews : ∀ j u, (news.map (Value.int .i64))[j]? = some u → w.cell? (ad.add j) = some u) (h63 : l1 + m ≤ 100000)
    (h : ∀ a2 c2 w', IntSt w0 w' a2 (l1 + m) c2 (zs ++ news) → Kept (OwnB (Value.slice a1 l1 c1)) w w' → wpList Tryz.prog ops Q rest (a.put o.dst (.slice a2 (l1 + m) c2)) w') : wpList Tryz.prog ops Q (o :: rest) a w := by
  obtain ⟨i0, hi, hz0, hz1, hz2⟩ := info_parts infoI
  refine wpList_app w hgd s x 30 ho 3 i0 (.int .i64 0) 1 8 (by kernel_rfl) hi hz0 hz1 hz2 rfl (by decide) _ l1 (zs.map (.int .i64)) hs hS.own ad m c (news.map (.int .i64)) hx (by rw [List.length_map, hl, Nat.mul_one]) hnews (fun u hu => by obtain ⟨y, _, rfl⟩ := List.mem_map.1 hu; rfl) (by unfold maxLen; omega) (by omega) ?_
  intro v' w' h2 h3 h4
  obtain ⟨a2, c2, rfl⟩ := own_shape2 h2
  refine h _ _ _ ⟨by rw [List.length_append, hS.len, hl], by rw [List.map_append]; exact h2, hS.kept.grown h3 (fun k hk e => by have := hS.fresh k e; omega), ?_⟩ ?_
  intro k hk
  rcases h4 k hk with h | h
  · exact hS.fresh k h
  · have := hS.kept.size; omega
  · exact (Kept.refl _ w).grown h3 (fun k hk e => e)
end Go.Proofs.YtfmjfgmbjdhogaaGreatDoor

namespace Go.Proofs.YtfmjfgmbjdhogaaGreatDoor
open Go.RowKit
set_option linter.unusedVariables false
set_option linter.unusedSimpArgs false

end Go.Proofs.YtfmjfgmbjdhogaaGreatDoor

namespace Go.Proofs.YtfmjfgmbjdhogaaGreatDoor
open Go.RowKit
set_option linter.unusedVariables false
set_option linter.unusedSimpArgs false

theorem may_all {ls : List Int} (h : fullB ls = true ∨ kindA ls = 1) : Small 15 ls ∧ ls.length ≤ 320 := by
  have : MayL ls := by
    rcases h with h | h
    · exact full_may h
    · apply Classical.byContradiction
      intro hn
      have := kindA_bad hn
      rw [this] at h
      exact absurd h (by decide)
  exact ⟨this.small, this.len⟩
theorem head_small {lit dist : List Int} (h : headB lit dist = true) : (257 ≤ lit.length ∧ lit.length ≤ 286 ∧ 1 ≤ dist.length ∧ dist.length ≤ 30) ∧ Small 15 lit ∧ Small 15 dist ∧ mayB lit dist = true := by
  unfold headB at h
  obtain ⟨h1, h2⟩ := Bool.and_eq_true_iff.1 h
  have h3 := h2
  unfold mayB at h3
  obtain ⟨h4, h5⟩ := Bool.and_eq_true_iff.1 h3
  obtain ⟨_, h6⟩ := Bool.and_eq_true_iff.1 h4
  refine ⟨of_decide_eq_true h1, (may_all (.inl h6)).1, (may_all ?_).1, h2⟩
  rcases Bool.or_eq_true_iff.1 h5 with h | h
  · exact .inl h
  · exact .inr (of_decide_eq_true h)
end Go.Proofs.YtfmjfgmbjdhogaaGreatDoor

namespace Go.Proofs.YtfmjfgmbjdhogaaGreatDoor
open Go.RowKit
set_option linter.unusedVariables false
set_option linter.unusedSimpArgs false
set_option maxRecDepth 20000

end Go.Proofs.YtfmjfgmbjdhogaaGreatDoor

namespace Go.Proofs.YtfmjfgmbjdhogaaGreatDoor
open Go.RowKit
set_option linter.unusedVariables false
set_option linter.unusedSimpArgs false
set_option maxRecDepth 20000

end Go.Proofs.YtfmjfgmbjdhogaaGreatDoor

namespace Go.Proofs.YtfmjfgmbjdhogaaGreatDoor
open Go.RowKit
set_option linter.unusedVariables false
set_option linter.unusedSimpArgs false
set_option maxRecDepth 20000

end Go.Proofs.YtfmjfgmbjdhogaaGreatDoor

namespace Go.Proofs.YtfmjfgmbjdhogaaGreatDoor
open Go.RowKit
set_option linter.unusedVariables false

end Go.Proofs.YtfmjfgmbjdhogaaGreatDoor

namespace Go.Proofs.YtfmjfgmbjdhogaaGreatDoor
open Go.RowKit
set_option linter.unusedVariables false
set_option linter.unusedSimpArgs false

end Go.Proofs.YtfmjfgmbjdhogaaGreatDoor
