/-
  Blocks that were put are read: stored, fixed, dynamic.
  Blocks on paper, further: where reading ends is one place; codes stay codes; each item takes a bit at least.
  inflate.Fixed: the lengths of the fixed codes.
-/
import Derived.Test.YthapkciebphhkaaMb17
namespace Go.Proofs.Ythapkciebphhkaa
open Go.RowKit
set_option linter.unusedVariables false
set_option linter.unusedSimpArgs false

theorem Steps.to {bs : List Int} {most p p1 q q1 : Nat} {m m1 : Md} {l l1 : Bool} {o o1 : List Int} (h : Steps bs most p m l o p1 m1 l1 o1) (e : p = q) (e1 : p1 = q1) : Steps bs most q m l o q1 m1 l1 o1 := by subst e; subst e1; exact h
theorem TokWs.steps {bs : List Int} {s most : Nat} {lit dist : List Int} {last : Bool} {ts : List Tk} {ws : List (Nat × Nat)} (hw : TokWs lit dist ts ws) (hl : CodeOk lit) (hd : CodeOk dist) : ∀ (pre post : List (Nat × Nat)) (out : List Int), Puts bs s (pre ++ ws ++ post) → good (most : Int) ts out →
    Steps bs most (s + wdN pre) (.sym lit dist) last out (s + wdN (pre ++ ws)) (.sym lit dist) last (putAll ts out) := by
  induction hw with
  | nil => intro pre post out h hg; rw [List.append_nil]; exact .refl
  | @cons t r ws vs ht hr ih =>
    intro pre post out h hg
    have h1 := ht.step (last := last) (post := vs ++ post) (by simpa using h) hl hd hg.1
    have h2 := ih (pre ++ ws) post (t.put out) (by simpa using h) hg.2
    rw [List.append_assoc] at h2
    exact .step h1 h2
/-- The end of a block's tokens. -/
theorem end_step {bs : List Int} {s most : Nat} {lit dist : List Int} {last : Bool} {pre post : List (Nat × Nat)} {out : List Int} (h : Puts bs s (pre ++ wordZ lit 256 :: post)) (hl : CodeOk lit) (hc : HasC lit 256) :
    ItemR bs most (s + wdN pre) (.sym lit dist) last out 0 (s + wdN (pre ++ [wordZ lit 256])) (endM last) last out := by
  have hs := h.sym hl hc
  unfold ItemR
  refine ⟨256, 0, _, hs, ?_⟩
  rw [if_neg (by decide), if_neg (by decide), if_pos rfl]
  exact ⟨rfl, rfl, rfl, rfl, rfl⟩
def lastN (last : Bool) : Nat := if last then 1 else 0
theorem lastN_lt (last : Bool) : lastN last < 2 := by unfold lastN; split <;> decide
/-- The three bits of a block's kind. -/
theorem kind_bits {bs : List Int} {s : Nat} {pre post : List (Nat × Nat)} {last : Bool} {k : Nat} (h : Puts bs s (pre ++ (lastN last, 1) :: (k, 2) :: post)) (hk : k < 4) : bitsAt bs (s + wdN pre) 3 = lastN last + 2 * k ∧ s + wdN pre + 3 ≤ 8 * bs.length := by
  have h1 := h.is
  have h2 := (show Puts bs s ((pre ++ [(lastN last, 1)]) ++ (k, 2) :: post) by simpa using h).is
  have h3 := h.room
  rw [wdN_append] at h2
  simp only [wdN, Nat.add_zero] at h2 h3
  rw [← Nat.add_assoc] at h2
  have hl := lastN_lt last
  refine ⟨?_, by omega⟩
  unfold bitsAt at h1 h2 ⊢
  rw [Nat.pow_succ, ← Nat.div_div_eq_div_mul] at h2
  generalize num bs / 2 ^ (s + wdN pre) = x at h1 h2 ⊢
  omega
theorem kind_step {bs : List Int} {s most : Nat} {pre post : List (Nat × Nat)} {last l0 : Bool} {out : List Int} {k : Nat} (h : Puts bs s (pre ++ (lastN last, 1) :: (k, 2) :: post)) (hk : k < 3) :
    ItemR bs most (s + wdN pre) .block l0 out 0 (s + wdN (pre ++ [(lastN last, 1), (k, 2)])) (if k = 0 then .stored else if k = 1 then .sym fixL fixD else .head) last out := by
  obtain ⟨h1, h2⟩ := kind_bits h (by omega)
  have hl := lastN_lt last
  have e : s + wdN (pre ++ [(lastN last, 1), (k, 2)]) = s + wdN pre + 3 := by rw [wdN_append]; simp only [wdN]; omega
  have el : last = ((lastN last + 2 * k) % 2 == 1) := by
    cases last
    · simp [lastN]
    · simp [lastN] <;> omega
  unfold ItemR
  dsimp only
  rw [h1, e, if_neg (by omega)]
  by_cases k0 : k = 0
  · rw [if_pos (by omega), if_pos k0]; exact ⟨rfl, rfl, rfl, el, rfl⟩
  · rw [if_neg (by omega), if_neg k0]
    by_cases k1 : k = 1
    · rw [if_pos (by omega), if_pos k1]; exact ⟨rfl, rfl, rfl, el, rfl⟩
    · rw [if_neg (by omega), if_neg k1, if_pos (by omega)]; exact ⟨rfl, rfl, rfl, el, rfl⟩
/-- Bytes, as they are put. -/
def bytesW (b : List Int) : List (Nat × Nat) := b.map fun x => (x.toNat, 8)
theorem bytesW_wd (b : List Int) : wdN (bytesW b) = 8 * b.length := by
  induction b with
  | nil => rfl
  | cons x r ih => rw [bytesW, List.map_cons, wdN, ← bytesW, ih, List.length_cons]; omega
theorem bytes_steps {bs : List Int} {s most : Nat} {last : Bool} : ∀ (b : List Int) (pre post : List (Nat × Nat)) (out : List Int), Puts bs s (pre ++ bytesW b ++ post) → AllB b → b ≠ [] → out.length + b.length ≤ most →
    Steps bs most (s + wdN pre) (.bytes b.length) last out (s + wdN (pre ++ bytesW b)) (endM last) last (out ++ b)
  | [], pre, post, out, h, ha, h0, hm => absurd rfl h0
  | x :: r, pre, post, out, h, ha, h0, hm => by
    have hx := ha x (List.mem_cons_self ..)
    have h1 := (show Puts bs s (pre ++ (x.toNat, 8) :: (bytesW r ++ post)) by simpa [bytesW] using h).is
    have h2 := (show Puts bs s (pre ++ (x.toNat, 8) :: (bytesW r ++ post)) by simpa [bytesW] using h).room
    simp only [wdN] at h2
    rw [List.length_cons] at hm
    have e : s + wdN (pre ++ [(x.toNat, 8)]) = s + wdN pre + 8 := by rw [wdN_append]; simp [wdN]; omega
    have hi : ItemR bs most (s + wdN pre) (.bytes (r.length + 1)) last out 0 (s + wdN (pre ++ [(x.toNat, 8)])) (if r.length + 1 ≤ 1 then endM last else .bytes r.length) last (out ++ [x]) := by
      unfold ItemR
      dsimp only
      rw [if_neg (by omega), if_neg (by omega), e, h1]
      exact ⟨rfl, rfl, rfl, rfl, by rw [Int.toNat_of_nonneg hx.1]⟩
    by_cases hr : r = []
    · subst hr
      refine Steps.one ?_
      rw [List.length_cons]
      exact hi
    · have hl : 0 < r.length := by cases r with | nil => exact absurd rfl hr | cons => simp
      have ih := bytes_steps (most := most) (last := last) r (pre ++ [(x.toNat, 8)]) post (out ++ [x]) (by simpa [bytesW] using h) (fun y hy => ha y (List.mem_cons_of_mem _ hy)) hr (by rw [List.length_append, List.length_singleton]; omega)
      rw [if_neg (by omega)] at hi
      refine .step hi ?_
      have e2 : pre ++ bytesW (x :: r) = pre ++ [(x.toNat, 8)] ++ bytesW r := by simp [bytesW]
      rw [e2]
      simpa using ih
/-- A stored block. -/
def storedW (last : Bool) (pad : Nat) (b : List Int) : List (Nat × Nat) := [(lastN last, 1), (0, 2), (0, pad), (b.length, 16), (65535 - b.length, 16)] ++ bytesW b
theorem stored_steps {bs : List Int} {s most pad : Nat} {pre post : List (Nat × Nat)} {last l0 : Bool} {out b : List Int} (h : Puts bs s (pre ++ storedW last pad b ++ post)) (hb : AllB b) (hl : b.length ≤ 65535) (hp : pad < 8) (hp8 : (s + wdN pre + 3 + pad) % 8 = 0) (hm : out.length + b.length ≤ most) :
    Steps bs most (s + wdN pre) .block l0 out (s + wdN (pre ++ storedW last pad b)) (endM last) last (out ++ b) := by
  unfold storedW at h ⊢
  have h1 := kind_step (most := most) (l0 := l0) (out := out) (show Puts bs s (pre ++ (lastN last, 1) :: (0, 2) :: ([(0, pad), (b.length, 16), (65535 - b.length, 16)] ++ bytesW b ++ post)) by simpa using h) (by decide)
  rw [if_pos rfl] at h1
  have x1 := (show Puts bs s ((pre ++ [(lastN last, 1), (0, 2), (0, pad)]) ++ (b.length, 16) :: ([(65535 - b.length, 16)] ++ bytesW b ++ post)) by simpa using h).is
  have x2 := (show Puts bs s ((pre ++ [(lastN last, 1), (0, 2), (0, pad), (b.length, 16)]) ++ (65535 - b.length, 16) :: (bytesW b ++ post)) by simpa using h).is
  have x3 := (show Puts bs s ((pre ++ [(lastN last, 1), (0, 2), (0, pad), (b.length, 16), (65535 - b.length, 16)]) ++ (bytesW b ++ post)) by simpa using h).room
  have w1 : wdN (pre ++ [(lastN last, 1), (0, 2), (0, pad)]) = wdN pre + 3 + pad := by rw [wdN_append]; simp only [wdN]; omega
  have w2 : wdN (pre ++ [(lastN last, 1), (0, 2), (0, pad), (b.length, 16)]) = wdN pre + 3 + pad + 16 := by rw [wdN_append]; simp only [wdN]; omega
  have w3 : wdN (pre ++ [(lastN last, 1), (0, 2), (0, pad), (b.length, 16), (65535 - b.length, 16)]) = wdN pre + 3 + pad + 32 := by rw [wdN_append]; simp only [wdN]; omega
  have w4 : wdN (pre ++ [(lastN last, 1), (0, 2)]) = wdN pre + 3 := by rw [wdN_append]; rfl
  rw [w1] at x1
  rw [w2] at x2
  rw [w3] at x3
  rw [w4] at h1
  have hu : up8 (s + (wdN pre + 3)) = s + wdN pre + 3 + pad := by unfold up8; omega
  have hi : ItemR bs most (s + (wdN pre + 3)) .stored last out 0 (s + (wdN pre + 3 + pad + 32)) (if b.length = 0 then endM last else .bytes b.length) last out := by
    unfold ItemR
    dsimp only
    rw [hu]
    have y1 : bitsAt bs (s + wdN pre + 3 + pad) 16 = b.length := by rw [← x1]; congr 1; omega
    have y2 : bitsAt bs (s + wdN pre + 3 + pad + 16) 16 = 65535 - b.length := by rw [← x2]; congr 1; omega
    rw [y1, y2, if_neg (by omega), if_neg (by omega)]
    exact ⟨rfl, by omega, rfl, rfl, rfl⟩
  refine .step h1 (.step hi ?_)
  by_cases hb0 : b = []
  · subst hb0
    simp only [List.length_nil, if_pos]
    refine (Steps.refl (p := s + (wdN pre + 3 + pad + 32)) (m := endM last) (last := last) (out := out)).trans ?_
    rw [List.append_nil]
    refine Steps.to .refl rfl ?_
    rw [← w3]
    simp [bytesW]
  · have hl0 : b.length ≠ 0 := fun e => hb0 (List.eq_nil_of_length_eq_zero e)
    rw [if_neg hl0, ← w3]
    have := bytes_steps (most := most) (last := last) b (pre ++ [(lastN last, 1), (0, 2), (0, pad), (b.length, 16), (65535 - b.length, 16)]) post out (by simpa using h) hb hb0 hm
    simpa using this
theorem fixL_ok : CodeOk fixL := by
  refine ⟨by decide +kernel, fun z hz => ?_, by decide +kernel⟩
  unfold fixL at hz
  simp only [List.mem_append, List.mem_replicate] at hz
  omega
theorem fixD_ok : CodeOk fixD := by
  refine ⟨by decide +kernel, fun z hz => ?_, by decide +kernel⟩
  unfold fixD at hz
  simp only [List.mem_replicate] at hz
  omega
theorem fixL_at (i : Nat) (h : i < 288) : 0 < fixL.getD i 0 := by
  have hm : fixL.getD i 0 ∈ fixL := by
    have hl : i < fixL.length := by have : fixL.length = 288 := by decide +kernel
                                    omega
    have : fixL.getD i 0 = fixL[i] := by simp [List.getD, hl]
    rw [this]; exact List.getElem_mem hl
  unfold fixL at hm
  simp only [List.mem_append, List.mem_replicate] at hm
  unfold fixL
  omega
theorem fixD_at (i : Nat) (h : i < 32) : 0 < fixD.getD i 0 := by
  unfold fixD List.getD
  rw [List.getElem?_replicate, if_pos h]
  decide
theorem fixL_len : fixL.length = 288 := by decide +kernel
theorem fixL_has (i : Nat) (h : i < 288) : HasC fixL (i : Int) := ⟨i, rfl, by rw [fixL_len]; exact h, fixL_at i h⟩
theorem fixD_has (i : Nat) (h : i < 32) : HasC fixD (i : Int) := ⟨i, rfl, by unfold fixD; rw [List.length_replicate]; exact h, fixD_at i h⟩
/-- A block of tokens, by codes; from behind its kind (and its head) on. -/
theorem toks_steps {bs : List Int} {s most : Nat} {lit dist : List Int} {last : Bool} {ts : List Tk} {ws pre post : List (Nat × Nat)} {out : List Int} (hw : TokWs lit dist ts ws) (hl : CodeOk lit) (hd : CodeOk dist) (hc : HasC lit 256) (h : Puts bs s (pre ++ (ws ++ [wordZ lit 256]) ++ post)) (hg : good (most : Int) ts out) :
    Steps bs most (s + wdN pre) (.sym lit dist) last out (s + wdN (pre ++ (ws ++ [wordZ lit 256]))) (endM last) last (putAll ts out) := by
  have h1 := hw.steps (last := last) hl hd pre ([wordZ lit 256] ++ post) out (by simpa using h) hg
  have h2 := end_step (most := most) (dist := dist) (last := last) (out := putAll ts out) (show Puts bs s ((pre ++ ws) ++ wordZ lit 256 :: post) by simpa using h) hl hc
  rw [List.append_assoc] at h2
  exact h1.trans (.one h2)
theorem fixed_steps {bs : List Int} {s most : Nat} {last l0 : Bool} {ts : List Tk} {ws pre post : List (Nat × Nat)} {out : List Int} (hw : TokWs fixL fixD ts ws) (h : Puts bs s (pre ++ ([(lastN last, 1), (1, 2)] ++ (ws ++ [wordZ fixL 256])) ++ post)) (hg : good (most : Int) ts out) :
    Steps bs most (s + wdN pre) .block l0 out (s + wdN (pre ++ ([(lastN last, 1), (1, 2)] ++ (ws ++ [wordZ fixL 256])))) (endM last) last (putAll ts out) := by
  have h1 := kind_step (most := most) (l0 := l0) (out := out) (show Puts bs s (pre ++ (lastN last, 1) :: (1, 2) :: ((ws ++ [wordZ fixL 256]) ++ post)) by simpa using h) (by decide)
  rw [if_neg (by decide), if_pos rfl] at h1
  have h2 := toks_steps (most := most) (last := last) (out := out) (pre := pre ++ [(lastN last, 1), (1, 2)]) (post := post) hw fixL_ok fixD_ok (fixL_has 256 (by decide)) (by simpa using h) hg
  rw [List.append_assoc] at h2
  exact .step h1 h2
theorem head_step {bs : List Int} {s most told : Nat} {lit dist code : List Int} {rs : List (Int × Int)} {last : Bool} {pre post : List (Nat × Nat)} {out : List Int} (h : Puts bs s (pre ++ headW lit dist code told rs ++ post)) (hc : CodeW code told rs (lit ++ dist)) (hb : headB lit dist = true) :
    ItemR bs most (s + wdN pre) .head last out 0 (s + wdN (pre ++ headW lit dist code told rs)) (.sym lit dist) last out := by
  unfold ItemR
  exact ⟨lit, dist, 0, _, head_backG h hc hb, by rw [if_pos rfl]; exact ⟨rfl, rfl, rfl, rfl, rfl⟩⟩
theorem dynamic_steps {bs : List Int} {s most told : Nat} {last l0 : Bool} {ts : List Tk} {lit dist code : List Int} {rs : List (Int × Int)} {ws pre post : List (Nat × Nat)} {out : List Int} (hw : TokWs lit dist ts ws) (hl : CodeOk lit) (hd : CodeOk dist) (h256 : HasC lit 256) (hc : CodeW code told rs (lit ++ dist)) (hb : headB lit dist = true)
    (h : Puts bs s (pre ++ ([(lastN last, 1), (2, 2)] ++ (headW lit dist code told rs ++ (ws ++ [wordZ lit 256]))) ++ post)) (hg : good (most : Int) ts out) :
    Steps bs most (s + wdN pre) .block l0 out (s + wdN (pre ++ ([(lastN last, 1), (2, 2)] ++ (headW lit dist code told rs ++ (ws ++ [wordZ lit 256]))))) (endM last) last (putAll ts out) := by
  have h1 := kind_step (most := most) (l0 := l0) (out := out) (show Puts bs s (pre ++ (lastN last, 1) :: (2, 2) :: (headW lit dist code told rs ++ (ws ++ [wordZ lit 256]) ++ post)) by simpa using h) (by decide)
  rw [if_neg (by decide), if_neg (by decide)] at h1
  have h2 := head_step (most := most) (last := last) (out := out) (pre := pre ++ [(lastN last, 1), (2, 2)]) (post := ws ++ [wordZ lit 256] ++ post) (by simpa using h) hc hb
  have h3 := toks_steps (most := most) (last := last) (out := out) (pre := pre ++ [(lastN last, 1), (2, 2)] ++ headW lit dist code told rs) (post := post) hw hl hd h256 (by simpa using h) hg
  have e : pre ++ [(lastN last, 1), (2, 2)] ++ headW lit dist code told rs ++ (ws ++ [wordZ lit 256]) = pre ++ ([(lastN last, 1), (2, 2)] ++ (headW lit dist code told rs ++ (ws ++ [wordZ lit 256]))) := by simp
  rw [e] at h3
  exact .step h1 (.step h2 h3)
end Go.Proofs.Ythapkciebphhkaa

namespace Go.Proofs.Ythapkciebphhkaa
open Go.RowKit
set_option linter.unusedVariables false
set_option linter.unusedSimpArgs false

theorem ReadS.le {code : List Int} {T v p q : Nat} {s f : Int} (h : ReadS code T v p s f q) : p ≤ q ∧ (f = 0 → p < q) := by
  rcases h with ⟨n, i, h1, _, _, _, _, _, _, _, h2⟩ | ⟨_, _, h1, h2⟩
  · exact ⟨by omega, fun _ => by omega⟩
  · refine ⟨by omega, fun h0 => ?_⟩
    rw [h0] at h1
    split at h1 <;> exact absurd h1 (by decide)
theorem SymR.le {bs code : List Int} {p q : Nat} {s f : Int} (h : SymR bs code p s f q) : p ≤ q ∧ (f = 0 → p < q) := by
  obtain ⟨T, _, h⟩ := h
  exact h.le
theorem RowR.le {code bs : List Int} {N : Nat} {p : Nat} {l : List Int} {p1 : Nat} {l1 : List Int} {e1 : Int} (h : RowR code bs N p l p1 l1 e1) : p ≤ p1 := by
  induction h with
  | done ha => exact Nat.le_refl _
  | fail ha hT hR hf => exact Nat.le_refl _
  | short => exact Nat.le_refl _
  | bad => exact Nat.le_refl _
  | step ha hT hR hq hok hfit hrest ih => have := hR.le; omega
theorem mayL_of {ls : List Int} (h : fullB ls = true ∨ kindA ls = 1) : Small 15 ls ∧ ls.length ≤ 320 ∧ refS ls = 0 := by
  have hm : MayL ls := by
    rcases h with h | h
    · exact full_may h
    · apply Classical.byContradiction
      intro hn
      have := kindA_bad hn
      omega
  refine ⟨hm.small, hm.len, ?_⟩
  rcases h with h | h
  · exact full_ref h
  · unfold kindA at h
    rw [if_pos hm] at h
    unfold refS
    rw [h]; rfl
theorem head_code {bs : List Int} {p q : Nat} {lit dist : List Int} (h : HeadR bs p lit dist 0 q) : CodeOk lit ∧ CodeOk dist ∧ p < q := by
  unfold HeadR at h
  split at h
  · exact absurd h.2.2 (by decide)
  · split at h
    · exact absurd h.2.2 (by decide)
    · split at h
      · exact absurd h.2.2 (by decide)
      · split at h
        · exact absurd h.2.2 (by decide)
        · obtain ⟨row, q', f, hr, h⟩ := h
          split at h
          · split at h
            · rename_i hm
              obtain ⟨rfl, rfl, _, rfl⟩ := h
              have hle := hr.le
              unfold mayB at hm
              obtain ⟨h4, h5⟩ := Bool.and_eq_true_iff.1 hm
              obtain ⟨_, h6⟩ := Bool.and_eq_true_iff.1 h4
              have a := mayL_of (.inl h6)
              have b := mayL_of (show fullB _ = true ∨ kindA _ = 1 from by
                rcases Bool.or_eq_true_iff.1 h5 with h | h
                · exact .inl h
                · exact .inr (of_decide_eq_true h))
              exact ⟨⟨a.2.1, a.1, a.2.2⟩, ⟨b.2.1, b.1, b.2.2⟩, by omega⟩
            · exact absurd h.2.2 (by decide)
          · rename_i hf
            exact absurd h.2.2.symm hf
theorem endM_ok (l : Bool) : (endM l).ok := by cases l <;> trivial
/-- A state behind an item that was read may be; the item took a bit at least. -/
theorem ItemR.next {bs : List Int} {most p : Nat} {m : Md} {last : Bool} {out : List Int} {p1 : Nat} {m1 : Md} {l1 : Bool} {o1 : List Int} (hm : m.ok) (h : ItemR bs most p m last out 0 p1 m1 l1 o1) : m1.ok ∧ p < p1 := by
  cases m with
  | fin => exact h.elim
  | block =>
    unfold ItemR at h
    simp only at h
    split at h
    · exact absurd h (by decide)
    · split at h
      · obtain ⟨_, rfl, rfl, _⟩ := h; exact ⟨trivial, by omega⟩
      · split at h
        · obtain ⟨_, rfl, rfl, _⟩ := h; exact ⟨⟨fixL_ok, fixD_ok⟩, by omega⟩
        · split at h
          · obtain ⟨_, rfl, rfl, _⟩ := h; exact ⟨trivial, by omega⟩
          · exact absurd h (by decide)
  | stored =>
    unfold ItemR at h
    simp only at h
    split at h
    · exact absurd h (by decide)
    · split at h
      · exact absurd h (by decide)
      · obtain ⟨_, rfl, rfl, _⟩ := h
        refine ⟨?_, by unfold up8; omega⟩
        split
        · exact endM_ok _
        · trivial
  | bytes n =>
    unfold ItemR at h
    simp only at h
    split at h
    · exact absurd h (by decide)
    · split at h
      · exact absurd h (by decide)
      · obtain ⟨_, rfl, rfl, _⟩ := h
        refine ⟨?_, by omega⟩
        split
        · exact endM_ok _
        · trivial
  | head =>
    unfold ItemR at h
    simp only at h
    obtain ⟨lit, dist, f, q, hh, h⟩ := h
    split at h
    · rename_i hf
      obtain ⟨_, rfl, rfl, _⟩ := h
      rw [hf] at hh
      exact ⟨⟨(head_code hh).1, (head_code hh).2.1⟩, (head_code hh).2.2⟩
    · rename_i hf
      exact absurd h.symm hf
  | sym lit dist =>
    unfold ItemR at h
    simp only at h
    obtain ⟨s, f, q, hh, h⟩ := h
    split at h
    · rename_i hf
      exact absurd h.symm hf
    · rename_i hf
      have hq := hh.le.2 (Classical.not_not.1 hf)
      split at h
      · split at h
        · obtain ⟨_, rfl, rfl, _⟩ := h; exact ⟨hm, by omega⟩
        · exact absurd h (by decide)
      · split at h
        · obtain ⟨_, rfl, rfl, _⟩ := h; exact ⟨endM_ok _, by omega⟩
        · split at h
          · exact absurd h (by decide)
          · split at h
            · exact absurd h (by decide)
            · obtain ⟨d, g, r, hd, h⟩ := h
              have hr := hd.le.1
              split at h
              · rename_i hg
                exact absurd h.symm hg
              · split at h
                · exact absurd h (by decide)
                · split at h
                  · exact absurd h (by decide)
                  · split at h
                    · exact absurd h (by decide)
                    · split at h
                      · exact absurd h (by decide)
                      · obtain ⟨_, rfl, rfl, _⟩ := h; exact ⟨hm, by omega⟩
theorem Steps.ok {bs : List Int} {most p p1 : Nat} {m m1 : Md} {l l1 : Bool} {o o1 : List Int} (h : Steps bs most p m l o p1 m1 l1 o1) (hm : m.ok) : m1.ok ∧ p ≤ p1 := by
  induction h with
  | refl => exact ⟨hm, Nat.le_refl _⟩
  | step a _ ih => have b := a.next hm; have c := ih b.1; exact ⟨c.1, by omega⟩
/-- Nothing more is read. -/
def Stuck (bs : List Int) (most p : Nat) (m : Md) (l : Bool) (o : List Int) : Prop := m = .fin ∨ ∃ (e : Int) (p1 : Nat) (m1 : Md) (l1 : Bool) (o1 : List Int), e ≠ 0 ∧ ItemR bs most p m l o e p1 m1 l1 o1
theorem Stuck.no {bs : List Int} {most p p1 : Nat} {m m1 : Md} {l l1 : Bool} {o o1 : List Int} (h : Stuck bs most p m l o) (hm : m.ok) (hi : ItemR bs most p m l o 0 p1 m1 l1 o1) : False := by
  rcases h with rfl | ⟨e, p2, m2, l2, o2, he, h2⟩
  · exact hi.elim
  · exact he (ItemR.det hm h2 hi).1
theorem Steps.det {bs : List Int} {most p p1 p2 : Nat} {m m1 m2 : Md} {l l1 l2 : Bool} {o o1 o2 : List Int} (h : Steps bs most p m l o p1 m1 l1 o1) (hm : m.ok) (hs : Stuck bs most p1 m1 l1 o1) (h2 : Steps bs most p m l o p2 m2 l2 o2) (hs2 : Stuck bs most p2 m2 l2 o2) : p1 = p2 ∧ m1 = m2 ∧ l1 = l2 ∧ o1 = o2 := by
  induction h with
  | refl =>
    cases h2 with
    | refl => exact ⟨rfl, rfl, rfl, rfl⟩
    | step a _ => exact (hs.no hm a).elim
  | step a _ ih =>
    cases h2 with
    | refl => exact (hs2.no hm a).elim
    | step b hb =>
      obtain ⟨_, e⟩ := ItemR.det hm a b
      obtain ⟨rfl, rfl, rfl, rfl⟩ := e rfl
      exact ih (a.next hm).1 hs hb
/-- What is put out only grows. -/
theorem copyN_ex (d : Nat) : ∀ (k : Nat) (bs : List Int), ∃ x, copyN d k bs = bs ++ x ∧ x.length = k := by
  intro k
  induction k with
  | zero => intro bs; exact ⟨[], by simp [copyN], rfl⟩
  | succ k ih =>
    intro bs
    obtain ⟨x, hx, hl⟩ := ih bs
    exact ⟨x ++ [(copyN d k bs).getD ((copyN d k bs).length - d) 0], by rw [copyN, hx, List.append_assoc], by rw [List.length_append, hl]; rfl⟩
/-- A copy within the window is a copy within all. -/
theorem copyN_app (d : Nat) : ∀ (k : Nat) (pre wnd : List Int), 1 ≤ d → d ≤ wnd.length → copyN d k (pre ++ wnd) = pre ++ copyN d k wnd := by
  intro k
  induction k with
  | zero => intro pre wnd _ _; rfl
  | succ k ih =>
    intro pre wnd h1 h2
    rw [copyN, copyN, ih pre wnd h1 h2, List.append_assoc]
    have hl := copyN_len d k wnd
    have e : (pre ++ copyN d k wnd).getD ((pre ++ copyN d k wnd).length - d) 0 = (copyN d k wnd).getD ((copyN d k wnd).length - d) 0 := by
      unfold List.getD
      rw [List.length_append, List.getElem?_append_right (by omega)]
      congr 2; omega
    rw [e]
end Go.Proofs.Ythapkciebphhkaa

namespace Go.Proofs.Ythapkciebphhkaa
open Go.RowKit
set_option linter.unusedVariables false
set_option linter.unusedSimpArgs false

/-- A row filled up to j. -/
def upTo (L : List Int) (j : Nat) : List Int := L.take j ++ List.replicate (L.length - j) 0
theorem upTo_zero (L : List Int) : upTo L 0 = List.replicate L.length 0 := by simp [upTo]
theorem upTo_all (L : List Int) : upTo L L.length = L := by simp [upTo]
theorem upTo_len (L : List Int) (j : Nat) (h : j ≤ L.length) : (upTo L j).length = L.length := by simp [upTo]; omega
theorem upTo_step (L : List Int) (j : Nat) (h : j < L.length) : (upTo L j).set j (L.getD j 0) = upTo L (j + 1) := by
  apply List.ext_getElem?
  intro i
  unfold upTo
  by_cases hi : i = j
  · subst hi
    rw [List.getElem?_set_self (by simp; omega), List.getElem?_append_left (by simp; omega), List.getElem?_take, if_pos (by omega), List.getElem?_eq_getElem h]
    simp [List.getD, h]
  · rw [List.getElem?_set_ne (by omega)]
    by_cases hij : i < j
    · rw [List.getElem?_append_left (by simp; omega), List.getElem?_append_left (by simp; omega), List.getElem?_take, List.getElem?_take, if_pos hij, if_pos (by omega)]
    · rw [List.getElem?_append_right (by simp; omega), List.getElem?_append_right (by simp; omega)]
      simp only [List.length_take, List.getElem?_replicate]
      by_cases hil : i < L.length
      · rw [if_pos (by omega), if_pos (by omega)]
      · rw [if_neg (by omega), if_neg (by omega)]
theorem fixD_len : fixD.length = 32 := by decide +kernel
theorem fixL_get : ∀ j, j < 288 → fixL.getD j 0 = if j < 144 then 8 else if j < 256 then 9 else if j < 280 then 7 else 8 := by decide +kernel
theorem fixD_get : ∀ j, j < 32 → fixD.getD j 0 = 5 := by decide +kernel
def OwnZ (w : World) (G n : Nat) (L : List Int) : Prop := w.ownsRow 0 3 1 (.slice (some ⟨G, 0, none⟩) n n) n (L.map (.int .i64))
theorem OwnZ.reads {w : World} {G n : Nat} {L : List Int} (h : OwnZ w G n L) (hl : L.length = n) : RdI w w.heap.size (some ⟨G, 0, none⟩) L := by
  subst hl
  exact own_readsI h rfl
theorem OwnZ.set {w : World} {G n j : Nat} {L : List Int} (h : OwnZ w G n (upTo L j)) (hj : j < L.length) (z : Int) (hz : L.getD j 0 = z) : OwnZ (w.setCell ⟨G, j, none⟩ (.int .i64 z)) G n (upTo L (j + 1)) := by
  subst hz
  obtain ⟨s1, s2⟩ := World.ownsRow.stored h j (.int .i64 (L.getD j 0))
  rw [← List.map_set, upTo_step L j hj] at s1
  exact s1
/-- Two fresh rows. -/
structure TwoZ (w0 w : World) (G n H m : Nat) (L M : List Int) : Prop where
  a : OwnZ w G n L
  b : OwnZ w H m M
  k : Kept NoB w0 w
  g : w0.heap.size ≤ G
  h : w0.heap.size ≤ H
  ne : G ≠ H
theorem TwoZ.from {w0 w : World} {G n H m : Nat} {L M : List Int} (h : TwoZ w0.drew w G n H m L M) : TwoZ w0 w G n H m L M := ⟨h.a, h.b, (Kept.refl NoB w0).drew.trans h.k, h.g, h.h, h.ne⟩
theorem TwoZ.swap {w0 w : World} {G n H m : Nat} {L M : List Int} (h : TwoZ w0 w G n H m L M) : TwoZ w0 w H m G n M L := ⟨h.b, h.a, h.k, h.h, h.g, fun e => h.ne e.symm⟩
theorem make_one (w : World) (n : Nat) (hn : n ≤ 100000) : ∃ w', (Instr.makeSlice 29 (.int .i64 (n : Int)) (.int .i64 (n : Int))).run Try.prog w = .ok (.slice (some ⟨w.heap.size, 0, none⟩) n n) w' ∧ OwnZ w' w.heap.size n (List.replicate n 0) ∧ Kept NoB w w' := by
  obtain ⟨i0, hi, hz0, hz1, hz2⟩ := info_parts infoI
  obtain ⟨w', hr, ho, hg⟩ := run_make_full (P := Try.prog) w 0 29 3 i0 (.int .i64 0) 1 Try.underlying29 hi hz0 hz1 .i64 .i64 n (by rw [hz2]; omega) (by unfold maxLen; omega) (Nat.zero_le _)
  have e : (madeCells (Value.int .i64 0).cells (n * 1)).toList = List.replicate n (Value.int .i64 0) := by rw [Nat.mul_one]; exact toList_madeCells_one ..
  rw [e] at ho
  refine ⟨w', hr, ?_, (Kept.refl _ _).grown hg (fun k _ e => by cases e)⟩
  unfold OwnZ
  rw [List.map_replicate]
  exact ho
theorem make_two (w : World) (n m : Nat) (hn : n ≤ 100000) (hm : m ≤ 100000) : ∃ w1 w2, (Instr.makeSlice 29 (.int .i64 (n : Int)) (.int .i64 (n : Int))).run Try.prog w = .ok (.slice (some ⟨w.heap.size, 0, none⟩) n n) w1 ∧
    (Instr.makeSlice 29 (.int .i64 (m : Int)) (.int .i64 (m : Int))).run Try.prog w1 = .ok (.slice (some ⟨w1.heap.size, 0, none⟩) m m) w2 ∧ TwoZ w w2 w.heap.size n w1.heap.size m (List.replicate n 0) (List.replicate m 0) := by
  obtain ⟨w1, r1, o1, k1⟩ := make_one w n hn
  obtain ⟨w2, r2, o2, k2⟩ := make_one w1 m hm
  have hl : w.heap.size < w1.heap.size := own_lt o1 _ rfl
  exact ⟨w1, w2, r1, r2, k2.row o1 (fun _ _ e => e), o2, k1.trans k2, Nat.le_refl _, by omega, by omega⟩
set_option maxRecDepth 20000 in
set_option maxHeartbeats 4000000 in
theorem fixed_any (w : World) : Calls Try.prog 7 #[] w fun e w' => ∃ G H, e = .returned (.tuple #[.slice (some ⟨G, 0, none⟩) 288 288, .slice (some ⟨H, 0, none⟩) 32 32]) ∧ TwoZ w w' G 288 H 32 fixL fixD := by
  obtain ⟨wa, wb, ra, rb, tab⟩ := make_two w.drew 288 32 (by decide) (by decide)
  obtain ⟨wc, wd, rc, rd, tcd⟩ := make_two w.drew 32 288 (by decide) (by decide)
  have T1 := Lib.hid tab; have T2 := Lib.hid tcd
  have ra : (Instr.makeSlice 29 (.int .i64 288) (.int .i64 288)).run Try.prog w.drew = .ok (.slice (some ⟨w.heap.size, 0, none⟩) 288 288) wa := ra
  have rb : (Instr.makeSlice 29 (.int .i64 32) (.int .i64 32)).run Try.prog wa = .ok (.slice (some ⟨wa.heap.size, 0, none⟩) 32 32) wb := rb
  have rc : (Instr.makeSlice 29 (.int .i64 32) (.int .i64 32)).run Try.prog w.drew = .ok (.slice (some ⟨w.heap.size, 0, none⟩) 32 32) wc := rc
  have rd : (Instr.makeSlice 29 (.int .i64 288) (.int .i64 288)).run Try.prog wc = .ok (.slice (some ⟨wc.heap.size, 0, none⟩) 288 288) wd := rd
  clear tab tcd
  go_enter Try.func7, Try.ntmps7
  go_upto_region 1 with fail
  go_cut [0, 1] from 4 to 5 (fun s t wx => ∃ G H, s = .slice (some ⟨G, 0, none⟩) 288 288 ∧ t = .slice (some ⟨H, 0, none⟩) 32 32 ∧ TwoZ w wx G 288 H 32 (List.replicate 288 0) (List.replicate 32 0))
  case first =>
    go_region
    all_goals go_wp2
    all_goals go_meet
    · exact ⟨_, _, rfl, rfl, T1.out.from⟩
    · exact ⟨_, _, rfl, rfl, T2.out.swap.from⟩
  case rest =>
    obtain ⟨G, H, rfl, rfl, hT⟩ := hcut
    have HA := Lib.hid hT.a; have HB := Lib.hid hT.b; have HK := Lib.hid hT.k; have HG := Lib.hid hT.g; have HH := Lib.hid hT.h; have HN := Lib.hid hT.ne
    clear hT ra rb rc rd T1 T2
    have hGH : ¬ G = H := HN.out
    have hHG : ¬ H = G := fun e => HN.out e.symm
    go_wp2_with fail
    go_loopw [2, 8] (fun _u i wr => ∃ j : Nat, j ≤ 288 ∧ i = .int .i64 j ∧ Hid (OwnZ wr G 288 (upTo fixL j)) ∧ Hid (OwnZ wr H 32 (List.replicate 32 0)) ∧ Hid (Kept NoB w wr)) (fun _ i _ => 288 - (intOf i).toNat)
    case atStart => exact ⟨0, by omega, rfl, by rw [upTo_zero, fixL_len]; exact HA.out, HB, HK⟩
    case round =>
      clear HA HB HK
      obtain ⟨j, hj, rfl, HA, HB, HK⟩ := hrel
      by_cases hlt : (j : Int) < 288
      · have hg := fixL_get j (by omega)
        obtain ⟨z, hz⟩ : ∃ z, z = fixL.getD j 0 := ⟨_, rfl⟩
        have hud : ∃ u, wr.cell? ⟨G, j, none⟩ = some u := by
          rw [HA.out.cellAt j (by omega)]
          exact ⟨_, List.getElem?_eq_getElem (by rw [List.length_map, upTo_len _ _ (by rw [fixL_len]; omega), fixL_len]; omega)⟩
        obtain ⟨u, hu⟩ := hud
        have hfd := World.ownsRow.frozenAt HA.out j
        have HA2 := Lib.hid (HA.out.set (by rw [fixL_len]; omega) z hz.symm)
        have hk1 : Kept (OneB G) wr (wr.setCell ⟨G, j, none⟩ (.int .i64 z)) := Kept.setCell (S := OneB G) (p := ⟨G, j, none⟩) (Kept.refl _ wr) (.inl rfl) _
        have HB2 := Lib.hid (show OwnZ (wr.setCell ⟨G, j, none⟩ (.int .i64 z)) H 32 (List.replicate 32 0) from hk1.row HB.out (fun k e1 e2 => by
          simp [Value.ownBlock] at e1
          unfold OneB at e2; omega))
        have HK2 := Lib.hid (show Kept NoB w (wr.setCell ⟨G, j, none⟩ (.int .i64 z)) from Kept.setCell (p := ⟨G, j, none⟩) HK.out (.inr HG.out) _)
        rw [← hz] at hg
        clear hz hk1
        by_cases h1 : (j : Int) < 144
        · obtain rfl : z = 8 := by rw [hg, if_pos (by omega)]
          clear hg
          go_wp2
          go_roundw
          case rel => exact ⟨j + 1, by omega, by go_num, HA2, HB2, HK2⟩
          case measure => simp [intOf]; omega
        · by_cases h2 : (j : Int) < 256
          · obtain rfl : z = 9 := by rw [hg, if_neg (by omega), if_pos (by omega)]
            clear hg
            go_wp2
            go_roundw
            case rel => exact ⟨j + 1, by omega, by go_num, HA2, HB2, HK2⟩
            case measure => simp [intOf]; omega
          · by_cases h3 : (j : Int) < 280
            · obtain rfl : z = 7 := by rw [hg, if_neg (by omega), if_neg (by omega), if_pos (by omega)]
              clear hg
              go_wp2
              go_roundw
              case rel => exact ⟨j + 1, by omega, by go_num, HA2, HB2, HK2⟩
              case measure => simp [intOf]; omega
            · obtain rfl : z = 8 := by rw [hg, if_neg (by omega), if_neg (by omega), if_neg (by omega)]
              clear hg
              go_wp2
              go_roundw
              case rel => exact ⟨j + 1, by omega, by go_num, HA2, HB2, HK2⟩
              case measure => simp [intOf]; omega
      · obtain rfl : j = 288 := by omega
        have HA1 : Hid (OwnZ wr G 288 fixL) := by
          have := HA.out
          rw [show (288 : Nat) = fixL.length from fixL_len.symm, upTo_all, fixL_len] at this
          exact this
        clear HA
        go_wp2_with fail
        go_loopw [3, 35] (fun _u i wq => ∃ j : Nat, j ≤ 32 ∧ i = .int .i64 j ∧ Hid (OwnZ wq G 288 fixL) ∧ Hid (OwnZ wq H 32 (upTo fixD j)) ∧ Hid (Kept NoB w wq)) (fun _ i _ => 32 - (intOf i).toNat)
        case atStart => exact ⟨0, by omega, rfl, HA1, by rw [upTo_zero, fixD_len]; exact HB, HK⟩
        case round =>
          clear HA1 HB HK
          obtain ⟨j, hj, rfl, HA, HB, HK⟩ := hrel
          by_cases hlt : (j : Int) < 32
          · have hg := fixD_get j (by omega)
            have hud : ∃ u, wr.cell? ⟨H, j, none⟩ = some u := by
              rw [HB.out.cellAt j (by omega)]
              exact ⟨_, List.getElem?_eq_getElem (by rw [List.length_map, upTo_len _ _ (by rw [fixD_len]; omega), fixD_len]; omega)⟩
            obtain ⟨u, hu⟩ := hud
            have hfd := World.ownsRow.frozenAt HB.out j
            have HB2 := Lib.hid (HB.out.set (by rw [fixD_len]; omega) 5 hg)
            have hk1 : Kept (OneB H) wr (wr.setCell ⟨H, j, none⟩ (.int .i64 5)) := Kept.setCell (S := OneB H) (p := ⟨H, j, none⟩) (Kept.refl _ wr) (.inl rfl) _
            have HA2 := Lib.hid (show OwnZ (wr.setCell ⟨H, j, none⟩ (.int .i64 5)) G 288 fixL from hk1.row HA.out (fun k e1 e2 => by
              simp [Value.ownBlock] at e1
              unfold OneB at e2; omega))
            have HK2 := Lib.hid (show Kept NoB w (wr.setCell ⟨H, j, none⟩ (.int .i64 5)) from Kept.setCell (p := ⟨H, j, none⟩) HK.out (.inr HH.out) _)
            clear hg hk1
            go_wp2
            go_roundw
            case rel => exact ⟨j + 1, by omega, by go_num, HA2, HB2, HK2⟩
            case measure => simp [intOf]; omega
          · obtain rfl : j = 32 := by omega
            have HB1 : Hid (OwnZ wr H 32 fixD) := by
              have := HB.out
              rw [show (32 : Nat) = fixD.length from fixD_len.symm, upTo_all, fixD_len] at this
              exact this
            clear HB
            go_wp2
            go_ret2
            exact ⟨G, H, rfl, HA.out, HB1.out, HK.out, HG.out, HH.out, HN.out⟩
end Go.Proofs.Ythapkciebphhkaa
