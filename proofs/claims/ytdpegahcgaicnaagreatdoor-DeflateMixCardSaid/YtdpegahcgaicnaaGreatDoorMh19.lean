/-
  Blocks that were put are read: stored, fixed, dynamic.
  Runs that came in; rows of runs of the call's own.
-/
import Derived.Test.YtdpegahcgaicnaaGreatDoorMh18
namespace Go.Proofs.YtdpegahcgaicnaaGreatDoor
open Go.RowKit
set_option linter.unusedVariables false
set_option linter.unusedSimpArgs false

theorem Steps.to {bs : List Int} {most p p1 q q1 : Nat} {m m1 : Md} {l l1 : Bool} {o o1 : List Int} (h : Steps bs most p m l o p1 m1 l1 o1) (e : p = q) (e1 : p1 = q1) : Steps bs most q m l o q1 m1 l1 o1 := by subst e; subst e1; exact h
theorem TokWs.steps {bs : List Int} {s most : Nat} {lit dist : List Int} {last : Bool} {ts : List Tk} {ws : List (Nat × Nat)} (hw : TokWs lit dist ts ws) (hl : CodeOk lit) (hd : CodeOk dist) : ∀ (pre post : List (Nat × Nat)) (out : List Int), Puts bs s (pre ++ ws ++ post) → good (most : Int) ts out →
    Steps bs most (s + wdN pre) (.sym lit dist) last out (s + wdN (pre ++ ws)) (.sym lit dist) last (putAll ts out) := by
  induction hw with
  | nil => intro pre post out h hg; rw [List.append_nil]; exact .refl
  | @cons t r ws vs ht hr ih =>
    intro pre post out h hg
    have h1 := ht.step (last := last) (post := vs ++ post) (by simpa using h) hl hd hg.1
    have h2 := ih (pre ++ ws) post (t.put out) (by simpa using h) hg.2
    rw [List.append_assoc] at h2
    exact .step h1 h2
/-- The end of a block's tokens. -/
theorem end_step {bs : List Int} {s most : Nat} {lit dist : List Int} {last : Bool} {pre post : List (Nat × Nat)} {out : List Int} (h : Puts bs s (pre ++ wordZ lit 256 :: post)) (hl : CodeOk lit) (hc : HasC lit 256) :
    ItemR bs most (s + wdN pre) (.sym lit dist) last out 0 (s + wdN (pre ++ [wordZ lit 256])) (endM last) last out := by
  have hs := h.sym hl hc
  unfold ItemR
  refine ⟨256, 0, _, hs, ?_⟩
  rw [if_neg (by decide), if_neg (by decide), if_pos rfl]
  exact ⟨rfl, rfl, rfl, rfl, rfl⟩
def lastN (last : Bool) : Nat := if last then 1 else 0
theorem lastN_lt (last : Bool) : lastN last < 2 := by unfold lastN; split <;> decide
/-- The three bits of a block's kind. -/
theorem kind_bits {bs : List Int} {s : Nat} {pre post : List (Nat × Nat)} {last : Bool} {k : Nat} (h : Puts bs s (pre ++ (lastN last, 1) :: (k, 2) :: post)) (hk : k < 4) : bitsAt bs (s + wdN pre) 3 = lastN last + 2 * k ∧ s + wdN pre + 3 ≤ 8 * bs.length := by
  have h1 := h.is
  have h2 := (show Puts bs s ((pre ++ [(lastN last, 1)]) ++ (k, 2) :: post) by simpa using h).is
  have h3 := h.room
  rw [wdN_append] at h2
  simp only [wdN, Nat.add_zero] at h2 h3
  rw [← Nat.add_assoc] at h2
  have hl := lastN_lt last
  refine ⟨?_, by omega⟩
  unfold bitsAt at h1 h2 ⊢
  rw [Nat.pow_succ, ← Nat.div_div_eq_div_mul] at h2
  generalize num bs / 2 ^ (s + wdN pre) = x at h1 h2 ⊢
  omega
theorem kind_step {bs : List Int} {s most : Nat} {pre post : List (Nat × Nat)} {last l0 : Bool} {out : List Int} {k : Nat} (h : Puts bs s (pre ++ (lastN last, 1) :: (k, 2) :: post)) (hk : k < 3) :
    ItemR bs most (s + wdN pre) .block l0 out 0 (s + wdN (pre ++ [(lastN last, 1), (k, 2)])) (if k = 0 then .stored else if k = 1 then .sym fixL fixD else .head) last out := by
  obtain ⟨h1, h2⟩ := kind_bits h (by omega)
  have hl := lastN_lt last
  have e : s + wdN (pre ++ [(lastN last, 1), (k, 2)]) = s + wdN pre + 3 := by rw [wdN_append]; simp only [wdN]; omega
  have el : last = ((lastN last + 2 * k) % 2 == 1) := by
    cases last
    · simp [lastN]
    · simp [lastN] <;> omega
  unfold ItemR
  dsimp only
  rw [h1, e, if_neg (by omega)]
  by_cases k0 : k = 0
  · rw [if_pos (by omega), if_pos k0]; exact ⟨rfl, rfl, rfl, el, rfl⟩
  · rw [if_neg (by omega), if_neg k0]
    by_cases k1 : k = 1
    · rw [if_pos (by omega), if_pos k1]; exact ⟨rfl, rfl, rfl, el, rfl⟩
    · rw [if_neg (by omega), if_neg k1, if_pos (by omega)]; exact ⟨rfl, rfl, rfl, el, rfl⟩
/-- Bytes, as they are put. -/
def bytesW (b : List Int) : List (Nat × Nat) := b.map fun x => (x.toNat, 8)
theorem bytesW_wd (b : List Int) : wdN (bytesW b) = 8 * b.length := by
  induction b with
  | nil => rfl
  | cons x r ih => rw [bytesW, List.map_cons, wdN, ← bytesW, ih, List.length_cons]; omega
theorem bytes_steps {bs : List Int} {s most : Nat} {last : Bool} : ∀ (b : List Int) (pre post : List (Nat × Nat)) (out : List Int), Puts bs s (pre ++ bytesW b ++ post) → AllB b → b ≠ [] → out.length + b.length ≤ most →
    Steps bs most (s + wdN pre) (.bytes b.length) last out (s + wdN (pre ++ bytesW b)) (endM last) last (out ++ b)
  | [], pre, post, out, h, ha, h0, hm => absurd rfl h0
  | x :: r, pre, post, out, h, ha, h0, hm => by
    have hx := ha x (List.mem_cons_self ..)
    have h1 := (show Puts bs s (pre ++ (x.toNat, 8) :: (bytesW r ++ post)) by simpa [bytesW] using h).is
    have h2 := (show Puts bs s (pre ++ (x.toNat, 8) :: (bytesW r ++ post)) by simpa [bytesW] using h).room
    simp only [wdN] at h2
    rw [List.length_cons] at hm
    have e : s + wdN (pre ++ [(x.toNat, 8)]) = s + wdN pre + 8 := by rw [wdN_append]; simp [wdN]; omega
    have hi : ItemR bs most (s + wdN pre) (.bytes (r.length + 1)) last out 0 (s + wdN (pre ++ [(x.toNat, 8)])) (if r.length + 1 ≤ 1 then endM last else .bytes r.length) last (out ++ [x]) := by
      unfold ItemR
      dsimp only
      rw [if_neg (by omega), if_neg (by omega), e, h1]
      exact ⟨rfl, rfl, rfl, rfl, by rw [Int.toNat_of_nonneg hx.1]⟩
    by_cases hr : r = []
    · subst hr
      refine Steps.one ?_
      rw [List.length_cons]
      exact hi
    · have hl : 0 < r.length := by cases r with | nil => exact absurd rfl hr | cons => simp
      have ih := bytes_steps (most := most) (last := last) r (pre ++ [(x.toNat, 8)]) post (out ++ [x]) (by simpa [bytesW] using h) (fun y hy => ha y (List.mem_cons_of_mem _ hy)) hr (by rw [List.length_append, List.length_singleton]; omega)
      rw [if_neg (by omega)] at hi
      refine .step hi ?_
      have e2 : pre ++ bytesW (x :: r) = pre ++ [(x.toNat, 8)] ++ bytesW r := by simp [bytesW]
      rw [e2]
      simpa using ih
/-- A stored block. -/
def storedW (last : Bool) (pad : Nat) (b : List Int) : List (Nat × Nat) := [(lastN last, 1), (0, 2), (0, pad), (b.length, 16), (65535 - b.length, 16)] ++ bytesW b
theorem stored_steps {bs : List Int} {s most pad : Nat} {pre post : List (Nat × Nat)} {last l0 : Bool} {out b : List Int} (h : Puts bs s (pre ++ storedW last pad b ++ post)) (hb : AllB b) (hl : b.length ≤ 65535) (hp : pad < 8) (hp8 : (s + wdN pre + 3 + pad) % 8 = 0) (hm : out.length + b.length ≤ most) :
    Steps bs most (s + wdN pre) .block l0 out (s + wdN (pre ++ storedW last pad b)) (endM last) last (out ++ b) := by
  unfold storedW at h ⊢
  have h1 := kind_step (most := most) (l0 := l0) (out := out) (show Puts bs s (pre ++ (lastN last, 1) :: (0, 2) :: ([(0, pad), (b.length, 16), (65535 - b.length, 16)] ++ bytesW b ++ post)) by simpa using h) (by decide)
  rw [if_pos rfl] at h1
  have x1 := (show Puts bs s ((pre ++ [(lastN last, 1), (0, 2), (0, pad)]) ++ (b.length, 16) :: ([(65535 - b.length, 16)] ++ bytesW b ++ post)) by simpa using h).is
  have x2 := (show Puts bs s ((pre ++ [(lastN last, 1), (0, 2), (0, pad), (b.length, 16)]) ++ (65535 - b.length, 16) :: (bytesW b ++ post)) by simpa using h).is
  have x3 := (show Puts bs s ((pre ++ [(lastN last, 1), (0, 2), (0, pad), (b.length, 16), (65535 - b.length, 16)]) ++ (bytesW b ++ post)) by simpa using h).room
  have w1 : wdN (pre ++ [(lastN last, 1), (0, 2), (0, pad)]) = wdN pre + 3 + pad := by rw [wdN_append]; simp only [wdN]; omega
  have w2 : wdN (pre ++ [(lastN last, 1), (0, 2), (0, pad), (b.length, 16)]) = wdN pre + 3 + pad + 16 := by rw [wdN_append]; simp only [wdN]; omega
  have w3 : wdN (pre ++ [(lastN last, 1), (0, 2), (0, pad), (b.length, 16), (65535 - b.length, 16)]) = wdN pre + 3 + pad + 32 := by rw [wdN_append]; simp only [wdN]; omega
  have w4 : wdN (pre ++ [(lastN last, 1), (0, 2)]) = wdN pre + 3 := by rw [wdN_append]; rfl
  rw [w1] at x1
  rw [w2] at x2
  rw [w3] at x3
  rw [w4] at h1
  have hu : up8 (s + (wdN pre + 3)) = s + wdN pre + 3 + pad := by unfold up8; omega
  have hi : ItemR bs most (s + (wdN pre + 3)) .stored last out 0 (s + (wdN pre + 3 + pad + 32)) (if b.length = 0 then endM last else .bytes b.length) last out := by
    unfold ItemR
    dsimp only
    rw [hu]
    have y1 : bitsAt bs (s + wdN pre + 3 + pad) 16 = b.length := by rw [← x1]; congr 1; omega
    have y2 : bitsAt bs (s + wdN pre + 3 + pad + 16) 16 = 65535 - b.length := by rw [← x2]; congr 1; omega
    rw [y1, y2, if_neg (by omega), if_neg (by omega)]
    exact ⟨rfl, by omega, rfl, rfl, rfl⟩
  refine .step h1 (.step hi ?_)
  by_cases hb0 : b = []
  · subst hb0
    simp only [List.length_nil, if_pos]
    refine (Steps.refl (p := s + (wdN pre + 3 + pad + 32)) (m := endM last) (last := last) (out := out)).trans ?_
    rw [List.append_nil]
    refine Steps.to .refl rfl ?_
    rw [← w3]
    simp [bytesW]
  · have hl0 : b.length ≠ 0 := fun e => hb0 (List.eq_nil_of_length_eq_zero e)
    rw [if_neg hl0, ← w3]
    have := bytes_steps (most := most) (last := last) b (pre ++ [(lastN last, 1), (0, 2), (0, pad), (b.length, 16), (65535 - b.length, 16)]) post out (by simpa using h) hb hb0 hm
    simpa using this
theorem fixL_ok : CodeOk fixL := by
  refine ⟨by decide +kernel, fun z hz => ?_, by decide +kernel⟩
  unfold fixL at hz
  simp only [List.mem_append, List.mem_replicate] at hz
  omega
theorem fixD_ok : CodeOk fixD := by
  refine ⟨by decide +kernel, fun z hz => ?_, by decide +kernel⟩
  unfold fixD at hz
  simp only [List.mem_replicate] at hz
  omega
theorem fixL_at (i : Nat) (h : i < 288) : 0 < fixL.getD i 0 := by
  have hm : fixL.getD i 0 ∈ fixL := by
    have hl : i < fixL.length := by have : fixL.length = 288 := by decide +kernel
                                    omega
    have : fixL.getD i 0 = fixL[i] := by simp [List.getD, hl]
    rw [this]; exact List.getElem_mem hl
  unfold fixL at hm
  simp only [List.mem_append, List.mem_replicate] at hm
  unfold fixL
  omega
theorem fixD_at (i : Nat) (h : i < 32) : 0 < fixD.getD i 0 := by
  unfold fixD List.getD
  rw [List.getElem?_replicate, if_pos h]
  decide
theorem fixL_len : fixL.length = 288 := by decide +kernel
theorem fixL_has (i : Nat) (h : i < 288) : HasC fixL (i : Int) := ⟨i, rfl, by rw [fixL_len]; exact h, fixL_at i h⟩
theorem fixD_has (i : Nat) (h : i < 32) : HasC fixD (i : Int) := ⟨i, rfl, by unfold fixD; rw [List.length_replicate]; exact h, fixD_at i h⟩
/-- A block of tokens, by codes; from behind its kind (and its head) on. -/
theorem toks_steps {bs : List Int} {s most : Nat} {lit dist : List Int} {last : Bool} {ts : List Tk} {ws pre post : List (Nat × Nat)} {out : List Int} (hw : TokWs lit dist ts ws) (hl : CodeOk lit) (hd : CodeOk dist) (hc : HasC lit 256) (h : Puts bs s (pre ++ (ws ++ [wordZ lit 256]) ++ post)) (hg : good (most : Int) ts out) :
    Steps bs most (s + wdN pre) (.sym lit dist) last out (s + wdN (pre ++ (ws ++ [wordZ lit 256]))) (endM last) last (putAll ts out) := by
  have h1 := hw.steps (last := last) hl hd pre ([wordZ lit 256] ++ post) out (by simpa using h) hg
  have h2 := end_step (most := most) (dist := dist) (last := last) (out := putAll ts out) (show Puts bs s ((pre ++ ws) ++ wordZ lit 256 :: post) by simpa using h) hl hc
  rw [List.append_assoc] at h2
  exact h1.trans (.one h2)
theorem fixed_steps {bs : List Int} {s most : Nat} {last l0 : Bool} {ts : List Tk} {ws pre post : List (Nat × Nat)} {out : List Int} (hw : TokWs fixL fixD ts ws) (h : Puts bs s (pre ++ ([(lastN last, 1), (1, 2)] ++ (ws ++ [wordZ fixL 256])) ++ post)) (hg : good (most : Int) ts out) :
    Steps bs most (s + wdN pre) .block l0 out (s + wdN (pre ++ ([(lastN last, 1), (1, 2)] ++ (ws ++ [wordZ fixL 256])))) (endM last) last (putAll ts out) := by
  have h1 := kind_step (most := most) (l0 := l0) (out := out) (show Puts bs s (pre ++ (lastN last, 1) :: (1, 2) :: ((ws ++ [wordZ fixL 256]) ++ post)) by simpa using h) (by decide)
  rw [if_neg (by decide), if_pos rfl] at h1
  have h2 := toks_steps (most := most) (last := last) (out := out) (pre := pre ++ [(lastN last, 1), (1, 2)]) (post := post) hw fixL_ok fixD_ok (fixL_has 256 (by decide)) (by simpa using h) hg
  rw [List.append_assoc] at h2
  exact .step h1 h2
theorem head_step {bs : List Int} {s most told : Nat} {lit dist code : List Int} {rs : List (Int × Int)} {last : Bool} {pre post : List (Nat × Nat)} {out : List Int} (h : Puts bs s (pre ++ headW lit dist code told rs ++ post)) (hc : CodeW code told rs (lit ++ dist)) (hb : headB lit dist = true) :
    ItemR bs most (s + wdN pre) .head last out 0 (s + wdN (pre ++ headW lit dist code told rs)) (.sym lit dist) last out := by
  unfold ItemR
  exact ⟨lit, dist, 0, _, head_backG h hc hb, by rw [if_pos rfl]; exact ⟨rfl, rfl, rfl, rfl, rfl⟩⟩
theorem dynamic_steps {bs : List Int} {s most told : Nat} {last l0 : Bool} {ts : List Tk} {lit dist code : List Int} {rs : List (Int × Int)} {ws pre post : List (Nat × Nat)} {out : List Int} (hw : TokWs lit dist ts ws) (hl : CodeOk lit) (hd : CodeOk dist) (h256 : HasC lit 256) (hc : CodeW code told rs (lit ++ dist)) (hb : headB lit dist = true)
    (h : Puts bs s (pre ++ ([(lastN last, 1), (2, 2)] ++ (headW lit dist code told rs ++ (ws ++ [wordZ lit 256]))) ++ post)) (hg : good (most : Int) ts out) :
    Steps bs most (s + wdN pre) .block l0 out (s + wdN (pre ++ ([(lastN last, 1), (2, 2)] ++ (headW lit dist code told rs ++ (ws ++ [wordZ lit 256]))))) (endM last) last (putAll ts out) := by
  have h1 := kind_step (most := most) (l0 := l0) (out := out) (show Puts bs s (pre ++ (lastN last, 1) :: (2, 2) :: (headW lit dist code told rs ++ (ws ++ [wordZ lit 256]) ++ post)) by simpa using h) (by decide)
  rw [if_neg (by decide), if_neg (by decide)] at h1
  have h2 := head_step (most := most) (last := last) (out := out) (pre := pre ++ [(lastN last, 1), (2, 2)]) (post := ws ++ [wordZ lit 256] ++ post) (by simpa using h) hc hb
  have h3 := toks_steps (most := most) (last := last) (out := out) (pre := pre ++ [(lastN last, 1), (2, 2)] ++ headW lit dist code told rs) (post := post) hw hl hd h256 (by simpa using h) hg
  have e : pre ++ [(lastN last, 1), (2, 2)] ++ headW lit dist code told rs ++ (ws ++ [wordZ lit 256]) = pre ++ ([(lastN last, 1), (2, 2)] ++ (headW lit dist code told rs ++ (ws ++ [wordZ lit 256]))) := by simp
  rw [e] at h3
  exact .step h1 (.step h2 h3)
end Go.Proofs.YtdpegahcgaicnaaGreatDoor

namespace Go.Proofs.YtdpegahcgaicnaaGreatDoor
open Go.RowKit
set_option linter.unusedVariables false
set_option linter.unusedSimpArgs false
set_option maxRecDepth 20000

theorem infoR : (Tryz.prog.info? 106).map (fun i => (i.zero, i.size, i.bytes)) = some (some (.agg #[.int .i64 0, .int .i64 0]), 2, 16) := by kernel_rfl
def AllR (rs : List (Int × Int)) : Prop := ∀ p ∈ rs, (-9223372036854775808 ≤ p.1 ∧ p.1 ≤ 9223372036854775807) ∧ (-9223372036854775808 ≤ p.2 ∧ p.2 ≤ 9223372036854775807)
theorem AllR.getD {rs : List (Int × Int)} (h : AllR rs) (i : Nat) : (-9223372036854775808 ≤ (rs.getD i (0, 0)).1 ∧ (rs.getD i (0, 0)).1 ≤ 9223372036854775807) ∧ (-9223372036854775808 ≤ (rs.getD i (0, 0)).2 ∧ (rs.getD i (0, 0)).2 ≤ 9223372036854775807) := by
  by_cases hi : i < rs.length
  · have : rs.getD i (0, 0) = rs[i] := by simp [List.getD, hi]
    rw [this]; exact h _ (List.getElem_mem hi)
  · have : rs.getD i (0, 0) = (0, 0) := by simp [List.getD, List.getElem?_eq_none (Nat.le_of_not_lt hi)]
    rw [this]; exact ⟨by decide, by decide⟩
/-- The cells of runs. -/
def rcells (rs : List (Int × Int)) : List Value := rs.flatMap fun p => [.int .i64 p.1, .int .i64 p.2]
theorem rcells_app (rs : List (Int × Int)) (s x : Int) : rcells rs ++ [.int .i64 s, .int .i64 x] = rcells (rs ++ [(s, x)]) := by simp [rcells]
theorem rcells_at : ∀ (rs : List (Int × Int)) (i : Nat), i < rs.length → (rcells rs)[i * 2]? = some (.int .i64 (rs.getD i (0, 0)).1) ∧ (rcells rs)[i * 2 + 1]? = some (.int .i64 (rs.getD i (0, 0)).2) := by
  intro rs
  induction rs with
  | nil => intro i hi; simp at hi
  | cons p r ih =>
    intro i hi
    have e : rcells (p :: r) = .int .i64 p.1 :: .int .i64 p.2 :: rcells r := by simp [rcells]
    rw [e]
    cases i with
    | zero => exact ⟨rfl, rfl⟩
    | succ i =>
      have hi' : i < r.length := by simpa using hi
      obtain ⟨h1, h2⟩ := ih i hi'
      rw [show (i + 1) * 2 = i * 2 + 1 + 1 by omega]
      refine ⟨?_, ?_⟩
      · simpa using h1
      · rw [List.getElem?_cons_succ, List.getElem?_cons_succ]; simpa using h2
/-- A row of runs of the call's own. -/
def OwnR (w : World) (ao : Option Addr) (cap : Nat) (rs : List (Int × Int)) : Prop := w.ownsRow 0 106 2 (.slice ao rs.length cap) rs.length (rcells rs)
theorem OwnR.reads {w : World} {a : Option Addr} {c : Nat} {rs : List (Int × Int)} (h : OwnR w a c rs) : RdRn w w.heap.size a rs := by
  intro i hi
  rcases h.2 with ⟨_, hz⟩ | ⟨g, cc, cur, hv, _⟩
  · omega
  · simp at hv
    obtain ⟨rfl, rfl⟩ := hv
    obtain ⟨h1, h2⟩ := rcells_at rs i hi
    have hc1 : w.cell? ⟨g, i * 2, none⟩ = some (.int .i64 (rs.getD i (0, 0)).1) := by
      rw [← h1]; exact h.cellAt (i * 2) (by omega)
    have hc2 : w.cell? ⟨g, i * 2 + 1, none⟩ = some (.int .i64 (rs.getD i (0, 0)).2) := by
      rw [← h2]; exact h.cellAt (i * 2 + 1) (by omega)
    exact ⟨g, 0, rfl, World.block_lt_of_cell? w _ hc1, by rw [Nat.zero_add]; exact hc1, by rw [Nat.zero_add]; exact hc2⟩
end Go.Proofs.YtdpegahcgaicnaaGreatDoor
