/-
  A row of tokens; Expand.
  SymLen, SymDist, and what finds a symbol.
  SymLen, SymDist; the last symbol whose least number is not above one; LenSym, DistSym.
  LenSym, DistSym: each length, and each distance, has just one symbol and rest.
  What layer 6's statements ask of themselves first.
  Tokens that came in; tokens that may be, made of some.
  Blocks that were put are read: stored, fixed, dynamic.
  Runs that came in; rows of runs of the call's own.
  lens: inBounds, appendRuns.
  lens: Runs.
  lens.writeRuns: runs are put by a code.
  deflate: putType, Stored.
  deflate: allOk, putTokens.
  deflate: putTokens.
-/
import Derived.Test.YtfmjfgmbjdhogaaGreatDoorMg12
import Derived.OwnWalk
import Derived.Deep.CutBlock
namespace Go.Proofs.YtfmjfgmbjdhogaaGreatDoor
open Go.RowKit
set_option linter.unusedVariables false
set_option linter.unusedSimpArgs false

def AllT (ts : List Tk) : Prop := ∀ t ∈ ts, t.wf
def expF (most : Int) : List Tk → List Int → Nat → List Int × Nat × Int
  | [], bs, i => (bs, i, 0)
  | t :: r, bs, i => if t.no bs.length most = 0 then expF most r (t.put bs) (i + 1) else (bs, i, t.no bs.length most)
end Go.Proofs.YtfmjfgmbjdhogaaGreatDoor

namespace Go.Proofs.YtfmjfgmbjdhogaaGreatDoor
open Go.RowKit
set_option linter.unusedVariables false
set_option linter.unusedSimpArgs false

set_option maxHeartbeats 1000000 in
theorem group4_any (i : Nat) (w : World) (hi : i ≤ 29) : Calls Tryz.prog 143 #[.int .i64 i, .int .i64 4] w fun e w' => e = .returned (.tuple #[.int .i64 (gb 4 i : Nat), .int .i64 (ge 4 i : Nat)]) ∧ w = w' := by
  obtain ⟨k, hk⟩ : ∃ k, k = i / 4 := ⟨_, rfl⟩
  have hdiv : (i : Int) / 4 = k := by omega
  have hk14 : k ≤ 14 := by omega
  have HB : Hid (gb 4 i = if k - 1 = 0 then i else (4 + i % 4) * 2 ^ (k - 1)) := by unfold gb; rw [← hk]; exact rfl
  have HE : Hid (ge 4 i = k - 1) := by unfold ge; rw [← hk]; exact rfl
  obtain ⟨m, hm⟩ : ∃ m, m = i % 4 := ⟨_, rfl⟩
  have hmod : (i : Int) % 4 = m := by omega
  have hm4 : m < 4 := by omega
  rw [← hm] at HB
  clear hk hm
  rw [HB.out, HE.out]
  clear HB HE
  go_enter Tryz.func143, Tryz.ntmps143
  by_cases h0 : k ≤ 1
  · have h1 : k - 1 = 0 := by omega
    rw [if_pos h1, h1]
    have hmax : (if (k : Int) - 1 < 0 then (0 : Int) else (k : Int) - 1) = 0 := by split <;> omega
    clear h1
    go_wp2
    go_ret2
    exact ⟨rfl, rfl⟩
  · have h1 : ¬ k - 1 = 0 := by omega
    rw [if_neg h1]
    obtain ⟨e, he⟩ : ∃ e, e = k - 1 := ⟨_, rfl⟩
    rw [← he]
    have hke : (k : Int) - 1 = e := by omega
    have hn : ¬ (e : Int) < 0 := by omega
    have he0 : ((e : Int) == 0) = false := by simp; omega
    have he13 : e ≤ 13 := by omega
    have hp : 2 ^ e ≤ 2 ^ 13 := Nat.pow_le_pow_right (by decide) he13
    have hmul : ((4 : Int) + m) * 2 ^ e = (((4 + m) * 2 ^ e : Nat) : Int) := by push_cast; rfl
    have hmb : (4 + m) * 2 ^ e ≤ 8 * 8192 := Nat.mul_le_mul (by omega) hp
    generalize (4 + m) * 2 ^ e = v at hmul hmb ⊢
    clear hp he h1 h0
    go_wp2
    go_ret2
    exact ⟨rfl, rfl⟩

set_option maxHeartbeats 1000000 in
theorem group2_any (i : Nat) (w : World) (hi : i ≤ 29) : Calls Tryz.prog 143 #[.int .i64 i, .int .i64 2] w fun e w' => e = .returned (.tuple #[.int .i64 (gb 2 i : Nat), .int .i64 (ge 2 i : Nat)]) ∧ w = w' := by
  obtain ⟨k, hk⟩ : ∃ k, k = i / 2 := ⟨_, rfl⟩
  have hdiv : (i : Int) / 2 = k := by omega
  have hk14 : k ≤ 14 := by omega
  have HB : Hid (gb 2 i = if k - 1 = 0 then i else (2 + i % 2) * 2 ^ (k - 1)) := by unfold gb; rw [← hk]; exact rfl
  have HE : Hid (ge 2 i = k - 1) := by unfold ge; rw [← hk]; exact rfl
  obtain ⟨m, hm⟩ : ∃ m, m = i % 2 := ⟨_, rfl⟩
  have hmod : (i : Int) % 2 = m := by omega
  have hm4 : m < 2 := by omega
  rw [← hm] at HB
  clear hk hm
  rw [HB.out, HE.out]
  clear HB HE
  go_enter Tryz.func143, Tryz.ntmps143
  by_cases h0 : k ≤ 1
  · have h1 : k - 1 = 0 := by omega
    rw [if_pos h1, h1]
    have hmax : (if (k : Int) - 1 < 0 then (0 : Int) else (k : Int) - 1) = 0 := by split <;> omega
    clear h1
    go_wp2
    go_ret2
    exact ⟨rfl, rfl⟩
  · have h1 : ¬ k - 1 = 0 := by omega
    rw [if_neg h1]
    obtain ⟨e, he⟩ : ∃ e, e = k - 1 := ⟨_, rfl⟩
    rw [← he]
    have hke : (k : Int) - 1 = e := by omega
    have hn : ¬ (e : Int) < 0 := by omega
    have he0 : ((e : Int) == 0) = false := by simp; omega
    have he13 : e ≤ 13 := by omega
    have hp : 2 ^ e ≤ 2 ^ 13 := Nat.pow_le_pow_right (by decide) he13
    have hmul : ((2 : Int) + m) * 2 ^ e = (((2 + m) * 2 ^ e : Nat) : Int) := by push_cast; rfl
    have hmb : (2 + m) * 2 ^ e ≤ 8 * 8192 := Nat.mul_le_mul (by omega) hp
    generalize (2 + m) * 2 ^ e = v at hmul hmb ⊢
    clear hp he h1 h0
    go_wp2
    go_ret2
    exact ⟨rfl, rfl⟩
end Go.Proofs.YtfmjfgmbjdhogaaGreatDoor

namespace Go.Proofs.YtfmjfgmbjdhogaaGreatDoor
open Go.RowKit
set_option linter.unusedVariables false
set_option linter.unusedSimpArgs false

theorem symLen_any (i : Nat) (w : World) (hi : i < 28) : Calls Tryz.prog 121 #[.int .i64 (257 + i : Nat)] w fun e w' => e = .returned (.tuple #[.int .i64 (lb i : Nat), .int .i64 (le4 i : Nat), .bool true]) ∧ w = w' := by
  have h1 : ¬ ((257 + i : Nat) : Int) < 257 := by omega
  have h2 : ¬ (285 : Int) < ((257 + i : Nat) : Int) := by omega
  have h3 : (((257 + i : Nat) : Int) == 285) = false := by simp; omega
  have h4 : ((257 + i : Nat) : Int) - 257 = i := by omega
  have hb := (lb_top i hi)
  have HG := Lib.hid (fun w => group4_any i w (by omega))
  have hlb : lb i = 3 + gb 4 i := rfl
  have hp := Nat.one_le_two_pow (n := le4 i)
  have hg : gb 4 i ≤ 259 := by omega
  have HB : Hid (lb i = 3 + gb 4 i) := rfl
  have HE : Hid (le4 i = ge 4 i) := rfl
  rw [HB.out, HE.out]
  clear hb hlb HB HE hp
  generalize gb 4 i = b at HG hg ⊢
  generalize ge 4 i = x at HG ⊢
  generalize 257 + i = s at h1 h2 h3 h4 ⊢
  go_enter Tryz.func121, Tryz.ntmps121
  go_wp2_with fail
  refine (HG.out _).mono ?_
  rintro e w' ⟨rfl, rfl⟩
  go_wp2
  go_ret3
  exact ⟨by push_cast; rfl, rfl⟩
theorem symLen_last (w : World) : Calls Tryz.prog 121 #[.int .i64 285] w fun e w' => e = .returned (.tuple #[.int .i64 258, .int .i64 0, .bool true]) ∧ w = w' := by
  go_enter Tryz.func121, Tryz.ntmps121
  go_wp2
  go_ret3
  exact ⟨rfl, rfl⟩
theorem symDist_any (i : Nat) (w : World) (hi : i < 30) : Calls Tryz.prog 122 #[.int .i64 i] w fun e w' => e = .returned (.tuple #[.int .i64 (db i : Nat), .int .i64 (de i : Nat), .bool true]) ∧ w = w' := by
  have h1 : ¬ (i : Int) < 0 := by omega
  have h2 : ¬ (29 : Int) < (i : Int) := by omega
  have hb := (db_top i hi)
  have HG := Lib.hid (fun w => group2_any i w (by omega))
  have hlb : db i = 1 + gb 2 i := rfl
  have hp := Nat.one_le_two_pow (n := de i)
  have hg : gb 2 i ≤ 32769 := by omega
  have HB : Hid (db i = 1 + gb 2 i) := rfl
  have HE : Hid (de i = ge 2 i) := rfl
  rw [HB.out, HE.out]
  clear hb hlb HB HE hp
  generalize gb 2 i = b at HG hg ⊢
  generalize ge 2 i = x at HG ⊢
  go_enter Tryz.func122, Tryz.ntmps122
  go_wp2_with fail
  refine (HG.out _).mono ?_
  rintro e w' ⟨rfl, rfl⟩
  go_wp2
  go_ret3
  exact ⟨by push_cast; rfl, rfl⟩

end Go.Proofs.YtfmjfgmbjdhogaaGreatDoor

namespace Go.Proofs.YtfmjfgmbjdhogaaGreatDoor
open Go.RowKit
set_option linter.unusedVariables false
set_option linter.unusedSimpArgs false

end Go.Proofs.YtfmjfgmbjdhogaaGreatDoor

namespace Go.Proofs.YtfmjfgmbjdhogaaGreatDoor
open Go.RowKit
set_option linter.unusedVariables false
set_option linter.unusedSimpArgs false

end Go.Proofs.YtfmjfgmbjdhogaaGreatDoor

namespace Go.Proofs.YtfmjfgmbjdhogaaGreatDoor
open Go.RowKit
set_option linter.unusedVariables false
set_option linter.unusedSimpArgs false

def good (most : Int) : List Tk → List Int → Prop
  | [], _ => True
  | t :: r, bs => t.no bs.length most = 0 ∧ good most r (t.put bs)
def putAll (ts : List Tk) (bs : List Int) : List Int := ts.foldl (fun b t => t.put b) bs
end Go.Proofs.YtfmjfgmbjdhogaaGreatDoor

namespace Go.Proofs.YtfmjfgmbjdhogaaGreatDoor
open Go.RowKit
set_option linter.unusedVariables false
set_option linter.unusedSimpArgs false

theorem Steps.to {bs : List Int} {most p p1 q q1 : Nat} {m m1 : Md} {l l1 : Bool} {o o1 : List Int} (h : Steps bs most p m l o p1 m1 l1 o1) (e : p = q) (e1 : p1 = q1) : Steps bs most q m l o q1 m1 l1 o1 := by subst e; subst e1; exact h
theorem TokWs.steps {bs : List Int} {s most : Nat} {lit dist : List Int} {last : Bool} {ts : List Tk} {ws : List (Nat × Nat)} (hw : TokWs lit dist ts ws) (hl : CodeOk lit) (hd : CodeOk dist) : ∀ (pre post : List (Nat × Nat)) (out : List Int), Puts bs s (pre ++ ws ++ post) → good (most : Int) ts out →
    Steps bs most (s + wdN pre) (.sym lit dist) last out (s + wdN (pre ++ ws)) (.sym lit dist) last (putAll ts out) := by
  induction hw with
  | nil => intro pre post out h hg; rw [List.append_nil]; exact .refl
  | @cons t r ws vs ht hr ih =>
    intro pre post out h hg
    have h1 := ht.step (last := last) (post := vs ++ post) (by simpa using h) hl hd hg.1
    have h2 := ih (pre ++ ws) post (t.put out) (by simpa using h) hg.2
    rw [List.append_assoc] at h2
    exact .step h1 h2
theorem end_step {bs : List Int} {s most : Nat} {lit dist : List Int} {last : Bool} {pre post : List (Nat × Nat)} {out : List Int} (h : Puts bs s (pre ++ wordZ lit 256 :: post)) (hl : CodeOk lit) (hc : HasC lit 256) :
    ItemR bs most (s + wdN pre) (.sym lit dist) last out 0 (s + wdN (pre ++ [wordZ lit 256])) (endM last) last out := by
  have hs := h.sym hl hc
  unfold ItemR
  refine ⟨256, 0, _, hs, ?_⟩
  rw [if_neg (by decide), if_neg (by decide), if_pos rfl]
  exact ⟨rfl, rfl, rfl, rfl, rfl⟩
def lastN (last : Bool) : Nat := if last then 1 else 0
theorem lastN_lt (last : Bool) : lastN last < 2 := by unfold lastN; split <;> decide
theorem kind_bits {bs : List Int} {s : Nat} {pre post : List (Nat × Nat)} {last : Bool} {k : Nat} (h : Puts bs s (pre ++ (lastN last, 1) :: (k, 2) :: post)) (hk : k < 4) : bitsAt bs (s + wdN pre) 3 = lastN last + 2 * k ∧ s + wdN pre + 3 ≤ 8 * bs.length := by
  have h1 := h.is
  have h2 := (show Puts bs s ((pre ++ [(lastN last, 1)]) ++ (k, 2) :: post) by simpa using h).is
  have h3 := h.room
  rw [wdN_append] at h2
  simp only [wdN, Nat.add_zero] at h2 h3
  rw [← Nat.add_assoc] at h2
  have hl := lastN_lt last
  refine ⟨?_, by omega⟩
  unfold bitsAt at h1 h2 ⊢
  rw [Nat.pow_succ, ← Nat.div_div_eq_div_mul] at h2
  generalize num bs / 2 ^ (s + wdN pre) = x at h1 h2 ⊢
  omega
theorem kind_step {bs : List Int} {s most : Nat} {pre post : List (Nat × Nat)} {last l0 : Bool} {out : List Int} {k : Nat} (h : Puts bs s (pre ++ (lastN last, 1) :: (k, 2) :: post)) (hk : k < 3) :
    ItemR bs most (s + wdN pre) .block l0 out 0 (s + wdN (pre ++ [(lastN last, 1), (k, 2)])) (if k = 0 then .stored else if k = 1 then .sym fixL fixD else .head) last out := by
  obtain ⟨h1, h2⟩ := kind_bits h (by omega)
  have hl := lastN_lt last
  have e : s + wdN (pre ++ [(lastN last, 1), (k, 2)]) = s + wdN pre + 3 := by rw [wdN_append]; simp only [wdN]; omega
  have el : last = ((lastN last + 2 * k) % 2 == 1) := by
    cases last
    · simp [lastN]
    · simp [lastN] <;> omega
  unfold ItemR
  dsimp only
  rw [h1, e, if_neg (by omega)]
  by_cases k0 : k = 0
  · rw [if_pos (by omega), if_pos k0]; exact ⟨rfl, rfl, rfl, el, rfl⟩
  · rw [if_neg (by omega), if_neg k0]
    by_cases k1 : k = 1
    · rw [if_pos (by omega), if_pos k1]; exact ⟨rfl, rfl, rfl, el, rfl⟩
    · rw [if_neg (by omega), if_neg k1, if_pos (by omega)]; exact ⟨rfl, rfl, rfl, el, rfl⟩
def bytesW (b : List Int) : List (Nat × Nat) := b.map fun x => (x.toNat, 8)
theorem bytesW_wd (b : List Int) : wdN (bytesW b) = 8 * b.length := by
  induction b with
  | nil => rfl
  | cons x r ih => rw [bytesW, List.map_cons, wdN, ← bytesW, ih, List.length_cons]; omega
theorem bytes_steps {bs : List Int} {s most : Nat} {last : Bool} : ∀ (b : List Int) (pre post : List (Nat × Nat)) (out : List Int), Puts bs s (pre ++ bytesW b ++ post) → AllB b → b ≠ [] → out.length + b.length ≤ most →
    Steps bs most (s + wdN pre) (.bytes b.length) last out (s + wdN (pre ++ bytesW b)) (endM last) last (out ++ b)
  | [], pre, post, out, h, ha, h0, hm => absurd rfl h0
  | x :: r, pre, post, out, h, ha, h0, hm => by
    have hx := ha x (List.mem_cons_self ..)
    have h1 := (show Puts bs s (pre ++ (x.toNat, 8) :: (bytesW r ++ post)) by simpa [bytesW] using h).is
    have h2 := (show Puts bs s (pre ++ (x.toNat, 8) :: (bytesW r ++ post)) by simpa [bytesW] using h).room
    simp only [wdN] at h2
    rw [List.length_cons] at hm
    have e : s + wdN (pre ++ [(x.toNat, 8)]) = s + wdN pre + 8 := by rw [wdN_append]; simp [wdN]; omega
    have hi : ItemR bs most (s + wdN pre) (.bytes (r.length + 1)) last out 0 (s + wdN (pre ++ [(x.toNat, 8)])) (if r.length + 1 ≤ 1 then endM last else .bytes r.length) last (out ++ [x]) := by
      unfold ItemR
      dsimp only
      rw [if_neg (by omega), if_neg (by omega), e, h1]
      exact ⟨rfl, rfl, rfl, rfl, by rw [Int.toNat_of_nonneg hx.1]⟩
    by_cases hr : r = []
    · subst hr
      refine Steps.one ?_
      rw [List.length_cons]
      exact hi
    · have hl : 0 < r.length := by cases r with | nil => exact absurd rfl hr | cons => simp
      have ih := bytes_steps (most := most) (last := last) r (pre ++ [(x.toNat, 8)]) post (out ++ [x]) (by simpa [bytesW] using h) (fun y hy => ha y (List.mem_cons_of_mem _ hy)) hr (by rw [List.length_append, List.length_singleton]; omega)
      rw [if_neg (by omega)] at hi
      refine .step hi ?_
      have e2 : pre ++ bytesW (x :: r) = pre ++ [(x.toNat, 8)] ++ bytesW r := by simp [bytesW]
      rw [e2]
      simpa using ih
def storedW (last : Bool) (pad : Nat) (b : List Int) : List (Nat × Nat) := [(lastN last, 1), (0, 2), (0, pad), (b.length, 16), (65535 - b.length, 16)] ++ bytesW b
theorem stored_steps {bs : List Int} {s most pad : Nat} {pre post : List (Nat × Nat)} {last l0 : Bool} {out b : List Int} (h : Puts bs s (pre ++ storedW last pad b ++ post)) (hb : AllB b) (hl : b.length ≤ 65535) (hp : pad < 8) (hp8 : (s + wdN pre + 3 + pad) % 8 = 0) (hm : out.length + b.length ≤ most) :
    Steps bs most (s + wdN pre) .block l0 out (s + wdN (pre ++ storedW last pad b)) (endM last) last (out ++ b) := by
  unfold storedW at h ⊢
  have h1 := kind_step (most := most) (l0 := l0) (out := out) (show Puts bs s (pre ++ (lastN last, 1) :: (0, 2) :: ([(0, pad), (b.length, 16), (65535 - b.length, 16)] ++ bytesW b ++ post)) by simpa using h) (by decide)
  rw [if_pos rfl] at h1
  have x1 := (show Puts bs s ((pre ++ [(lastN last, 1), (0, 2), (0, pad)]) ++ (b.length, 16) :: ([(65535 - b.length, 16)] ++ bytesW b ++ post)) by simpa using h).is
  have x2 := (show Puts bs s ((pre ++ [(lastN last, 1), (0, 2), (0, pad), (b.length, 16)]) ++ (65535 - b.length, 16) :: (bytesW b ++ post)) by simpa using h).is
  have x3 := (show Puts bs s ((pre ++ [(lastN last, 1), (0, 2), (0, pad), (b.length, 16), (65535 - b.length, 16)]) ++ (bytesW b ++ post)) by simpa using h).room
  have w1 : wdN (pre ++ [(lastN last, 1), (0, 2), (0, pad)]) = wdN pre + 3 + pad := by rw [wdN_append]; simp only [wdN]; omega
  have w2 : wdN (pre ++ [(lastN last, 1), (0, 2), (0, pad), (b.length, 16)]) = wdN pre + 3 + pad + 16 := by rw [wdN_append]; simp only [wdN]; omega
  have w3 : wdN (pre ++ [(lastN last, 1), (0, 2), (0, pad), (b.length, 16), (65535 - b.length, 16)]) = wdN pre + 3 + pad + 32 := by rw [wdN_append]; simp only [wdN]; omega
  have w4 : wdN (pre ++ [(lastN last, 1), (0, 2)]) = wdN pre + 3 := by rw [wdN_append]; rfl
  rw [w1] at x1
  rw [w2] at x2
  rw [w3] at x3
  rw [w4] at h1
  have hu : up8 (s + (wdN pre + 3)) = s + wdN pre + 3 + pad := by unfold up8; omega
  have hi : ItemR bs most (s + (wdN pre + 3)) .stored last out 0 (s + (wdN pre + 3 + pad + 32)) (if b.length = 0 then endM last else .bytes b.length) last out := by
    unfold ItemR
    dsimp only
    rw [hu]
    have y1 : bitsAt bs (s + wdN pre + 3 + pad) 16 = b.length := by rw [← x1]; congr 1; omega
    have y2 : bitsAt bs (s + wdN pre + 3 + pad + 16) 16 = 65535 - b.length := by rw [← x2]; congr 1; omega
    rw [y1, y2, if_neg (by omega), if_neg (by omega)]
    exact ⟨rfl, by omega, rfl, rfl, rfl⟩
  refine .step h1 (.step hi ?_)
  by_cases hb0 : b = []
  · subst hb0
    simp only [List.length_nil, if_pos]
    refine (Steps.refl (p := s + (wdN pre + 3 + pad + 32)) (m := endM last) (last := last) (out := out)).trans ?_
    rw [List.append_nil]
    refine Steps.to .refl rfl ?_
    rw [← w3]
    simp [bytesW]
  · have hl0 : b.length ≠ 0 := fun e => hb0 (List.eq_nil_of_length_eq_zero e)
    rw [if_neg hl0, ← w3]
    have := bytes_steps (most := most) (last := last) b (pre ++ [(lastN last, 1), (0, 2), (0, pad), (b.length, 16), (65535 - b.length, 16)]) post out (by simpa using h) hb hb0 hm
    simpa using this
theorem fixL_ok : CodeOk fixL := by
  refine ⟨by decide +kernel, fun z hz => ?_, by decide +kernel⟩
  unfold fixL at hz
  simp only [List.mem_append, List.mem_replicate] at hz
  omega
theorem fixD_ok : CodeOk fixD := by
  refine ⟨by decide +kernel, fun z hz => ?_, by decide +kernel⟩
  unfold fixD at hz
  simp only [List.mem_replicate] at hz
  omega
theorem fixL_at (i : Nat) (h : i < 288) : 0 < fixL.getD i 0 := by
  have hm : fixL.getD i 0 ∈ fixL := by
    have hl : i < fixL.length := by have : fixL.length = 288 := by decide +kernel
                                    omega
    have : fixL.getD i 0 = fixL[i] := by simp [List.getD, hl]
    rw [this]; exact List.getElem_mem hl
  unfold fixL at hm
  simp only [List.mem_append, List.mem_replicate] at hm
  unfold fixL
  omega
theorem fixL_len : fixL.length = 288 := by decide +kernel
theorem fixL_has (i : Nat) (h : i < 288) : HasC fixL (i : Int) := ⟨i, rfl, by rw [fixL_len]; exact h, fixL_at i h⟩
theorem toks_steps {bs : List Int} {s most : Nat} {lit dist : List Int} {last : Bool} {ts : List Tk} {ws pre post : List (Nat × Nat)} {out : List Int} (hw : TokWs lit dist ts ws) (hl : CodeOk lit) (hd : CodeOk dist) (hc : HasC lit 256) (h : Puts bs s (pre ++ (ws ++ [wordZ lit 256]) ++ post)) (hg : good (most : Int) ts out) :
    Steps bs most (s + wdN pre) (.sym lit dist) last out (s + wdN (pre ++ (ws ++ [wordZ lit 256]))) (endM last) last (putAll ts out) := by
  have h1 := hw.steps (last := last) hl hd pre ([wordZ lit 256] ++ post) out (by simpa using h) hg
  have h2 := end_step (most := most) (dist := dist) (last := last) (out := putAll ts out) (show Puts bs s ((pre ++ ws) ++ wordZ lit 256 :: post) by simpa using h) hl hc
  rw [List.append_assoc] at h2
  exact h1.trans (.one h2)
theorem fixed_steps {bs : List Int} {s most : Nat} {last l0 : Bool} {ts : List Tk} {ws pre post : List (Nat × Nat)} {out : List Int} (hw : TokWs fixL fixD ts ws) (h : Puts bs s (pre ++ ([(lastN last, 1), (1, 2)] ++ (ws ++ [wordZ fixL 256])) ++ post)) (hg : good (most : Int) ts out) :
    Steps bs most (s + wdN pre) .block l0 out (s + wdN (pre ++ ([(lastN last, 1), (1, 2)] ++ (ws ++ [wordZ fixL 256])))) (endM last) last (putAll ts out) := by
  have h1 := kind_step (most := most) (l0 := l0) (out := out) (show Puts bs s (pre ++ (lastN last, 1) :: (1, 2) :: ((ws ++ [wordZ fixL 256]) ++ post)) by simpa using h) (by decide)
  rw [if_neg (by decide), if_pos rfl] at h1
  have h2 := toks_steps (most := most) (last := last) (out := out) (pre := pre ++ [(lastN last, 1), (1, 2)]) (post := post) hw fixL_ok fixD_ok (fixL_has 256 (by decide)) (by simpa using h) hg
  rw [List.append_assoc] at h2
  exact .step h1 h2
theorem head_step {bs : List Int} {s most told : Nat} {lit dist code : List Int} {rs : List (Int × Int)} {last : Bool} {pre post : List (Nat × Nat)} {out : List Int} (h : Puts bs s (pre ++ headW lit dist code told rs ++ post)) (hc : CodeW code told rs (lit ++ dist)) (hb : headB lit dist = true) :
    ItemR bs most (s + wdN pre) .head last out 0 (s + wdN (pre ++ headW lit dist code told rs)) (.sym lit dist) last out := by
  unfold ItemR
  exact ⟨lit, dist, 0, _, head_backG h hc hb, by rw [if_pos rfl]; exact ⟨rfl, rfl, rfl, rfl, rfl⟩⟩
theorem dynamic_steps {bs : List Int} {s most told : Nat} {last l0 : Bool} {ts : List Tk} {lit dist code : List Int} {rs : List (Int × Int)} {ws pre post : List (Nat × Nat)} {out : List Int} (hw : TokWs lit dist ts ws) (hl : CodeOk lit) (hd : CodeOk dist) (h256 : HasC lit 256) (hc : CodeW code told rs (lit ++ dist)) (hb : headB lit dist = true)
    (h : Puts bs s (pre ++ ([(lastN last, 1), (2, 2)] ++ (headW lit dist code told rs ++ (ws ++ [wordZ lit 256]))) ++ post)) (hg : good (most : Int) ts out) :
    Steps bs most (s + wdN pre) .block l0 out (s + wdN (pre ++ ([(lastN last, 1), (2, 2)] ++ (headW lit dist code told rs ++ (ws ++ [wordZ lit 256]))))) (endM last) last (putAll ts out) := by
  have h1 := kind_step (most := most) (l0 := l0) (out := out) (show Puts bs s (pre ++ (lastN last, 1) :: (2, 2) :: (headW lit dist code told rs ++ (ws ++ [wordZ lit 256]) ++ post)) by simpa using h) (by decide)
  rw [if_neg (by decide), if_neg (by decide)] at h1
  have h2 := head_step (most := most) (last := last) (out := out) (pre := pre ++ [(lastN last, 1), (2, 2)]) (post := ws ++ [wordZ lit 256] ++ post) (by simpa using h) hc hb
  have h3 := toks_steps (most := most) (last := last) (out := out) (pre := pre ++ [(lastN last, 1), (2, 2)] ++ headW lit dist code told rs) (post := post) hw hl hd h256 (by simpa using h) hg
  have e : pre ++ [(lastN last, 1), (2, 2)] ++ headW lit dist code told rs ++ (ws ++ [wordZ lit 256]) = pre ++ ([(lastN last, 1), (2, 2)] ++ (headW lit dist code told rs ++ (ws ++ [wordZ lit 256]))) := by simp
  rw [e] at h3
  exact .step h1 (.step h2 h3)
end Go.Proofs.YtfmjfgmbjdhogaaGreatDoor

namespace Go.Proofs.YtfmjfgmbjdhogaaGreatDoor
open Go.RowKit
set_option linter.unusedVariables false
set_option linter.unusedSimpArgs false
set_option maxRecDepth 20000

end Go.Proofs.YtfmjfgmbjdhogaaGreatDoor

namespace Go.Proofs.YtfmjfgmbjdhogaaGreatDoor
open Go.RowKit
set_option linter.unusedVariables false
set_option linter.unusedSimpArgs false

end Go.Proofs.YtfmjfgmbjdhogaaGreatDoor

namespace Go.Proofs.YtfmjfgmbjdhogaaGreatDoor
open Go.RowKit
set_option linter.unusedVariables false
set_option linter.unusedSimpArgs false

end Go.Proofs.YtfmjfgmbjdhogaaGreatDoor

namespace Go.Proofs.YtfmjfgmbjdhogaaGreatDoor
open Go.RowKit
set_option linter.unusedVariables false
set_option linter.unusedSimpArgs false

theorem WroteP.put {w w1 w2 : World} {R : Nat} {v0 : Value} {bs bs1 : List Int} {s x n : Nat} {ps : List (Nat × Nat)} {ao1 : Option Addr} {cap1 : Nat} {e : Ending} (h : WroteP w R v0 bs s ps w1 ao1 cap1 bs1) (h2 : PutP w1 R (.slice ao1 bs1.length cap1) bs1 (s + wdN ps) x n e w2) :
    ∃ ao2 cap2 bs2, e = .returned (.bool true) ∧ WroteP w R v0 bs s (ps ++ [(x, n)]) w2 ao2 cap2 bs2 := by
  obtain ⟨hw1, hw2, hw3, hw4⟩ := h
  obtain ⟨ao2, cap2, bs2, rfl, p1, p2, p3, p4⟩ := h2
  refine ⟨ao2, cap2, bs2, rfl, ?_, ?_, ?_, ?_⟩
  · rw [wdN_append]
    simp only [wdN, Nat.add_zero]
    rw [← Nat.add_assoc]
    exact p1
  · rw [putsN_append]
    simp only [putsN, Nat.zero_mul, Nat.add_zero]
    rw [p2, hw2, Nat.add_mul, Nat.add_assoc, Nat.pow_add, Nat.mul_assoc, Nat.mul_comm (2 ^ wdN _) (2 ^ s)]
  · refine hw3.transO p3 ?_
    intro j hj e
    rcases e with e | e
    · exact .inl e
    · rcases hw4 j e with h | h
      · exact .inr h
      · omega
  · intro k hk'
    rcases p4 k hk' with h | h
    · exact hw4 k h
    · have := hw3.size; omega
theorem WroteP.nil {w : World} {R : Nat} {ao : Option Addr} {cap : Nat} {bs : List Int} {s : Nat} (h : Wtr w R ao cap bs s) : WroteP w R (.slice ao bs.length cap) bs s [] w ao cap bs :=
  ⟨h, by simp [putsN], Kept.refl _ _, fun k hk => .inl hk⟩
theorem spanM_lt (s x : Int) (h : 0 ≤ x ∧ x ≤ spanM s) : x.toNat < 2 ^ spanB s := by
  unfold spanM at h
  unfold spanB
  split at h
  · rename_i e; rw [if_pos e]; omega
  · rename_i e; rw [if_neg e]
    split at h
    · rename_i e; rw [if_pos e]; omega
    · rename_i e; rw [if_neg e]
      split at h
      · rename_i e; rw [if_pos e]; omega
      · rename_i e; rw [if_neg e]; omega
end Go.Proofs.YtfmjfgmbjdhogaaGreatDoor

namespace Go.Proofs.YtfmjfgmbjdhogaaGreatDoor
open Go.RowKit
set_option linter.unusedVariables false
set_option linter.unusedSimpArgs false

theorem not32 (x : Nat) (h : x < 4294967296) : bits .xor .u32 IntKind.u32.max (x : Int) = ((4294967295 - x : Nat) : Int) := by
  show IntKind.u32.wrap ((BitVec.ofInt 32 IntKind.u32.max ^^^ BitVec.ofInt 32 (x : Int)).toNat : Int) = _
  have h1 : (BitVec.ofInt 32 (x : Int)).toNat = x := by rw [BitVec.ofInt_natCast, BitVec.toNat_ofNat]; exact Nat.mod_eq_of_lt (by omega)
  have e : BitVec.ofInt 32 IntKind.u32.max = BitVec.allOnes 32 := by decide
  rw [e, ← BitVec.not_def, BitVec.toNat_not, h1, IntKind.wrap_u32']
  omega
theorem WroteP.align {w w1 w2 : World} {R : Nat} {v0 : Value} {bs bs1 : List Int} {s : Nat} {ps : List (Nat × Nat)} {ao1 : Option Addr} {cap1 : Nat} (h : WroteP w R v0 bs s ps w1 ao1 cap1 bs1) (hw : Wtr w2 R ao1 cap1 bs1 (up8 (s + wdN ps))) (hk : Kept (OneB R) w1 w2) :
    WroteP w R v0 bs s (ps ++ [(0, up8 (s + wdN ps) - (s + wdN ps))]) w2 ao1 cap1 bs1 := by
  obtain ⟨h1, h2, h3, h4⟩ := h
  have hu : s + wdN ps ≤ up8 (s + wdN ps) := by unfold up8; omega
  refine ⟨?_, ?_, h3.transO hk (fun i _ e => .inl e), h4⟩
  · rw [wdN_append]
    simp only [wdN, Nat.add_zero]
    rw [show s + (wdN ps + (up8 (s + wdN ps) - (s + wdN ps))) = up8 (s + wdN ps) by omega]
    exact hw
  · rw [putsN_append, h2]
    simp [putsN]
theorem WroteP.size {w w1 : World} {R : Nat} {v0 : Value} {bs bs1 : List Int} {s : Nat} {ps : List (Nat × Nat)} {ao1 : Option Addr} {cap1 : Nat} (h : WroteP w R v0 bs s ps w1 ao1 cap1 bs1) : Wtr w1 R ao1 cap1 bs1 (s + wdN ps) := h.1
set_option maxRecDepth 20000 in
set_option maxHeartbeats 4000000 in
theorem putType_any (w : World) (R : Nat) (ao : Option Addr) (cap : Nat) (bs : List Int) (s k : Nat) (last : Bool) (h : Wtr w R ao cap bs s) (hk : k < 4) (hs : s ≤ 800000000000) :
    Calls Tryz.prog 60 #[.pointer (some ⟨R, 0, none⟩), .int .u32 (k : Int), .bool last] w fun e w' => ∃ ao' cap' bs', e = .returned (.tuple #[]) ∧ WroteP w R (.slice ao bs.length cap) bs s [(lastN last, 1), (k, 2)] w' ao' cap' bs' := by
  have hl := lastN_lt last
  obtain ⟨b, hb⟩ : ∃ b, b = lastN last := ⟨_, rfl⟩
  have HP1 := put_any w R ao cap bs s b 1 h (by omega) (by decide) (by omega)
  rw [show b % 2 ^ 1 = b by omega] at HP1
  have HP := Lib.hid HP1
  have H0 := Lib.hid (WroteP.nil h)
  have HB := Lib.hid hb
  rw [← hb]
  clear h HP1 hl
  have hgo : ∀ e w1, PutP w R (.slice ao bs.length cap) bs s b 1 e w1 → ∃ ao2 cap2 bs2, e = .returned (.bool true) ∧ WroteP w R (.slice ao bs.length cap) bs s ([] ++ [(b, 1)]) w1 ao2 cap2 bs2 := fun e w1 hp => H0.out.put (by simpa [wdN] using hp)
  have HGo := Lib.hid hgo
  clear hgo
  cases last with
  | false =>
    have hb0 : b = 0 := hb
    subst hb0
    clear hb
    go_enter Tryz.func60, Tryz.ntmps60
    go_wp2_with fail
    refine HP.out.mono ?_
    intro e w1 hp
    obtain ⟨a2, c2, b2, rfl, hW⟩ := HGo.out e w1 hp
    have HP2 := put_any w1 R a2 c2 b2 _ k 2 hW.size (by omega) (by decide) (by simp only [List.nil_append, wdN]; omega)
    rw [show k % 2 ^ 2 = k by omega] at HP2
    have HP2 := Lib.hid HP2; have HW := Lib.hid hW
    clear hW hp
    go_wp2_with fail
    refine HP2.out.mono ?_
    intro e w2 hp2
    obtain ⟨a3, c3, b3, rfl, hW3⟩ := HW.out.put hp2
    have HW3 := Lib.hid hW3
    clear hW3 hp2
    go_wp2
    refine bodyPost_end (results_none rfl _ _ _) rfl ?_
    exact ⟨a3, c3, b3, rfl, HW3.out⟩
  | true =>
    have hb1 : b = 1 := hb
    subst hb1
    clear hb
    go_enter Tryz.func60, Tryz.ntmps60
    go_wp2_with fail
    refine HP.out.mono ?_
    intro e w1 hp
    obtain ⟨a2, c2, b2, rfl, hW⟩ := HGo.out e w1 hp
    have HP2 := put_any w1 R a2 c2 b2 _ k 2 hW.size (by omega) (by decide) (by simp only [List.nil_append, wdN]; omega)
    rw [show k % 2 ^ 2 = k by omega] at HP2
    have HP2 := Lib.hid HP2; have HW := Lib.hid hW
    clear hW hp
    go_wp2_with fail
    refine HP2.out.mono ?_
    intro e w2 hp2
    obtain ⟨a3, c3, b3, rfl, hW3⟩ := HW.out.put hp2
    have HW3 := Lib.hid hW3
    clear hW3 hp2
    go_wp2
    refine bodyPost_end (results_none rfl _ _ _) rfl ?_
    exact ⟨a3, c3, b3, rfl, HW3.out⟩
theorem bytesW_snoc (b : List Int) (j : Nat) (h : j < b.length) (z : Nat) (hz : b.getD j 0 = (z : Int)) : bytesW (b.take (j + 1)) = bytesW (b.take j) ++ [(z, 8)] := by
  unfold bytesW
  rw [List.take_add_one, List.getElem?_eq_getElem h]
  simp only [List.getD, List.getElem?_eq_getElem h, Option.getD_some] at hz
  simp [hz]
set_option maxRecDepth 20000 in
set_option maxHeartbeats 8000000 in
theorem stored_yes (w : World) (R : Nat) (ao : Option Addr) (cap : Nat) (bs : List Int) (s : Nat) (last : Bool) (ba : Option Addr) (bc : Nat) (b : List Int) (h : Wtr w R ao cap bs s) (hs : s ≤ 700000000000) (hr : Reads w ba b) (hb : AllB b) (hl : b.length ≤ 65535)
    (hsep : ∀ a, ba = some a → a.block ≠ R ∧ (Value.slice ao bs.length cap).ownBlock ≠ some a.block) :
    Calls Tryz.prog 50 #[.pointer (some ⟨R, 0, none⟩), .slice ba b.length bc, .bool last] w fun e w' => ∃ ao' cap' bs', e = .returned (.int .i64 0) ∧ WroteP w R (.slice ao bs.length cap) bs s (storedW last (up8 (s + 3) - (s + 3)) b) w' ao' cap' bs' := by
  have HT := Lib.hid (putType_any w R ao cap bs s 0 last h (by decide) (by omega))
  have HRd : Hid (∀ W, Kept (OrB (OneB R) (OwnB (.slice ao bs.length cap))) w W → Reads W ba b) := Lib.hid fun W hk => hr.kept hk (fun a ha e => by
    rcases e with e | e
    · exact (hsep a ha).1 e
    · exact (hsep a ha).2 e)
  have HBs : Hid (∀ j, j < b.length → ∃ (g off z : Nat), ba = some ⟨g, off, none⟩ ∧ b.getD j 0 = (z : Int) ∧ z < 256) := Lib.hid fun j hj => by
    obtain ⟨g, off, hba, _, _⟩ := hr.at (by omega)
    have := AllB.getD hb j
    exact ⟨g, off, (b.getD j 0).toNat, hba, by omega, by omega⟩
  obtain ⟨L, hL⟩ : ∃ L, L = b.length := ⟨_, rfl⟩
  have HL := Lib.hid hL
  have hLl : L ≤ 65535 := by rw [hL]; exact hl
  have hw32 : IntKind.u32.wrap (L : Int) = (L : Int) := IntWalk.u32_in _ (by omega)
  obtain ⟨Z, hZ⟩ : ∃ Z, Z = 4294967295 - L := ⟨_, rfl⟩
  have hx1 : bits .xor .u32 IntKind.u32.max (L : Int) = (Z : Int) := by rw [hZ]; exact not32 L (by omega)
  have hx2 : bits .xor .u32 (if IntKind.u32.signed = true then -1 else IntKind.u32.max) (L : Int) = (Z : Int) := hx1
  have hZb : Z < 4294967296 := by omega
  have hZ16 : Z % 2 ^ 16 = 65535 - L := by omega
  have HZ16 := Lib.hid hZ16
  rw [← hL]
  clear h hr hb hl hsep hL hZ hZ16
  go_enter Tryz.func50, Tryz.ntmps50
  go_wp2_with fail
  refine HT.out.mono ?_
  rintro e w1 ⟨a1, c1, b1, rfl, hW1⟩
  have HA := Lib.hid (walign_any w1 R a1 c1 b1 _ hW1.size (by simp only [wdN]; omega))
  have HW1 := Lib.hid hW1
  clear hW1 HT
  go_wp2_with fail
  refine HA.out.mono ?_
  rintro e w2 ⟨rfl, hw2, hk2⟩
  have hW2 := HW1.out.align hw2 hk2
  have hsz := hW2.size
  have hup : up8 (s + 3) - (s + 3) ≤ 7 := by unfold up8; omega
  have HP3 := put_any w2 R a1 c1 b1 _ L 16 hsz (by omega) (by decide) (by simp only [wdN, wdN_append, Nat.add_zero]; unfold up8; omega)
  rw [show L % 2 ^ 16 = L by omega] at HP3
  have HP3 := Lib.hid HP3; have HW2 := Lib.hid hW2
  clear hw2 hk2 hW2 hsz HA
  go_wp2_with fail
  refine HP3.out.mono ?_
  intro e w3 hp3
  obtain ⟨a3, c3, b3, rfl, hW3⟩ := HW2.out.put hp3
  have hsz := hW3.size
  have HP4 := put_any w3 R a3 c3 b3 _ Z 16 hsz hZb (by decide) (by simp only [wdN, wdN_append, Nat.add_zero]; unfold up8; omega)
  rw [HZ16.out] at HP4
  have HP4 := Lib.hid HP4; have HW3 := Lib.hid hW3
  clear hp3 hW3 hsz HP3
  go_wp2_with fail
  refine HP4.out.mono ?_
  intro e w4 hp4
  obtain ⟨a4, c4, b4, rfl, hW4⟩ := HW3.out.put hp4
  have HW4 := Lib.hid hW4
  clear hp4 hW4 HP4
  go_wp2_with fail
  go_loopw [9, 30] (fun _x i wr => ∃ (j : Nat) (ao' : Option Addr) (cap' : Nat) (bs' : List Int), j ≤ L ∧ i = .int .i64 (j : Int) ∧ Hid (WroteP w R (.slice ao bs.length cap) bs s ([(lastN last, 1), (0, 2), (0, up8 (s + 3) - (s + 3)), (L, 16), (65535 - L, 16)] ++ bytesW (b.take j)) wr ao' cap' bs')) (fun _ i _ => L - (intOf i).toNat)
  case atStart => exact ⟨0, a4, c4, b4, by omega, rfl, Lib.hid (by simpa [bytesW, wdN] using HW4.out)⟩
  case round =>
    obtain ⟨j, ao', cap', bs', hj, rfl, HW⟩ := hrel
    by_cases hlt : (j : Int) < (L : Int)
    · obtain ⟨g, off, z, rfl, hz, hz256⟩ := HBs.out j (by have := HL.out; omega)
      have hc := (HRd.out wr HW.out.2.2.1).2 _ rfl j (by have := HL.out; omega)
      rw [hz, addr_add] at hc
      have HSn := Lib.hid (bytesW_snoc b j (by have := HL.out; omega) z hz)
      have hwz : IntKind.u32.wrap (z : Int) = (z : Int) := IntWalk.u32_in _ (by omega)
      have hbw := bytesW_wd (b.take j)
      have hbl : (b.take j).length ≤ 65535 := by rw [List.length_take]; omega
      have HP := put_any wr R ao' cap' bs' _ z 8 HW.out.size (by omega) (by decide) (by rw [wdN_append]; simp only [wdN, Nat.add_zero]; omega)
      rw [show z % 2 ^ 8 = z by omega] at HP
      have HP := Lib.hid HP
      clear hz hbw hbl
      go_wp2_with fail
      refine HP.out.mono ?_
      intro e w5 hp5
      obtain ⟨a5, c5, b5, rfl, hW5⟩ := HW.out.put hp5
      rw [List.append_assoc, ← HSn.out] at hW5
      have HW5 := Lib.hid hW5
      clear hW5 hp5 HP hc
      go_wp2
      go_roundw
      case rel => exact ⟨j + 1, a5, c5, b5, by omega, by go_num, HW5⟩
      case measure => simp [intOf]; omega
    · obtain rfl : j = L := by omega
      go_wp2
      go_ret
      refine ⟨rfl, ao', cap', bs', ?_⟩
      have h := HW.out
      rw [List.take_of_length_le (by rw [← HL.out]; exact Nat.le_refl _)] at h
      unfold storedW
      rw [← HL.out]
      exact h
end Go.Proofs.YtfmjfgmbjdhogaaGreatDoor

namespace Go.Proofs.YtfmjfgmbjdhogaaGreatDoor
open Go.RowKit
set_option linter.unusedVariables false
set_option linter.unusedSimpArgs false

def allOkB (ts : List Tk) : Bool := ts.all Tk.ok
end Go.Proofs.YtfmjfgmbjdhogaaGreatDoor

namespace Go.Proofs.YtfmjfgmbjdhogaaGreatDoor
open Go.RowKit
set_option linter.unusedVariables false
set_option linter.unusedSimpArgs false

end Go.Proofs.YtfmjfgmbjdhogaaGreatDoor
