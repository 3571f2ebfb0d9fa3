/-
  Runs that tell lengths. No Go in sight.
-/
import Derived.Test.YtjdhjlfckalkoaaFlatS
namespace Go.Proofs.Ytjdhjlfckalkoaa
set_option linter.unusedVariables false

/-- Runs that tell d more of v. -/
def Told (v : Int) (d : Nat) (rs : List (Int × Int)) : Prop :=
  ∀ (N : Int) (p : List Int) (rest : List (Int × Int)), (p.length : Int) ≤ N → runAll N p (rs ++ rest) = if ((p.length + d : Nat) : Int) ≤ N then runAll N (p ++ List.replicate d v) rest else none
theorem Told.nil (v : Int) : Told v 0 [] := fun N p rest h => by
  rw [List.nil_append, if_pos (by simpa using h), List.replicate_zero, List.append_nil]
/-- A run more. -/
theorem Told.step {v : Int} {d k : Nat} {rs : List (Int × Int)} {s x : Int} (h : Told v d rs) (hok : ∀ p : List Int, okRun (p ++ List.replicate d v) s x) (hv : ∀ p : List Int, valS (p ++ List.replicate d v) s = v) (hk : k = spanL s + x.toNat) : Told v (d + k) (rs ++ [(s, x)]) := by
  intro N p rest hp
  rw [List.append_assoc, h N p _ hp]
  have hm : moreL (p ++ List.replicate d v) s x = p ++ List.replicate (d + k) v := by
    unfold moreL
    rw [hv p, ← hk, List.append_assoc, List.replicate_append_replicate]
  have hl : (p ++ List.replicate (d + k) v).length = p.length + (d + k) := by simp
  by_cases h1 : ((p.length + d : Nat) : Int) ≤ N
  · rw [if_pos h1]
    show runAll N (p ++ List.replicate d v) ((s, x) :: rest) = _
    rw [runAll, hm, hl]
    by_cases h2 : ((p.length + (d + k) : Nat) : Int) ≤ N
    · rw [if_pos ⟨hok p, h2⟩, if_pos h2]
    · rw [if_neg (fun h => h2 h.2), if_neg h2]
  · rw [if_neg h1, if_neg (by omega)]
theorem rep_last (p : List Int) (d : Nat) (v : Int) (hd : 1 ≤ d) : (p ++ List.replicate d v).getD ((p ++ List.replicate d v).length - 1) 0 = v := by
  have hl : (p ++ List.replicate d v).length = p.length + d := by simp
  rw [hl, List.getD, List.getElem?_append_right (by omega), List.getElem?_replicate, if_pos (by omega)]
  rfl
theorem Told.again {v : Int} {d m : Nat} {rs : List (Int × Int)} (h : Told v d rs) (hd : 1 ≤ d) (hm : m ≤ 3) : Told v (d + (3 + m)) (rs ++ [(16, (m : Int))]) := by
  refine h.step (fun p => ⟨by decide, by decide, by omega, ?_, fun _ he => ?_⟩) (fun p => ?_) ?_
  · show (m : Int) ≤ 3; omega
  · have := congrArg List.length he; simp at this; omega
  · show (if (16 : Int) = 16 then _ else _) = v
    rw [if_pos rfl]
    exact rep_last p d v hd
  · show 3 + m = 3 + (m : Int).toNat; omega
theorem Told.one {v : Int} {d : Nat} {rs : List (Int × Int)} (h : Told v d rs) (hv : 0 ≤ v ∧ v ≤ 15) : Told v (d + 1) (rs ++ [(v, 0)]) := by
  have e1 : spanL v = 1 := by unfold spanL; rw [if_neg (by omega), if_neg (by omega), if_neg (by omega)]
  have e2 : spanM v = 0 := by unfold spanM; rw [if_neg (by omega), if_neg (by omega), if_neg (by omega)]
  refine h.step (fun p => ⟨hv.1, by omega, by omega, by rw [e2]; omega, fun he => by omega⟩) (fun p => ?_) (by rw [e1]; rfl)
  unfold valS
  rw [if_neg (by omega), if_neg (by omega)]
theorem Told.few {d m : Nat} {rs : List (Int × Int)} (h : Told 0 d rs) (hm : m ≤ 7) : Told 0 (d + (3 + m)) (rs ++ [(17, (m : Int))]) := by
  refine h.step (fun p => ⟨by decide, by decide, by omega, ?_, fun he => by omega⟩) (fun p => rfl) ?_
  · show (m : Int) ≤ 7; omega
  · show 3 + m = 3 + (m : Int).toNat; omega
theorem Told.many {d m : Nat} {rs : List (Int × Int)} (h : Told 0 d rs) (hm : m ≤ 127) : Told 0 (d + (11 + m)) (rs ++ [(18, (m : Int))]) := by
  refine h.step (fun p => ⟨by decide, by decide, by omega, ?_, fun he => by omega⟩) (fun p => rfl) ?_
  · show (m : Int) ≤ 127; omega
  · show 11 + m = 11 + (m : Int).toNat; omega
/-- Runs that tell the first of l. -/
def Tells (l : List Int) (rs : List (Int × Int)) : Prop :=
  ∀ (N : Int) (rest : List (Int × Int)), 0 ≤ N → runAll N [] (rs ++ rest) = if (l.length : Int) ≤ N then runAll N l rest else none
theorem Tells.nil : Tells [] [] := fun N rest h => by rw [List.nil_append, if_pos (by simpa using h)]
theorem Tells.more {l : List Int} {rs rs' : List (Int × Int)} {v : Int} {d : Nat} (h : Tells l rs) (h' : Told v d rs') : Tells (l ++ List.replicate d v) (rs ++ rs') := by
  intro N rest hN
  rw [List.append_assoc, h N _ hN]
  have hl : (l ++ List.replicate d v).length = l.length + d := by simp
  by_cases h1 : (l.length : Int) ≤ N
  · rw [if_pos h1, h' N l rest h1, hl]
  · rw [if_neg h1, if_neg (by rw [hl]; omega)]
/-- What Flat tells of them. -/
theorem Tells.flat {l : List Int} {rs : List (Int × Int)} (h : Tells l rs) (n : Int) (hn : 0 ≤ n ∧ n ≤ 320) : flatS n rs = if (l.length : Int) = n then (l, 0) else ([], 6) := by
  have hf : flatS n rs = match runAll n [] rs with | some l => if (l.length : Int) = n then (l, 0) else ([], 6) | none => ([], 6) := if_neg (by omega)
  have hr := h n [] hn.1
  rw [List.append_nil] at hr
  rw [hf, hr]
  by_cases h1 : (l.length : Int) ≤ n
  · rw [if_pos h1]; rfl
  · rw [if_neg h1, if_neg (by omega)]
theorem flat_out (n : Int) (rs : List (Int × Int)) (h : n < 0 ∨ 320 < n) : flatS n rs = ([], 1) := if_pos h
end Go.Proofs.Ytjdhjlfckalkoaa
