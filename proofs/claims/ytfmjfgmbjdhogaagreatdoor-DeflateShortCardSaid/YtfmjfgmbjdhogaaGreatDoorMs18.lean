/-
  What is put for tokens by two codes, on paper, and that it is read.
  Put: a token behind bytes, in memory of its own.
  Tokens in memory.
  A row of tokens; Expand.
  SymLen, SymDist, and what finds a symbol.
  SymLen, SymDist; the last symbol whose least number is not above one; LenSym, DistSym.
  LenSym, DistSym: each length, and each distance, has just one symbol and rest.
  What layer 6's statements ask of themselves first.
  Tokens that came in; tokens that may be, made of some.
-/
import Derived.Test.YtfmjfgmbjdhogaaGreatDoorMs17
import Derived.OwnWalk
namespace Go.Proofs.YtfmjfgmbjdhogaaGreatDoor
open Go.RowKit
set_option linter.unusedVariables false
set_option linter.unusedSimpArgs false

/-- What is put for a token. -/
inductive TokW (lit dist : List Int) : Tk → List (Nat × Nat) → Prop
  | one (c : Int) : 0 ≤ c → c < 256 → HasC lit c → TokW lit dist ⟨0, 0, c⟩ [wordZ lit c]
  | long (j u : Nat) : j < 30 → u < 2 ^ de j → HasC lit 285 → HasC dist (j : Int) → TokW lit dist ⟨258, ((db j + u : Nat) : Int), 0⟩ [wordZ lit 285, (0, 0), wordZ dist (j : Int), (u, de j)]
  | copy (i v j u : Nat) : i < 28 → v < 2 ^ le4 i → lb i + v ≤ 257 → j < 30 → u < 2 ^ de j → HasC lit ((257 + i : Nat) : Int) → HasC dist (j : Int) →
      TokW lit dist ⟨((lb i + v : Nat) : Int), ((db j + u : Nat) : Int), 0⟩ [wordZ lit ((257 + i : Nat) : Int), (v, le4 i), wordZ dist (j : Int), (u, de j)]
theorem Puts.sym {bs : List Int} {s : Nat} {pre rest : List (Nat × Nat)} {L : List Int} {z : Int} (h : Puts bs s (pre ++ wordZ L z :: rest)) (hc : CodeOk L) (hz : HasC L z) : SymR bs L (s + wdN pre) z 0 (s + wdN (pre ++ [wordZ L z])) := by
  obtain ⟨k, rfl, hk, h0⟩ := hz
  obtain ⟨T, hT⟩ : ∃ T : Nat, min3 15 (8 * bs.length - (s + wdN pre : Nat)) = T := by
    have := h.room
    obtain ⟨T, h, _⟩ := min3_at (8 * bs.length) (s + wdN pre) (by omega)
    exact ⟨T, by simpa using h⟩
  have hrd := h.read hc.2.1 hc.1 hc.2.2 hk h0 hT
  refine ⟨T, hT, ?_⟩
  have e : s + wdN (pre ++ [wordZ L (k : Int)]) = s + wdN pre + (L.getD k 0).toNat := by
    rw [wdN_append]
    have : wdN [wordZ L (k : Int)] = (L.getD k 0).toNat := by simp [wdN, wordZ]
    omega
  rw [e]; exact hrd
theorem no_lit {c : Int} {n most : Nat} (h : (Tk.mk 0 0 c).no n (most : Int) = 0) : n < most := by
  apply Classical.byContradiction
  intro hn
  unfold Tk.no Tk.ok at h
  rw [if_neg (by simp), if_neg (by simp only; omega), if_pos (by simp only; rw [if_pos (by decide)]; omega)] at h
  exact absurd h (by decide)
theorem no_copy {l d : Nat} {n most : Nat} (h1 : 3 ≤ l) (h : (Tk.mk (l : Int) (d : Int) 0).no n (most : Int) = 0) : d ≤ n ∧ n + l ≤ most := by
  apply Classical.byContradiction
  intro hn
  unfold Tk.no at h
  by_cases c1 : (Tk.mk (l : Int) (d : Int) 0).ok = false
  · rw [if_pos c1] at h; exact absurd h (by decide)
  · rw [if_neg c1] at h
    by_cases c2 : (n : Int) < (d : Int)
    · rw [if_pos c2] at h; exact absurd h (by decide)
    · rw [if_neg c2, if_pos (by simp only; rw [if_neg (by omega)]; omega)] at h
      exact absurd h (by decide)
/-- A token that was put is read. -/
theorem TokW.step {bs : List Int} {s most : Nat} {lit dist : List Int} {t : Tk} {ws pre post : List (Nat × Nat)} {last : Bool} {out : List Int} (hw : TokW lit dist t ws) (h : Puts bs s (pre ++ ws ++ post)) (hl : CodeOk lit) (hd : CodeOk dist) (hno : t.no out.length (most : Int) = 0) :
    ItemR bs most (s + wdN pre) (.sym lit dist) last out 0 (s + wdN (pre ++ ws)) (.sym lit dist) last (t.put out) := by
  cases hw with
  | one c h0 h1 hc =>
    have hs := (show Puts bs s (pre ++ wordZ lit c :: post) by simpa using h).sym hl hc
    have hm := no_lit hno
    unfold ItemR
    refine ⟨c, 0, _, hs, ?_⟩
    rw [if_neg (by decide), if_pos h1, if_pos hm]
    exact ⟨rfl, rfl, rfl, rfl, by simp [Tk.put]⟩
  | long j u hj hu hc1 hc2 =>
    have h3 := db_top j hj
    obtain ⟨m1, m2⟩ := no_copy (l := 258) (d := db j + u) (by decide) hno
    have hs := (show Puts bs s (pre ++ wordZ lit 285 :: ([(0, 0), wordZ dist (j : Int), (u, de j)] ++ post)) by simpa using h).sym hl hc1
    have hx := (show Puts bs s ((pre ++ [wordZ lit 285]) ++ (0, 0) :: ([wordZ dist (j : Int), (u, de j)] ++ post)) by simpa using h).is
    have hs2 := (show Puts bs s ((pre ++ [wordZ lit 285, (0, 0)]) ++ wordZ dist (j : Int) :: ([(u, de j)] ++ post)) by simpa using h).sym hd hc2
    have hx2 := (show Puts bs s ((pre ++ [wordZ lit 285, (0, 0), wordZ dist (j : Int)]) ++ (u, de j) :: post) by simpa using h).is
    have hr1 := (show Puts bs s ((pre ++ [wordZ lit 285, (0, 0)]) ++ ([wordZ dist (j : Int), (u, de j)] ++ post)) by simpa using h).room
    have hr2 := (show Puts bs s ((pre ++ [wordZ lit 285, (0, 0), wordZ dist (j : Int), (u, de j)]) ++ post) by simpa using h).room
    have e1 : wdN (pre ++ [wordZ lit 285, (0, 0)]) = wdN (pre ++ [wordZ lit 285]) + 0 := by simp [wdN_append, wdN]
    have e2 : wdN (pre ++ [wordZ lit 285, (0, 0), wordZ dist (j : Int), (u, de j)]) = wdN (pre ++ [wordZ lit 285, (0, 0), wordZ dist (j : Int)]) + de j := by simp [wdN_append, wdN]; omega
    have e3 : (pre ++ [wordZ lit 285, (0, 0)]) ++ [wordZ dist (j : Int)] = pre ++ [wordZ lit 285, (0, 0), wordZ dist (j : Int)] := by simp
    rw [e3] at hs2
    rw [e1] at hs2 hr1
    rw [e2] at hr2
    have l1 : lenX 285 = 0 := by decide
    have l2 : lenB 285 = 258 := by decide
    unfold ItemR
    refine ⟨285, 0, _, hs, ?_⟩
    rw [if_neg (by decide), if_neg (by decide), if_neg (by decide), if_neg (by decide), l1, if_neg (by omega)]
    refine ⟨(j : Int), 0, _, hs2, ?_⟩
    rw [if_neg (by decide), if_neg (by omega), Int.toNat_natCast, if_neg (by omega), hx2, hx, l2, if_neg (by omega), if_neg (by omega)]
    refine ⟨rfl, by rw [e2]; omega, rfl, rfl, ?_⟩
    unfold Tk.put
    rw [if_neg (show ¬ (258 : Int) = 0 by decide)]
    rfl
  | copy i v j u hi hv hlv hj hu hc1 hc2 =>
    have h3 := db_top j hj
    have h4 := lb_top i hi
    obtain ⟨m1, m2⟩ := no_copy (l := lb i + v) (d := db j + u) (by omega) hno
    have hs := (show Puts bs s (pre ++ wordZ lit ((257 + i : Nat) : Int) :: ([(v, le4 i), wordZ dist (j : Int), (u, de j)] ++ post)) by simpa using h).sym hl hc1
    have hx := (show Puts bs s ((pre ++ [wordZ lit ((257 + i : Nat) : Int)]) ++ (v, le4 i) :: ([wordZ dist (j : Int), (u, de j)] ++ post)) by simpa using h).is
    have hs2 := (show Puts bs s ((pre ++ [wordZ lit ((257 + i : Nat) : Int), (v, le4 i)]) ++ wordZ dist (j : Int) :: ([(u, de j)] ++ post)) by simpa using h).sym hd hc2
    have hx2 := (show Puts bs s ((pre ++ [wordZ lit ((257 + i : Nat) : Int), (v, le4 i), wordZ dist (j : Int)]) ++ (u, de j) :: post) by simpa using h).is
    have hr1 := (show Puts bs s ((pre ++ [wordZ lit ((257 + i : Nat) : Int), (v, le4 i)]) ++ ([wordZ dist (j : Int), (u, de j)] ++ post)) by simpa using h).room
    have hr2 := (show Puts bs s ((pre ++ [wordZ lit ((257 + i : Nat) : Int), (v, le4 i), wordZ dist (j : Int), (u, de j)]) ++ post) by simpa using h).room
    have e1 : wdN (pre ++ [wordZ lit ((257 + i : Nat) : Int), (v, le4 i)]) = wdN (pre ++ [wordZ lit ((257 + i : Nat) : Int)]) + le4 i := by simp [wdN_append, wdN]; omega
    have e2 : wdN (pre ++ [wordZ lit ((257 + i : Nat) : Int), (v, le4 i), wordZ dist (j : Int), (u, de j)]) = wdN (pre ++ [wordZ lit ((257 + i : Nat) : Int), (v, le4 i), wordZ dist (j : Int)]) + de j := by simp [wdN_append, wdN]; omega
    have e3 : (pre ++ [wordZ lit ((257 + i : Nat) : Int), (v, le4 i)]) ++ [wordZ dist (j : Int)] = pre ++ [wordZ lit ((257 + i : Nat) : Int), (v, le4 i), wordZ dist (j : Int)] := by simp
    rw [e3] at hs2
    rw [e1] at hs2 hr1
    rw [e2] at hr2
    have l0 : ((257 + i : Nat) : Int) ≠ 285 ∨ i = 28 := by omega
    have l1 : lenX ((257 + i : Nat) : Int) = le4 i := by
      unfold lenX
      rw [if_neg (by omega)]
      congr 1; omega
    have l2 : lenB ((257 + i : Nat) : Int) = lb i := by
      unfold lenB
      rw [if_neg (by omega)]
      congr 1; omega
    unfold ItemR
    refine ⟨((257 + i : Nat) : Int), 0, _, hs, ?_⟩
    rw [if_neg (by decide), if_neg (by omega), if_neg (by omega), if_neg (by omega), l1, if_neg (by omega)]
    refine ⟨(j : Int), 0, s + wdN (pre ++ [wordZ lit ((257 + i : Nat) : Int), (v, le4 i), wordZ dist (j : Int)]), by rw [Nat.add_assoc]; exact hs2, ?_⟩
    rw [if_neg (by decide), if_neg (by omega), Int.toNat_natCast, if_neg (by omega), hx2, hx, l2, if_neg (by omega), if_neg (by omega)]
    refine ⟨rfl, by rw [e2]; omega, rfl, rfl, ?_⟩
    unfold Tk.put
    rw [if_neg (by simp only; omega)]
    rfl
/-- What is put for tokens. -/
inductive TokWs (lit dist : List Int) : List Tk → List (Nat × Nat) → Prop
  | nil : TokWs lit dist [] []
  | cons {t : Tk} {r : List Tk} {ws vs : List (Nat × Nat)} : TokW lit dist t ws → TokWs lit dist r vs → TokWs lit dist (t :: r) (ws ++ vs)
end Go.Proofs.YtfmjfgmbjdhogaaGreatDoor

namespace Go.Proofs.YtfmjfgmbjdhogaaGreatDoor
open Go.RowKit
set_option linter.unusedVariables false
set_option linter.unusedSimpArgs false

theorem Kept.own {S : Nat → Prop} {a b c : World} (h : Kept NoB a b) (k : Kept S b c) (hs : ∀ i, S i → a.heap.size ≤ i) : Kept NoB a c :=
  ⟨k.os.trans h.os, k.tape.trans h.tape, k.output.trans h.output, Nat.le_trans h.size k.size, fun i hi _ => (k.block i (Nat.lt_of_lt_of_le hi h.size) (fun s => by have := hs i s; omega)).trans (h.block i hi (fun h => h))⟩

/-- A row of the call's own. -/
def Made (w : World) (xs : List Int) (ao : Option Addr) (cap : Nat) (w' : World) : Prop :=
  w'.ownsRow 0 5 1 (.slice ao xs.length cap) xs.length (xs.map (.int .u8)) ∧ (∀ k, (Value.slice ao xs.length cap).ownBlock = some k → w.heap.size ≤ k) ∧ Kept NoB w w'
theorem Made.reads {w w' : World} {xs : List Int} {ao : Option Addr} {cap : Nat} (h : Made w xs ao cap w') : Reads w' ao xs := own_reads h.1 rfl

end Go.Proofs.YtfmjfgmbjdhogaaGreatDoor

namespace Go.Proofs.YtfmjfgmbjdhogaaGreatDoor
open Go.RowKit
set_option linter.unusedVariables false
set_option linter.unusedSimpArgs false

/-- Tokens in memory, three cells each. -/
def Toks (w : World) (ao : Option Addr) (ts : List Tk) : Prop :=
  ∀ i, i < ts.length → ∃ b off, ao = some ⟨b, off, none⟩ ∧ w.cell? ⟨b, off + i * 3, none⟩ = some (.int .i64 (ts.getD i ⟨0, 0, 0⟩).l) ∧ w.cell? ⟨b, off + i * 3 + 1, none⟩ = some (.int .i64 (ts.getD i ⟨0, 0, 0⟩).d) ∧ w.cell? ⟨b, off + i * 3 + 2, none⟩ = some (.int .u8 (ts.getD i ⟨0, 0, 0⟩).c)
theorem Toks.keptNo {w w' : World} {ao : Option Addr} {ts : List Tk} (h : Toks w ao ts) (hk : Kept NoB w w') : Toks w' ao ts := by
  intro i hi
  obtain ⟨b, off, h1, h2, h3, h4⟩ := h i hi
  exact ⟨b, off, h1, hk.cell h2, hk.cell h3, hk.cell h4⟩
end Go.Proofs.YtfmjfgmbjdhogaaGreatDoor

namespace Go.Proofs.YtfmjfgmbjdhogaaGreatDoor
open Go.RowKit
set_option linter.unusedVariables false
set_option linter.unusedSimpArgs false

def AllT (ts : List Tk) : Prop := ∀ t ∈ ts, t.wf
theorem AllT.getD {ts : List Tk} (h : AllT ts) (i : Nat) : (ts.getD i ⟨0, 0, 0⟩).wf := by
  by_cases hi : i < ts.length
  · have : ts.getD i ⟨0, 0, 0⟩ = ts[i] := by simp [List.getD, hi]
    rw [this]; exact h _ (List.getElem_mem hi)
  · have : ts.getD i ⟨0, 0, 0⟩ = ⟨0, 0, 0⟩ := by simp [List.getD, List.getElem?_eq_none (Nat.le_of_not_lt hi)]
    rw [this]; unfold Tk.wf; decide
/-- What tokens make behind bytes, how many of them were put, and why no more. -/
def expF (most : Int) : List Tk → List Int → Nat → List Int × Nat × Int
  | [], bs, i => (bs, i, 0)
  | t :: r, bs, i => if t.no bs.length most = 0 then expF most r (t.put bs) (i + 1) else (bs, i, t.no bs.length most)
end Go.Proofs.YtfmjfgmbjdhogaaGreatDoor

namespace Go.Proofs.YtfmjfgmbjdhogaaGreatDoor
open Go.RowKit
set_option linter.unusedVariables false
set_option linter.unusedSimpArgs false

set_option maxHeartbeats 1000000 in
theorem group4_any (i : Nat) (w : World) (hi : i ≤ 29) : Calls Tryz.prog 143 #[.int .i64 i, .int .i64 4] w fun e w' => e = .returned (.tuple #[.int .i64 (gb 4 i : Nat), .int .i64 (ge 4 i : Nat)]) ∧ w = w' := by
  obtain ⟨k, hk⟩ : ∃ k, k = i / 4 := ⟨_, rfl⟩
  have hdiv : (i : Int) / 4 = k := by omega
  have hk14 : k ≤ 14 := by omega
  have HB : Hid (gb 4 i = if k - 1 = 0 then i else (4 + i % 4) * 2 ^ (k - 1)) := by unfold gb; rw [← hk]; exact rfl
  have HE : Hid (ge 4 i = k - 1) := by unfold ge; rw [← hk]; exact rfl
  obtain ⟨m, hm⟩ : ∃ m, m = i % 4 := ⟨_, rfl⟩
  have hmod : (i : Int) % 4 = m := by omega
  have hm4 : m < 4 := by omega
  rw [← hm] at HB
  clear hk hm
  rw [HB.out, HE.out]
  clear HB HE
  go_enter Tryz.func143, Tryz.ntmps143
  by_cases h0 : k ≤ 1
  · have h1 : k - 1 = 0 := by omega
    rw [if_pos h1, h1]
    have hmax : (if (k : Int) - 1 < 0 then (0 : Int) else (k : Int) - 1) = 0 := by split <;> omega
    clear h1
    go_wp2
    go_ret2
    exact ⟨rfl, rfl⟩
  · have h1 : ¬ k - 1 = 0 := by omega
    rw [if_neg h1]
    obtain ⟨e, he⟩ : ∃ e, e = k - 1 := ⟨_, rfl⟩
    rw [← he]
    have hke : (k : Int) - 1 = e := by omega
    have hn : ¬ (e : Int) < 0 := by omega
    have he0 : ((e : Int) == 0) = false := by simp; omega
    have he13 : e ≤ 13 := by omega
    have hp : 2 ^ e ≤ 2 ^ 13 := Nat.pow_le_pow_right (by decide) he13
    have hmul : ((4 : Int) + m) * 2 ^ e = (((4 + m) * 2 ^ e : Nat) : Int) := by push_cast; rfl
    have hmb : (4 + m) * 2 ^ e ≤ 8 * 8192 := Nat.mul_le_mul (by omega) hp
    generalize (4 + m) * 2 ^ e = v at hmul hmb ⊢
    clear hp he h1 h0
    go_wp2
    go_ret2
    exact ⟨rfl, rfl⟩

set_option maxHeartbeats 1000000 in
theorem group2_any (i : Nat) (w : World) (hi : i ≤ 29) : Calls Tryz.prog 143 #[.int .i64 i, .int .i64 2] w fun e w' => e = .returned (.tuple #[.int .i64 (gb 2 i : Nat), .int .i64 (ge 2 i : Nat)]) ∧ w = w' := by
  obtain ⟨k, hk⟩ : ∃ k, k = i / 2 := ⟨_, rfl⟩
  have hdiv : (i : Int) / 2 = k := by omega
  have hk14 : k ≤ 14 := by omega
  have HB : Hid (gb 2 i = if k - 1 = 0 then i else (2 + i % 2) * 2 ^ (k - 1)) := by unfold gb; rw [← hk]; exact rfl
  have HE : Hid (ge 2 i = k - 1) := by unfold ge; rw [← hk]; exact rfl
  obtain ⟨m, hm⟩ : ∃ m, m = i % 2 := ⟨_, rfl⟩
  have hmod : (i : Int) % 2 = m := by omega
  have hm4 : m < 2 := by omega
  rw [← hm] at HB
  clear hk hm
  rw [HB.out, HE.out]
  clear HB HE
  go_enter Tryz.func143, Tryz.ntmps143
  by_cases h0 : k ≤ 1
  · have h1 : k - 1 = 0 := by omega
    rw [if_pos h1, h1]
    have hmax : (if (k : Int) - 1 < 0 then (0 : Int) else (k : Int) - 1) = 0 := by split <;> omega
    clear h1
    go_wp2
    go_ret2
    exact ⟨rfl, rfl⟩
  · have h1 : ¬ k - 1 = 0 := by omega
    rw [if_neg h1]
    obtain ⟨e, he⟩ : ∃ e, e = k - 1 := ⟨_, rfl⟩
    rw [← he]
    have hke : (k : Int) - 1 = e := by omega
    have hn : ¬ (e : Int) < 0 := by omega
    have he0 : ((e : Int) == 0) = false := by simp; omega
    have he13 : e ≤ 13 := by omega
    have hp : 2 ^ e ≤ 2 ^ 13 := Nat.pow_le_pow_right (by decide) he13
    have hmul : ((2 : Int) + m) * 2 ^ e = (((2 + m) * 2 ^ e : Nat) : Int) := by push_cast; rfl
    have hmb : (2 + m) * 2 ^ e ≤ 8 * 8192 := Nat.mul_le_mul (by omega) hp
    generalize (2 + m) * 2 ^ e = v at hmul hmb ⊢
    clear hp he h1 h0
    go_wp2
    go_ret2
    exact ⟨rfl, rfl⟩
end Go.Proofs.YtfmjfgmbjdhogaaGreatDoor

namespace Go.Proofs.YtfmjfgmbjdhogaaGreatDoor
open Go.RowKit
set_option linter.unusedVariables false
set_option linter.unusedSimpArgs false

theorem symLen_any (i : Nat) (w : World) (hi : i < 28) : Calls Tryz.prog 121 #[.int .i64 (257 + i : Nat)] w fun e w' => e = .returned (.tuple #[.int .i64 (lb i : Nat), .int .i64 (le4 i : Nat), .bool true]) ∧ w = w' := by
  have h1 : ¬ ((257 + i : Nat) : Int) < 257 := by omega
  have h2 : ¬ (285 : Int) < ((257 + i : Nat) : Int) := by omega
  have h3 : (((257 + i : Nat) : Int) == 285) = false := by simp; omega
  have h4 : ((257 + i : Nat) : Int) - 257 = i := by omega
  have hb := (lb_top i hi)
  have HG := Lib.hid (fun w => group4_any i w (by omega))
  have hlb : lb i = 3 + gb 4 i := rfl
  have hp := Nat.one_le_two_pow (n := le4 i)
  have hg : gb 4 i ≤ 259 := by omega
  have HB : Hid (lb i = 3 + gb 4 i) := rfl
  have HE : Hid (le4 i = ge 4 i) := rfl
  rw [HB.out, HE.out]
  clear hb hlb HB HE hp
  generalize gb 4 i = b at HG hg ⊢
  generalize ge 4 i = x at HG ⊢
  generalize 257 + i = s at h1 h2 h3 h4 ⊢
  go_enter Tryz.func121, Tryz.ntmps121
  go_wp2_with fail
  refine (HG.out _).mono ?_
  rintro e w' ⟨rfl, rfl⟩
  go_wp2
  go_ret3
  exact ⟨by push_cast; rfl, rfl⟩
theorem symLen_last (w : World) : Calls Tryz.prog 121 #[.int .i64 285] w fun e w' => e = .returned (.tuple #[.int .i64 258, .int .i64 0, .bool true]) ∧ w = w' := by
  go_enter Tryz.func121, Tryz.ntmps121
  go_wp2
  go_ret3
  exact ⟨rfl, rfl⟩
theorem symDist_any (i : Nat) (w : World) (hi : i < 30) : Calls Tryz.prog 122 #[.int .i64 i] w fun e w' => e = .returned (.tuple #[.int .i64 (db i : Nat), .int .i64 (de i : Nat), .bool true]) ∧ w = w' := by
  have h1 : ¬ (i : Int) < 0 := by omega
  have h2 : ¬ (29 : Int) < (i : Int) := by omega
  have hb := (db_top i hi)
  have HG := Lib.hid (fun w => group2_any i w (by omega))
  have hlb : db i = 1 + gb 2 i := rfl
  have hp := Nat.one_le_two_pow (n := de i)
  have hg : gb 2 i ≤ 32769 := by omega
  have HB : Hid (db i = 1 + gb 2 i) := rfl
  have HE : Hid (de i = ge 2 i) := rfl
  rw [HB.out, HE.out]
  clear hb hlb HB HE hp
  generalize gb 2 i = b at HG hg ⊢
  generalize ge 2 i = x at HG ⊢
  go_enter Tryz.func122, Tryz.ntmps122
  go_wp2_with fail
  refine (HG.out _).mono ?_
  rintro e w' ⟨rfl, rfl⟩
  go_wp2
  go_ret3
  exact ⟨by push_cast; rfl, rfl⟩

theorem symDistZ (i : Nat) (w : World) (hi : i < 30) : Calls Tryz.prog 122 #[.int .i64 (0 + i : Nat)] w fun e w' => e = .returned (.tuple #[.int .i64 (db i : Nat), .int .i64 (de i : Nat), .bool true]) ∧ w = w' := by
  rw [Nat.zero_add]; exact symDist_any i w hi
/-- The last symbol from o to o + H whose least number is not above n, for whatever tells least numbers that begin below n. -/
def LastP (o H : Nat) (B E : Nat → Nat) (n : Nat) (w : World) (e : Ending) (w' : World) : Prop :=
  ∃ l, l ≤ H ∧ B l ≤ n ∧ (l < H → n < B (l + 1)) ∧ e = .returned (.tuple #[.int .i64 (o + l : Nat), .int .i64 (E l : Nat), .int .u32 (n - B l : Nat)]) ∧ w = w'
set_option maxHeartbeats 2000000 in
theorem lastLen_any (n : Nat) (w : World) (hn : 3 ≤ n) (hn2 : n ≤ 257) :
    Calls Tryz.prog 136 #[.int .i64 n, .int .i64 257, .int .i64 284, .func (.func 121) #[] #[]] w (LastP 257 27 lb le4 n w) := by
  go_enter Tryz.func136, Tryz.ntmps136
  go_wp2
  go_loop [1, 2] (fun a b => ∃ l h : Nat, l ≤ h ∧ h ≤ 27 ∧ a = .int .i64 (257 + l : Nat) ∧ b = .int .i64 (257 + h : Nat) ∧ Hid (lb l ≤ n) ∧ Hid (h < 27 → n < lb (h + 1))) (fun a b => (intOf b).toNat - (intOf a).toNat)
  case atStart => exact ⟨0, 27, by omega, by omega, rfl, rfl, (by rw [lb0]; exact hn : lb 0 ≤ n), (fun h => absurd h (by omega) : 27 < 27 → n < lb (27 + 1))⟩
  case round =>
    obtain ⟨l, h, hlh, hh, rfl, rfl, HL, HH⟩ := hrel
    by_cases hlt : l < h
    · obtain ⟨m, hm⟩ : ∃ m, m = (l + h + 1) / 2 := ⟨_, rfl⟩
      have hmid : (((257 + l : Nat) : Int) + ((257 + h : Nat) : Int) + 1) / 2 = ((257 + m : Nat) : Int) := by omega
      have hlti : ((257 + l : Nat) : Int) < ((257 + h : Nat) : Int) := by omega
      have hml : l < m ∧ m ≤ h := by omega
      obtain ⟨A, hA⟩ : ∃ A, A = 257 + l := ⟨_, rfl⟩
      obtain ⟨C, hC⟩ : ∃ C, C = 257 + h := ⟨_, rfl⟩
      obtain ⟨M, hM⟩ : ∃ M, M = 257 + m := ⟨_, rfl⟩
      rw [← hA, ← hC, ← hM] at hmid
      rw [← hA, ← hC] at hlti ⊢
      have hAb : A ≤ 1000 := by omega
      have hCb : C ≤ 1000 := by omega
      have hMb : 1 ≤ M ∧ M ≤ 1000 := by omega
      have HF := Lib.hid (fun w => symLen_any m w (by omega))
      rw [← hM] at HF
      have HA := Lib.hid hA; have HC := Lib.hid hC; have HM := Lib.hid hM; have HMl := Lib.hid hml; have HLt := Lib.hid hlt
      clear hm hA hC hM hml
      by_cases hle : lb m ≤ n
      · have hlei : ((lb m : Nat) : Int) ≤ (n : Int) := by omega
        have HLe := Lib.hid hle
        clear hle
        generalize lb m = bm at HF hlei
        generalize le4 m = em at HF
        go_wp2_with fail
        refine (HF.out _).mono ?_
        rintro e w' ⟨rfl, rfl⟩
        go_wp2
        go_round
        case rel => exact ⟨m, h, HMl.out.2, hh, by rw [HM.out], by rw [HC.out], HLe.out, HH.out⟩
        case measure => have := HA.out; have := HC.out; have := HM.out; have := HMl.out; have := HLt.out; simp [intOf]; omega
      · have hlei : ¬ ((lb m : Nat) : Int) ≤ (n : Int) := by omega
        have HLe := Lib.hid hle
        clear hle
        generalize lb m = bm at HF hlei
        generalize le4 m = em at HF
        go_wp2_with fail
        refine (HF.out _).mono ?_
        rintro e w' ⟨rfl, rfl⟩
        go_wp2
        go_round
        case rel =>
          have h1 := HMl.out
          refine ⟨l, m - 1, by omega, by omega, by rw [HA.out], ?_, HL, ?_⟩
          · have := HM.out; congr 1; omega
          · intro _; have := HLe.out; rw [show m - 1 + 1 = m from by omega]; omega
        case measure => have := HA.out; have := HC.out; have := HM.out; have := HMl.out; have := HLt.out; simp [intOf]; omega
    · have hlhe : l = h := by omega
      subst hlhe
      have HF := Lib.hid (fun w => symLen_any l w (by omega))
      have hle := HL.out
      have hnlt : ¬ ((257 + l : Nat) : Int) < ((257 + l : Nat) : Int) := by omega
      obtain ⟨A, hA⟩ : ∃ A, A = 257 + l := ⟨_, rfl⟩
      rw [← hA] at HF ⊢
      have HA := Lib.hid hA
      obtain ⟨r, hr⟩ : ∃ r, r = n - lb l := ⟨_, rfl⟩
      have hsub : (n : Int) - ((lb l : Nat) : Int) = r := by omega
      have hr2 : r ≤ 257 := by omega
      have hwr : IntKind.u32.wrap (r : Int) = r := by rw [IntKind.wrap_u32']; omega
      have HRr := Lib.hid hr
      have hbl : lb l ≤ 257 := by omega
      clear hA hr hnlt hlt
      obtain ⟨bl, hbe⟩ : ∃ bl, bl = lb l := ⟨_, rfl⟩
      obtain ⟨el, hee⟩ : ∃ el, el = le4 l := ⟨_, rfl⟩
      rw [← hbe] at HF hsub hle hbl
      rw [← hee] at HF
      have HBe := Lib.hid hbe; have HEe := Lib.hid hee
      clear hbe hee
      go_wp2_with fail
      refine (HF.out _).mono ?_
      rintro e w' ⟨rfl, rfl⟩
      go_wp2
      go_ret3
      exact ⟨l, hh, HL.out, HH.out, by rw [← HRr.out, ← HEe.out, ← HA.out]; rfl, rfl⟩
set_option maxHeartbeats 2000000 in
theorem lastDist_any (n : Nat) (w : World) (hn : 1 ≤ n) (hn2 : n ≤ 32768) :
    Calls Tryz.prog 136 #[.int .i64 n, .int .i64 0, .int .i64 29, .func (.func 122) #[] #[]] w (LastP 0 29 db de n w) := by
  go_enter Tryz.func136, Tryz.ntmps136
  go_wp2
  go_loop [1, 2] (fun a b => ∃ l h : Nat, l ≤ h ∧ h ≤ 29 ∧ a = .int .i64 (0 + l : Nat) ∧ b = .int .i64 (0 + h : Nat) ∧ Hid (db l ≤ n) ∧ Hid (h < 29 → n < db (h + 1))) (fun a b => (intOf b).toNat - (intOf a).toNat)
  case atStart => exact ⟨0, 29, by omega, by omega, rfl, rfl, (by rw [db0]; exact hn : db 0 ≤ n), (fun h => absurd h (by omega) : 29 < 29 → n < db (29 + 1))⟩
  case round =>
    obtain ⟨l, h, hlh, hh, rfl, rfl, HL, HH⟩ := hrel
    by_cases hlt : l < h
    · obtain ⟨m, hm⟩ : ∃ m, m = (l + h + 1) / 2 := ⟨_, rfl⟩
      have hmid : (((0 + l : Nat) : Int) + ((0 + h : Nat) : Int) + 1) / 2 = ((0 + m : Nat) : Int) := by omega
      have hlti : ((0 + l : Nat) : Int) < ((0 + h : Nat) : Int) := by omega
      have hml : l < m ∧ m ≤ h := by omega
      obtain ⟨A, hA⟩ : ∃ A, A = 0 + l := ⟨_, rfl⟩
      obtain ⟨C, hC⟩ : ∃ C, C = 0 + h := ⟨_, rfl⟩
      obtain ⟨M, hM⟩ : ∃ M, M = 0 + m := ⟨_, rfl⟩
      rw [← hA, ← hC, ← hM] at hmid
      rw [← hA, ← hC] at hlti ⊢
      have hAb : A ≤ 1000 := by omega
      have hCb : C ≤ 1000 := by omega
      have hMb : 1 ≤ M ∧ M ≤ 1000 := by omega
      have HF := Lib.hid (fun w => symDistZ m w (by omega))
      rw [← hM] at HF
      have HA := Lib.hid hA; have HC := Lib.hid hC; have HM := Lib.hid hM; have HMl := Lib.hid hml; have HLt := Lib.hid hlt
      clear hm hA hC hM hml
      by_cases hle : db m ≤ n
      · have hlei : ((db m : Nat) : Int) ≤ (n : Int) := by omega
        have HLe := Lib.hid hle
        clear hle
        generalize db m = bm at HF hlei
        generalize de m = em at HF
        go_wp2_with fail
        refine (HF.out _).mono ?_
        rintro e w' ⟨rfl, rfl⟩
        go_wp2
        go_round
        case rel => exact ⟨m, h, HMl.out.2, hh, by rw [HM.out], by rw [HC.out], HLe.out, HH.out⟩
        case measure => have := HA.out; have := HC.out; have := HM.out; have := HMl.out; have := HLt.out; simp [intOf]; omega
      · have hlei : ¬ ((db m : Nat) : Int) ≤ (n : Int) := by omega
        have HLe := Lib.hid hle
        clear hle
        generalize db m = bm at HF hlei
        generalize de m = em at HF
        go_wp2_with fail
        refine (HF.out _).mono ?_
        rintro e w' ⟨rfl, rfl⟩
        go_wp2
        go_round
        case rel =>
          have h1 := HMl.out
          refine ⟨l, m - 1, by omega, by omega, by rw [HA.out], ?_, HL, ?_⟩
          · have := HM.out; congr 1; omega
          · intro _; have := HLe.out; rw [show m - 1 + 1 = m from by omega]; omega
        case measure => have := HA.out; have := HC.out; have := HM.out; have := HMl.out; have := HLt.out; simp [intOf]; omega
    · have hlhe : l = h := by omega
      subst hlhe
      have HF := Lib.hid (fun w => symDistZ l w (by omega))
      have hle := HL.out
      have hnlt : ¬ ((0 + l : Nat) : Int) < ((0 + l : Nat) : Int) := by omega
      obtain ⟨A, hA⟩ : ∃ A, A = 0 + l := ⟨_, rfl⟩
      rw [← hA] at HF ⊢
      have HA := Lib.hid hA
      obtain ⟨r, hr⟩ : ∃ r, r = n - db l := ⟨_, rfl⟩
      have hsub : (n : Int) - ((db l : Nat) : Int) = r := by omega
      have hr2 : r ≤ 32768 := by omega
      have hwr : IntKind.u32.wrap (r : Int) = r := by rw [IntKind.wrap_u32']; omega
      have HRr := Lib.hid hr
      have hbl : db l ≤ 32768 := by omega
      clear hA hr hnlt hlt
      obtain ⟨bl, hbe⟩ : ∃ bl, bl = db l := ⟨_, rfl⟩
      obtain ⟨el, hee⟩ : ∃ el, el = de l := ⟨_, rfl⟩
      rw [← hbe] at HF hsub hle hbl
      rw [← hee] at HF
      have HBe := Lib.hid hbe; have HEe := Lib.hid hee
      clear hbe hee
      go_wp2_with fail
      refine (HF.out _).mono ?_
      rintro e w' ⟨rfl, rfl⟩
      go_wp2
      go_ret3
      exact ⟨l, hh, HL.out, HH.out, by rw [← HRr.out, ← HEe.out, ← HA.out]; rfl, rfl⟩
end Go.Proofs.YtfmjfgmbjdhogaaGreatDoor

namespace Go.Proofs.YtfmjfgmbjdhogaaGreatDoor
open Go.RowKit
set_option linter.unusedVariables false
set_option linter.unusedSimpArgs false

theorem lenSym_last (w : World) : Calls Tryz.prog 102 #[.int .i64 258] w fun e w' => e = .returned (.tuple #[.int .i64 285, .int .i64 0, .int .u32 0]) ∧ w = w' := by
  go_enter Tryz.func102, Tryz.ntmps102
  go_wp2
  go_ret3
  exact ⟨rfl, rfl⟩
theorem lenSym_any (i v n : Nat) (w : World) (hi : i < 28) (hv : v < 2 ^ le4 i) (hn : n = lb i + v) (hn2 : n ≤ 257) :
    Calls Tryz.prog 102 #[.int .i64 n] w fun e w' => e = .returned (.tuple #[.int .i64 (257 + i : Nat), .int .i64 (le4 i : Nat), .int .u32 v]) ∧ w = w' := by
  have hn3 : 3 ≤ n := by have := (lb_top i hi).2.2.1; omega
  have h1 : ¬ (n : Int) < 3 := by omega
  have h2 : ¬ (258 : Int) < n := by omega
  have h3 : ((n : Int) == 258) = false := by simp; omega
  have HG : Hid (∀ w, Calls Tryz.prog 136 #[.int .i64 n, .int .i64 257, .int .i64 284, .func (.func 121) #[] #[]] w fun e w' => e = .returned (.tuple #[.int .i64 (257 + i : Nat), .int .i64 (le4 i : Nat), .int .u32 v]) ∧ w = w') := fun w => by
    refine (lastLen_any n w hn3 hn2).mono ?_
    rintro e w' ⟨l, hl, hb1, hb2, rfl, rfl⟩
    have := lb_only i l v hi (by omega) hv (by omega) (by intro h; have := hb2 h; omega)
    subst this
    rw [show n - lb l = v from by omega]
    exact ⟨rfl, rfl⟩
  clear hn hn3 hv hn2
  go_enter Tryz.func102, Tryz.ntmps102
  go_wp2_with fail
  refine (HG.out _).mono ?_
  rintro e w' ⟨rfl, rfl⟩
  go_wp2
  go_ret3
  exact ⟨rfl, rfl⟩
theorem distSym_any (i v n : Nat) (w : World) (hi : i < 30) (hv : v < 2 ^ de i) (hn : n = db i + v) :
    Calls Tryz.prog 103 #[.int .i64 n] w fun e w' => e = .returned (.tuple #[.int .i64 i, .int .i64 (de i : Nat), .int .u32 v]) ∧ w = w' := by
  have ht := db_top i hi
  have h1 : ¬ (n : Int) < 1 := by omega
  have h2 : ¬ (32768 : Int) < n := by omega
  have HG : Hid (∀ w, Calls Tryz.prog 136 #[.int .i64 n, .int .i64 0, .int .i64 29, .func (.func 122) #[] #[]] w fun e w' => e = .returned (.tuple #[.int .i64 i, .int .i64 (de i : Nat), .int .u32 v]) ∧ w = w') := fun w => by
    refine (lastDist_any n w (by omega) (by omega)).mono ?_
    rintro e w' ⟨l, hl, hb1, hb2, rfl, rfl⟩
    have := db_only i l v hi (by omega) hv (by omega) (by intro h; have := hb2 h; omega)
    subst this
    rw [show n - db l = v from by omega, Nat.zero_add]
    exact ⟨rfl, rfl⟩
  clear hn ht hv
  go_enter Tryz.func103, Tryz.ntmps103
  go_wp2_with fail
  refine (HG.out _).mono ?_
  rintro e w' ⟨rfl, rfl⟩
  go_wp2
  go_ret3
  exact ⟨rfl, rfl⟩
end Go.Proofs.YtfmjfgmbjdhogaaGreatDoor

namespace Go.Proofs.YtfmjfgmbjdhogaaGreatDoor
open Go.RowKit
set_option linter.unusedVariables false
set_option linter.unusedSimpArgs false

end Go.Proofs.YtfmjfgmbjdhogaaGreatDoor

namespace Go.Proofs.YtfmjfgmbjdhogaaGreatDoor
open Go.RowKit
set_option linter.unusedVariables false
set_option linter.unusedSimpArgs false

/-- Each of a row of tokens may be put behind those ahead of it. -/
def good (most : Int) : List Tk → List Int → Prop
  | [], _ => True
  | t :: r, bs => t.no bs.length most = 0 ∧ good most r (t.put bs)
def putAll (ts : List Tk) (bs : List Int) : List Int := ts.foldl (fun b t => t.put b) bs
theorem putAll_snoc (ts : List Tk) (t : Tk) (bs : List Int) : putAll (ts ++ [t]) bs = t.put (putAll ts bs) := by unfold putAll; rw [List.foldl_append]; rfl
theorem putAll_succ (ts : List Tk) (bs : List Int) (j : Nat) (hj : j < ts.length) : putAll (ts.take (j + 1)) bs = (ts.getD j ⟨0, 0, 0⟩).put (putAll (ts.take j) bs) := by
  rw [List.take_succ_eq_append_getElem hj, putAll_snoc]; simp [List.getD, hj]
theorem copyN_pre (D k : Nat) (bs : List Int) : bs <+: copyN D k bs := by
  induction k with
  | zero => exact List.prefix_refl _
  | succ k ih => exact ih.trans (List.prefix_append _ _)
theorem put_pre (t : Tk) (bs : List Int) : bs <+: t.put bs := by
  unfold Tk.put
  split
  · exact List.prefix_append _ _
  · exact copyN_pre _ _ _
theorem putAll_pre (ts : List Tk) (bs : List Int) : bs <+: putAll ts bs := by
  induction ts generalizing bs with
  | nil => exact List.prefix_refl _
  | cons t r ih => exact (put_pre t bs).trans (ih (t.put bs))
theorem putAll_take_pre (ts : List Tk) (k : Nat) (bs : List Int) : putAll (ts.take k) bs <+: putAll ts bs := by
  have : putAll ts bs = putAll (ts.drop k) (putAll (ts.take k) bs) := by unfold putAll; rw [← List.foldl_append, List.take_append_drop]
  rw [this]; exact putAll_pre _ _
end Go.Proofs.YtfmjfgmbjdhogaaGreatDoor
