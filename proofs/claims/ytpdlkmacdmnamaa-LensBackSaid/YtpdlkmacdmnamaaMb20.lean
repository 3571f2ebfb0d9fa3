/-
  canon.Write: the codes of places, one behind the other, or nothing.
  Runs that tell lengths. No Go in sight.
  How a head is read, on paper: the counts, the code of lengths, the row of lengths, one behind the other.
  lens.readRow: a row of lengths, read by the code of lengths.
-/
import Derived.Test.YtpdlkmacdmnamaaMb19
namespace Go.Proofs.Ytpdlkmacdmnamaa
open Go.RowKit
set_option linter.unusedVariables false
set_option linter.unusedSimpArgs false

/-- Numbers of so many bits, one behind the other, the first one lowest. -/
def putsN : List (Nat × Nat) → Nat
  | [] => 0
  | (x, n) :: r => x + putsN r * 2 ^ n
def wdN : List (Nat × Nat) → Nat
  | [] => 0
  | (_, n) :: r => n + wdN r
theorem wdN_append : ∀ a b, wdN (a ++ b) = wdN a + wdN b
  | [], b => by simp [wdN]
  | (x, n) :: r, b => by rw [List.cons_append, wdN, wdN, wdN_append r b]; omega
theorem putsN_append : ∀ a b, putsN (a ++ b) = putsN a + putsN b * 2 ^ wdN a
  | [], b => by simp [putsN, wdN]
  | (x, n) :: r, b => by
    rw [List.cons_append, putsN, putsN, wdN, putsN_append r b, Nat.add_mul, Nat.pow_add, Nat.add_assoc]
    congr 2
    rw [Nat.mul_assoc, Nat.mul_comm (2 ^ wdN r) (2 ^ n)]
theorem putsN_lt : ∀ a, (∀ y ∈ a, y.1 < 2 ^ y.2) → putsN a < 2 ^ wdN a
  | [], _ => by simp [putsN, wdN]
  | (x, n) :: r, h => by
    have h1 : x < 2 ^ n := h (x, n) (List.mem_cons_self ..)
    have h2 := putsN_lt r (fun y hy => h y (List.mem_cons_of_mem _ hy))
    rw [putsN, wdN, Nat.pow_add]
    have h3 : putsN r + 1 ≤ 2 ^ wdN r := h2
    have h4 := Nat.mul_le_mul_right (2 ^ n) h3
    rw [Nat.add_mul, Nat.one_mul, Nat.mul_comm (2 ^ wdN r)] at h4
    omega
/-- What is left of numbers behind the first k. -/
theorem putsN_drop : ∀ (a : List (Nat × Nat)) (k : Nat), (∀ y ∈ a, y.1 < 2 ^ y.2) → putsN a / 2 ^ wdN (a.take k) = putsN (a.drop k)
  | a, 0, _ => by simp [wdN]
  | [], k + 1, _ => by simp [putsN, wdN]
  | (x, n) :: r, k + 1, h => by
    have h1 : x < 2 ^ n := h (x, n) (List.mem_cons_self ..)
    rw [List.take_succ_cons, List.drop_succ_cons, wdN, putsN, Nat.pow_add, ← Nat.div_div_eq_div_mul, Nat.add_mul_div_right _ _ (Nat.two_pow_pos n), Nat.div_eq_of_lt h1, Nat.zero_add]
    exact putsN_drop r k (fun y hy => h y (List.mem_cons_of_mem _ hy))
/-- What a place is written as. -/
def wordZ (ls : List Int) (z : Int) : Nat × Nat := (revN (ls.getD z.toNat 0).toNat (codeAt ls z.toNat).toNat, (ls.getD z.toNat 0).toNat)
def wordsL (ls syms : List Int) : List (Nat × Nat) := syms.map (wordZ ls)
theorem wordZ_lt (ls : List Int) (z : Int) : (wordZ ls z).1 < 2 ^ (wordZ ls z).2 := revN_lt _ _
theorem wordsL_lt (ls syms : List Int) : ∀ y ∈ wordsL ls syms, y.1 < 2 ^ y.2 := by
  intro y hy
  obtain ⟨z, _, rfl⟩ := List.mem_map.1 hy
  exact wordZ_lt ls z
/-- A place that has a code. -/
def HasC (ls : List Int) (z : Int) : Prop := ∃ k : Nat, z = (k : Int) ∧ k < ls.length ∧ 0 < ls.getD k 0
theorem wdN_le (ls : List Int) (hs : Small 15 ls) : ∀ syms : List Int, (∀ z ∈ syms, HasC ls z) → wdN (wordsL ls syms) ≤ 15 * syms.length
  | [], _ => by simp [wordsL, wdN]
  | z :: r, h => by
    have ih := wdN_le ls hs r (fun y hy => h y (List.mem_cons_of_mem _ hy))
    obtain ⟨k, rfl, hk, h0⟩ := h z (List.mem_cons_self ..)
    have hb := hs.getD k hk
    show (ls.getD (k : Int).toNat 0).toNat + wdN (wordsL ls r) ≤ _
    rw [Int.toNat_natCast, List.length_cons]
    omega

set_option maxHeartbeats 1000000 in
theorem code_calls (w : World) (R : Nat) (ao : Option Addr) (cap : Nat) (bs : List Int) (s v n : Nat) (h : Wtr w R ao cap bs s) (hv : v < 4294967296) (h1 : 1 ≤ n) (hn : n ≤ 32) (hs : s ≤ 900000000000) :
    Calls Try.prog 51 #[.pointer (some ⟨R, 0, none⟩), .int .u32 v, .int .i64 n] w (PutP w R (.slice ao bs.length cap) bs s (revN n v) n) := by
  have H := Lib.hid h; clear h
  have hlt := revN_lt n v
  have hle := Nat.pow_le_pow_right (n := 2) (by decide) hn
  have h32 : (2 : Nat) ^ 32 = 4294967296 := by decide
  have HP := Lib.hid (put_any w R ao cap bs s (revN n v) n H.out (by omega) hn hs)
  rw [Nat.mod_eq_of_lt hlt] at HP
  have HRv := Lib.hid (rev_any v n w hv hn h1)
  clear hlt hle h32
  go_enter Try.func51, Try.ntmps51
  go_wp2_with fail
  refine HRv.out.mono ?_
  rintro e w1 ⟨rfl, rfl⟩
  go_wp2_with fail
  refine HP.out.mono ?_
  rintro e w2 ⟨ao', cap', bs', rfl, hp⟩
  have HP2 := Lib.hid hp; clear hp
  go_wp2
  go_ret
  exact ⟨ao', cap', bs', rfl, HP2.out⟩

theorem Kept.transO {S T : Nat → Prop} {a b c : World} (h : Kept S a b) (k : Kept T b c) (hs : ∀ i, i < a.heap.size → T i → S i) : Kept S a c :=
  ⟨k.os.trans h.os, k.tape.trans h.tape, k.output.trans h.output, Nat.le_trans h.size k.size, fun i hi hn => (k.block i (Nat.lt_of_lt_of_le hi h.size) (fun t => hn (hs i hi t))).trans (h.block i hi hn)⟩
/-- What Write leaves. -/
def WroteP (w : World) (R : Nat) (v0 : Value) (bs : List Int) (s : Nat) (ps : List (Nat × Nat)) (w' : World) (ao' : Option Addr) (cap' : Nat) (bs' : List Int) : Prop :=
  Wtr w' R ao' cap' bs' (s + wdN ps) ∧ num bs' = num bs + putsN ps * 2 ^ s ∧ Kept (OrB (OneB R) (OwnB v0)) w w' ∧ (∀ k, (Value.slice ao' bs'.length cap').ownBlock = some k → v0.ownBlock = some k ∨ w.heap.size ≤ k)

end Go.Proofs.Ytpdlkmacdmnamaa

namespace Go.Proofs.Ytpdlkmacdmnamaa
set_option linter.unusedVariables false

/-- Runs that tell d more of v. -/
def Told (v : Int) (d : Nat) (rs : List (Int × Int)) : Prop :=
  ∀ (N : Int) (p : List Int) (rest : List (Int × Int)), (p.length : Int) ≤ N → runAll N p (rs ++ rest) = if ((p.length + d : Nat) : Int) ≤ N then runAll N (p ++ List.replicate d v) rest else none
theorem Told.nil (v : Int) : Told v 0 [] := fun N p rest h => by
  rw [List.nil_append, if_pos (by simpa using h), List.replicate_zero, List.append_nil]
/-- A run more. -/
theorem Told.step {v : Int} {d k : Nat} {rs : List (Int × Int)} {s x : Int} (h : Told v d rs) (hok : ∀ p : List Int, okRun (p ++ List.replicate d v) s x) (hv : ∀ p : List Int, valS (p ++ List.replicate d v) s = v) (hk : k = spanL s + x.toNat) : Told v (d + k) (rs ++ [(s, x)]) := by
  intro N p rest hp
  rw [List.append_assoc, h N p _ hp]
  have hm : moreL (p ++ List.replicate d v) s x = p ++ List.replicate (d + k) v := by
    unfold moreL
    rw [hv p, ← hk, List.append_assoc, List.replicate_append_replicate]
  have hl : (p ++ List.replicate (d + k) v).length = p.length + (d + k) := by simp
  by_cases h1 : ((p.length + d : Nat) : Int) ≤ N
  · rw [if_pos h1]
    show runAll N (p ++ List.replicate d v) ((s, x) :: rest) = _
    rw [runAll, hm, hl]
    by_cases h2 : ((p.length + (d + k) : Nat) : Int) ≤ N
    · rw [if_pos ⟨hok p, h2⟩, if_pos h2]
    · rw [if_neg (fun h => h2 h.2), if_neg h2]
  · rw [if_neg h1, if_neg (by omega)]
theorem rep_last (p : List Int) (d : Nat) (v : Int) (hd : 1 ≤ d) : (p ++ List.replicate d v).getD ((p ++ List.replicate d v).length - 1) 0 = v := by
  have hl : (p ++ List.replicate d v).length = p.length + d := by simp
  rw [hl, List.getD, List.getElem?_append_right (by omega), List.getElem?_replicate, if_pos (by omega)]
  rfl
theorem Told.again {v : Int} {d m : Nat} {rs : List (Int × Int)} (h : Told v d rs) (hd : 1 ≤ d) (hm : m ≤ 3) : Told v (d + (3 + m)) (rs ++ [(16, (m : Int))]) := by
  refine h.step (fun p => ⟨by decide, by decide, by omega, ?_, fun _ he => ?_⟩) (fun p => ?_) ?_
  · show (m : Int) ≤ 3; omega
  · have := congrArg List.length he; simp at this; omega
  · show (if (16 : Int) = 16 then _ else _) = v
    rw [if_pos rfl]
    exact rep_last p d v hd
  · show 3 + m = 3 + (m : Int).toNat; omega
theorem Told.one {v : Int} {d : Nat} {rs : List (Int × Int)} (h : Told v d rs) (hv : 0 ≤ v ∧ v ≤ 15) : Told v (d + 1) (rs ++ [(v, 0)]) := by
  have e1 : spanL v = 1 := by unfold spanL; rw [if_neg (by omega), if_neg (by omega), if_neg (by omega)]
  have e2 : spanM v = 0 := by unfold spanM; rw [if_neg (by omega), if_neg (by omega), if_neg (by omega)]
  refine h.step (fun p => ⟨hv.1, by omega, by omega, by rw [e2]; omega, fun he => by omega⟩) (fun p => ?_) (by rw [e1]; rfl)
  unfold valS
  rw [if_neg (by omega), if_neg (by omega)]
theorem Told.few {d m : Nat} {rs : List (Int × Int)} (h : Told 0 d rs) (hm : m ≤ 7) : Told 0 (d + (3 + m)) (rs ++ [(17, (m : Int))]) := by
  refine h.step (fun p => ⟨by decide, by decide, by omega, ?_, fun he => by omega⟩) (fun p => rfl) ?_
  · show (m : Int) ≤ 7; omega
  · show 3 + m = 3 + (m : Int).toNat; omega
theorem Told.many {d m : Nat} {rs : List (Int × Int)} (h : Told 0 d rs) (hm : m ≤ 127) : Told 0 (d + (11 + m)) (rs ++ [(18, (m : Int))]) := by
  refine h.step (fun p => ⟨by decide, by decide, by omega, ?_, fun he => by omega⟩) (fun p => rfl) ?_
  · show (m : Int) ≤ 127; omega
  · show 11 + m = 11 + (m : Int).toNat; omega
/-- Runs that tell the first of l. -/
def Tells (l : List Int) (rs : List (Int × Int)) : Prop :=
  ∀ (N : Int) (rest : List (Int × Int)), 0 ≤ N → runAll N [] (rs ++ rest) = if (l.length : Int) ≤ N then runAll N l rest else none
theorem Tells.nil : Tells [] [] := fun N rest h => by rw [List.nil_append, if_pos (by simpa using h)]
theorem Tells.more {l : List Int} {rs rs' : List (Int × Int)} {v : Int} {d : Nat} (h : Tells l rs) (h' : Told v d rs') : Tells (l ++ List.replicate d v) (rs ++ rs') := by
  intro N rest hN
  rw [List.append_assoc, h N _ hN]
  have hl : (l ++ List.replicate d v).length = l.length + d := by simp
  by_cases h1 : (l.length : Int) ≤ N
  · rw [if_pos h1, h' N l rest h1, hl]
  · rw [if_neg h1, if_neg (by rw [hl]; omega)]
/-- What Flat tells of them. -/
theorem Tells.flat {l : List Int} {rs : List (Int × Int)} (h : Tells l rs) (n : Int) (hn : 0 ≤ n ∧ n ≤ 320) : flatS n rs = if (l.length : Int) = n then (l, 0) else ([], 6) := by
  have hf : flatS n rs = match runAll n [] rs with | some l => if (l.length : Int) = n then (l, 0) else ([], 6) | none => ([], 6) := if_neg (by omega)
  have hr := h n [] hn.1
  rw [List.append_nil] at hr
  rw [hf, hr]
  by_cases h1 : (l.length : Int) ≤ n
  · rw [if_pos h1]; rfl
  · rw [if_neg h1, if_neg (by omega)]
theorem flat_out (n : Int) (rs : List (Int × Int)) (h : n < 0 ∨ 320 < n) : flatS n rs = ([], 1) := if_pos h
end Go.Proofs.Ytpdlkmacdmnamaa

namespace Go.Proofs.Ytpdlkmacdmnamaa
open Go.RowKit
set_option linter.unusedVariables false
set_option linter.unusedSimpArgs false

/-- A row of lengths read by the code of lengths, from bit p on, behind l. -/
inductive RowR (code bs : List Int) (N : Nat) : Nat → List Int → Nat → List Int → Int → Prop
  | done {p : Nat} {l : List Int} : N ≤ l.length → RowR code bs N p l p l 0
  | fail {p T q : Nat} {l : List Int} {s f : Int} : l.length < N → min3 15 (8 * bs.length - p) = T → ReadS code T (bitsAt bs p T) p s f q → f ≠ 0 → RowR code bs N p l p [] f
  | short {p T q : Nat} {l : List Int} {s : Int} : l.length < N → min3 15 (8 * bs.length - p) = T → ReadS code T (bitsAt bs p T) p s 0 q → 8 * bs.length < q + spanB s → RowR code bs N p l p [] 2
  | bad {p T q : Nat} {l : List Int} {s : Int} : l.length < N → min3 15 (8 * bs.length - p) = T → ReadS code T (bitsAt bs p T) p s 0 q → q + spanB s ≤ 8 * bs.length →
      ¬ (okRun l s (bitsAt bs q (spanB s) : Nat) ∧ ((moreL l s (bitsAt bs q (spanB s) : Nat)).length : Int) ≤ N) → RowR code bs N p l p [] 6
  | step {p T q p' : Nat} {l l' : List Int} {s e : Int} : l.length < N → min3 15 (8 * bs.length - p) = T → ReadS code T (bitsAt bs p T) p s 0 q → q + spanB s ≤ 8 * bs.length →
      okRun l s (bitsAt bs q (spanB s) : Nat) → ((moreL l s (bitsAt bs q (spanB s) : Nat)).length : Int) ≤ N → RowR code bs N (q + spanB s) (moreL l s (bitsAt bs q (spanB s) : Nat)) p' l' e → RowR code bs N p l p' l' e
theorem RowR.to {code bs : List Int} {N p1 p2 : Nat} {l1 l2 : List Int} {e1 e2 : Int} {p p' : Nat} (hp : p = p') {l l' : List Int} (hl : l = l') (h : RowR code bs N p l p1 l1 e1) : RowR code bs N p' l' p1 l1 e1 := by subst hp; subst hl; exact h
theorem RowR.det {code bs : List Int} {N : Nat} (hl : code.length ≤ 320) (hs : Small 15 code) {p : Nat} {l : List Int} {p1 p2 : Nat} {l1 l2 : List Int} {e1 e2 : Int} (h1 : RowR code bs N p l p1 l1 e1) (h2 : RowR code bs N p l p2 l2 e2) : p1 = p2 ∧ l1 = l2 ∧ e1 = e2 := by
  induction h1 with
  | done ha =>
    cases h2 with
    | done hb => exact ⟨rfl, rfl, rfl⟩
    | fail hb => omega
    | short hb => omega
    | bad hb => omega
    | step hb => omega
  | fail ha hT hR hf =>
    cases h2 with
    | done hb => omega
    | fail hb hT2 hR2 hf2 =>
      rw [hT] at hT2; cases (Int.ofNat.inj hT2)
      obtain ⟨_, e, _⟩ := read_det code hl hs _ _ _ _ _ _ _ _ _ hR hR2
      exact ⟨rfl, rfl, e⟩
    | short hb hT2 hR2 =>
      rw [hT] at hT2; cases (Int.ofNat.inj hT2)
      obtain ⟨_, e, _⟩ := read_det code hl hs _ _ _ _ _ _ _ _ _ hR hR2
      exact absurd e hf
    | bad hb hT2 hR2 =>
      rw [hT] at hT2; cases (Int.ofNat.inj hT2)
      obtain ⟨_, e, _⟩ := read_det code hl hs _ _ _ _ _ _ _ _ _ hR hR2
      exact absurd e hf
    | step hb hT2 hR2 =>
      rw [hT] at hT2; cases (Int.ofNat.inj hT2)
      obtain ⟨_, e, _⟩ := read_det code hl hs _ _ _ _ _ _ _ _ _ hR hR2
      exact absurd e hf
  | short ha hT hR hq =>
    cases h2 with
    | done hb => omega
    | fail hb hT2 hR2 hf2 =>
      rw [hT] at hT2; cases (Int.ofNat.inj hT2)
      obtain ⟨_, e, _⟩ := read_det code hl hs _ _ _ _ _ _ _ _ _ hR hR2
      exact absurd e.symm hf2
    | short hb hT2 hR2 => exact ⟨rfl, rfl, rfl⟩
    | bad hb hT2 hR2 hq2 =>
      rw [hT] at hT2; cases (Int.ofNat.inj hT2)
      obtain ⟨rfl, _, rfl⟩ := read_det code hl hs _ _ _ _ _ _ _ _ _ hR hR2
      omega
    | step hb hT2 hR2 hq2 =>
      rw [hT] at hT2; cases (Int.ofNat.inj hT2)
      obtain ⟨rfl, _, rfl⟩ := read_det code hl hs _ _ _ _ _ _ _ _ _ hR hR2
      omega
  | bad ha hT hR hq hno =>
    cases h2 with
    | done hb => omega
    | fail hb hT2 hR2 hf2 =>
      rw [hT] at hT2; cases (Int.ofNat.inj hT2)
      obtain ⟨_, e, _⟩ := read_det code hl hs _ _ _ _ _ _ _ _ _ hR hR2
      exact absurd e.symm hf2
    | short hb hT2 hR2 hq2 =>
      rw [hT] at hT2; cases (Int.ofNat.inj hT2)
      obtain ⟨rfl, _, rfl⟩ := read_det code hl hs _ _ _ _ _ _ _ _ _ hR hR2
      omega
    | bad hb hT2 hR2 hq2 => exact ⟨rfl, rfl, rfl⟩
    | step hb hT2 hR2 hq2 hok hfit =>
      rw [hT] at hT2; cases (Int.ofNat.inj hT2)
      obtain ⟨rfl, _, rfl⟩ := read_det code hl hs _ _ _ _ _ _ _ _ _ hR hR2
      exact absurd ⟨hok, hfit⟩ hno
  | step ha hT hR hq hok hfit hrest ih =>
    cases h2 with
    | done hb => omega
    | fail hb hT2 hR2 hf2 =>
      rw [hT] at hT2; cases (Int.ofNat.inj hT2)
      obtain ⟨_, e, _⟩ := read_det code hl hs _ _ _ _ _ _ _ _ _ hR hR2
      exact absurd e.symm hf2
    | short hb hT2 hR2 hq2 =>
      rw [hT] at hT2; cases (Int.ofNat.inj hT2)
      obtain ⟨rfl, _, rfl⟩ := read_det code hl hs _ _ _ _ _ _ _ _ _ hR hR2
      omega
    | bad hb hT2 hR2 hq2 hno =>
      rw [hT] at hT2; cases (Int.ofNat.inj hT2)
      obtain ⟨rfl, _, rfl⟩ := read_det code hl hs _ _ _ _ _ _ _ _ _ hR hR2
      exact absurd ⟨hok, hfit⟩ hno
    | step hb hT2 hR2 hq2 hok2 hfit2 hrest2 =>
      rw [hT] at hT2; cases (Int.ofNat.inj hT2)
      obtain ⟨rfl, _, rfl⟩ := read_det code hl hs _ _ _ _ _ _ _ _ _ hR hR2
      exact ih hrest2
/-- Where a row that is read ends: lengths, as many as were asked for, and the place within the bits. -/
theorem RowR.ok {code bs : List Int} {N : Nat} {p : Nat} {l : List Int} {p1 : Nat} {l1 : List Int} {e1 : Int} (h : RowR code bs N p l p1 l1 e1) (h0 : e1 = 0) (hl : (l.length : Int) ≤ N) (hs : Small 15 l) (hp : p ≤ 8 * bs.length) : l1.length = N ∧ Small 15 l1 ∧ p1 ≤ 8 * bs.length := by
  induction h with
  | done ha => exact ⟨by omega, hs, hp⟩
  | fail ha hT hR hf => exact absurd h0 hf
  | short => exact absurd h0 (by decide)
  | bad => exact absurd h0 (by decide)
  | step ha hT hR hq hok hfit hrest ih =>
    refine ih h0 hfit ?_ hq
    intro z hz
    unfold moreL at hz
    rcases List.mem_append.1 hz with h | h
    · exact hs z h
    · rw [List.eq_of_mem_replicate h]
      exact valS_lt _ hs _ ⟨hok.1, hok.2.1⟩
theorem RowR.err {code bs : List Int} {N : Nat} {p : Nat} {l : List Int} {p1 : Nat} {l1 : List Int} {e1 : Int} (h : RowR code bs N p l p1 l1 e1) (h0 : e1 ≠ 0) : l1 = [] := by
  induction h with
  | done ha => exact absurd rfl h0
  | fail ha hT hR hf => rfl
  | short => rfl
  | bad => rfl
  | step ha hT hR hq hok hfit hrest ih => exact ih h0
def ordL : List Int := [16, 17, 18, 0, 8, 7, 9, 6, 10, 5, 11, 4, 12, 3, 13, 2, 14, 1, 15]
/-- The code of lengths, of which n lengths are told from bit p on. -/
def codeT (bs : List Int) (p : Nat) : Nat → List Int
  | 0 => List.replicate 19 0
  | n + 1 => (codeT bs p n).set (ordL.getD n 0).toNat ((bitsAt bs (p + 3 * n) 3 : Nat) : Int)
theorem codeT_len (bs : List Int) (p : Nat) : ∀ n, (codeT bs p n).length = 19
  | 0 => by simp [codeT]
  | n + 1 => by rw [codeT, List.length_set, codeT_len bs p n]
theorem bitsAt_lt' (bs : List Int) (p k : Nat) : bitsAt bs p k < 2 ^ k := Nat.mod_lt _ (Nat.two_pow_pos k)
theorem codeT_small (bs : List Int) (p : Nat) : ∀ n, Small 7 (codeT bs p n)
  | 0 => fun z hz => by unfold codeT at hz; rw [List.eq_of_mem_replicate hz]; decide
  | n + 1 => fun z hz => by
    rw [codeT] at hz
    rcases List.mem_or_eq_of_mem_set hz with h | h
    · exact codeT_small bs p n z h
    · have := bitsAt_lt' bs (p + 3 * n) 3
      have e : (2 : Nat) ^ 3 = 8 := rfl
      rw [h]; omega
theorem small7_15 {Z : List Int} (h : Small 7 Z) : Small 15 Z := fun z hz => by have := h z hz; omega
/-- What Read tells of the bits from p on: the lengths, the error, the place behind. -/
def HeadR (bs : List Int) (p : Nat) (lit dist : List Int) (e : Int) (q : Nat) : Prop :=
  if 8 * bs.length < p + 14 then lit = [] ∧ dist = [] ∧ e = 2
  else if 29 < bitsAt bs p 5 ∨ 29 < bitsAt bs (p + 5) 5 then lit = [] ∧ dist = [] ∧ e = 6
  else if 8 * bs.length < p + 14 + 3 * (bitsAt bs (p + 10) 4 + 4) then lit = [] ∧ dist = [] ∧ e = 2
  else if fullB (codeT bs (p + 14) (bitsAt bs (p + 10) 4 + 4)) = false then lit = [] ∧ dist = [] ∧ e = 6
  else ∃ (row : List Int) (q' : Nat) (f : Int), RowR (codeT bs (p + 14) (bitsAt bs (p + 10) 4 + 4)) bs ((bitsAt bs p 5 + 257) + (bitsAt bs (p + 5) 5 + 1)) (p + 14 + 3 * (bitsAt bs (p + 10) 4 + 4)) [] q' row f ∧
    if f = 0 then if mayB (row.take (bitsAt bs p 5 + 257)) (row.drop (bitsAt bs p 5 + 257)) = true then lit = row.take (bitsAt bs p 5 + 257) ∧ dist = row.drop (bitsAt bs p 5 + 257) ∧ e = 0 ∧ q = q' else lit = [] ∧ dist = [] ∧ e = 6
    else lit = [] ∧ dist = [] ∧ e = f
theorem HeadR.det {bs : List Int} {p : Nat} {lit dist lit2 dist2 : List Int} {e e2 : Int} {q q2 : Nat} (h : HeadR bs p lit dist e q) (h2 : HeadR bs p lit2 dist2 e2 q2) : lit = lit2 ∧ dist = dist2 ∧ e = e2 ∧ (e = 0 → q = q2) := by
  unfold HeadR at h h2
  split at h
  · rename_i c
    rw [if_pos c] at h2
    obtain ⟨rfl, rfl, rfl⟩ := h; obtain ⟨rfl, rfl, rfl⟩ := h2
    exact ⟨rfl, rfl, rfl, fun h => absurd h (by decide)⟩
  · rename_i c
    rw [if_neg c] at h2
    split at h
    · rename_i c
      rw [if_pos c] at h2
      obtain ⟨rfl, rfl, rfl⟩ := h; obtain ⟨rfl, rfl, rfl⟩ := h2
      exact ⟨rfl, rfl, rfl, fun h => absurd h (by decide)⟩
    · rename_i c
      rw [if_neg c] at h2
      split at h
      · rename_i c
        rw [if_pos c] at h2
        obtain ⟨rfl, rfl, rfl⟩ := h; obtain ⟨rfl, rfl, rfl⟩ := h2
        exact ⟨rfl, rfl, rfl, fun h => absurd h (by decide)⟩
      · rename_i c
        rw [if_neg c] at h2
        split at h
        · rename_i c
          rw [if_pos c] at h2
          obtain ⟨rfl, rfl, rfl⟩ := h; obtain ⟨rfl, rfl, rfl⟩ := h2
          exact ⟨rfl, rfl, rfl, fun h => absurd h (by decide)⟩
        · rename_i c
          rw [if_neg c] at h2
          obtain ⟨row, q', f, hr, h⟩ := h
          obtain ⟨row2, q2', f2, hr2, h2⟩ := h2
          obtain ⟨rfl, rfl, rfl⟩ := hr.det (by rw [codeT_len]; omega) (small7_15 (codeT_small _ _ _)) hr2
          split at h
          · rename_i c
            rw [if_pos c] at h2
            split at h
            · rename_i c
              rw [if_pos c] at h2
              obtain ⟨rfl, rfl, rfl, rfl⟩ := h; obtain ⟨rfl, rfl, rfl, rfl⟩ := h2
              exact ⟨rfl, rfl, rfl, fun _ => rfl⟩
            · rename_i c
              rw [if_neg c] at h2
              obtain ⟨rfl, rfl, rfl⟩ := h; obtain ⟨rfl, rfl, rfl⟩ := h2
              exact ⟨rfl, rfl, rfl, fun h => absurd h (by decide)⟩
          · rename_i c
            rw [if_neg c] at h2
            obtain ⟨rfl, rfl, rfl⟩ := h; obtain ⟨rfl, rfl, rfl⟩ := h2
            exact ⟨rfl, rfl, rfl, fun h => absurd h c⟩
/-- The three counts, told at once. -/
theorem counts14 (bs : List Int) (p : Nat) : bitsAt bs p 14 % 32 = bitsAt bs p 5 ∧ bitsAt bs p 14 / 32 % 32 = bitsAt bs (p + 5) 5 ∧ bitsAt bs p 14 / 1024 = bitsAt bs (p + 10) 4 := by
  unfold bitsAt
  have e5 : (2 : Nat) ^ (p + 5) = 2 ^ p * 32 := by rw [Nat.pow_add]
  have e10 : (2 : Nat) ^ (p + 10) = 2 ^ p * 1024 := by rw [Nat.pow_add]
  have a : (2 : Nat) ^ 14 = 16384 := rfl
  have b : (2 : Nat) ^ 5 = 32 := rfl
  have c : (2 : Nat) ^ 4 = 16 := rfl
  rw [e5, e10, ← Nat.div_div_eq_div_mul, ← Nat.div_div_eq_div_mul, a, b, c]
  generalize num bs / 2 ^ p = x
  omega
end Go.Proofs.Ytpdlkmacdmnamaa

namespace Go.Proofs.Ytpdlkmacdmnamaa
open Go.RowKit
set_option linter.unusedVariables false
set_option linter.unusedSimpArgs false

theorem own_lt {w : World} {base e z n : Nat} {v : Value} {xs : List Value} (ho : w.ownsRow base e z v n xs) : ∀ k, v.ownBlock = some k → k < w.heap.size := by
  intro k hk
  rcases ho.2 with ⟨rfl, _⟩ | ⟨g, cap', cur, rfl, hbg, hg, _⟩
  · simp [Value.ownBlock] at hk
  · simp [Value.ownBlock] at hk
    exact hk ▸ obj_lt hg
theorem Kept.transP {S T : Nat → Prop} {a b c : World} (h : Kept S a b) (k : Kept T b c) (hs : ∀ i, i < a.heap.size → T i → S i) : Kept S a c :=
  ⟨k.os.trans h.os, k.tape.trans h.tape, k.output.trans h.output, Nat.le_trans h.size k.size, fun i hi hn => (k.block i (Nat.lt_of_lt_of_le hi h.size) (fun t => hn (hs i hi t))).trans (h.block i hi hn)⟩
theorem spanL_pos (s : Int) : 1 ≤ spanL s := by unfold spanL; split <;> (try split) <;> (try split) <;> decide
theorem spanB_le (s : Int) : spanB s ≤ 7 := by unfold spanB; split <;> (try split) <;> (try split) <;> decide
/-- What readRow tells: the row, where the reader is then. -/
def RowRP (code bs : List Int) (N p R : Nat) (ao : Option Addr) (cap : Nat) (w : World) (e : Ending) (w' : World) : Prop :=
  ∃ (a : Option Addr) (c : Nat) (l : List Int) (f : Int) (q q' : Nat), e = .returned (.tuple #[.slice a l.length c, .int .i64 f]) ∧ RowR code bs N p [] q l f ∧ Rdr w' R ao cap bs q' ∧ (f = 0 → q' = q) ∧ OwnI w' a c l ∧ Kept (OneB R) w w' ∧
    (∀ k, (Value.slice a l.length c).ownBlock = some k → w.heap.size ≤ k)
set_option maxRecDepth 20000 in
set_option maxHeartbeats 8000000 in
theorem readRow_any (code : List Int) (D R N : Nat) (S : Nat → Prop) (ao : Option Addr) (cap : Nat) (bs : List Int) (p : Nat) (w : World) (hd : DecG code D S w) (hr : Rdr w R ao cap bs p) (hSR : ¬ S R) (hSw : ∀ k, S k → k < w.heap.size) (hs : Small 15 code) (hl : code.length ≤ 320) (hN : N ≤ 400) :
    Calls Try.prog 31 #[.pointer (some ⟨R, 0, none⟩), .pointer (some ⟨D, 0, none⟩), .int .i64 (N : Int)] w (RowRP code bs N p R ao cap w) := by
  have HD := Lib.hid hd; have HR := Lib.hid hr; have HS := Lib.hid hs
  have hRw := obj_lt hr.1
  have hAw : ∀ k, (Value.slice ao bs.length cap).ownBlock = some k → k < w.heap.size := fun k hk => own_lt hr.2.1 k hk
  have HAw := Lib.hid hAw
  obtain ⟨L8, hL8⟩ : ∃ L8, L8 = 8 * bs.length := ⟨_, rfl⟩
  have HL8 := Lib.hid hL8
  clear hd hr hs hAw hL8
  go_enter Try.func31, Try.ntmps31
  go_wp2_with fail
  go_loopw [8, 9, 10, 11, 12, 13, 14] (fun v8 _ _ _ _ _ _ wr => ∃ (a : Option Addr) (c : Nat) (l : List Int) (p' : Nat), v8 = .slice a l.length c ∧ l.length ≤ N ∧ Hid (OwnI wr a c l) ∧ Hid (∀ k, (Value.slice a l.length c).ownBlock = some k → w.heap.size ≤ k) ∧ Hid (Rdr wr R ao cap bs p') ∧ Hid (Kept (OneB R) w wr) ∧
    Hid (∀ q l' f, RowR code bs N p' l q l' f → RowR code bs N p [] q l' f)) (fun v8 _ _ _ _ _ _ _ => match v8 with | .slice _ m _ => N - m | _ => 0)
  case atStart => exact ⟨none, 0, [], p, rfl, by simp, Lib.hid (World.ownsRow_nil _ _ _ _), Lib.hid (fun k hk => by simp [Value.ownBlock] at hk), HR, Lib.hid (Kept.refl _ _), Lib.hid (fun _ _ _ h => h)⟩
  case round =>
    obtain ⟨a, c, l, p', rfl, hlN, HO, HF, HRr, HK, HP⟩ := hrel
    by_cases hlt : (l.length : Int) < N
    · obtain ⟨T, hT⟩ : ∃ T : Nat, min3 15 (8 * bs.length - p') = T := by
        have := HRr.out.2.2.2.1
        obtain ⟨T, h, _⟩ := min3_at (8 * bs.length) p' this
        exact ⟨T, by simpa using h⟩
      have hrc := read_callsG code D S R ao cap bs p' T wr (HD.out.kept HK.out (fun k h e => hSR (by unfold OneB at e; exact e ▸ h))) HRr.out hSR HS.out hl hT
      have HRc := Lib.hid hrc; have HT := Lib.hid hT
      obtain ⟨m, hm⟩ : ∃ m, m = l.length := ⟨_, rfl⟩
      have HM := Lib.hid hm
      have hlN2 : l.length < N := by omega
      have HlN := Lib.hid hlN2
      rw [← hm] at hlt hlN HF ⊢
      clear hrc hT hm hlN2
      go_wp2_with fail
      with_reducible refine HRc.out.mono ?_
      rintro e w1 ⟨s, f, q, rfl, hrs, hr1, hk1⟩
      have hkw := HK.out.trans hk1
      have hst := hrs.step
      have hro : ∀ k, (Value.slice a m c).ownBlock = some k → ¬ OneB R k := fun k h e => by have := HF.out k h; unfold OneB at e; omega
      have hown1 : OwnI w1 a c l := hk1.row HO.out (by rw [← HM.out]; exact hro)
      have HRs := Lib.hid hrs; have HR1 := Lib.hid hr1; have HKw := Lib.hid hkw; have HO1 := Lib.hid hown1
      clear hrs hr1 hkw hro hown1 hk1 HRc HRr HO HK
      by_cases hf : f = 0
      · subst hf
        obtain ⟨x, hx⟩ : ∃ x, x = bitsAt bs q (spanB s) := ⟨_, rfl⟩
        have hx7 : x < 128 := by
          have h1 := bitsAt_lt bs q (spanB s)
          have h2 := Nat.pow_le_pow_right (n := 2) (by decide) (spanB_le s)
          rw [hx]; exact Nat.lt_of_lt_of_le h1 h2
        have HX := Lib.hid hx
        clear hx hst
        go_wp2_with fail
        with_reducible refine (span_any s _).mono ?_
        rintro e w2 ⟨rfl, rfl⟩
        by_cases hfit : q + spanB s ≤ 8 * bs.length
        · have htk := take_yes w1 R ao cap bs q (spanB s) HR1.out (by have := spanB_le s; omega) hfit
          rw [← HX.out] at htk
          have HTk := Lib.hid htk; have HFit := Lib.hid hfit
          clear htk hfit
          go_wp2_with fail
          with_reducible refine HTk.out.mono ?_
          rintro e w3 ⟨rfl, hr3, hk3⟩
          have hown3 : OwnI w3 a c l := hk3.row HO1.out (fun k h e => by have := HF.out k (by rw [HM.out]; exact h); unfold OneB at e; omega)
          have hex := extended_any a c l s (x : Int) (N : Int) w3 hown3 (by omega) (by have := HlN.out; omega)
          rw [← HM.out] at hex
          have HEx := Lib.hid hex; have HR3 := Lib.hid hr3; have HK3 := Lib.hid (HKw.out.trans hk3)
          have wx : IntKind.i64.wrap (x : Int) = (x : Int) := IntWalk.i64_in _ (by omega)
          clear hex hown3 hr3 hk3 HTk HR1 HKw HO1
          go_wp2_with fail
          with_reducible refine HEx.out.mono ?_
          rintro e w4 (⟨hok, hN4, a', c', rfl, hown4, hk4, hnew⟩ | ⟨hno, rfl, hk4⟩)
          · have hl4 := moreL_len l s (x : Int)
            have hsp := spanL_pos s
            have hb4 : ∀ k, (Value.slice a' (moreL l s (x : Int)).length c').ownBlock = some k → w.heap.size ≤ k := fun k h => by
              rcases hnew k h with h | h
              · exact HF.out k (by rw [HM.out]; exact h)
              · exact Nat.le_trans HK3.out.size h
            have hr4 : Rdr w4 R ao cap bs (q + spanB s) := HR3.out.kept hk4 (fun h => by have := HF.out R (by rw [HM.out]; exact h); omega) (fun k h e => by have := HAw.out k h; have := HF.out k (by rw [HM.out]; exact e); omega)
            have hk5 : Kept (OneB R) w w4 := HK3.out.transP hk4 (fun i hi h => by have := HF.out i (by rw [HM.out]; exact h); omega)
            have hp5 : ∀ q2 l' f, RowR code bs N (q + spanB s) (moreL l s (x : Int)) q2 l' f → RowR code bs N p [] q2 l' f := fun q2 l' f h => HP.out q2 l' f (.step HlN.out HT.out HRs.out HFit.out (by rw [← HX.out]; exact hok) (by rw [← HX.out]; exact hN4) (by rw [← HX.out]; exact h))
            obtain ⟨L, hL⟩ : ∃ L, L = moreL l s (x : Int) := ⟨_, rfl⟩
            rw [← hL] at hown4 hb4 hp5 hl4 hN4 ⊢
            have hml : m < L.length := by have := HM.out; omega
            have hml2 : L.length ≤ N := by omega
            obtain ⟨ml, hmm⟩ : ∃ ml, ml = L.length := ⟨_, rfl⟩
            have HMM := Lib.hid hmm
            rw [← hmm] at hml hml2 hb4 ⊢
            have HO4 := Lib.hid hown4; have HF4 := Lib.hid hb4; have HR4 := Lib.hid hr4; have HK4 := Lib.hid hk5; have HP4 := Lib.hid hp5
            clear hown4 hb4 hr4 hk5 hp5 hl4 hN4 hL hmm hok hnew hk4 hsp
            go_wp2
            go_roundw
            case rel => exact ⟨a', c', L, _, by rw [HMM.out], by rw [← HMM.out]; exact hml2, HO4, by rw [← HMM.out]; exact HF4, HR4, HK4, HP4⟩
            case measure => simp; omega
          · have HR4 := Lib.hid (HR3.out.keptNo hk4)
            have HK4 := Lib.hid (HK3.out.transP hk4 (fun i hi h => h.elim))
            have HB := Lib.hid (HP.out p' [] 6 (.bad HlN.out HT.out HRs.out HFit.out (by rw [← HX.out]; exact hno)))
            clear hk4 hno
            go_wp2
            go_ret2
            exact ⟨none, 0, [], 6, p', q + spanB s, rfl, HB.out, HR4.out, fun h => absurd h (by decide), World.ownsRow_nil _ _ _ _, HK4.out, fun k h => by simp [Value.ownBlock] at h⟩
        · have htk := take_no w1 R ao cap bs q (spanB s) HR1.out (.inr (.inr (by omega)))
          have HTk := Lib.hid htk
          have HB := Lib.hid (HP.out p' [] 2 (.short HlN.out HT.out HRs.out (by omega)))
          clear htk hfit
          go_wp2_with fail
          with_reducible refine HTk.out.mono ?_
          rintro e w3 ⟨rfl, hk3⟩
          have HR4 := Lib.hid (HR1.out.keptNo hk3)
          have HK4 := Lib.hid (HKw.out.transP hk3 (fun i hi h => h.elim))
          clear hk3
          go_wp2
          go_ret2
          exact ⟨none, 0, [], 2, p', q, rfl, HB.out, HR4.out, fun h => absurd h (by decide), World.ownsRow_nil _ _ _ _, HK4.out, fun k h => by simp [Value.ownBlock] at h⟩
      · have hf2 : (f == 0) = false := by simp [hf]
        have HB := Lib.hid (HP.out p' [] f (.fail HlN.out HT.out HRs.out hf))
        have HFn := Lib.hid hf
        clear hst
        go_wp2
        go_ret2
        exact ⟨none, 0, [], f, p', q, rfl, HB.out, HR1.out, fun h => absurd h HFn.out, World.ownsRow_nil _ _ _ _, HKw.out, fun k h => by simp [Value.ownBlock] at h⟩
    · have HB := Lib.hid (HP.out p' l 0 (.done (by omega)))
      have hlt2 : ¬ (l.length : Int) < N := by omega
      obtain ⟨m, hm⟩ : ∃ m, m = l.length := ⟨_, rfl⟩
      have HM := Lib.hid hm
      rw [← hm] at hlt hlt2 HF hlN ⊢
      clear hm
      go_wp2
      go_ret2
      exact ⟨a, c, l, 0, p', p', by rw [HM.out]; rfl, HB.out, HRr.out, fun _ => rfl, HO.out, HK.out, by rw [← HM.out]; exact HF.out⟩
end Go.Proofs.Ytpdlkmacdmnamaa
