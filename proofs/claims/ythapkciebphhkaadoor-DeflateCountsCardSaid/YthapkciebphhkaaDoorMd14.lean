/-
  lens: which lengths a head may tell; the document's HeadOk.
  How a head is read, on paper: the counts, the code of lengths, the row of lengths, one behind the other.
  slices.Repeat of one number.
  lens: span, extended.
  lens: Flat.
  The document's SameInts, more, Flat.
  The document's Flat.
  lens.readRow: a row of lengths, read by the code of lengths.
  lens.readCode: the code of lengths is read.
-/
import Derived.Test.YthapkciebphhkaaDoorMd13
import Derived.Laws.CopyOwn
import Derived.Deep.RegionLaw
import Derived.OwnWalk
import Derived.Deep.CutBlock
namespace Go.Proofs.YthapkciebphhkaaDoor
open Go.RowKit
set_option linter.unusedVariables false
set_option linter.unusedSimpArgs false

noncomputable def fullB (ls : List Int) : Bool := decide (kindA ls = 3 ∨ kindA ls = 2)
noncomputable def mayB (lit dist : List Int) : Bool := decide (0 < lit.getD 256 0) && fullB lit && (fullB dist || decide (kindA dist = 1))
theorem full_may {ls : List Int} (h : fullB ls = true) : MayL ls := by
  apply Classical.byContradiction
  intro hn
  have := kindA_bad hn
  unfold fullB at h
  rw [this] at h
  exact absurd h (by decide)
set_option maxRecDepth 20000 in
set_option maxHeartbeats 4000000 in
theorem full_any (a : Option Addr) (c B : Nat) (ls : List Int) (w : World) (hr : RdI w B a ls) (hall : AllI ls) :
    Calls Tryd.prog 83 #[.slice a ls.length c] w fun e w' => e = .returned (.bool (fullB ls)) ∧ Kept NoB w w' := by
  have HK := Lib.hid (kind_any a c B ls w hr hall)
  obtain ⟨n, hn⟩ : ∃ n, n = ls.length := ⟨_, rfl⟩
  rw [← hn] at HK ⊢
  have hk := kindA_of ls
  unfold fullB
  clear hr hall hn
  generalize kindA ls = k at hk HK ⊢
  go_enter Tryd.func83, Tryd.ntmps83
  go_wp2_with fail
  with_reducible refine HK.out.mono ?_
  rintro e w1 ⟨rfl, hk1⟩
  have HK1 := Lib.hid hk1
  clear hk1 HK
  rcases hk with rfl | rfl | rfl | rfl | rfl | rfl
  all_goals
    go_wp2
    go_ret
    exact ⟨rfl, HK1.out⟩
set_option maxRecDepth 20000 in
set_option maxHeartbeats 8000000 in
theorem may_any (a : Option Addr) (c B : Nat) (lit : List Int) (b : Option Addr) (d C : Nat) (dist : List Int) (w : World) (hr : RdI w B a lit) (hall : AllI lit) (hr2 : RdI w C b dist) (hall2 : AllI dist) (hl : 257 ≤ lit.length) :
    Calls Tryd.prog 73 #[.slice a lit.length c, .slice b dist.length d] w fun e w' => e = .returned (.bool (mayB lit dist)) ∧ Kept NoB w w' := by
  have keep : ∀ {W : World} {B : Nat} {a : Option Addr} {zs : List Int}, RdI w B a zs → Kept NoB w W → RdI W B a zs := fun h hk i hi => by
    obtain ⟨g, o, h1, h2, h3⟩ := h i hi
    exact ⟨g, o, h1, h2, hk.cell h3⟩
  have HF1 := Lib.hid (full_any a c B lit w hr hall)
  have HF2 : Hid (∀ W, Kept NoB w W → Calls Tryd.prog 83 #[.slice b dist.length d] W fun e w' => e = .returned (.bool (fullB dist)) ∧ Kept NoB W w') := Lib.hid (fun W hk => full_any b d C dist W (keep hr2 hk) hall2)
  have HK2 : Hid (∀ W, Kept NoB w W → Calls Tryd.prog 54 #[.slice b dist.length d] W fun e w' => e = .returned (.int .i64 (kindA dist)) ∧ Kept NoB W w') := Lib.hid (fun W hk => kind_any b d C dist W (keep hr2 hk) hall2)
  obtain ⟨g, o, rfl, _, hc⟩ := hr 256 (by omega)
  obtain ⟨n, hn⟩ : ∃ n, n = lit.length := ⟨_, rfl⟩
  obtain ⟨m, hm⟩ : ∃ m, m = dist.length := ⟨_, rfl⟩
  rw [← hn] at HF1 hl ⊢
  rw [← hm] at HF2 HK2 ⊢
  have hl2 : (256 : Int) < (n : Int) := by omega
  unfold mayB
  generalize fullB lit = f1 at HF1 ⊢
  generalize fullB dist = f2 at HF2 ⊢
  generalize kindA dist = k at HK2 ⊢
  generalize lit.getD 256 0 = x at hc ⊢
  clear hr hall hr2 hall2 hn hm keep
  go_enter Tryd.func73, Tryd.ntmps73
  by_cases hx : 0 < x
  · go_wp2_with fail
    with_reducible refine HF1.out.mono ?_
    rintro e w1 ⟨rfl, hk1⟩
    have HK1 := Lib.hid hk1
    clear hk1 HF1
    cases f1 with
    | false =>
      go_wp2
      go_ret
      exact ⟨by simp, HK1.out⟩
    | true =>
      have HC := Lib.hid (HF2.out w1 HK1.out)
      go_wp2_with fail
      with_reducible refine HC.out.mono ?_
      rintro e w2 ⟨rfl, hk2⟩
      have HKw := Lib.hid (HK1.out.trans hk2)
      clear hk2 HC
      cases f2 with
      | true =>
        go_wp2
        go_ret
        exact ⟨by simp [hx], HKw.out⟩
      | false =>
        have HC := Lib.hid (HK2.out w2 HKw.out)
        go_wp2_with fail
        with_reducible refine HC.out.mono ?_
        rintro e w3 ⟨rfl, hk3⟩
        have HKx := Lib.hid (HKw.out.trans hk3)
        clear hk3 HC
        by_cases hk : k = 1
        · have g1 : (k == 1) = true := by rw [hk]; rfl
          go_wp2
          go_ret
          exact ⟨by simp [hx, hk], HKx.out⟩
        · have g1 : (k == 1) = false := by simp [hk]
          go_wp2
          go_ret
          exact ⟨by simp [hx, hk], HKx.out⟩
  · have hx2 : decide (0 < x) = false := decide_eq_false hx
    go_wp2
    go_ret
    exact ⟨by simp [hx2], Kept.refl _ _⟩
/-- The document's HeadOk. -/
noncomputable def headB (lit dist : List Int) : Bool := decide (257 ≤ lit.length ∧ lit.length ≤ 286 ∧ 1 ≤ dist.length ∧ dist.length ≤ 30) && mayB lit dist
end Go.Proofs.YthapkciebphhkaaDoor

namespace Go.Proofs.YthapkciebphhkaaDoor
open Go.RowKit
set_option linter.unusedVariables false
set_option linter.unusedSimpArgs false

/-- A row of lengths read by the code of lengths, from bit p on, behind l. -/
inductive RowR (code bs : List Int) (N : Nat) : Nat → List Int → Nat → List Int → Int → Prop
  | done {p : Nat} {l : List Int} : N ≤ l.length → RowR code bs N p l p l 0
  | fail {p T q : Nat} {l : List Int} {s f : Int} : l.length < N → min3 15 (8 * bs.length - p) = T → ReadS code T (bitsAt bs p T) p s f q → f ≠ 0 → RowR code bs N p l p [] f
  | short {p T q : Nat} {l : List Int} {s : Int} : l.length < N → min3 15 (8 * bs.length - p) = T → ReadS code T (bitsAt bs p T) p s 0 q → 8 * bs.length < q + spanB s → RowR code bs N p l p [] 2
  | bad {p T q : Nat} {l : List Int} {s : Int} : l.length < N → min3 15 (8 * bs.length - p) = T → ReadS code T (bitsAt bs p T) p s 0 q → q + spanB s ≤ 8 * bs.length →
      ¬ (okRun l s (bitsAt bs q (spanB s) : Nat) ∧ ((moreL l s (bitsAt bs q (spanB s) : Nat)).length : Int) ≤ N) → RowR code bs N p l p [] 6
  | step {p T q p' : Nat} {l l' : List Int} {s e : Int} : l.length < N → min3 15 (8 * bs.length - p) = T → ReadS code T (bitsAt bs p T) p s 0 q → q + spanB s ≤ 8 * bs.length →
      okRun l s (bitsAt bs q (spanB s) : Nat) → ((moreL l s (bitsAt bs q (spanB s) : Nat)).length : Int) ≤ N → RowR code bs N (q + spanB s) (moreL l s (bitsAt bs q (spanB s) : Nat)) p' l' e → RowR code bs N p l p' l' e
theorem RowR.to {code bs : List Int} {N p1 p2 : Nat} {l1 l2 : List Int} {e1 e2 : Int} {p p' : Nat} (hp : p = p') {l l' : List Int} (hl : l = l') (h : RowR code bs N p l p1 l1 e1) : RowR code bs N p' l' p1 l1 e1 := by subst hp; subst hl; exact h
theorem RowR.det {code bs : List Int} {N : Nat} (hl : code.length ≤ 320) (hs : Small 15 code) {p : Nat} {l : List Int} {p1 p2 : Nat} {l1 l2 : List Int} {e1 e2 : Int} (h1 : RowR code bs N p l p1 l1 e1) (h2 : RowR code bs N p l p2 l2 e2) : p1 = p2 ∧ l1 = l2 ∧ e1 = e2 := by
  induction h1 with
  | done ha =>
    cases h2 with
    | done hb => exact ⟨rfl, rfl, rfl⟩
    | fail hb => omega
    | short hb => omega
    | bad hb => omega
    | step hb => omega
  | fail ha hT hR hf =>
    cases h2 with
    | done hb => omega
    | fail hb hT2 hR2 hf2 =>
      rw [hT] at hT2; cases (Int.ofNat.inj hT2)
      obtain ⟨_, e, _⟩ := read_det code hl hs _ _ _ _ _ _ _ _ _ hR hR2
      exact ⟨rfl, rfl, e⟩
    | short hb hT2 hR2 =>
      rw [hT] at hT2; cases (Int.ofNat.inj hT2)
      obtain ⟨_, e, _⟩ := read_det code hl hs _ _ _ _ _ _ _ _ _ hR hR2
      exact absurd e hf
    | bad hb hT2 hR2 =>
      rw [hT] at hT2; cases (Int.ofNat.inj hT2)
      obtain ⟨_, e, _⟩ := read_det code hl hs _ _ _ _ _ _ _ _ _ hR hR2
      exact absurd e hf
    | step hb hT2 hR2 =>
      rw [hT] at hT2; cases (Int.ofNat.inj hT2)
      obtain ⟨_, e, _⟩ := read_det code hl hs _ _ _ _ _ _ _ _ _ hR hR2
      exact absurd e hf
  | short ha hT hR hq =>
    cases h2 with
    | done hb => omega
    | fail hb hT2 hR2 hf2 =>
      rw [hT] at hT2; cases (Int.ofNat.inj hT2)
      obtain ⟨_, e, _⟩ := read_det code hl hs _ _ _ _ _ _ _ _ _ hR hR2
      exact absurd e.symm hf2
    | short hb hT2 hR2 => exact ⟨rfl, rfl, rfl⟩
    | bad hb hT2 hR2 hq2 =>
      rw [hT] at hT2; cases (Int.ofNat.inj hT2)
      obtain ⟨rfl, _, rfl⟩ := read_det code hl hs _ _ _ _ _ _ _ _ _ hR hR2
      omega
    | step hb hT2 hR2 hq2 =>
      rw [hT] at hT2; cases (Int.ofNat.inj hT2)
      obtain ⟨rfl, _, rfl⟩ := read_det code hl hs _ _ _ _ _ _ _ _ _ hR hR2
      omega
  | bad ha hT hR hq hno =>
    cases h2 with
    | done hb => omega
    | fail hb hT2 hR2 hf2 =>
      rw [hT] at hT2; cases (Int.ofNat.inj hT2)
      obtain ⟨_, e, _⟩ := read_det code hl hs _ _ _ _ _ _ _ _ _ hR hR2
      exact absurd e.symm hf2
    | short hb hT2 hR2 hq2 =>
      rw [hT] at hT2; cases (Int.ofNat.inj hT2)
      obtain ⟨rfl, _, rfl⟩ := read_det code hl hs _ _ _ _ _ _ _ _ _ hR hR2
      omega
    | bad hb hT2 hR2 hq2 => exact ⟨rfl, rfl, rfl⟩
    | step hb hT2 hR2 hq2 hok hfit =>
      rw [hT] at hT2; cases (Int.ofNat.inj hT2)
      obtain ⟨rfl, _, rfl⟩ := read_det code hl hs _ _ _ _ _ _ _ _ _ hR hR2
      exact absurd ⟨hok, hfit⟩ hno
  | step ha hT hR hq hok hfit hrest ih =>
    cases h2 with
    | done hb => omega
    | fail hb hT2 hR2 hf2 =>
      rw [hT] at hT2; cases (Int.ofNat.inj hT2)
      obtain ⟨_, e, _⟩ := read_det code hl hs _ _ _ _ _ _ _ _ _ hR hR2
      exact absurd e.symm hf2
    | short hb hT2 hR2 hq2 =>
      rw [hT] at hT2; cases (Int.ofNat.inj hT2)
      obtain ⟨rfl, _, rfl⟩ := read_det code hl hs _ _ _ _ _ _ _ _ _ hR hR2
      omega
    | bad hb hT2 hR2 hq2 hno =>
      rw [hT] at hT2; cases (Int.ofNat.inj hT2)
      obtain ⟨rfl, _, rfl⟩ := read_det code hl hs _ _ _ _ _ _ _ _ _ hR hR2
      exact absurd ⟨hok, hfit⟩ hno
    | step hb hT2 hR2 hq2 hok2 hfit2 hrest2 =>
      rw [hT] at hT2; cases (Int.ofNat.inj hT2)
      obtain ⟨rfl, _, rfl⟩ := read_det code hl hs _ _ _ _ _ _ _ _ _ hR hR2
      exact ih hrest2
/-- Where a row that is read ends: lengths, as many as were asked for, and the place within the bits. -/
theorem RowR.ok {code bs : List Int} {N : Nat} {p : Nat} {l : List Int} {p1 : Nat} {l1 : List Int} {e1 : Int} (h : RowR code bs N p l p1 l1 e1) (h0 : e1 = 0) (hl : (l.length : Int) ≤ N) (hs : Small 15 l) (hp : p ≤ 8 * bs.length) : l1.length = N ∧ Small 15 l1 ∧ p1 ≤ 8 * bs.length := by
  induction h with
  | done ha => exact ⟨by omega, hs, hp⟩
  | fail ha hT hR hf => exact absurd h0 hf
  | short => exact absurd h0 (by decide)
  | bad => exact absurd h0 (by decide)
  | step ha hT hR hq hok hfit hrest ih =>
    refine ih h0 hfit ?_ hq
    intro z hz
    unfold moreL at hz
    rcases List.mem_append.1 hz with h | h
    · exact hs z h
    · rw [List.eq_of_mem_replicate h]
      exact valS_lt _ hs _ ⟨hok.1, hok.2.1⟩
theorem RowR.err {code bs : List Int} {N : Nat} {p : Nat} {l : List Int} {p1 : Nat} {l1 : List Int} {e1 : Int} (h : RowR code bs N p l p1 l1 e1) (h0 : e1 ≠ 0) : l1 = [] := by
  induction h with
  | done ha => exact absurd rfl h0
  | fail ha hT hR hf => rfl
  | short => rfl
  | bad => rfl
  | step ha hT hR hq hok hfit hrest ih => exact ih h0
def ordL : List Int := [16, 17, 18, 0, 8, 7, 9, 6, 10, 5, 11, 4, 12, 3, 13, 2, 14, 1, 15]
/-- The code of lengths, of which n lengths are told from bit p on. -/
def codeT (bs : List Int) (p : Nat) : Nat → List Int
  | 0 => List.replicate 19 0
  | n + 1 => (codeT bs p n).set (ordL.getD n 0).toNat ((bitsAt bs (p + 3 * n) 3 : Nat) : Int)
theorem codeT_len (bs : List Int) (p : Nat) : ∀ n, (codeT bs p n).length = 19
  | 0 => by simp [codeT]
  | n + 1 => by rw [codeT, List.length_set, codeT_len bs p n]
theorem bitsAt_lt' (bs : List Int) (p k : Nat) : bitsAt bs p k < 2 ^ k := Nat.mod_lt _ (Nat.two_pow_pos k)
theorem codeT_small (bs : List Int) (p : Nat) : ∀ n, Small 7 (codeT bs p n)
  | 0 => fun z hz => by unfold codeT at hz; rw [List.eq_of_mem_replicate hz]; decide
  | n + 1 => fun z hz => by
    rw [codeT] at hz
    rcases List.mem_or_eq_of_mem_set hz with h | h
    · exact codeT_small bs p n z h
    · have := bitsAt_lt' bs (p + 3 * n) 3
      have e : (2 : Nat) ^ 3 = 8 := rfl
      rw [h]; omega
theorem small7_15 {Z : List Int} (h : Small 7 Z) : Small 15 Z := fun z hz => by have := h z hz; omega
/-- What Read tells of the bits from p on: the lengths, the error, the place behind. -/
def HeadR (bs : List Int) (p : Nat) (lit dist : List Int) (e : Int) (q : Nat) : Prop :=
  if 8 * bs.length < p + 14 then lit = [] ∧ dist = [] ∧ e = 2
  else if 29 < bitsAt bs p 5 ∨ 29 < bitsAt bs (p + 5) 5 then lit = [] ∧ dist = [] ∧ e = 6
  else if 8 * bs.length < p + 14 + 3 * (bitsAt bs (p + 10) 4 + 4) then lit = [] ∧ dist = [] ∧ e = 2
  else if fullB (codeT bs (p + 14) (bitsAt bs (p + 10) 4 + 4)) = false then lit = [] ∧ dist = [] ∧ e = 6
  else ∃ (row : List Int) (q' : Nat) (f : Int), RowR (codeT bs (p + 14) (bitsAt bs (p + 10) 4 + 4)) bs ((bitsAt bs p 5 + 257) + (bitsAt bs (p + 5) 5 + 1)) (p + 14 + 3 * (bitsAt bs (p + 10) 4 + 4)) [] q' row f ∧
    if f = 0 then if mayB (row.take (bitsAt bs p 5 + 257)) (row.drop (bitsAt bs p 5 + 257)) = true then lit = row.take (bitsAt bs p 5 + 257) ∧ dist = row.drop (bitsAt bs p 5 + 257) ∧ e = 0 ∧ q = q' else lit = [] ∧ dist = [] ∧ e = 6
    else lit = [] ∧ dist = [] ∧ e = f
theorem HeadR.det {bs : List Int} {p : Nat} {lit dist lit2 dist2 : List Int} {e e2 : Int} {q q2 : Nat} (h : HeadR bs p lit dist e q) (h2 : HeadR bs p lit2 dist2 e2 q2) : lit = lit2 ∧ dist = dist2 ∧ e = e2 ∧ (e = 0 → q = q2) := by
  unfold HeadR at h h2
  split at h
  · rename_i c
    rw [if_pos c] at h2
    obtain ⟨rfl, rfl, rfl⟩ := h; obtain ⟨rfl, rfl, rfl⟩ := h2
    exact ⟨rfl, rfl, rfl, fun h => absurd h (by decide)⟩
  · rename_i c
    rw [if_neg c] at h2
    split at h
    · rename_i c
      rw [if_pos c] at h2
      obtain ⟨rfl, rfl, rfl⟩ := h; obtain ⟨rfl, rfl, rfl⟩ := h2
      exact ⟨rfl, rfl, rfl, fun h => absurd h (by decide)⟩
    · rename_i c
      rw [if_neg c] at h2
      split at h
      · rename_i c
        rw [if_pos c] at h2
        obtain ⟨rfl, rfl, rfl⟩ := h; obtain ⟨rfl, rfl, rfl⟩ := h2
        exact ⟨rfl, rfl, rfl, fun h => absurd h (by decide)⟩
      · rename_i c
        rw [if_neg c] at h2
        split at h
        · rename_i c
          rw [if_pos c] at h2
          obtain ⟨rfl, rfl, rfl⟩ := h; obtain ⟨rfl, rfl, rfl⟩ := h2
          exact ⟨rfl, rfl, rfl, fun h => absurd h (by decide)⟩
        · rename_i c
          rw [if_neg c] at h2
          obtain ⟨row, q', f, hr, h⟩ := h
          obtain ⟨row2, q2', f2, hr2, h2⟩ := h2
          obtain ⟨rfl, rfl, rfl⟩ := hr.det (by rw [codeT_len]; omega) (small7_15 (codeT_small _ _ _)) hr2
          split at h
          · rename_i c
            rw [if_pos c] at h2
            split at h
            · rename_i c
              rw [if_pos c] at h2
              obtain ⟨rfl, rfl, rfl, rfl⟩ := h; obtain ⟨rfl, rfl, rfl, rfl⟩ := h2
              exact ⟨rfl, rfl, rfl, fun _ => rfl⟩
            · rename_i c
              rw [if_neg c] at h2
              obtain ⟨rfl, rfl, rfl⟩ := h; obtain ⟨rfl, rfl, rfl⟩ := h2
              exact ⟨rfl, rfl, rfl, fun h => absurd h (by decide)⟩
          · rename_i c
            rw [if_neg c] at h2
            obtain ⟨rfl, rfl, rfl⟩ := h; obtain ⟨rfl, rfl, rfl⟩ := h2
            exact ⟨rfl, rfl, rfl, fun h => absurd h c⟩
/-- The three counts, told at once. -/
theorem counts14 (bs : List Int) (p : Nat) : bitsAt bs p 14 % 32 = bitsAt bs p 5 ∧ bitsAt bs p 14 / 32 % 32 = bitsAt bs (p + 5) 5 ∧ bitsAt bs p 14 / 1024 = bitsAt bs (p + 10) 4 := by
  unfold bitsAt
  have e5 : (2 : Nat) ^ (p + 5) = 2 ^ p * 32 := by rw [Nat.pow_add]
  have e10 : (2 : Nat) ^ (p + 10) = 2 ^ p * 1024 := by rw [Nat.pow_add]
  have a : (2 : Nat) ^ 14 = 16384 := rfl
  have b : (2 : Nat) ^ 5 = 32 := rfl
  have c : (2 : Nat) ^ 4 = 16 := rfl
  rw [e5, e10, ← Nat.div_div_eq_div_mul, ← Nat.div_div_eq_div_mul, a, b, c]
  generalize num bs / 2 ^ p = x
  omega
end Go.Proofs.YthapkciebphhkaaDoor

namespace Go.Proofs.YthapkciebphhkaaDoor
open Go.RowKit
set_option linter.unusedVariables false
set_option linter.unusedSimpArgs false

theorem u64_mask32 (c : Nat) (hc : c ≤ 1000) : bits .and .u64 (c : Int) 4294967295 = (c : Int) := by
  show IntKind.u64.wrap ((BitVec.ofInt 64 (c : Int) &&& BitVec.ofInt 64 4294967295).toNat : Int) = _
  have h1 : (BitVec.ofInt 64 (c : Int)).toNat = c := by rw [BitVec.toNat_ofInt]; omega
  have h2 : (BitVec.ofInt 64 4294967295).toNat = 2 ^ 32 - 1 := by decide
  rw [BitVec.toNat_and, h1, h2, Nat.and_two_pow_sub_one_eq_mod, IntKind.wrap_u64]
  omega
/-- A row of N, whose first n are v, the others 0. -/
def repC (v : Int) (N n : Nat) : List Value := List.replicate n (Value.int .i64 v) ++ List.replicate (N - n) (Value.int .i64 0)
theorem repC_len (v : Int) (N n : Nat) (h : n ≤ N) : (repC v N n).length = N := by simp [repC]; omega
theorem repC_full (v : Int) (N : Nat) : repC v N N = List.replicate N (Value.int .i64 v) := by simp [repC]
theorem repC_none (v : Int) (N : Nat) : repC v N 0 = List.replicate N (Value.int .i64 0) := by simp [repC]
theorem repC_at (v : Int) (N n j : Nat) (h : j < n) : (repC v N n)[j]? = some (Value.int .i64 v) := by
  unfold repC
  rw [List.getElem?_append_left (by simpa using h), List.getElem?_replicate, if_pos h]
theorem rep_splice (v : Int) (N n k : Nat) (h3 : n + k ≤ N) : splice (repC v N n) n (List.replicate k (Value.int .i64 v)) = repC v N (n + k) := by
  unfold splice repC
  rw [List.take_left' (by simp), List.length_replicate, ← List.append_assoc, List.replicate_append_replicate]
  congr 1
  rw [List.drop_append, List.drop_of_length_le (by simp), List.nil_append, List.drop_replicate]
  congr 1
  simp
  omega

end Go.Proofs.YthapkciebphhkaaDoor

namespace Go.Proofs.YthapkciebphhkaaDoor
open Go.RowKit
set_option linter.unusedVariables false
set_option linter.unusedSimpArgs false

theorem span_any (s : Int) (w : World) : Calls Tryd.prog 87 #[.int .i64 s] w fun e w' => e = .returned (.tuple #[.int .i64 (spanL s : Int), .int .i64 (spanB s : Int)]) ∧ w = w' := by
  by_cases h16 : s = 16
  · subst h16
    go_enter Tryd.func87, Tryd.ntmps87
    go_wp2
    go_ret2
    exact ⟨rfl, rfl⟩
  · by_cases h17 : s = 17
    · subst h17
      go_enter Tryd.func87, Tryd.ntmps87
      go_wp2
      go_ret2
      exact ⟨rfl, rfl⟩
    · by_cases h18 : s = 18
      · subst h18
        go_enter Tryd.func87, Tryd.ntmps87
        go_wp2
        go_ret2
        exact ⟨rfl, rfl⟩
      · have e1 : spanL s = 1 := by unfold spanL; rw [if_neg h16, if_neg h17, if_neg h18]
        have e2 : spanB s = 0 := by unfold spanB; rw [if_neg h16, if_neg h17, if_neg h18]
        rw [e1, e2]
        have g1 : (s == 16) = false := by simp; exact h16
        have g2 : (s == 17) = false := by simp; exact h17
        have g3 : (s == 18) = false := by simp; exact h18
        clear e1 e2 h16 h17 h18
        go_enter Tryd.func87, Tryd.ntmps87
        go_wp2
        go_ret2
        exact ⟨rfl, rfl⟩

/-- A row of numbers of the call's own. -/
def OwnI (w : World) (ao : Option Addr) (cap : Nat) (l : List Int) : Prop := w.ownsRow 0 3 1 (.slice ao l.length cap) l.length (l.map (.int .i64))
/-- Behind extended: a row more, or none. -/
def ExtP (w : World) (ao : Option Addr) (cap : Nat) (l : List Int) (s x n : Int) (e : Ending) (w' : World) : Prop :=
  (okRun l s x ∧ ((moreL l s x).length : Int) ≤ n ∧ ∃ ao' cap', e = .returned (.tuple #[.slice ao' (moreL l s x).length cap', .bool true]) ∧ OwnI w' ao' cap' (moreL l s x) ∧ Kept (OwnB (.slice ao l.length cap)) w w' ∧
    (∀ k, (Value.slice ao' (moreL l s x).length cap').ownBlock = some k → (Value.slice ao l.length cap).ownBlock = some k ∨ w.heap.size ≤ k)) ∨
  (¬ (okRun l s x ∧ ((moreL l s x).length : Int) ≤ n) ∧ e = .returned (.tuple #[.slice none 0 0, .bool false]) ∧ Kept NoB w w')
theorem ExtP.no {w w' : World} {ao : Option Addr} {cap : Nat} {l : List Int} {s x n : Int} (h : ¬ (okRun l s x ∧ ((moreL l s x).length : Int) ≤ n)) (hk : Kept NoB w w') : ExtP w ao cap l s x n (.returned (.tuple #[.slice none 0 0, .bool false])) w' := .inr ⟨h, rfl, hk⟩

end Go.Proofs.YthapkciebphhkaaDoor

namespace Go.Proofs.YthapkciebphhkaaDoor
open Go.RowKit
set_option linter.unusedVariables false
set_option linter.unusedSimpArgs false

/-- A slice of runs reads as rs; its block is below B. -/
def RdRn (w : World) (B : Nat) (ao : Option Addr) (rs : List (Int × Int)) : Prop :=
  ∀ i, i < rs.length → ∃ g off, ao = some ⟨g, off, none⟩ ∧ g < B ∧ w.cell? ⟨g, off + i * 2, none⟩ = some (.int .i64 (rs.getD i (0, 0)).1) ∧ w.cell? ⟨g, off + i * 2 + 1, none⟩ = some (.int .i64 (rs.getD i (0, 0)).2)
theorem RdRn.kept {S : Nat → Prop} {w w' : World} {B : Nat} {ao : Option Addr} {rs : List (Int × Int)} (h : RdRn w B ao rs) (hk : Kept S w w') (hs : ∀ k, k < B → ¬ S k) : RdRn w' B ao rs := by
  intro i hi
  obtain ⟨g, off, h1, h2, h3, h4⟩ := h i hi
  exact ⟨g, off, h1, h2, (World.cell?_of_block (hk.block _ (World.block_lt_of_cell? w _ h3) (hs g h2))).trans h3, (World.cell?_of_block (hk.block _ (World.block_lt_of_cell? w _ h4) (hs g h2))).trans h4⟩
theorem drop_getDP (rs : List (Int × Int)) (j : Nat) (hj : j < rs.length) : rs.drop j = rs.getD j (0, 0) :: rs.drop (j + 1) := by
  rw [List.drop_eq_getElem_cons hj]; simp [List.getD, hj]
/-- A row of numbers told, with an error. -/
def FlatP (w : World) (s : List Int × Int) (e : Ending) (w' : World) : Prop :=
  ∃ ao cap, e = .returned (.tuple #[.slice ao s.1.length cap, .int .i64 s.2]) ∧ OwnI w' ao cap s.1 ∧ Kept NoB w w' ∧ (∀ k, (Value.slice ao s.1.length cap).ownBlock = some k → w.heap.size ≤ k)
theorem FlatP.none {w w' : World} {s : List Int × Int} {x : Int} (h : s = ([], x)) (hk : Kept NoB w w') : FlatP w s (.returned (.tuple #[.slice none 0 0, .int .i64 x])) w' := by
  subst h
  exact ⟨Option.none, 0, rfl, World.ownsRow_nil _ _ _ _, hk, fun k hk => by simp [Value.ownBlock] at hk⟩

end Go.Proofs.YthapkciebphhkaaDoor

namespace Go.Proofs.YthapkciebphhkaaDoor
open Go.RowKit
set_option linter.unusedVariables false
set_option linter.unusedSimpArgs false

theorem drop_getDz (bs : List Int) (j : Nat) (hj : j < bs.length) : bs.drop j = bs.getD j 0 :: bs.drop (j + 1) := by
  rw [List.drop_eq_getElem_cons hj]; simp [List.getD, hj]
set_option maxHeartbeats 1000000 in
theorem sameInts_dr (a : Option Addr) (c : Nat) (xs : List Int) (b : Option Addr) (d : Nat) (ys : List Int) (A B : Nat) (w : World) (hx : RdI w A a xs) (hy : RdI w B b ys) (hm : xs.length ≤ 1000000) :
    Calls Tryd.prog 8 #[.slice a xs.length c, .slice b ys.length d] w fun e w' => e = .returned (.bool (decide (xs = ys))) ∧ ∃ m, w' = w.drewN m := by
  have HX := Lib.hid hx; have HY := Lib.hid hy
  clear hx hy
  by_cases hlen : xs.length = ys.length
  · obtain ⟨n, hn⟩ : ∃ n, n = xs.length := ⟨_, rfl⟩
    have hn2 : ys.length = n := by omega
    have HN := Lib.hid hn; have HN2 := Lib.hid hn2
    have hm2 : n ≤ 1000000 := by omega
    rw [← hn, hn2]
    clear hn hn2 hlen
    go_enter Tryd.func8, Tryd.ntmps8
    go_wp2
    go_loopw [5] (fun v5 wr => ∃ j : Nat, v5 = .int .i64 (j : Int) ∧ j ≤ n ∧ Hid (∃ m, wr = w.drewN m) ∧ Hid ((xs = ys) ↔ (xs.drop j = ys.drop j))) (fun v5 _ => n - (intOf v5).toNat)
    case atStart => exact ⟨0, rfl, by omega, Lib.hid ⟨0, rfl⟩, (by rw [List.drop_zero, List.drop_zero]; exact Iff.rfl)⟩
    case round =>
      obtain ⟨j, rfl, hj, HM, HI⟩ := hrel
      have HK := Lib.hid (show Kept NoB w wr by obtain ⟨m, hm⟩ := HM.out; rw [hm]; exact (Kept.refl NoB w).drewN m)
      have HM2 : Hid (∀ n, ∃ m, wr.drewN n = w.drewN m) := Lib.hid (fun n => by obtain ⟨m, hm⟩ := HM.out; exact ⟨m + n, by rw [hm, World.drewN_drewN]⟩)
      by_cases hlt : (j : Int) < n
      · obtain ⟨g, off, rfl, hgl, hc0⟩ := HX.out j (by have := HN.out; omega)
        obtain ⟨g2, off2, rfl, hgl2, hc1⟩ := HY.out j (by have := HN2.out; omega)
        have hc0' := HK.out.cell hc0
        have hc1' := HK.out.cell hc1
        have hi := HI.out
        rw [drop_getDz xs j (by have := HN.out; omega), drop_getDz ys j (by have := HN2.out; omega)] at hi
        obtain ⟨x, hx⟩ : ∃ x, xs.getD j 0 = x := ⟨_, rfl⟩
        obtain ⟨y, hy⟩ : ∃ y, ys.getD j 0 = y := ⟨_, rfl⟩
        rw [hx] at hc0' hi
        rw [hy] at hc1' hi
        clear hx hy hc0 hc1 hgl hgl2
        by_cases hxy : x = y
        · subst hxy
          have HI2 : Hid ((xs = ys) ↔ (xs.drop (j + 1) = ys.drop (j + 1))) := hi.trans ⟨fun h => by injection h, fun h => by rw [h]⟩
          have hd : (x != x) = false := by simp
          clear hi
          go_upto_region 6 with fail
          go_quiet (fail)
          go_wp2
          go_roundw
          case rel => exact ⟨j + 1, by go_num, by omega, Lib.hid (HM2.out _), HI2⟩
          case measure => simp [intOf]; omega
        · have hne : ¬ xs = ys := fun h => hxy (by have := hi.1 h; injection this)
          have hd : (x != y) = true := by simp; exact hxy
          clear hi hxy
          have HNe := Lib.hid hne
          clear hne
          go_upto_region 6 with fail
          go_quiet (fail)
          go_wp2
          go_ret
          exact ⟨by rw [decide_eq_false HNe.out]; rfl, HM2.out _⟩
      · have he : xs = ys := by
          have hi := HI.out
          rw [List.drop_of_length_le (by have := HN.out; omega), List.drop_of_length_le (by have := HN2.out; omega)] at hi
          exact hi.2 rfl
        have HE := Lib.hid he
        clear he
        go_wp2
        go_ret
        exact ⟨by rw [decide_eq_true HE.out]; rfl, HM.out⟩
  · have hne : ¬ xs = ys := fun h => hlen (by rw [h])
    have HNe := Lib.hid hne
    have g1 : ((xs.length : Int) != (ys.length : Int)) = true := bne_iff_ne.2 (by omega)
    clear hne hlen
    go_enter Tryd.func8, Tryd.ntmps8
    go_wp2
    go_ret
    exact ⟨by rw [decide_eq_false HNe.out]; rfl, ⟨0, rfl⟩⟩

theorem sameInts_any (a : Option Addr) (c : Nat) (xs : List Int) (b : Option Addr) (d : Nat) (ys : List Int) (A B : Nat) (w : World) (hx : RdI w A a xs) (hy : RdI w B b ys) (hm : xs.length ≤ 1000000) :
    Calls Tryd.prog 8 #[.slice a xs.length c, .slice b ys.length d] w fun e w' => e = .returned (.bool (decide (xs = ys))) ∧ Kept NoB w w' :=
  (sameInts_dr a c xs b d ys A B w hx hy hm).mono (by rintro e w' ⟨h1, m, rfl⟩; exact ⟨h1, (Kept.refl NoB w).drewN m⟩)

end Go.Proofs.YthapkciebphhkaaDoor

namespace Go.Proofs.YthapkciebphhkaaDoor
open Go.RowKit
set_option linter.unusedVariables false
set_option linter.unusedSimpArgs false

theorem own_readsI {w : World} {base n cap : Nat} {ao : Option Addr} {zs : List Int} (h : w.ownsRow base 3 1 (.slice ao n cap) n (zs.map (.int .i64))) (hn : zs.length = n) : RdI w w.heap.size ao zs := by
  intro i hi
  rcases h.2 with ⟨_, hz⟩ | ⟨g, c, cur, hv, _⟩
  · omega
  · simp at hv
    obtain ⟨rfl, rfl⟩ := hv
    have hc : w.cell? ⟨g, i, none⟩ = some (.int .i64 (zs.getD i 0)) := by
      rw [h.cellAt i (by omega)]; simp [List.getD, hi]
    exact ⟨g, 0, rfl, World.block_lt_of_cell? w _ hc, by rw [Nat.zero_add]; exact hc⟩
theorem OwnI.reads {w : World} {a : Option Addr} {c : Nat} {l : List Int} (h : OwnI w a c l) : RdI w w.heap.size a l := own_readsI h rfl
theorem OwnI.capOk {w : World} {a : Option Addr} {c : Nat} {l : List Int} (h : OwnI w a c l) : l.length ≤ c := (own_cap h).1

theorem lit_readsI {w : World} {cs : Array Value} (zs : List Int) (hc : cs.toList = zs.map (.int .i64)) : RdI (w.alloc (.cells cs 3)) (w.alloc (.cells cs 3)).heap.size (some ⟨w.heap.size, 0, none⟩) zs := by
  intro i hi
  refine ⟨w.heap.size, 0, rfl, by simp, ?_⟩
  rw [Nat.zero_add, cell_new i rfl, ← Array.getElem?_toList, hc]
  simp [List.getD, hi]
end Go.Proofs.YthapkciebphhkaaDoor

namespace Go.Proofs.YthapkciebphhkaaDoor
open Go.RowKit
set_option linter.unusedVariables false
set_option linter.unusedSimpArgs false

theorem own_lt {w : World} {base e z n : Nat} {v : Value} {xs : List Value} (ho : w.ownsRow base e z v n xs) : ∀ k, v.ownBlock = some k → k < w.heap.size := by
  intro k hk
  rcases ho.2 with ⟨rfl, _⟩ | ⟨g, cap', cur, rfl, hbg, hg, _⟩
  · simp [Value.ownBlock] at hk
  · simp [Value.ownBlock] at hk
    exact hk ▸ obj_lt hg
theorem Kept.transP {S T : Nat → Prop} {a b c : World} (h : Kept S a b) (k : Kept T b c) (hs : ∀ i, i < a.heap.size → T i → S i) : Kept S a c :=
  ⟨k.os.trans h.os, k.tape.trans h.tape, k.output.trans h.output, Nat.le_trans h.size k.size, fun i hi hn => (k.block i (Nat.lt_of_lt_of_le hi h.size) (fun t => hn (hs i hi t))).trans (h.block i hi hn)⟩
theorem spanL_pos (s : Int) : 1 ≤ spanL s := by unfold spanL; split <;> (try split) <;> (try split) <;> decide
theorem spanB_le (s : Int) : spanB s ≤ 7 := by unfold spanB; split <;> (try split) <;> (try split) <;> decide
end Go.Proofs.YthapkciebphhkaaDoor

namespace Go.Proofs.YthapkciebphhkaaDoor
open Go.RowKit
set_option linter.unusedVariables false
set_option linter.unusedSimpArgs false

theorem order19 (w : World) : Calls Tryd.prog 76 #[] w fun e w' => e = .returned (.slice (some ⟨w.heap.size, 0, none⟩) 19 19) ∧ RdI w' w'.heap.size (some ⟨w.heap.size, 0, none⟩) ordL ∧ Kept NoB w w' ∧ w.heap.size < w'.heap.size := by
  go_enter Tryd.func76, Tryd.ntmps76
  go_wp2
  go_ret
  exact ⟨rfl, lit_readsI _ rfl, (Kept.refl _ _).alloc _, by simp⟩
theorem ord_at : ∀ i, i < 19 → 0 ≤ ordL.getD i 0 ∧ ordL.getD i 0 < 19 := by decide
theorem full_ref {ls : List Int} (h : fullB ls = true) : refS ls = 0 := by
  have hm := full_may h
  unfold fullB kindA at h
  rw [if_pos hm] at h
  unfold refS
  rcases kindS_of ls with k | k | k | k | k <;> simp [k] at h ⊢
end Go.Proofs.YthapkciebphhkaaDoor
