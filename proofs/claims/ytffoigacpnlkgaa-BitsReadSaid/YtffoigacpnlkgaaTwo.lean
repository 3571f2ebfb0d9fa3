/-
  Two writers of bits, each with a row of its own; what is put by one leaves the other as it was.
-/
import Derived.Test.YtffoigacpnlkgaaOps
import Derived.Test.YtffoigacpnlkgaaCrcS
namespace Go.Proofs.Ytffoigacpnlkgaa
open Go.RowKit
set_option linter.unusedVariables false

theorem num_inj (a b : List Int) (ha : AllB a) (hb : AllB b) (hl : a.length = b.length) (hn : num a = num b) : a = b := by
  induction a generalizing b with
  | nil => cases b with
    | nil => rfl
    | cons => simp at hl
  | cons x t ih =>
    cases b with
    | nil => simp at hl
    | cons y u =>
      have h1 := ha x (by simp)
      have h2 := hb y (by simp)
      simp only [num] at hn
      have : x = y := by omega
      subst this
      rw [ih u (fun z hz => ha z (by simp [hz])) (fun z hz => hb z (by simp [hz])) (by simpa using hl) (by omega)]

structure Two (T1 T2 : TypeId) (w0 w : World) (A : Nat) (aoa : Option Addr) (capa : Nat) (ba : List Int) (sa : Nat) (B : Nat) (aob : Option Addr) (capb : Nat) (bb : List Int) (sb : Nat) : Prop where
  a : WtrT T1 w A aoa capa ba sa
  b : WtrT T2 w B aob capb bb sb
  ne : A ≠ B
  fa : w0.heap.size ≤ A
  fb : w0.heap.size ≤ B
  oa : ∀ k, (Value.slice aoa ba.length capa).ownBlock = some k → w0.heap.size ≤ k
  ob : ∀ k, (Value.slice aob bb.length capb).ownBlock = some k → w0.heap.size ≤ k
  ab : ∀ k, (Value.slice aoa ba.length capa).ownBlock = some k → (Value.slice aob bb.length capb).ownBlock ≠ some k
  ta : T1 ≠ 5
  tb : T2 ≠ 5
  bel : Below w0.heap.size w0 w
variable {T1 T2 : TypeId} {w0 w w' : World} {A : Nat} {aoa : Option Addr} {capa : Nat} {ba : List Int} {sa : Nat} {B : Nat} {aob : Option Addr} {capb : Nat} {bb : List Int} {sb : Nat}
theorem Two.swap (h : Two T1 T2 w0 w A aoa capa ba sa B aob capb bb sb) : Two T2 T1 w0 w B aob capb bb sb A aoa capa ba sa :=
  ⟨h.b, h.a, h.ne.symm, h.fb, h.fa, h.ob, h.oa, (fun k h1 h2 => h.ab k h2 h1), h.tb, h.ta, h.bel⟩
theorem Two.keptNo (h : Two T1 T2 w0 w A aoa capa ba sa B aob capb bb sb) (hk : Kept NoB w w') : Two T1 T2 w0 w' A aoa capa ba sa B aob capb bb sb :=
  ⟨h.a.kept hk (fun h => h) (fun _ _ h => h), h.b.kept hk (fun h => h) (fun _ _ h => h), h.ne, h.fa, h.fb, h.oa, h.ob, h.ab, h.ta, h.tb, hk.belowNo h.bel⟩
/-- The first one is written, its row where it was or new: the second stays. -/
theorem Two.put (h : Two T1 T2 w0 w A aoa capa ba sa B aob capb bb sb) {ao' : Option Addr} {cap' : Nat} {ba' : List Int} {sa' : Nat} (ha : WtrT T1 w' A ao' cap' ba' sa') (hk : Kept (OrB (OneB A) (OwnB (.slice aoa ba.length capa))) w w')
    (ho : ∀ k, (Value.slice ao' ba'.length cap').ownBlock = some k → (Value.slice aoa ba.length capa).ownBlock = some k ∨ w.heap.size ≤ k) : Two T1 T2 w0 w' A ao' cap' ba' sa' B aob capb bb sb := by
  have hbl := h.b.2.1.lt
  refine ⟨ha, h.b.kept hk ?_ ?_, h.ne, h.fa, h.fb, ?_, h.ob, ?_, h.ta, h.tb, hk.below h.bel ?_⟩
  · intro e
    rcases e with e | e
    · exact h.ne e.symm
    · exact row_ne h.a.2.1 h.b.1 h.tb B e rfl
  · intro k hk' e
    rcases e with e | e
    · exact row_ne h.b.2.1 h.a.1 h.ta k hk' e
    · exact h.ab k e hk'
  · intro k hk'
    rcases ho k hk' with e | e
    · exact h.oa k e
    · have := h.bel.size; omega
  · intro k hk' e
    rcases ho k hk' with e' | e'
    · exact h.ab k e' e
    · have := (hbl k e).2; omega
  · intro k e
    rcases e with e | e
    · have := h.fa; simp [OneB] at e; omega
    · exact h.oa k e
theorem Two.putP {n x : Nat} {e : Ending} (h : Two 84 T2 w0 w A aoa capa ba sa B aob capb bb sb) (hp : PutP w A (.slice aoa ba.length capa) ba sa x n e w') :
    ∃ ao' cap' ba', e = .returned (.bool true) ∧ Two 84 T2 w0 w' A ao' cap' ba' (sa + n) B aob capb bb sb ∧ num ba' = num ba + x * 2 ^ sa := by
  obtain ⟨ao', cap', ba', rfl, hW, hN, hk, ho⟩ := hp
  exact ⟨ao', cap', ba', rfl, h.put hW hk ho, hN⟩
theorem Two.putA (h : Two 84 T2 w0 w A aoa capa ba sa B aob capb bb sb) (v n : Nat) (hv : v < 4294967296) (hn : n ≤ 32) (hs : sa ≤ 900000000000) (W : World) (hk : Kept NoB w W) :
    Calls Try.prog 21 #[.pointer (some ⟨A, 0, none⟩), .int .u32 v, .int .i64 n] W fun e W' => e = .returned (.bool true) ∧
      ∃ ao' cap' ba', Hid (Two 84 T2 w0 W' A ao' cap' ba' (sa + n) B aob capb bb sb) ∧ Hid (num ba' = num ba + v % 2 ^ n * 2 ^ sa) := by
  refine (put_any _ _ _ _ _ _ v n (h.keptNo hk).a hv hn hs).mono ?_
  rintro e W' hp
  obtain ⟨ao', cap', ba', rfl, hT, hN⟩ := (h.keptNo hk).putP hp
  exact ⟨rfl, ao', cap', ba', hT, hN⟩
theorem Two.putB (h : Two T1 84 w0 w A aoa capa ba sa B aob capb bb sb) (v n : Nat) (hv : v < 4294967296) (hn : n ≤ 32) (hs : sb ≤ 900000000000) (W : World) (hk : Kept NoB w W) (z : Int) (hz : z = n) :
    Calls Try.prog 21 #[.pointer (some ⟨B, 0, none⟩), .int .u32 v, .int .i64 z] W fun e W' => e = .returned (.bool true) ∧
      ∃ ao' cap' bb', Hid (Two T1 84 w0 W' A aoa capa ba sa B ao' cap' bb' (sb + n)) ∧ Hid (num bb' = num bb + v % 2 ^ n * 2 ^ sb) := by
  subst hz
  refine (h.swap.putA v n hv hn hs W hk).mono ?_
  rintro e W' ⟨rfl, ao', cap', ba', hT, hN⟩
  exact ⟨rfl, ao', cap', ba', hT.out.swap, hN⟩
/-- A writer's bytes, told as a copy. -/
def Told (W : World) (bs : List Int) (e : Ending) (W' : World) : Prop :=
  ∃ ao' cap', e = .returned (.slice ao' bs.length cap') ∧ Hid (Reads W' ao' bs) ∧ Hid (ao' = none → cap' = 0) ∧ Hid ((convert 22 9 (.slice ao' bs.length cap')).run Try.prog W' = .ok (.string (strOfNums bs)) W') ∧ Kept NoB W W'
theorem told_of {W W' : World} {ao : Option Addr} {bs : List Int} {e : Ending} (h : Copied W ao bs e W') : Told W bs e W' := by
  obtain ⟨ao', cap', rfl, ho, hf, hn, hk⟩ := h
  have h0 : ao' = none → cap' = 0 := by
    rintro rfl
    rcases ho.2 with ⟨h1, _⟩ | ⟨g, c, cur, h1, _⟩
    · simp at h1; exact h1.2
    · simp at h1
  have hr := own_reads ho rfl
  exact ⟨ao', cap', rfl, hr, h0, conv_reads hr rfl h0, hk⟩
theorem Two.bytesA (h : Two 84 T2 w0 w A aoa capa ba sa B aob capb bb sb) (W : World) (hk : Kept NoB w W) :
    Calls Try.prog 22 #[.pointer (some ⟨A, 0, none⟩)] W (Told W ba) :=
  (wbytes_any _ _ _ _ _ _ (h.keptNo hk).a).mono fun _ _ h => told_of h
theorem Two.lenA (h : Two 84 T2 w0 w A aoa capa ba sa B aob capb bb sb) (W : World) (hk : Kept NoB w W) :
    Calls Try.prog 23 #[.pointer (some ⟨A, 0, none⟩)] W fun e W' => e = .returned (.int .i64 sa) ∧ Kept NoB W W' :=
  wlen_any _ _ _ _ _ _ (h.keptNo hk).a
end Go.Proofs.Ytffoigacpnlkgaa
