/-
  CRC-32 in numbers: one step, eight, a byte, a row of bytes; sums; no step takes a number to nought but nought. No Go in sight.
  Strings of numbers; the document's own Rev.
  The table of the check, and a row of bytes through it.
  A row of rows of bytes that came in.
  What layer 2's statements ask of themselves first: the check of a few bytes.
  The document's own check, bit by bit.
  CrcParts: however bytes are parted, their check is the same.
  Slices of bytes as strings; the check of one part and of two.
  A row of numbers, and a copy of it; a source of bytes in pieces.
  A source of bytes in pieces: NewSource, At, size, Next.
  A sink of bytes: NewSink, Left, Len, Bytes, Write; within whatever object it lies.
-/
import Derived.Test.YthapkciebphhkaaMb12
import Derived.Laws.BytesArg
import Derived.Deep.DeepCutAuto
import Derived.Test.YthapkciebphhkaaRows
import Derived.BigRegion
import Derived.Deep.RegionWith
import Derived.Lib.SlBytesConst
import Derived.Laws.AppendOwnNone
import Derived.Deep.RegionHeld3
import Derived.Deep.RegionLaw
namespace Go.Proofs.Ythapkciebphhkaa

def poly : Nat := 3988292384
def step1 (r : Nat) : Nat := if r % 2 = 1 then r / 2 ^^^ poly else r / 2
def steps : Nat → Nat → Nat
  | 0, r => r
  | n + 1, r => step1 (steps n r)
def upd (r b : Nat) : Nat := r / 256 ^^^ steps 8 (r % 256 ^^^ b)
def flip (c : Nat) : Nat := 4294967295 - c
def regOf (r : Nat) (bs : List Nat) : Nat := bs.foldl upd r
def crcOf (c : Nat) (bs : List Nat) : Nat := flip (regOf (flip c) bs)

theorem poly_lt : poly < 4294967296 := by decide
theorem step1_lt (r : Nat) (h : r < 4294967296) : step1 r < 4294967296 := by
  unfold step1
  split
  · exact Nat.xor_lt_two_pow (n := 32) (by omega) poly_lt
  · omega
theorem steps_lt (n r : Nat) (h : r < 4294967296) : steps n r < 4294967296 := by
  induction n with
  | zero => exact h
  | succ n ih => exact step1_lt _ ih
theorem xor_div2 (a b : Nat) : (a ^^^ b) / 2 = a / 2 ^^^ b / 2 := by
  have := Nat.shiftRight_xor_distrib (a := a) (b := b) (i := 1)
  simpa [Nat.shiftRight_eq_div_pow] using this
theorem xor_div256 (a b : Nat) : (a ^^^ b) / 256 = a / 256 ^^^ b / 256 := by
  have := Nat.shiftRight_xor_distrib (a := a) (b := b) (i := 8)
  simpa [Nat.shiftRight_eq_div_pow] using this
theorem xor_mod2 (a b : Nat) : (a ^^^ b) % 2 = (a % 2 + b % 2) % 2 := by
  have h := Nat.testBit_xor a b 0
  simp only [Nat.testBit_zero] at h
  rcases Nat.mod_two_eq_zero_or_one a with ha | ha <;> rcases Nat.mod_two_eq_zero_or_one b with hb | hb <;> rcases Nat.mod_two_eq_zero_or_one (a ^^^ b) with hc | hc <;> simp [ha, hb, hc] at h ⊢
theorem xor_mod256 (a b : Nat) : (a ^^^ b) % 256 = a % 256 ^^^ b % 256 := Nat.xor_mod_two_pow (n := 8)
theorem step1_xor (a b : Nat) : step1 (a ^^^ b) = step1 a ^^^ step1 b := by
  unfold step1
  rw [xor_mod2, xor_div2]
  rcases Nat.mod_two_eq_zero_or_one a with ha | ha <;> rcases Nat.mod_two_eq_zero_or_one b with hb | hb <;> simp only [ha, hb]
  · simp
  · simp [Nat.xor_assoc]
  · simp only [if_true, Nat.zero_ne_one, if_false]
    rw [Nat.xor_assoc, Nat.xor_comm (b / 2) poly, ← Nat.xor_assoc]
  · simp only [if_true]
    have : ∀ x y p : Nat, x ^^^ p ^^^ (y ^^^ p) = x ^^^ y := by
      intro x y p
      rw [Nat.xor_assoc, ← Nat.xor_assoc p y p, Nat.xor_comm p y, Nat.xor_assoc y p p, Nat.xor_self, Nat.xor_zero]
    rw [this]; simp
theorem steps_xor (n a b : Nat) : steps n (a ^^^ b) = steps n a ^^^ steps n b := by
  induction n with
  | zero => rfl
  | succ n ih => simp only [steps, ih, step1_xor]
theorem xor4 (a b c d : Nat) : a ^^^ b ^^^ (c ^^^ d) = a ^^^ c ^^^ (b ^^^ d) := by
  rw [Nat.xor_assoc, ← Nat.xor_assoc b c d, Nat.xor_comm b c, Nat.xor_assoc c b d, ← Nat.xor_assoc]
theorem upd_xor (r s x y : Nat) : upd (r ^^^ s) (x ^^^ y) = upd r x ^^^ upd s y := by
  unfold upd
  rw [xor_div256, xor_mod256, xor4 (r % 256), steps_xor, xor4]
theorem upd_lt (r b : Nat) (hr : r < 4294967296) (hb : b < 256) : upd r b < 4294967296 := by
  unfold upd
  have h1 : r % 256 ^^^ b < 256 := Nat.xor_lt_two_pow (n := 8) (Nat.mod_lt _ (by decide)) hb
  exact Nat.xor_lt_two_pow (n := 32) (by omega) (steps_lt 8 _ (by omega))
theorem regOf_lt (bs : List Nat) (r : Nat) (hr : r < 4294967296) (hb : ∀ b ∈ bs, b < 256) : regOf r bs < 4294967296 := by
  induction bs generalizing r with
  | nil => exact hr
  | cons b t ih => exact ih (upd r b) (upd_lt r b hr (hb b (by simp))) (fun x hx => hb x (by simp [hx]))
theorem regOf_append (r : Nat) (a b : List Nat) : regOf r (a ++ b) = regOf (regOf r a) b := List.foldl_append
theorem flip_flip (c : Nat) (h : c < 4294967296) : flip (flip c) = c := by unfold flip; omega
theorem flip_lt (c : Nat) : flip c < 4294967296 := by unfold flip; omega
theorem crcOf_lt (c : Nat) (bs : List Nat) : crcOf c bs < 4294967296 := flip_lt _
theorem crcOf_append (c : Nat) (a b : List Nat) (ha : ∀ x ∈ a, x < 256) : crcOf c (a ++ b) = crcOf (crcOf c a) b := by
  unfold crcOf
  rw [regOf_append, flip_flip _ (regOf_lt a _ (flip_lt _) ha)]
theorem crcOf_nil (c : Nat) (h : c < 4294967296) : crcOf c [] = c := flip_flip c h

/-- Eight steps of a number are those of its lowest byte, and the rest moved down. -/
theorem steps_even (n y : Nat) : steps n (y * 2 ^ n) = y := by
  induction n generalizing y with
  | zero => simp [steps]
  | succ n ih =>
    have : y * 2 ^ (n + 1) = (y * 2) * 2 ^ n := by rw [Nat.pow_succ, Nat.mul_comm (2 ^ n) 2, Nat.mul_assoc]
    simp only [steps, this, ih, step1]
    simp
theorem steps8 (x : Nat) : steps 8 x = x / 256 ^^^ steps 8 (x % 256) := by
  have h : x = x / 256 * 2 ^ 8 ^^^ x % 256 := by
    have h2 := Nat.two_pow_add_eq_or_of_lt (i := 8) (b := x % 256) (Nat.mod_lt _ (by decide)) (x / 256)
    have h3 : 2 ^ 8 * (x / 256) ^^^ x % 256 = 2 ^ 8 * (x / 256) + x % 256 := by
      apply Nat.eq_of_testBit_eq
      intro i
      rw [Nat.testBit_xor, Nat.testBit_two_pow_mul_add _ (Nat.mod_lt _ (by decide)), Nat.testBit_two_pow_mul]
      by_cases hi : i < 8
      · have : ¬ i ≥ 8 := by omega
        simp [hi, this]
      · have h5 : (x % 256).testBit i = false := Nat.testBit_lt_two_pow (Nat.lt_of_lt_of_le (Nat.mod_lt x (show 0 < 256 by decide)) (Nat.pow_le_pow_right (n := 2) (i := 8) (by decide) (by omega)))
        have : i ≥ 8 := by omega
        simp [hi, this, h5]
    rw [Nat.mul_comm, h3]
    omega
  conv => lhs; rw [h]
  rw [steps_xor, steps_even]
theorem upd_steps (r b : Nat) (hb : b < 256) : upd r b = steps 8 (r ^^^ b) := by
  rw [steps8 (r ^^^ b), xor_div256, xor_mod256, Nat.div_eq_of_lt hb, Nat.mod_eq_of_lt hb, Nat.xor_zero]
  rfl
end Go.Proofs.Ythapkciebphhkaa

namespace Go.Proofs.Ythapkciebphhkaa
open Go.RowKit
set_option linter.unusedVariables false

def nats (bs : List Int) : List Nat := bs.map Int.toNat
theorem and1_u32 (r : Nat) (h : r < 4294967296) : bits .and .u32 (r : Int) 1 = ((r % 2 : Nat) : Int) := by
  have := u32_and_nat r 1 h (by decide)
  rw [nat_mask1] at this
  exact this
def bytesOf (s : ByteArray) : List Nat := s.data.toList.map UInt8.toNat
theorem bytesOf_lt (s : ByteArray) : ∀ x ∈ bytesOf s, x < 256 := by
  intro x hx
  obtain ⟨b, _, rfl⟩ := List.mem_map.1 hx
  exact b.toNat_lt
theorem bytesOf_nums (bs : List Int) (h : AllB bs) : bytesOf (strOfNums bs) = nats bs := by
  unfold bytesOf nats
  rw [strOfNums_data, List.map_map]
  apply List.map_congr_left
  intro b hb
  have := h b hb
  simp
  omega
end Go.Proofs.Ythapkciebphhkaa

namespace Go.Proofs.Ythapkciebphhkaa
open Go.RowKit
set_option linter.unusedVariables false

theorem xorP_u32 (r : Nat) (h : r < 4294967296) : bits .xor .u32 (r : Int) 3988292384 = ((r ^^^ poly : Nat) : Int) := u32_xor_nat r poly h poly_lt
theorem half_int (r : Nat) : (r : Int) / 2 = ((r / 2 : Nat) : Int) := by push_cast; rfl

/-- The table, filled up to i. -/
def tblTo (i : Nat) : Array Value := ((List.range 256).map fun j => Value.int .u32 (if j < i then steps 8 j else 0 : Nat)).toArray
theorem tblTo_set (i : Nat) (hi : i < 256) : (tblTo i).setIfInBounds i (.int .u32 (steps 8 i : Nat)) = tblTo (i + 1) := by
  apply Array.ext
  · simp [tblTo]
  · intro j h1 h2
    simp [tblTo] at h1 h2
    simp only [tblTo, List.getElem_toArray, List.getElem_map, List.getElem_range]
    by_cases hj : i = j
    · subst hj; simp
    · have : (j < i) = (j < i + 1) := by apply propext; omega
      simp [hj, this]
theorem tblTo_size (i : Nat) : (tblTo i).size = 256 := by simp [tblTo]
theorem tblTo_get (i j : Nat) (hj : j < 256) : (tblTo i)[j]? = some (.int .u32 (if j < i then steps 8 j else 0 : Nat)) := by
  simp [tblTo, hj]

/-- Bytes as natural numbers. -/

theorem nats_lt {bs : List Int} (h : AllB bs) : ∀ x ∈ nats bs, x < 256 := by
  intro x hx
  obtain ⟨b, hb, rfl⟩ := List.mem_map.1 hx
  have := h b hb
  omega
theorem regOf_succ (r : Nat) (bs : List Int) (j : Nat) (hj : j < bs.length) : regOf r ((nats bs).take (j + 1)) = upd (regOf r ((nats bs).take j)) (bs.getD j 0).toNat := by
  have hl : j < (nats bs).length := by simpa [nats] using hj
  rw [List.take_succ_eq_append_getElem hl, regOf_append]
  simp [regOf, nats, List.getD, hj]
theorem flip_u32 (c : Nat) (h : c < 4294967296) : bits .xor .u32 IntKind.u32.max (c : Int) = ((flip c : Nat) : Int) := by
  show IntKind.u32.wrap ((BitVec.ofInt 32 IntKind.u32.max ^^^ BitVec.ofInt 32 (c : Int)).toNat : Int) = _
  have e : BitVec.ofInt 32 IntKind.u32.max = BitVec.allOnes 32 := by decide
  rw [e, ← BitVec.not_def, BitVec.toNat_not, ofInt_u32 c h, IntKind.wrap_u32']
  unfold flip
  omega

/-- 'register>>8 ^ t.steps[byte(register)^x]'. -/
theorem upd_u32 (r z : Nat) (hr : r < 4294967296) (hz : z < 256) : bits .xor .u32 ((r : Int) / 256) ((steps 8 (r % 256 ^^^ z) : Nat) : Int) = ((upd r z : Nat) : Int) := by
  have h1 : ((r : Int) / 256) = ((r / 256 : Nat) : Int) := (Int.natCast_ediv r 256).symm
  have h2 : r % 256 ^^^ z < 256 := Nat.xor_lt_two_pow (n := 8) (Nat.mod_lt _ (by decide)) hz
  rw [h1, u32_xor_nat _ _ (by omega) (steps_lt 8 _ (by omega))]
  rfl

/-- A row of parts, each a slice of bytes. -/
def Parts (w : World) (po : Option Addr) (ps : List (List Int)) : Prop :=
  ps = [] ∨ ∃ b off, po = some ⟨b, off, none⟩ ∧ b < w.heap.size ∧ ∀ i, i < ps.length → ∃ ao cap, w.cell? ⟨b, off + i, none⟩ = some (.slice ao (ps.getD i []).length cap) ∧ Reads w ao (ps.getD i []) ∧ (ps.getD i []).length ≤ cap ∧ cap ≤ maxLen ∧ (ao = none → cap = 0)
def AllP (ps : List (List Int)) : Prop := ∀ p ∈ ps, AllB p
theorem Parts.keptNo {w w' : World} {po : Option Addr} {ps : List (List Int)} (h : Parts w po ps) (hk : Kept NoB w w') : Parts w' po ps := by
  rcases h with h | ⟨b, off, h1, h2, h3⟩
  · exact .inl h
  · refine .inr ⟨b, off, h1, Nat.lt_of_lt_of_le h2 hk.size, fun i hi => ?_⟩
    obtain ⟨ao, cap, c, r, m⟩ := h3 i hi
    exact ⟨ao, cap, hk.cell c, r.keptNo hk, m⟩
theorem AllP.getD {ps : List (List Int)} (h : AllP ps) (i : Nat) : AllB (ps.getD i []) := by
  by_cases hi : i < ps.length
  · have : ps.getD i [] = ps[i] := by simp [List.getD, hi]
    rw [this]; exact h _ (List.getElem_mem hi)
  · have : ps.getD i [] = [] := by simp [List.getD, List.getElem?_eq_none (Nat.le_of_not_lt hi)]
    rw [this]; intro b hb; cases hb
theorem AllP.flat {ps : List (List Int)} (h : AllP ps) : AllB ps.flatten := by
  intro b hb
  obtain ⟨p, hp, hbp⟩ := List.mem_flatten.1 hb
  exact h p hp b hbp
theorem nats_append (a b : List Int) : nats (a ++ b) = nats a ++ nats b := List.map_append
theorem flat_succ (ps : List (List Int)) (j : Nat) (hj : j < ps.length) : (ps.take (j + 1)).flatten = (ps.take j).flatten ++ ps.getD j [] := by
  have e : ps.getD j [] = ps[j] := by simp [List.getD, hj]
  rw [e, List.take_succ_eq_append_getElem hj, List.flatten_append, List.flatten_cons, List.flatten_nil, List.append_nil]
theorem crc_start : crcOf 0 (nats ([] : List (List Int)).flatten) = 0 := crcOf_nil 0 (by decide)

end Go.Proofs.Ythapkciebphhkaa

namespace Go.Proofs.Ythapkciebphhkaa
open Go.RowKit
set_option linter.unusedVariables false

theorem cells_row : Try.prog.cellsOf 23 = 1 := by kernel_rfl
theorem parts_open {w : World} {v : Value} (h : Arg w 22 v) :
    ∃ (ao : Option Addr) (cap : Nat) (ps : List (List Int)), v = .slice ao ps.length cap ∧ Parts w ao ps ∧ AllP ps ∧ ps.length ≤ maxLen := by
  obtain ⟨ao, len, cap, rfl, hl, hm, hn, hc⟩ := h.slice Try.underlying22
  rw [cells_row] at hc
  have key : ∀ i, ∃ bs : List Int, AllB bs ∧ (∀ x, ao = some x → i < len → ∃ a c, w.cell? (x.add i) = some (.slice a bs.length c) ∧ Reads w a bs ∧ bs.length ≤ c ∧ c ≤ maxLen ∧ (a = none → c = 0)) := by
    intro i
    by_cases hi : i < len
    · cases ao with
      | none => exact ⟨[], (by intro b hb; cases hb), (fun x hx => by cases hx)⟩
      | some x =>
        obtain ⟨cs, hr, hcl, hcc⟩ := hc x rfl i hi
        obtain ⟨a, c, bs, rfl, h1, h2, h3, h4, h5⟩ := hr.bytes Try.underlying23
        refine ⟨bs, h4, ?_⟩
        intro y hy _
        cases hy
        exact ⟨a, c, by simpa using hcc 0 (by simp), h3, h1, h2, h5⟩
    · exact ⟨[], (by intro b hb; cases hb), (fun x _ h => absurd h hi)⟩
  obtain ⟨f, hf⟩ := choose1 key
  refine ⟨ao, cap, (List.range len).map f, by simp, ?_, ?_, by simp; omega⟩
  · by_cases h0 : len = 0
    · subst h0; exact .inl rfl
    · right
      cases ao with
      | none => exact absurd (hn rfl).1 h0
      | some x =>
        obtain ⟨a, c, hcell, _⟩ := (hf 0).2 x rfl (by omega)
        obtain ⟨b, off, spot⟩ := x
        have hs : spot = none := by
          have := World.cell?_spot hcell
          simpa [Addr.add] using this
        subst hs
        have hb := World.block_lt_of_cell? w _ hcell
        rw [addr_add] at hb
        refine ⟨b, off, rfl, hb, fun i hi => ?_⟩
        have hil : i < len := by simpa using hi
        obtain ⟨a, c, h1, h2, h3⟩ := (hf i).2 _ rfl hil
        rw [addr_add] at h1
        rw [range_getD f len i [] hil]
        exact ⟨a, c, h1, h2, h3⟩
  · intro p hp
    obtain ⟨i, _, rfl⟩ := List.mem_map.1 hp
    exact (hf i).1
end Go.Proofs.Ythapkciebphhkaa

namespace Go.Proofs.Ythapkciebphhkaa
open Go.RowKit
set_option linter.unusedVariables false

theorem crc_known : crcOf 0 (nats [49, 50, 51, 52, 53, 54, 55, 56, 57]) = 3421780262 := by decide +kernel

end Go.Proofs.Ythapkciebphhkaa

namespace Go.Proofs.Ythapkciebphhkaa
open Go.RowKit
set_option linter.unusedVariables false

theorem regOf_succ' (r : Nat) (s : ByteArray) (j : Nat) (hj : j < s.size) : regOf r ((bytesOf s).take (j + 1)) = upd (regOf r ((bytesOf s).take j)) (s[j]).toNat := by
  have hl : j < (bytesOf s).length := by simpa [bytesOf] using hj
  rw [List.take_succ_eq_append_getElem hl, regOf_append]
  simp [regOf, bytesOf]
  rfl

end Go.Proofs.Ythapkciebphhkaa

namespace Go.Proofs.Ythapkciebphhkaa
open Go.RowKit
set_option linter.unusedVariables false

/-- One slice, in a row of its own that was just made. -/
theorem one_part {w : World} {k : Nat} {ao : Option Addr} {n cap : Nat} {bs : List Int} (hk : k = w.heap.size) (hn : n = bs.length) (hr : Reads w ao bs) (h1 : n ≤ cap) (h2 : cap ≤ maxLen) (h3 : ao = none → cap = 0) :
    Parts (w.alloc (.cells #[.slice ao n cap] 23)) (some ⟨k, 0, none⟩) [bs] := by
  subst hk hn
  refine .inr ⟨_, 0, rfl, by simp, fun i hi => ?_⟩
  match i, hi with
  | 0, _ => exact ⟨ao, cap, cell_new 0 rfl, hr.keptNo ((Kept.refl _ _).alloc _), h1, h2, h3⟩

theorem Parts.below {w w' : World} {po : Option Addr} {ps : List (List Int)} (h : Parts w po ps) (hb : Below w.heap.size w w') : Parts w' po ps :=
  h.keptNo ((Kept.refl NoB w).ofBelow hb)
end Go.Proofs.Ythapkciebphhkaa

namespace Go.Proofs.Ythapkciebphhkaa
open Go.RowKit
set_option linter.unusedVariables false

end Go.Proofs.Ythapkciebphhkaa

namespace Go.Proofs.Ythapkciebphhkaa
open Go.RowKit
set_option linter.unusedVariables false

/-- What a copy of a row of numbers is. -/
def CopiedI (w : World) (zs : List Int) (e : Ending) (w' : World) : Prop :=
  ∃ ao' cap', e = .returned (.slice ao' zs.length cap') ∧ RdI w' w'.heap.size ao' zs ∧ (zs ≠ [] → ∀ a, ao' = some a → w.heap.size ≤ a.block) ∧ Kept NoB w w'

set_option maxHeartbeats 1000000 in
theorem clonei_any (ao : Option Addr) (cap : Nat) (zs : List Int) (w : World) (hr : RdI w w.heap.size ao zs) (hl : zs.length ≤ 1000000) (hn0 : ao = none → zs.length = 0 ∧ cap = 0) :
    Calls Try.prog 51 #[.slice ao zs.length cap] w (CopiedI w zs) := by
  obtain ⟨i0, hi, hz0, hz1, hz2⟩ := info_parts infoI
  have q22 : ∀ (w : World) (a : Option Addr) (n c n' c' : Nat), (binOp .eql 29 (.slice a n c) (.slice none n' c')).run Try.prog w = .ok (.bool a.isNone) w := fun w a n c n' c' => Lib.run_eql_slice_nil w _ _ a n c n' c' Try.underlying29
  cases ao with
  | none =>
    have hn := hn0 rfl
    have : zs = [] := List.eq_nil_of_length_eq_zero hn.1
    subst this
    clear hr hn0
    go_enter Try.func51, Try.ntmps51
    go_wp2
    go_ret
    exact ⟨none, 0, rfl, (fun i hi => by simp at hi), (fun h => absurd rfl h), Kept.refl _ _⟩
  | some a =>
    have HR := Lib.hid hr; clear hr hn0
    obtain ⟨n, hn⟩ : ∃ n, n = zs.length := ⟨_, rfl⟩
    have HN := Lib.hid hn
    rw [← hn] at hl ⊢
    clear hn
    go_enter Try.func51, Try.ntmps51
    go_wp2_with (at_builtin; refine wpList_append_own _ rfl _ _ 29 rfl w.heap.size 3 i0 (.int .i64 0) 1 8 Try.underlying29 hi hz0 hz1 hz2 rfl (by decide) _ _ _ rfl (World.ownsRow_made w #[] 0 (Nat.le_refl _) (Nat.zero_le _) rfl) a n cap (zs.map (Value.int .i64)) rfl ?qc1 ?qc2 ?qc3 ?qc4 ?qc5 ?qc6 ?_)
    case qc1 => simp [HN.out]
    case qc2 =>
      intro j u hj
      have hjn : j < zs.length := by
        have := (List.getElem?_eq_some_iff.1 hj).1
        simpa using this
      refine Lib.cell?_alloc_some _ ?_
      obtain ⟨g, off, h1, h2, h3⟩ := HR.out j hjn
      simp at h1
      subst h1
      rw [addr_add, h3]
      have e : (zs.map (Value.int .i64))[j]? = some (Value.int .i64 (zs.getD j 0)) := by simp [List.getD, List.getElem?_eq_getElem hjn]
      rw [e] at hj
      exact hj
    case qc3 => intro u hu; obtain ⟨x, _, rfl⟩ := List.mem_map.1 hu; rfl
    case qc4 => unfold maxLen; omega
    case qc5 => omega
    case qc6 => simp
    intro v' w1 hown hgrow hnil
    go_wp2
    go_ret
    obtain ⟨ao', cap', rfl⟩ := own_shape hown
    have hb := hown.lt
    refine ⟨ao', cap', by rw [HN.out]; rfl, own_readsI hown HN.out.symm, ?_, ?_⟩
    · intro _ x hx
      subst hx
      rcases hown.2 with ⟨h1, _⟩ | ⟨g, c, cur, h1, _⟩
      · simp at h1
      · simp at h1
        have := (hb g (by rw [h1.1]; rfl)).1
        rw [h1.1]; exact this
    · exact ((Kept.refl NoB w).alloc _).grown hgrow (by intro k hk e; simp [Value.ownBlock] at e; omega)

end Go.Proofs.Ythapkciebphhkaa

namespace Go.Proofs.Ythapkciebphhkaa
open Go.RowKit
set_option linter.unusedVariables false
set_option linter.unusedSimpArgs false

/-- The size that is said next; which one is said behind it. -/
def szOf (bs zs : List Int) (t : Nat) : Int := if zs = [] then bs.length else if zs.getD t 0 < 1 then 1 else zs.getD t 0
def tn (zs : List Int) (t : Nat) : Nat := if zs = [] then t else (t + 1) % zs.length
theorem szOf_bd {bs zs : List Int} (hz : AllI zs) (hb : bs.length ≤ 1000000) (t : Nat) : szOf bs zs t ≤ 9223372036854775807 ∧ 0 ≤ szOf bs zs t ∧ (0 < bs.length → 1 ≤ szOf bs zs t) := by
  have := hz.getD t
  unfold szOf
  split
  · omega
  · split <;> omega

end Go.Proofs.Ythapkciebphhkaa

namespace Go.Proofs.Ythapkciebphhkaa
open Go.RowKit
set_option linter.unusedVariables false
set_option linter.unusedSimpArgs false

section
variable {P : Program} {ops : Array Oper} {o : Oper} {a : Act} {w : World} {K : Act → World → Prop} {Q : Exit → Act → World → Prop} {E : Prop}
theorem step_app (hg : o.guard = none) (s x : Operand) (t : TypeId) (hop : o.op = Op.call { callee := Callee.builtin Builtin.append, args := #[s, x], argTypes := #[t, t] })
    (e : TypeId) (i : TypeInfo) (z : Value) (size bytes : Nat) (ht : P.underlying t = some (.slice e)) (hi : P.info? e = some i) (hz : i.zero = some z)
    (hsize : i.size = size) (hby : i.bytes = bytes) (hzs : z.cells.size = size) (hsz : 0 < size)
    (v : Value) (n : Nat) (xs : List Value) (hs : a.eval s = v) (hown : w.ownsRow 0 e size v n xs)
    (ad : Addr) (m c : Nat) (news : List Value) (hx : a.eval x = .slice (some ad) m c) (hl : news.length = m * size) (hnews : ∀ j u, news[j]? = some u → w.cell? (ad.add j) = some u) (h1 : ∀ u ∈ news, u.oneCell' = true)
    (h63 : n + m ≤ maxLen) (hbytes : (n + m) * bytes ≤ 140737488355328)
    (hK : ∀ v' w', w'.ownsRow 0 e size v' (n + m) (xs ++ news) → w.grownBy w' v.ownBlock → (∀ k, v'.ownBlock = some k → v.ownBlock = some k ∨ w.heap.size ≤ k) → K (a.put o.dst v') w') :
    if Region.wanted o (yielded ops a.tmps) = true then Oper.wp P o a w K Q else E := by
  have hw : Region.wanted o (yielded ops a.tmps) = true := by simp [Region.wanted, hg]
  rw [if_pos hw]
  obtain ⟨v', w', hr, h2, h3, h4⟩ := run_app (P := P) w e t o.type i z size bytes ht hi hz hsize hby hzs hsz v n xs hown ad m c news hl hnews h1 h63 hbytes
  unfold Oper.wp execOp
  simp only [hop, resolve, invoke, builtin, Sem.run_bind, Sem.run_pure, Result.andThen_ok, List.map_toArray, List.map_cons, List.map_nil, hs, hx, hr]
  exact hK _ _ h2 h3 h4
theorem step_app_none (hg : o.guard = none) (s x : Operand) (t : TypeId) (hop : o.op = Op.call { callee := Callee.builtin Builtin.append, args := #[s, x], argTypes := #[t, t] })
    (e : TypeId) (i : TypeInfo) (size : Nat) (ht : P.underlying t = some (.slice e)) (hi : P.info? e = some i)
    (v : Value) (n : Nat) (xs : List Value) (hs : a.eval s = v) (hown : w.ownsRow 0 e size v n xs) (hx : a.eval x = .slice none 0 0)
    (hK : K (a.put o.dst v) w) :
    if Region.wanted o (yielded ops a.tmps) = true then Oper.wp P o a w K Q else E := by
  have hw : Region.wanted o (yielded ops a.tmps) = true := by simp [Region.wanted, hg]
  rw [if_pos hw]
  have hr := run_append_owned_none (P := P) (w := w) 0 t o.type e i size ht hi v n xs hown
  unfold Oper.wp execOp
  simp only [hop, resolve, invoke, builtin, Sem.run_bind, Sem.run_pure, Result.andThen_ok, List.map_toArray, List.map_cons, List.map_nil, hs, hx, hr]
  exact hK
end

/-- A sink within an object R: its bytes, in a row of its own, and how many it takes at most. -/
structure Snk (w : World) (T : TypeId) (cs : Array Value) (R L : Nat) (ao : Option Addr) (cap : Nat) (bs : List Int) (m : Nat) : Prop where
  obj : w.heap[R]? = some (.cells cs T (0, 0))
  c0 : cs[0]? = some (.slice ao bs.length cap)
  c1 : cs[1]? = some (.int .i64 m)
  own : w.ownsRow 0 5 1 (.slice ao bs.length cap) bs.length (bs.map (.int .u8))
  fr : ∀ k, (Value.slice ao bs.length cap).ownBlock = some k → L ≤ k
  low : L ≤ R
  bl : bs.length ≤ m
  ml : m ≤ 9223372036854775807
  sm : bs.length ≤ 1000000
  ne5 : T ≠ 5
  ball : AllB bs
theorem Snk.kept {S : Nat → Prop} {w w' : World} {T : TypeId} {cs : Array Value} {R L : Nat} {ao : Option Addr} {cap : Nat} {bs : List Int} {m : Nat} (h : Snk w T cs R L ao cap bs m) (hk : Kept S w w') (h1 : ¬ S R) (h2 : ∀ k, (Value.slice ao bs.length cap).ownBlock = some k → ¬ S k) : Snk w' T cs R L ao cap bs m :=
  { h with obj := hk.obj h.obj h1, own := hk.row h.own h2 }
theorem Snk.keptNo {w w' : World} {T : TypeId} {cs : Array Value} {R L : Nat} {ao : Option Addr} {cap : Nat} {bs : List Int} {m : Nat} (h : Snk w T cs R L ao cap bs m) (hk : Kept NoB w w') : Snk w' T cs R L ao cap bs m := h.kept hk (fun h => h) (fun _ _ h => h)

set_option maxHeartbeats 1000000 in
theorem sleft_any (w : World) {T : TypeId} {cs : Array Value} {R L : Nat} {ao : Option Addr} {cap : Nat} {bs : List Int} {m : Nat} (h : Snk w T cs R L ao cap bs m) (r : Nat) (hr : (r : Int) = (m : Int) - bs.length) :
    Calls Try.prog 38 #[.pointer (some ⟨R, 0, none⟩)] w fun e w' => e = .returned (.int .i64 r) ∧ Kept NoB w w' := by
  have c0 : w.cell? ⟨R, 0, none⟩ = some (.slice ao bs.length cap) := by rw [obj_cell h.obj 0, h.c0]
  have c1 : w.cell? ⟨R, 1, none⟩ = some (.int .i64 m) := by rw [obj_cell h.obj 1, h.c1]
  have h1 := h.bl
  have h2 := h.ml
  have h3 := h.sm
  rw [hr]
  clear h hr
  go_enter Try.func38, Try.ntmps38
  go_wp2
  go_quiet (fail)
  go_wp2
  go_ret
  exact ⟨rfl, (Kept.refl _ _).drewN _⟩
set_option maxHeartbeats 1000000 in
theorem slen_any (w : World) {T : TypeId} {cs : Array Value} {R L : Nat} {ao : Option Addr} {cap : Nat} {bs : List Int} {m : Nat} (h : Snk w T cs R L ao cap bs m) :
    Calls Try.prog 57 #[.pointer (some ⟨R, 0, none⟩)] w fun e w' => e = .returned (.int .i64 bs.length) ∧ Kept NoB w w' := by
  have c0 : w.cell? ⟨R, 0, none⟩ = some (.slice ao bs.length cap) := by rw [obj_cell h.obj 0, h.c0]
  clear h
  go_enter Try.func57, Try.ntmps57
  go_wp2
  go_ret
  exact ⟨rfl, Kept.refl _ _⟩
/-- What Bytes tells: a copy, as a string. -/
def ToldB (W : World) (bs : List Int) (e : Ending) (W' : World) : Prop :=
  ∃ ao' cap', e = .returned (.slice ao' bs.length cap') ∧ Hid (Reads W' ao' bs) ∧ Hid (ao' = none → cap' = 0) ∧ Hid ((convert 23 9 (.slice ao' bs.length cap')).run Try.prog W' = .ok (.string (strOfNums bs)) W') ∧ Kept NoB W W'
set_option maxHeartbeats 1000000 in
theorem sbytes_any (w : World) {T : TypeId} {cs : Array Value} {R L : Nat} {ao : Option Addr} {cap : Nat} {bs : List Int} {m : Nat} (h : Snk w T cs R L ao cap bs m) :
    Calls Try.prog 20 #[.pointer (some ⟨R, 0, none⟩)] w (ToldB w bs) := by
  have c0 : w.cell? ⟨R, 0, none⟩ = some (.slice ao bs.length cap) := by rw [obj_cell h.obj 0, h.c0]
  have hr := own_reads h.own rfl
  have hl := h.sm
  clear h
  have HR := Lib.hid hr; clear hr
  go_enter Try.func20, Try.ntmps20
  go_wp2_with (go_at_call 26; refine (clone_any _ _ _ _ HR.out (by omega)).mono ?_; rintro e w1 ⟨ao', cap', rfl, ho, hf, hn, hk⟩)
  go_ret
  have hr' := own_reads ho rfl
  have h0 := own_nil ho
  exact ⟨ao', cap', rfl, hr', h0, conv_reads hr' rfl h0, hk⟩

/-- The bytes that are there behind some parts. -/
def fill (bs : List Int) (m : Nat) (ps : List (List Int)) : List Int := (bs ++ ps.flatten).take m
theorem fill_nil (bs : List Int) (m : Nat) (h : bs.length ≤ m) : fill bs m [] = bs := by simp [fill]; exact List.take_of_length_le h
theorem fill_len (bs : List Int) (m : Nat) (ps : List (List Int)) : (fill bs m ps).length ≤ m := by unfold fill; rw [List.length_take]; omega
theorem take_more (x p : List Int) (m : Nat) : (x.take m) ++ p.take (m - (x.take m).length) = (x ++ p).take m := by
  rw [List.take_append, List.length_take]
  by_cases h : x.length ≤ m
  · rw [Nat.min_eq_right h]
  · rw [Nat.min_eq_left (by omega), Nat.sub_self, show m - x.length = 0 from by omega]
theorem fill_succ (bs : List Int) (m : Nat) (ps : List (List Int)) (j : Nat) (hj : j < ps.length) :
    fill bs m (ps.take (j + 1)) = fill bs m (ps.take j) ++ (ps.getD j []).take (m - (fill bs m (ps.take j)).length) := by
  unfold fill
  rw [flat_succ ps j hj, ← List.append_assoc, take_more]

/-- Behind some parts: the sink, grown. -/
def WrR (w : World) (T : TypeId) (cs0 : Array Value) (R L : Nat) (v0 : Value) (bs' : List Int) (m : Nat) (w' : World) : Prop :=
  ∃ cs ao cap, Snk w' T cs R L ao cap bs' m ∧ cs.size = cs0.size ∧ (∀ i, i ≠ 0 → cs[i]? = cs0[i]?) ∧ Kept (OrB (OneB R) (OwnB v0)) w w' ∧ (∀ k, (Value.slice ao bs'.length cap).ownBlock = some k → v0.ownBlock = some k ∨ w.heap.size ≤ k)
end Go.Proofs.Ythapkciebphhkaa
