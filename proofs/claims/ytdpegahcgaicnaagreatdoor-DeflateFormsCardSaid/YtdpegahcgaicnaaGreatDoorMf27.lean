/-
  The table of the check, and a row of bytes through it.
  What layer 2's statements ask of themselves first: the check of a few bytes.
  The document's own check, bit by bit.
  A row of rows of bytes that came in.
  CrcParts: however bytes are parted, their check is the same.
  Slices of bytes as strings; the check of one part and of two.
  Two writers of bits, each with a row of its own; what is put by one leaves the other as it was.
  The document's own writer of bits: Put and Align, bit by bit.
  What the document's writer was given, put after put (as WroteP for the program's).
-/
import Derived.Test.YtdpegahcgaicnaaGreatDoorMf26
import Derived.Test.YtdpegahcgaicnaaGreatDoorRows
import Derived.BigRegion
import Derived.Deep.DeepCutAuto
import Derived.Deep.RegionWith
import Derived.Lib.SlBytesConst
import Derived.Laws.BytesArg
import Derived.Laws.AppendOwnNone
namespace Go.Proofs.YtdpegahcgaicnaaGreatDoor
open Go.RowKit
set_option linter.unusedVariables false

theorem xorP_u32 (r : Nat) (h : r < 4294967296) : bits .xor .u32 (r : Int) 3988292384 = ((r ^^^ poly : Nat) : Int) := u32_xor_nat r poly h poly_lt
theorem half_int (r : Nat) : (r : Int) / 2 = ((r / 2 : Nat) : Int) := by push_cast; rfl

/-- The table, filled up to i. -/
def tblTo (i : Nat) : Array Value := ((List.range 256).map fun j => Value.int .u32 (if j < i then steps 8 j else 0 : Nat)).toArray
theorem tblTo_set (i : Nat) (hi : i < 256) : (tblTo i).setIfInBounds i (.int .u32 (steps 8 i : Nat)) = tblTo (i + 1) := by
  apply Array.ext
  · simp [tblTo]
  · intro j h1 h2
    simp [tblTo] at h1 h2
    simp only [tblTo, List.getElem_toArray, List.getElem_map, List.getElem_range]
    by_cases hj : i = j
    · subst hj; simp
    · have : (j < i) = (j < i + 1) := by apply propext; omega
      simp [hj, this]
theorem tblTo_size (i : Nat) : (tblTo i).size = 256 := by simp [tblTo]
theorem tblTo_get (i j : Nat) (hj : j < 256) : (tblTo i)[j]? = some (.int .u32 (if j < i then steps 8 j else 0 : Nat)) := by
  simp [tblTo, hj]

/-- Bytes as natural numbers. -/

theorem nats_lt {bs : List Int} (h : AllB bs) : ∀ x ∈ nats bs, x < 256 := by
  intro x hx
  obtain ⟨b, hb, rfl⟩ := List.mem_map.1 hx
  have := h b hb
  omega
theorem regOf_succ (r : Nat) (bs : List Int) (j : Nat) (hj : j < bs.length) : regOf r ((nats bs).take (j + 1)) = upd (regOf r ((nats bs).take j)) (bs.getD j 0).toNat := by
  have hl : j < (nats bs).length := by simpa [nats] using hj
  rw [List.take_succ_eq_append_getElem hl, regOf_append]
  simp [regOf, nats, List.getD, hj]
theorem flip_u32 (c : Nat) (h : c < 4294967296) : bits .xor .u32 IntKind.u32.max (c : Int) = ((flip c : Nat) : Int) := by
  show IntKind.u32.wrap ((BitVec.ofInt 32 IntKind.u32.max ^^^ BitVec.ofInt 32 (c : Int)).toNat : Int) = _
  have e : BitVec.ofInt 32 IntKind.u32.max = BitVec.allOnes 32 := by decide
  rw [e, ← BitVec.not_def, BitVec.toNat_not, ofInt_u32 c h, IntKind.wrap_u32']
  unfold flip
  omega

/-- 'register>>8 ^ t.steps[byte(register)^x]'. -/
theorem upd_u32 (r z : Nat) (hr : r < 4294967296) (hz : z < 256) : bits .xor .u32 ((r : Int) / 256) ((steps 8 (r % 256 ^^^ z) : Nat) : Int) = ((upd r z : Nat) : Int) := by
  have h1 : ((r : Int) / 256) = ((r / 256 : Nat) : Int) := (Int.natCast_ediv r 256).symm
  have h2 : r % 256 ^^^ z < 256 := Nat.xor_lt_two_pow (n := 8) (Nat.mod_lt _ (by decide)) hz
  rw [h1, u32_xor_nat _ _ (by omega) (steps_lt 8 _ (by omega))]
  rfl

/-- A row of parts, each a slice of bytes. -/
def Parts (w : World) (po : Option Addr) (ps : List (List Int)) : Prop :=
  ps = [] ∨ ∃ b off, po = some ⟨b, off, none⟩ ∧ b < w.heap.size ∧ ∀ i, i < ps.length → ∃ ao cap, w.cell? ⟨b, off + i, none⟩ = some (.slice ao (ps.getD i []).length cap) ∧ Reads w ao (ps.getD i []) ∧ (ps.getD i []).length ≤ cap ∧ cap ≤ maxLen ∧ (ao = none → cap = 0)
def AllP (ps : List (List Int)) : Prop := ∀ p ∈ ps, AllB p
theorem Parts.keptNo {w w' : World} {po : Option Addr} {ps : List (List Int)} (h : Parts w po ps) (hk : Kept NoB w w') : Parts w' po ps := by
  rcases h with h | ⟨b, off, h1, h2, h3⟩
  · exact .inl h
  · refine .inr ⟨b, off, h1, Nat.lt_of_lt_of_le h2 hk.size, fun i hi => ?_⟩
    obtain ⟨ao, cap, c, r, m⟩ := h3 i hi
    exact ⟨ao, cap, hk.cell c, r.keptNo hk, m⟩
theorem AllP.getD {ps : List (List Int)} (h : AllP ps) (i : Nat) : AllB (ps.getD i []) := by
  by_cases hi : i < ps.length
  · have : ps.getD i [] = ps[i] := by simp [List.getD, hi]
    rw [this]; exact h _ (List.getElem_mem hi)
  · have : ps.getD i [] = [] := by simp [List.getD, List.getElem?_eq_none (Nat.le_of_not_lt hi)]
    rw [this]; intro b hb; cases hb
theorem AllP.flat {ps : List (List Int)} (h : AllP ps) : AllB ps.flatten := by
  intro b hb
  obtain ⟨p, hp, hbp⟩ := List.mem_flatten.1 hb
  exact h p hp b hbp
theorem nats_append (a b : List Int) : nats (a ++ b) = nats a ++ nats b := List.map_append
theorem flat_succ (ps : List (List Int)) (j : Nat) (hj : j < ps.length) : (ps.take (j + 1)).flatten = (ps.take j).flatten ++ ps.getD j [] := by
  have e : ps.getD j [] = ps[j] := by simp [List.getD, hj]
  rw [e, List.take_succ_eq_append_getElem hj, List.flatten_append, List.flatten_cons, List.flatten_nil, List.append_nil]
theorem crc_start : crcOf 0 (nats ([] : List (List Int)).flatten) = 0 := crcOf_nil 0 (by decide)

end Go.Proofs.YtdpegahcgaicnaaGreatDoor

namespace Go.Proofs.YtdpegahcgaicnaaGreatDoor
open Go.RowKit
set_option linter.unusedVariables false

theorem crc_known : crcOf 0 (nats [49, 50, 51, 52, 53, 54, 55, 56, 57]) = 3421780262 := by decide +kernel

end Go.Proofs.YtdpegahcgaicnaaGreatDoor

namespace Go.Proofs.YtdpegahcgaicnaaGreatDoor
open Go.RowKit
set_option linter.unusedVariables false

theorem regOf_succ' (r : Nat) (s : ByteArray) (j : Nat) (hj : j < s.size) : regOf r ((bytesOf s).take (j + 1)) = upd (regOf r ((bytesOf s).take j)) (s[j]).toNat := by
  have hl : j < (bytesOf s).length := by simpa [bytesOf] using hj
  rw [List.take_succ_eq_append_getElem hl, regOf_append]
  simp [regOf, bytesOf]
  rfl

end Go.Proofs.YtdpegahcgaicnaaGreatDoor

namespace Go.Proofs.YtdpegahcgaicnaaGreatDoor
open Go.RowKit
set_option linter.unusedVariables false

theorem cells_row : Tryz.prog.cellsOf 22 = 1 := by kernel_rfl
theorem parts_open {w : World} {v : Value} (h : Arg w 29 v) :
    ∃ (ao : Option Addr) (cap : Nat) (ps : List (List Int)), v = .slice ao ps.length cap ∧ Parts w ao ps ∧ AllP ps ∧ ps.length ≤ maxLen := by
  obtain ⟨ao, len, cap, rfl, hl, hm, hn, hc⟩ := h.slice Tryz.underlying29
  rw [cells_row] at hc
  have key : ∀ i, ∃ bs : List Int, AllB bs ∧ (∀ x, ao = some x → i < len → ∃ a c, w.cell? (x.add i) = some (.slice a bs.length c) ∧ Reads w a bs ∧ bs.length ≤ c ∧ c ≤ maxLen ∧ (a = none → c = 0)) := by
    intro i
    by_cases hi : i < len
    · cases ao with
      | none => exact ⟨[], (by intro b hb; cases hb), (fun x hx => by cases hx)⟩
      | some x =>
        obtain ⟨cs, hr, hcl, hcc⟩ := hc x rfl i hi
        obtain ⟨a, c, bs, rfl, h1, h2, h3, h4, h5⟩ := hr.bytes Tryz.underlying22
        refine ⟨bs, h4, ?_⟩
        intro y hy _
        cases hy
        exact ⟨a, c, by simpa using hcc 0 (by simp), h3, h1, h2, h5⟩
    · exact ⟨[], (by intro b hb; cases hb), (fun x _ h => absurd h hi)⟩
  obtain ⟨f, hf⟩ := choose1 key
  refine ⟨ao, cap, (List.range len).map f, by simp, ?_, ?_, by simp; omega⟩
  · by_cases h0 : len = 0
    · subst h0; exact .inl rfl
    · right
      cases ao with
      | none => exact absurd (hn rfl).1 h0
      | some x =>
        obtain ⟨a, c, hcell, _⟩ := (hf 0).2 x rfl (by omega)
        obtain ⟨b, off, spot⟩ := x
        have hs : spot = none := by
          have := World.cell?_spot hcell
          simpa [Addr.add] using this
        subst hs
        have hb := World.block_lt_of_cell? w _ hcell
        rw [addr_add] at hb
        refine ⟨b, off, rfl, hb, fun i hi => ?_⟩
        have hil : i < len := by simpa using hi
        obtain ⟨a, c, h1, h2, h3⟩ := (hf i).2 _ rfl hil
        rw [addr_add] at h1
        rw [range_getD f len i [] hil]
        exact ⟨a, c, h1, h2, h3⟩
  · intro p hp
    obtain ⟨i, _, rfl⟩ := List.mem_map.1 hp
    exact (hf i).1
end Go.Proofs.YtdpegahcgaicnaaGreatDoor

namespace Go.Proofs.YtdpegahcgaicnaaGreatDoor
open Go.RowKit
set_option linter.unusedVariables false

/-- One slice, in a row of its own that was just made. -/
theorem one_part {w : World} {k : Nat} {ao : Option Addr} {n cap : Nat} {bs : List Int} (hk : k = w.heap.size) (hn : n = bs.length) (hr : Reads w ao bs) (h1 : n ≤ cap) (h2 : cap ≤ maxLen) (h3 : ao = none → cap = 0) :
    Parts (w.alloc (.cells #[.slice ao n cap] 22)) (some ⟨k, 0, none⟩) [bs] := by
  subst hk hn
  refine .inr ⟨_, 0, rfl, by simp, fun i hi => ?_⟩
  match i, hi with
  | 0, _ => exact ⟨ao, cap, cell_new 0 rfl, hr.keptNo ((Kept.refl _ _).alloc _), h1, h2, h3⟩

theorem Parts.below {w w' : World} {po : Option Addr} {ps : List (List Int)} (h : Parts w po ps) (hb : Below w.heap.size w w') : Parts w' po ps :=
  h.keptNo ((Kept.refl NoB w).ofBelow hb)
end Go.Proofs.YtdpegahcgaicnaaGreatDoor

namespace Go.Proofs.YtdpegahcgaicnaaGreatDoor
open Go.RowKit
set_option linter.unusedVariables false

end Go.Proofs.YtdpegahcgaicnaaGreatDoor

namespace Go.Proofs.YtdpegahcgaicnaaGreatDoor
open Go.RowKit
set_option linter.unusedVariables false

theorem num_inj (a b : List Int) (ha : AllB a) (hb : AllB b) (hl : a.length = b.length) (hn : num a = num b) : a = b := by
  induction a generalizing b with
  | nil => cases b with
    | nil => rfl
    | cons => simp at hl
  | cons x t ih =>
    cases b with
    | nil => simp at hl
    | cons y u =>
      have h1 := ha x (by simp)
      have h2 := hb y (by simp)
      simp only [num] at hn
      have : x = y := by omega
      subst this
      rw [ih u (fun z hz => ha z (by simp [hz])) (fun z hz => hb z (by simp [hz])) (by simpa using hl) (by omega)]

structure Two (T1 T2 : TypeId) (w0 w : World) (A : Nat) (aoa : Option Addr) (capa : Nat) (ba : List Int) (sa : Nat) (B : Nat) (aob : Option Addr) (capb : Nat) (bb : List Int) (sb : Nat) : Prop where
  a : WtrT T1 w A aoa capa ba sa
  b : WtrT T2 w B aob capb bb sb
  ne : A ≠ B
  fa : w0.heap.size ≤ A
  fb : w0.heap.size ≤ B
  oa : ∀ k, (Value.slice aoa ba.length capa).ownBlock = some k → w0.heap.size ≤ k
  ob : ∀ k, (Value.slice aob bb.length capb).ownBlock = some k → w0.heap.size ≤ k
  ab : ∀ k, (Value.slice aoa ba.length capa).ownBlock = some k → (Value.slice aob bb.length capb).ownBlock ≠ some k
  ta : T1 ≠ 5
  tb : T2 ≠ 5
  bel : Below w0.heap.size w0 w
variable {T1 T2 : TypeId} {w0 w w' : World} {A : Nat} {aoa : Option Addr} {capa : Nat} {ba : List Int} {sa : Nat} {B : Nat} {aob : Option Addr} {capb : Nat} {bb : List Int} {sb : Nat}
theorem Two.swap (h : Two T1 T2 w0 w A aoa capa ba sa B aob capb bb sb) : Two T2 T1 w0 w B aob capb bb sb A aoa capa ba sa :=
  ⟨h.b, h.a, h.ne.symm, h.fb, h.fa, h.ob, h.oa, (fun k h1 h2 => h.ab k h2 h1), h.tb, h.ta, h.bel⟩
theorem Two.keptNo (h : Two T1 T2 w0 w A aoa capa ba sa B aob capb bb sb) (hk : Kept NoB w w') : Two T1 T2 w0 w' A aoa capa ba sa B aob capb bb sb :=
  ⟨h.a.kept hk (fun h => h) (fun _ _ h => h), h.b.kept hk (fun h => h) (fun _ _ h => h), h.ne, h.fa, h.fb, h.oa, h.ob, h.ab, h.ta, h.tb, hk.belowNo h.bel⟩
/-- The first one is written, its row where it was or new: the second stays. -/
theorem Two.put (h : Two T1 T2 w0 w A aoa capa ba sa B aob capb bb sb) {ao' : Option Addr} {cap' : Nat} {ba' : List Int} {sa' : Nat} (ha : WtrT T1 w' A ao' cap' ba' sa') (hk : Kept (OrB (OneB A) (OwnB (.slice aoa ba.length capa))) w w')
    (ho : ∀ k, (Value.slice ao' ba'.length cap').ownBlock = some k → (Value.slice aoa ba.length capa).ownBlock = some k ∨ w.heap.size ≤ k) : Two T1 T2 w0 w' A ao' cap' ba' sa' B aob capb bb sb := by
  have hbl := h.b.2.1.lt
  refine ⟨ha, h.b.kept hk ?_ ?_, h.ne, h.fa, h.fb, ?_, h.ob, ?_, h.ta, h.tb, hk.below h.bel ?_⟩
  · intro e
    rcases e with e | e
    · exact h.ne e.symm
    · exact row_ne h.a.2.1 h.b.1 h.tb B e rfl
  · intro k hk' e
    rcases e with e | e
    · exact row_ne h.b.2.1 h.a.1 h.ta k hk' e
    · exact h.ab k e hk'
  · intro k hk'
    rcases ho k hk' with e | e
    · exact h.oa k e
    · have := h.bel.size; omega
  · intro k hk' e
    rcases ho k hk' with e' | e'
    · exact h.ab k e' e
    · have := (hbl k e).2; omega
  · intro k e
    rcases e with e | e
    · have := h.fa; simp [OneB] at e; omega
    · exact h.oa k e
theorem Two.putP {n x : Nat} {e : Ending} (h : Two 73 T2 w0 w A aoa capa ba sa B aob capb bb sb) (hp : PutP w A (.slice aoa ba.length capa) ba sa x n e w') :
    ∃ ao' cap' ba', e = .returned (.bool true) ∧ Two 73 T2 w0 w' A ao' cap' ba' (sa + n) B aob capb bb sb ∧ num ba' = num ba + x * 2 ^ sa := by
  obtain ⟨ao', cap', ba', rfl, hW, hN, hk, ho⟩ := hp
  exact ⟨ao', cap', ba', rfl, h.put hW hk ho, hN⟩
theorem Two.putA (h : Two 73 T2 w0 w A aoa capa ba sa B aob capb bb sb) (v n : Nat) (hv : v < 4294967296) (hn : n ≤ 32) (hs : sa ≤ 900000000000) (W : World) (hk : Kept NoB w W) :
    Calls Tryz.prog 19 #[.pointer (some ⟨A, 0, none⟩), .int .u32 v, .int .i64 n] W fun e W' => e = .returned (.bool true) ∧
      ∃ ao' cap' ba', Hid (Two 73 T2 w0 W' A ao' cap' ba' (sa + n) B aob capb bb sb) ∧ Hid (num ba' = num ba + v % 2 ^ n * 2 ^ sa) := by
  refine (put_any _ _ _ _ _ _ v n (h.keptNo hk).a hv hn hs).mono ?_
  rintro e W' hp
  obtain ⟨ao', cap', ba', rfl, hT, hN⟩ := (h.keptNo hk).putP hp
  exact ⟨rfl, ao', cap', ba', hT, hN⟩
theorem Two.putB (h : Two T1 73 w0 w A aoa capa ba sa B aob capb bb sb) (v n : Nat) (hv : v < 4294967296) (hn : n ≤ 32) (hs : sb ≤ 900000000000) (W : World) (hk : Kept NoB w W) (z : Int) (hz : z = n) :
    Calls Tryz.prog 19 #[.pointer (some ⟨B, 0, none⟩), .int .u32 v, .int .i64 z] W fun e W' => e = .returned (.bool true) ∧
      ∃ ao' cap' bb', Hid (Two T1 73 w0 W' A aoa capa ba sa B ao' cap' bb' (sb + n)) ∧ Hid (num bb' = num bb + v % 2 ^ n * 2 ^ sb) := by
  subst hz
  refine (h.swap.putA v n hv hn hs W hk).mono ?_
  rintro e W' ⟨rfl, ao', cap', ba', hT, hN⟩
  exact ⟨rfl, ao', cap', ba', hT.out.swap, hN⟩
/-- A writer's bytes, told as a copy. -/
def ToldW (W : World) (bs : List Int) (e : Ending) (W' : World) : Prop :=
  ∃ ao' cap', e = .returned (.slice ao' bs.length cap') ∧ Hid (Reads W' ao' bs) ∧ Hid (ao' = none → cap' = 0) ∧ Hid ((convert 22 9 (.slice ao' bs.length cap')).run Tryz.prog W' = .ok (.string (strOfNums bs)) W') ∧ Kept NoB W W'
theorem told_of {W W' : World} {ao : Option Addr} {bs : List Int} {e : Ending} (h : Copied W ao bs e W') : ToldW W bs e W' := by
  obtain ⟨ao', cap', rfl, ho, hf, hn, hk⟩ := h
  have h0 : ao' = none → cap' = 0 := by
    rintro rfl
    rcases ho.2 with ⟨h1, _⟩ | ⟨g, c, cur, h1, _⟩
    · simp at h1; exact h1.2
    · simp at h1
  have hr := own_reads ho rfl
  exact ⟨ao', cap', rfl, hr, h0, conv_reads hr rfl h0, hk⟩
theorem Two.bytesA (h : Two 73 T2 w0 w A aoa capa ba sa B aob capb bb sb) (W : World) (hk : Kept NoB w W) :
    Calls Tryz.prog 16 #[.pointer (some ⟨A, 0, none⟩)] W (ToldW W ba) :=
  (wbytes_any _ _ _ _ _ _ (h.keptNo hk).a).mono fun _ _ h => told_of h
theorem Two.lenA (h : Two 73 T2 w0 w A aoa capa ba sa B aob capb bb sb) (W : World) (hk : Kept NoB w W) :
    Calls Tryz.prog 23 #[.pointer (some ⟨A, 0, none⟩)] W fun e W' => e = .returned (.int .i64 sa) ∧ Kept NoB W W' :=
  wlen_any _ _ _ _ _ _ (h.keptNo hk).a
end Go.Proofs.YtdpegahcgaicnaaGreatDoor

namespace Go.Proofs.YtdpegahcgaicnaaGreatDoor
open Go.RowKit
set_option linter.unusedVariables false
set_option maxRecDepth 20000

/-- At the head of a round: m bits are put. -/
def OutR (w : World) (R : Nat) (v0 : Value) (bs : List Int) (s v n : Nat) (i : Value) (wr : World) (m : Nat) (ao' : Option Addr) (cap' : Nat) (bs' : List Int) : Prop :=
  m ≤ n ∧ i = .int .i64 m ∧ WtrT 45 wr R ao' cap' bs' (s + m) ∧ num bs' = num bs + v % 2 ^ m * 2 ^ s ∧ Kept (OrB (OneB R) (OwnB v0)) w wr ∧
    (∀ k, (Value.slice ao' bs'.length cap').ownBlock = some k → v0.ownBlock = some k ∨ w.heap.size ≤ k)
/-- There is a byte for the next bit. -/
def OutM (w : World) (R : Nat) (v0 : Value) (N T : Nat) (wx : World) (ao2 : Option Addr) (cap2 : Nat) (bs2 : List Int) : Prop :=
  wx.heap[R]? = some (.cells #[.slice ao2 bs2.length cap2, .int .i64 T] 45 (0, 0)) ∧ wx.ownsRow 0 5 1 (.slice ao2 bs2.length cap2) bs2.length (bs2.map (.int .u8)) ∧
    AllB bs2 ∧ bs2.length = T / 8 + 1 ∧ num bs2 = N ∧ Kept (OrB (OneB R) (OwnB v0)) w wx ∧
    (∀ k, (Value.slice ao2 bs2.length cap2).ownBlock = some k → v0.ownBlock = some k ∨ w.heap.size ≤ k)
def OutMx (w : World) (R : Nat) (v0 : Value) (N T : Nat) (wx : World) : Prop := ∃ ao2 cap2 bs2, OutM w R v0 N T wx ao2 cap2 bs2
def OutP (w : World) (R : Nat) (v0 : Value) (bs : List Int) (s x n : Nat) (e : Ending) (w' : World) : Prop :=
  ∃ ao' cap' bs', e = .returned (.bool true) ∧ WtrT 45 w' R ao' cap' bs' (s + n) ∧ num bs' = num bs + x * 2 ^ s ∧ Kept (OrB (OneB R) (OwnB v0)) w w' ∧
    (∀ k, (Value.slice ao' bs'.length cap').ownBlock = some k → v0.ownBlock = some k ∨ w.heap.size ≤ k)

theorem out_round {w wc : World} {R : Nat} {v0 : Value} {bs bs2 : List Int} {s v n m T q L b g cap2 : Nat} {z : Int} (hM : OutM w R v0 (num bs + v % 2 ^ m * 2 ^ s) T wc (some ⟨g, 0, none⟩) cap2 bs2)
    (hNlt : num bs + v % 2 ^ m * 2 ^ s < 2 ^ T) (hT : T = s + m) (hq : q = T % 8) (hL : L = T / 8) (hm : m < n) (hb : b = v / 2 ^ m % 2)
    (hz : bs2.getD L 0 = z) (hs : s ≤ 900000000000) (hn : n ≤ 32) :
    OutR w R v0 bs s v n (.int .i64 ((m : Int) + 1))
      ((wc.setCell ⟨g, L, none⟩ (.int .u8 (bits .or .u8 z ((b : Int) * 2 ^ q % 256)))).drew.setCell ⟨R, 1, none⟩ (.int .i64 ((T : Int) + 1)))
      (m + 1) (some ⟨g, 0, none⟩) cap2 (bs2.set L (putByte z b q)) := by
  obtain ⟨h1, h2, h3, h4, h5, h6, h7⟩ := hM
  have e8 : bits .or .u8 z ((b : Int) * 2 ^ q % 256) = putByte z b q := by
    unfold putByte; rw [IntKind.wrap_u8', IntKind.wrap_u64, Int.emod_emod_of_dvd _ (by decide)]
  have eT : ((T : Int) + 1) = ((T + 1 : Nat) : Int) := by push_cast; rfl
  have ps := put_step bs2 h3 L q b 1 1 (by omega) (by omega) (by rw [h5, show 8 * L + q = T from by omega]; exact hNlt) (by omega) (.inr ⟨rfl, by omega⟩)
  rw [hz, show 8 * L + q = T from by omega, h5] at ps
  have hlen : (bs2.set L (putByte z b q)).length = bs2.length := List.length_set
  have hne := row_ne h2 h1 (by decide) g rfl
  rw [e8, eT]
  have st := h2.stored L (.int .u8 (putByte z b q))
  have k1 : Kept (OneB g) wc (wc.setCell ⟨g, L, none⟩ (.int .u8 (putByte z b q))) := Kept.setCell (S := OneB g) (p := ⟨g, L, none⟩) (Kept.refl _ _) (.inl rfl) _
  have o1 := k1.obj h1 (fun e => hne e.symm)
  refine ⟨by omega, ?_, ⟨?_, ?_, ps.1, by rw [hlen]; omega, ?_, by omega⟩, ?_, ?_, ?_⟩
  · congr 1
  · rw [hlen]
    have o1d : (wc.setCell ⟨g, L, none⟩ (.int .u8 (putByte z b q))).drew.heap[R]? = some (.cells #[.slice (some ⟨g, 0, none⟩) bs2.length cap2, .int .i64 T] 45 (0, 0)) := o1
    have := obj_set o1d 1 (.int .i64 (T + 1 : Nat))
    rw [show s + (m + 1) = T + 1 from by omega]
    simpa using this
  · rw [hlen]
    have := (Kept.setCell (S := OneB R) (p := ⟨R, 1, none⟩) (Kept.refl _ (wc.setCell ⟨g, L, none⟩ (.int .u8 (putByte z b q))).drew) (.inl rfl) (.int .i64 (T + 1 : Nat))).row ((Kept.drew (Kept.refl NoB _)).row st.1 (fun k hk e => e)) (fun k hk e => by
      simp [Value.ownBlock] at hk; exact hne (hk.trans e))
    rw [List.map_set]
    exact this
  · rw [show s + (m + 1) = T + 1 from by omega]; exact ps.2.2
  · rw [ps.2.1, ← put_parts v m 1, hb, hT, Nat.add_mul, Nat.pow_add, Nat.mul_assoc, Nat.mul_comm (2 ^ m) (2 ^ s), Nat.pow_one, Nat.mod_mod]; omega
  · refine Kept.setCell (p := ⟨R, 1, none⟩) (Kept.drew (Kept.setCell (p := ⟨g, L, none⟩) h6 ?_ _)) (.inl (.inl rfl)) _
    rcases h7 g rfl with h | h
    · exact .inl (.inr h)
    · exact .inr h
  · intro k hk
    exact h7 k (by simpa [Value.ownBlock] using hk)

set_option maxHeartbeats 4000000 in
theorem outPut_any (w : World) (R : Nat) (ao : Option Addr) (cap : Nat) (bs : List Int) (s v n : Nat) (h : WtrT 45 w R ao cap bs s) (hv : v < 4294967296) (hn : n ≤ 32) (hs : s ≤ 900000000000) :
    Calls Tryz.prog 20 #[.pointer (some ⟨R, 0, none⟩), .int .u32 v, .int .i64 n] w (OutP w R (.slice ao bs.length cap) bs s (v % 2 ^ n) n) := by
  obtain ⟨i0, hi, hz0, hz1, hz2⟩ := info_parts info5
  have H := Lib.hid h; clear h
  go_enter Tryz.func20, Tryz.ntmps20
  go_wp2
  go_loopw [7] (fun i wr => ∃ m ao' cap' bs', OutR w R (.slice ao bs.length cap) bs s v n i wr m ao' cap' bs') (fun i _ => n - (intOf i).toNat)
  case atStart =>
    exact ⟨0, ao, cap, bs, by omega, by simp, by simpa using H.out, by simp [Nat.mod_one], Kept.refl _ _, fun k hk => .inl hk⟩
  case round =>
    obtain ⟨m, ao', cap', bs', hm, rfl, hW, hN, hK, hO⟩ := hrel
    obtain ⟨T, hT⟩ : ∃ T, T = s + m := ⟨_, rfl⟩
    have hTm : T ≤ 900000000032 := by omega
    rw [← hT] at hW
    obtain ⟨q, hq⟩ : ∃ q, q = T % 8 := ⟨_, rfl⟩
    have hq8 : q < 8 := by omega
    have hmod : (T : Int) % 8 = q := by omega
    have HQ := Lib.hid hq; clear hq
    have HT := Lib.hid hT; clear hT
    have HN := Lib.hid hN; clear hN
    have HW := Lib.hid hW
    have c0 : wr.cell? ⟨R, 0, none⟩ = some (.slice ao' bs'.length cap') := by simpa using obj_cell hW.1 0
    have c1 : wr.cell? ⟨R, 1, none⟩ = some (.int .i64 T) := by simpa using obj_cell hW.1 1
    have f0 : wr.frozen? ⟨R, 0, none⟩ = false := obj_free hW.1 0
    clear hW
    by_cases hlt : m < n
    · go_upto_if 24 with fail
      go_cut [7] from 19 to 33 (fun s wx => s = .int .i64 m ∧ OutMx w R (.slice ao bs.length cap) (num bs') T wx)
      case first =>
        by_cases hq0 : q = 0
        · have ht : ((T : Int) % 8 == 0) = true := by simp; omega
          have hown := HW.out.2.1
          have hlen := HW.out.2.2.2.1
          have hlb : bs'.length ≤ 112500000004 := by omega
          have HLen := Lib.hid hlen; clear hlen
          go_wp2_with (at_builtin; refine wpList_app _ rfl _ _ 22 rfl 5 i0 (.int .u8 0) 1 1 Tryz.underlying22 hi hz0 hz1 hz2 rfl (by decide) _ _ _ rfl (hown.alloc _) ⟨wr.heap.size, 0, none⟩ 1 1 [.int .u8 0] rfl rfl ?c1 ?c2 ?c3 ?c4 ?_)
          case c1 => exact cell_one_new _ _ _
          case c2 => intro u hu; simp at hu; subst hu; rfl
          case c3 => unfold maxLen; omega
          case c4 => omega
          intro v' w1 hown' hgrow hnew
          obtain ⟨ao2, cap2, rfl⟩ := own_shape hown'
          have hob := HW.out.1
          have hne := row_ne hown hob (by decide)
          have hob1 : w1.heap[R]? = some (.cells #[.slice ao' bs'.length cap', .int .i64 T] 45 (0, 0)) := by
            rw [hgrow.block R (by have := obj_lt hob; simp; omega) (fun e => hne R e.symm rfl), heap_alloc_old _ _ (obj_lt hob)]
            exact hob
          have d0 : w1.cell? ⟨R, 0, none⟩ = some (.slice ao' bs'.length cap') := by simpa using obj_cell hob1 0
          have g0 : w1.frozen? ⟨R, 0, none⟩ = false := obj_free hob1 0
          have F : OutMx w R (.slice ao bs.length cap) (num bs') T (w1.setCell ⟨R, 0, none⟩ (.slice ao2 (bs'.length + 1) cap2)) := by
            refine ⟨ao2, cap2, bs' ++ [0], ?_, ?_, HW.out.2.2.1.snoc 0 (by decide), ?_, num_zero_last _, ?_, ?_⟩
            · simpa using obj_set hob1 0 (.slice ao2 (bs'.length + 1) cap2)
            · have := (Kept.setCell (S := OneB R) (p := ⟨R, 0, none⟩) (Kept.refl _ w1) (.inl rfl) (.slice ao2 (bs'.length + 1) cap2)).row hown' (fun k hk e => row_ne hown' hob1 (by decide) k hk e)
              simpa using this
            · have := HLen.out; have := HQ.out; simp; omega
            · refine Kept.setCell (p := ⟨R, 0, none⟩) ?_ (.inl (.inl rfl)) _
              refine (hK.alloc _).grown hgrow ?_
              intro k hk e
              rcases hO k e with h1 | h1
              · exact .inr h1
              · omega
            · intro k hk
              have hk2 : (Value.slice ao2 (bs'.length + 1) cap2).ownBlock = some k := by
                cases ao2 with
                | none => simp [Value.ownBlock] at hk
                | some a => simpa [Value.ownBlock] using hk
              rcases hnew k hk2 with h1 | h1
              · exact hO k h1
              · have := hK.size; exact .inr (by omega)
          have HF := Lib.hid F; clear F
          clear hown' hgrow hnew hob1 hob hne
          go_wp2
          go_meet
          exact ⟨rfl, HF.out⟩
        · have ht : ((T : Int) % 8 == 0) = false := by simp; omega
          go_wp2
          go_meet
          obtain ⟨h1, h2, h3, h4, h5, h6⟩ := HW.out
          exact ⟨rfl, ao', cap', bs', h1, h2, h3, by have := HQ.out; omega, rfl, hK, hO⟩
      case rest =>
        obtain ⟨rfl, ao2, cap2, bs2, hM⟩ := hcut
        obtain ⟨h1, h2, h3, h4, h5, h6, h7⟩ := hM
        obtain ⟨g, rfl⟩ : ∃ g, ao2 = some ⟨g, 0, none⟩ := by
          rcases h2.2 with ⟨_, hz⟩ | ⟨g, c, cur, hv, _⟩
          · omega
          · simp at hv; exact ⟨g, hv.1⟩
        obtain ⟨L, hL⟩ : ∃ L, L = T / 8 := ⟨_, rfl⟩
        have hdiv : (T : Int) / 8 = L := by omega
        have hne := row_ne h2 h1 (by decide) g rfl
        have hcellz : wc.cell? ⟨g, L, none⟩ = some (.int .u8 (bs2.getD L 0)) := by
          rw [h2.cellAt L (by omega)]; simp [List.getD, show L < bs2.length from by omega]
        have hfz : wc.frozen? ⟨g, L, none⟩ = false := h2.frozenAt L
        have hzb := AllB.getD h3 L
        have d0 : wc.cell? ⟨R, 0, none⟩ = some (.slice (some ⟨g, 0, none⟩) bs2.length cap2) := by simpa using obj_cell h1 0
        have d1 : wc.cell? ⟨R, 1, none⟩ = some (.int .i64 T) := by simpa using obj_cell h1 1
        have g1 : wc.frozen? ⟨R, 1, none⟩ = false := obj_free h1 1
        have hlen : bs2.length = L + 1 := by omega
        have HM : Hid (OutM w R (.slice ao bs.length cap) (num bs') T wc (some ⟨g, 0, none⟩) cap2 bs2) := ⟨h1, h2, h3, h4, h5, h6, h7⟩
        rw [hlen] at d0
        have HLL2 := Lib.hid hL; clear hL
        have HLen := Lib.hid hlen; clear hlen
        generalize hz : bs2.getD L 0 = z at hcellz hzb
        have HZ := Lib.hid hz; clear hz
        have hLb : L ≤ 112500000004 := by have := HLL2.out; omega
        clear h1 h2 h3 h4 h5 h6 h7
        obtain ⟨b, hb⟩ : ∃ b, b = v / 2 ^ m % 2 := ⟨_, rfl⟩
        have hb2 : b < 2 := by omega
        have hv2 : v / 2 ^ m < 4294967296 := Nat.lt_of_le_of_lt (Nat.div_le_self _ _) hv
        have hbit : bits .and .u32 ((v : Int) / 2 ^ m) 1 = b := by
          have := and1_u32 (v / 2 ^ m) hv2
          rw [← hb] at this
          rw [← this]; push_cast; rfl
        have HB := Lib.hid hb; clear hb hv2
        go_wp2
        go_region
        all_goals go_wp2
        go_roundw
        case rel =>
          have hWn := HW.out.2.2.2.2.1
          rw [HN.out] at hWn
          have hM2 := HM.out
          rw [HN.out] at hM2
          exact ⟨m + 1, _, _, _, out_round hM2 hWn HT.out HQ.out HLL2.out hlt HB.out HZ.out hs hn⟩
        case measure => simp [intOf]; omega
    · have hl0 : m = n := by omega
      go_wp2
      go_ret
      refine ⟨ao', cap', bs', rfl, ?_, ?_, hK, hO⟩
      · have := HW.out
        rw [HT.out, hl0] at this
        exact this
      · rw [HN.out, hl0]
theorem outPut_no (w : World) (R : Nat) (v : Nat) (n : Int) (hn : n < 0 ∨ 32 < n) :
    Calls Tryz.prog 20 #[.pointer (some ⟨R, 0, none⟩), .int .u32 v, .int .i64 n] w fun e w' => e = .returned (.bool false) ∧ w = w' := by
  go_enter Tryz.func20, Tryz.ntmps20
  rcases hn with h | h
  · go_wp2
    go_ret
    exact ⟨rfl, rfl⟩
  · have h0 : ¬ n < 0 := by omega
    go_wp2
    go_ret
    exact ⟨rfl, rfl⟩

theorem Kept.transOld {S T : Nat → Prop} {a b c : World} (h : Kept S a b) (k : Kept T b c) (hs : ∀ i, i < a.heap.size → T i → S i) : Kept S a c :=
  ⟨k.os.trans h.os, k.tape.trans h.tape, k.output.trans h.output, Nat.le_trans h.size k.size, fun i hi hn => (k.block i (Nat.lt_of_lt_of_le hi h.size) (fun t => hn (hs i hi t))).trans (h.block i hi hn)⟩

/-- Aligned: noughts are put up to the next whole byte. -/
def OutA (w : World) (R : Nat) (v0 : Value) (bs : List Int) (s : Nat) (wr : World) (t : Nat) (ao' : Option Addr) (cap' : Nat) (bs' : List Int) : Prop :=
  s ≤ t ∧ t ≤ up8 s ∧ WtrT 45 wr R ao' cap' bs' t ∧ num bs' = num bs ∧ Kept (OrB (OneB R) (OwnB v0)) w wr ∧
    (∀ k, (Value.slice ao' bs'.length cap').ownBlock = some k → v0.ownBlock = some k ∨ w.heap.size ≤ k)
def cellInt (wr : World) (R : Nat) : Int := intOf ((wr.cell? ⟨R, 1, none⟩).getD undef)
set_option maxHeartbeats 2000000 in
theorem outAlign_any (w : World) (R : Nat) (ao : Option Addr) (cap : Nat) (bs : List Int) (s : Nat) (h : WtrT 45 w R ao cap bs s) (hs : s ≤ 800000000000) :
    Calls Tryz.prog 21 #[.pointer (some ⟨R, 0, none⟩)] w fun e w' => e = .returned (.tuple #[]) ∧ ∃ ao' cap' bs', Hid (OutA w R (.slice ao bs.length cap) bs s w' (up8 s) ao' cap' bs') := by
  have H := Lib.hid h; clear h
  go_enter Tryz.func21, Tryz.ntmps21
  go_wp2
  go_loopw [] (fun wr => ∃ t ao' cap' bs', OutA w R (.slice ao bs.length cap) bs s wr t ao' cap' bs') (fun wr => up8 s - (cellInt wr R).toNat)
  case atStart => exact ⟨s, ao, cap, bs, by omega, by unfold up8; omega, H.out, rfl, Kept.refl _ _, fun k hk => .inl hk⟩
  case round =>
    obtain ⟨t, ao', cap', bs', hA⟩ := hrel
    have hb1 := hA.1
    have hb2 := hA.2.1
    have hu : up8 s ≤ 800000000007 := by unfold up8; omega
    have c1 : wr.cell? ⟨R, 1, none⟩ = some (.int .i64 t) := by simpa using obj_cell hA.2.2.1.1 1
    have HC : Hid (cellInt wr R = t) := by unfold cellInt; rw [c1]; rfl
    have HA := Lib.hid hA; clear hA
    by_cases hz : t % 8 = 0
    · have ht : (t : Int) % 8 = 0 := by omega
      have htu : t = up8 s := by unfold up8 at hb2 ⊢; omega
      have HTU := Lib.hid htu; clear htu hz
      go_wp2
      go_end0
      have := HA.out
      rw [HTU.out] at this
      exact ⟨rfl, ao', cap', bs', this⟩
    · have ht : ((t : Int) % 8 == 0) = false := by simp; omega
      have ht2 : ((t : Int) % 8 != 0) = true := by simp; omega
      have HZ : Hid (t + 1 ≤ up8 s) := by show t + 1 ≤ up8 s; unfold up8 at hb2 ⊢; omega
      clear hz
      go_wp2_with fail
      refine (outPut_any _ _ _ _ _ _ 0 1 HA.out.2.2.1 (by decide) (by omega) (by omega)).mono ?_
      rintro e w2 ⟨ao2, cap2, bs2, rfl, hW, hN, hK, hO⟩
      have HF : Hid (OutA w R (.slice ao bs.length cap) bs s w2 (t + 1) ao2 cap2 bs2) := by
        obtain ⟨a1, a2, a3, a4, a5, a6⟩ := HA.out
        refine ⟨by omega, HZ.out, hW, by rw [hN, a4]; simp, a5.transOld hK ?_, ?_⟩
        · intro k hk hs
          rcases hs with h1 | h1
          · exact .inl h1
          · rcases a6 k h1 with h2 | h2
            · exact .inr h2
            · omega
        · intro k hk
          rcases hO k hk with h1 | h1
          · exact a6 k h1
          · exact .inr (Nat.le_trans a5.size h1)
      have HC2 : Hid (cellInt w2 R = (t + 1 : Nat)) := by unfold cellInt; rw [show w2.cell? ⟨R, 1, none⟩ = some (.int .i64 (t + 1 : Nat)) from by simpa using obj_cell hW.1 1]; rfl
      clear hW hN hK hO
      go_wp2
      go_roundw
      case rel => exact ⟨t + 1, ao2, cap2, bs2, HF.out⟩
      case measure => rw [HC.out, HC2.out]; have := HZ.out; omega
end Go.Proofs.YtdpegahcgaicnaaGreatDoor

namespace Go.Proofs.YtdpegahcgaicnaaGreatDoor
open Go.RowKit
set_option linter.unusedVariables false
set_option linter.unusedSimpArgs false

def WroteO (w : World) (R : Nat) (v0 : Value) (bs : List Int) (s : Nat) (ps : List (Nat × Nat)) (w' : World) (ao' : Option Addr) (cap' : Nat) (bs' : List Int) : Prop :=
  WtrT 45 w' R ao' cap' bs' (s + wdN ps) ∧ num bs' = num bs + putsN ps * 2 ^ s ∧ Kept (OrB (OneB R) (OwnB v0)) w w' ∧ (∀ k, (Value.slice ao' bs'.length cap').ownBlock = some k → v0.ownBlock = some k ∨ w.heap.size ≤ k)
theorem WroteO.nil {w : World} {R : Nat} {ao : Option Addr} {cap : Nat} {bs : List Int} {s : Nat} (h : WtrT 45 w R ao cap bs s) : WroteO w R (.slice ao bs.length cap) bs s [] w ao cap bs :=
  ⟨h, by simp [putsN], Kept.refl _ _, fun k hk => .inl hk⟩
theorem WroteO.keptNo {w w1 w2 : World} {R : Nat} {v0 : Value} {bs bs1 : List Int} {s : Nat} {ps : List (Nat × Nat)} {ao1 : Option Addr} {cap1 : Nat} (h : WroteO w R v0 bs s ps w1 ao1 cap1 bs1) (hk : Kept NoB w1 w2) : WroteO w R v0 bs s ps w2 ao1 cap1 bs1 :=
  ⟨h.1.kept hk (fun e => e) (fun _ _ e => e), h.2.1, h.2.2.1.transO hk (fun i hi h => h.elim), h.2.2.2⟩
theorem WroteO.put {w w1 w2 : World} {R : Nat} {v0 : Value} {bs bs1 : List Int} {s x n : Nat} {ps : List (Nat × Nat)} {ao1 : Option Addr} {cap1 : Nat} {e : Ending} (h : WroteO w R v0 bs s ps w1 ao1 cap1 bs1) (h2 : OutP w1 R (.slice ao1 bs1.length cap1) bs1 (s + wdN ps) x n e w2) :
    ∃ ao2 cap2 bs2, e = .returned (.bool true) ∧ WroteO w R v0 bs s (ps ++ [(x, n)]) w2 ao2 cap2 bs2 := by
  obtain ⟨hw1, hw2, hw3, hw4⟩ := h
  obtain ⟨ao2, cap2, bs2, rfl, p1, p2, p3, p4⟩ := h2
  refine ⟨ao2, cap2, bs2, rfl, ?_, ?_, ?_, ?_⟩
  · rw [wdN_append]
    simp only [wdN, Nat.add_zero]
    rw [← Nat.add_assoc]
    exact p1
  · rw [putsN_append]
    simp only [putsN, Nat.zero_mul, Nat.add_zero]
    rw [p2, hw2, Nat.add_mul, Nat.add_assoc, Nat.pow_add, Nat.mul_assoc, Nat.mul_comm (2 ^ wdN _) (2 ^ s)]
  · refine hw3.transO p3 ?_
    intro j hj e
    rcases e with e | e
    · exact .inl e
    · rcases hw4 j e with h | h
      · exact .inr h
      · omega
  · intro k hk'
    rcases p4 k hk' with h | h
    · exact hw4 k h
    · have := hw3.size; omega
/-- One Put of the document's. -/
theorem WroteO.puts {w w1 : World} {R : Nat} {v0 : Value} {bs bs1 : List Int} {s : Nat} {ps : List (Nat × Nat)} {ao1 : Option Addr} {cap1 : Nat} (h : WroteO w R v0 bs s ps w1 ao1 cap1 bs1) (x n : Nat) (hx : x < 2 ^ n) (hn : n ≤ 32) (hs : s + wdN ps ≤ 900000000000) (W : World) (hk : Kept NoB w1 W) :
    Calls Tryz.prog 20 #[.pointer (some ⟨R, 0, none⟩), .int .u32 (x : Int), .int .i64 (n : Int)] W fun e w' => e = .returned (.bool true) ∧ ∃ ao2 cap2 bs2, WroteO w R v0 bs s (ps ++ [(x, n)]) w' ao2 cap2 bs2 := by
  have hW := h.keptNo hk
  have h32 : 2 ^ n ≤ 2 ^ 32 := Nat.pow_le_pow_right (by decide) hn
  have hp := outPut_any W R ao1 cap1 bs1 _ x n hW.1 (by omega) hn hs
  rw [Nat.mod_eq_of_lt hx] at hp
  refine hp.mono ?_
  intro e w' hp
  obtain ⟨a2, c2, b2, rfl, h2⟩ := hW.put hp
  exact ⟨rfl, a2, c2, b2, h2⟩
/-- The document's Align. -/
theorem WroteO.aligns {w w1 : World} {R : Nat} {v0 : Value} {bs bs1 : List Int} {s : Nat} {ps : List (Nat × Nat)} {ao1 : Option Addr} {cap1 : Nat} (h : WroteO w R v0 bs s ps w1 ao1 cap1 bs1) (hs : s + wdN ps ≤ 800000000000) (W : World) (hk : Kept NoB w1 W) :
    Calls Tryz.prog 21 #[.pointer (some ⟨R, 0, none⟩)] W fun e w' => e = .returned (.tuple #[]) ∧ ∃ ao2 cap2 bs2, WroteO w R v0 bs s (ps ++ [(0, up8 (s + wdN ps) - (s + wdN ps))]) w' ao2 cap2 bs2 := by
  have hW := h.keptNo hk
  refine (outAlign_any W R ao1 cap1 bs1 _ hW.1 hs).mono ?_
  rintro e w' ⟨rfl, a2, c2, b2, hA⟩
  obtain ⟨_, _, p1, p2, p3, p4⟩ := hA.out
  obtain ⟨hw1, hw2, hw3, hw4⟩ := hW
  have hu : s + wdN ps ≤ up8 (s + wdN ps) := by unfold up8; omega
  refine ⟨rfl, a2, c2, b2, ?_, ?_, ?_, ?_⟩
  · rw [wdN_append]
    simp only [wdN, Nat.add_zero]
    rw [show s + (wdN ps + (up8 (s + wdN ps) - (s + wdN ps))) = up8 (s + wdN ps) by omega]
    exact p1
  · rw [putsN_append, p2, hw2]
    simp [putsN]
  · refine hw3.transO p3 ?_
    intro j hj e
    rcases e with e | e
    · exact .inl e
    · rcases hw4 j e with h | h
      · exact .inr h
      · omega
  · intro k hk'
    rcases p4 k hk' with h | h
    · exact hw4 k h
    · have := hw3.size; omega
/-- Two writers that were given the same from the same hold the same bytes. -/
theorem wrote_same {w0 w1 w2 w3 : World} {R Q : Nat} {v0 u0 : Value} {bs ba bb : List Int} {s : Nat} {ps : List (Nat × Nat)} {ao bo : Option Addr} {cap cbp : Nat} (h : WroteP w0 R v0 bs s ps w1 ao cap ba) (h2 : WroteO w2 Q u0 bs s ps w3 bo cbp bb) : ba = bb :=
  num_inj _ _ h.1.2.2.1 h2.1.2.2.1 (by rw [h.1.2.2.2.1, h2.1.2.2.2.1]) (by rw [h.2.1, h2.2.1])
end Go.Proofs.YtdpegahcgaicnaaGreatDoor
