/-
  A tree of files on paper: one node that turns, and a name that is moved, keep what always holds.
  DERIVED: THE SHELF's CONTRACTS AT THIS DUMP, IN PLAIN WORDS (tools/lay-plain.mjs out of 'YtgbakogihkdddaaGreatDoorShelf.lean', which tools/lay-shelf.mjs wrote): THE SAME DECLARATIONS UNDER THE SAME NAMES: 'import', 'namespace', 'open', 'def', 'theorem' AND NOTHING ELSE: no command of the shelf's: FOR A HAND-IN. Each laying: the table of numbers ('.._ren') and one theorem, a field a fact of the dump's own or the kernel's comparison; each contract: ONE APPLICATION.
  The library as this program has it: all of it stands in ShelfP.
  A tree of files in memory: what a node may be.
  A tree of files on paper: Set.
-/
import Derived.Test.YtgbakogihkdddaaGreatDoorMx2
import Derived.Shelf.Small.Utf8
import Derived.Shelf.Small.Bits
import Derived.Shelf.Small.Strs
import Derived.Shelf.Strconv.Itoa0
import Derived.Shelf.Strings.Search1
import Derived.Shelf.Strings.Search2
import Derived.Shelf.Strings.Search3
import Derived.Shelf.LaysM
import Derived.Shelf.Strings.Shaped
import Derived.Shelf.Strings.Prefix
import Derived.Shelf.Strings.Runes
import Derived.Shelf.Strings.IndexAny
import Derived.Shelf.Strings.AsciiSet
import Derived.Shelf.Strings.IndexAnyAll
import Derived.Test.YtgbakogihkdddaaGreatDoorProg
import Derived.Laws.Rows
import Derived.Laws.Tables
namespace Go.Proofs.YtgbakogihkdddaaGreatDoor
set_option linter.unusedVariables false
set_option linter.unusedSimpArgs false

/-- One node turns, but for its kind and names. -/
theorem same_ok {T : FsP} (h : OkT T) {i : Int} {n n' : NdP} {used' : Int} (hn : T.nd i = some n) (h1 : n'.names = n.names) (h2 : n'.par = n.par) (h3 : n'.v.kind = n.v.kind) (h4 : n'.v.links = n.v.links)
    (h5 : OkD n'.data) (h6 : n'.v.kind ≠ 1 → n'.data = []) (h7 : ∀ p ∈ n'.data, endP p ≤ n'.v.size) (h8 : 0 ≤ n'.v.size ∧ n'.v.size ≤ 1099511627776) (h9 : n'.v.change = T.clock + 1)
    (h10 : 0 ≤ n'.v.mode ∧ n'.v.mode ≤ 4095) (h11 : 0 ≤ n'.v.user ∧ n'.v.user ≤ 2147483647) (h12 : 0 ≤ n'.v.group ∧ n'.v.group ≤ 2147483647) (h13 : -9223372036854775808 ≤ n'.v.time ∧ n'.v.time ≤ 9223372036854775807)
    (h14 : n'.v.major = n.v.major ∧ n'.v.minor = n.v.minor ∧ n'.v.tgt = n.v.tgt) (h15 : used' + (sizeD n.data : Nat) = T.used + (sizeD n'.data : Nat)) (h16 : used' ≤ T.quota) :
    OkT { T with clock := T.clock + 1, used := used', nd := updN T.nd i (some n') } := by
  have on := h.node i n hn
  have hN := h.next
  have hC := h.clock
  have hsum : ∀ g : Option NdP → Nat, sumN (updN T.nd i (some n')) g (T.next + 1).toNat + g (some n) = sumN T.nd g (T.next + 1).toNat + g (some n') := by
    intro g
    have e2 := sumN_upd T.nd g (some n') i (T.next + 1).toNat (by have := on.low; omega) (by have := on.high; omega)
    rw [hn] at e2
    exact e2
  have hlk : ∀ x, sumN (updN T.nd i (some n')) (gLink x) (T.next + 1).toNat = sumN T.nd (gLink x) (T.next + 1).toNat := by
    intro x
    have := hsum (gLink x)
    rw [gLink_some, gLink_some, h1] at this
    omega
  have hex : ∀ x a, T.nd x = some a → ∃ a', updN T.nd i (some n') x = some a' ∧ a'.v.kind = a.v.kind ∧ a'.par = a.par ∧ a'.names = a.names := by
    intro x a hx
    by_cases hxi : x = i
    · subst hxi
      rw [hn] at hx; cases hx
      exact ⟨n', updN_same _ _ _, h3, h2, h1⟩
    · exact ⟨a, by rw [updN_other _ _ hxi]; exact hx, rfl, rfl, rfl⟩
  have hstep : ∀ x a, T.nd x = some a → OkNd { T with clock := T.clock + 1, used := used', nd := updN T.nd i (some n') } x a := by
    intro x a hx
    refine (h.node x a hx).step (Int.le_refl _) (by simp only; omega) ?_ ?_ (hlk x)
    · intro p _ b hb
      obtain ⟨b', e1, e2, e3, _⟩ := hex p.2 b hb
      exact ⟨b', e1, e2, fun _ => e3⟩
    · rintro b hb hbk ⟨k, hkm⟩
      obtain ⟨b', e1, e2, e3, e4⟩ := hex _ b hb
      exact ⟨b', e1, by rw [e2]; exact hbk, k, by rw [e4]; exact hkm⟩
  refine ⟨?_, ?_, ⟨hN.1, by show T.next ≤ T.clock + 1 + 1; omega⟩, by show 0 ≤ T.clock + 1; omega, h.quota, ?_, h16, ?_, h.most, ?_⟩
  · obtain ⟨r, hr, hr6, hrp⟩ := h.root
    obtain ⟨a', e1, e2, e3, _⟩ := hex 1 r hr
    exact ⟨a', e1, by rw [e2]; exact hr6, by rw [e3]; exact hrp⟩
  · intro x a hx
    by_cases hxi : x = i
    · subst hxi
      have hx' : some n' = some a := by rw [← hx]; exact (updN_same _ _ _).symm
      cases hx'
      have o := hstep x n hn
      refine ⟨o.low, o.high, by rw [h1]; exact o.sorted, by rw [h1]; exact o.names, (fun e => by rw [h1]; exact o.file (by rw [← h3]; exact e)), h5, h6, h7, h8, ?_, by rw [h4]; exact o.links, by rw [h4]; exact o.most, by rw [h9]; show 0 ≤ T.clock + 1 ∧ T.clock + 1 ≤ T.clock + 1; omega, h10, h11, h12, h13, by rw [h3]; exact o.kind, by rw [h14.1, h14.2.1]; exact o.dev, by rw [h14.2.2]; exact o.tgt, ?_, by rw [h1]; exact o.few⟩
      · intro hk hx1
        rw [h2]
        exact o.par (by rw [← h3]; exact hk) hx1
      · intro hk
        rw [h4]; exact o.one (by rw [← h3]; exact hk)
    · exact hstep x a (by rw [← hx]; exact (updN_other _ _ hxi).symm)
  · have e1 := hsum gSize
    have e3 := h.used
    show used' = (sumN (updN T.nd i (some n')) gSize (T.next + 1).toNat : Nat)
    have e4 : gSize (some n) = sizeD n.data := rfl
    have e5 : gSize (some n') = sizeD n'.data := rfl
    omega
  · have e1 := hsum gOne
    have e3 := h.cnt
    show T.cnt = sumN (updN T.nd i (some n')) gOne (T.next + 1).toNat
    have e4 : gOne (some n) = 1 := rfl
    have e5 : gOne (some n') = 1 := rfl
    omega
  · obtain ⟨r, hr⟩ := h.rank
    refine ⟨r, ?_⟩
    intro x a hx hk6 hx1
    by_cases hxi : x = i
    · subst hxi
      have hx' : some n' = some a := by rw [← hx]; exact (updN_same _ _ _).symm
      cases hx'
      rw [h2]
      exact hr x n hn (by rw [← h3]; exact hk6) hx1
    · exact hr x a (by rw [← hx]; exact (updN_other _ _ hxi).symm) hk6 hx1

/-- x is top, or a directory below it. -/
inductive Up (T : FsP) (top : Int) : Int → Prop where
  | self : Up T top top
  | step (x : Int) (n : NdP) : T.nd x = some n → n.v.kind = 6 → x ≠ 1 → Up T top n.par → Up T top x
def moved (c : Int) (dst : Int) (m : NdP) : NdP := { setChange c m with par := if m.v.kind = 6 then dst else m.par }
def cutN (T : FsP) (dir : Int) (d : NdP) (part : List UInt8) : Int → Option NdP := updN T.nd dir (some (named (T.clock + 1) d (delK d.names part)))
def moveT (T : FsP) (dir : Int) (d : NdP) (part : List UInt8) (dst : Int) (e : NdP) (asn : List UInt8) (ino : Int) (m : NdP) : FsP :=
  { T with clock := T.clock + 1, nd := updN (updN (cutN T dir d part) dst (some (if dst = dir then named (T.clock + 1) d (putK (delK d.names part) asn ino) else named (T.clock + 1) e (putK e.names asn ino)))) ino (some (moved (T.clock + 1) dst m)) }
open Classical in
noncomputable def moveP (T : FsP) (dir : Int) (part : List UInt8) (dst : Int) (asn : List UInt8) : FsP × Int :=
  if placeE T dir part = 10 ∨ placeE T dst asn = 10 then (T, 10)
  else if placeE T dir part = 12 ∨ placeE T dst asn = 12 then (T, 12)
  else if placeE T dir part = 9 ∨ placeE T dst asn = 9 then (T, 9)
  else match T.nd dir, T.nd dst with
    | some d, some e =>
      match getK d.names part with
      | none => (T, 10)
      | some ino =>
        if (getK e.names asn).isSome then (T, 11)
        else match T.nd ino with
          | some m => if m.v.kind = 6 ∧ Up T ino dst then (T, 13) else (moveT T dir d part dst e asn ino m, 0)
          | none => (T, 10)
    | _, _ => (T, 10)
end Go.Proofs.YtgbakogihkdddaaGreatDoor

namespace Go.Proofs
open Go.Shelf
def Tryz.lays119_ren : Go.Shelf.Ren := ⟨fun | 119 => 140 | n => n, fun | 21 => 21 | 4 => 4 | n => n, fun | n => n⟩
theorem Tryz.lays119 : Go.Proofs.Lays.n119 Tryz.prog Tryz.lays119_ren := {
  mixed := by kernel_rfl
  f119 := Tryz.func140.trans (congrArg some (by kernel_rfl))
  t4 := Tryz.underlying4
  a4 := Tryz.isAgg4
  z4 := Tryz.sizeOf4
  v4 := Tryz.zeroValue4
  t21 := Tryz.underlying21
  a21 := Tryz.isAgg21
  z21 := Tryz.sizeOf21
  v21 := Tryz.zeroValue21 }
/-- utf8.ValidRune: "ValidRune reports whether r can be legally encoded as UTF-8. Code points that are out of range or a surrogate half are illegal.": IT RETURNS 'Lib.validRune r'; the world is as it was. (LAID: no walk: one application.) -/
theorem Tryz.utf8_ValidRune (r : Int) (w : World) :
    Calls Tryz.prog 140 #[.int .i32 r] w fun e w' => e = .returned (.bool (Lib.validRune r)) ∧ w' = w := Any.utf8_ValidRune Tryz.lays119 r w
def Tryz.lays137_ren : Go.Shelf.Ren := ⟨fun | 137 => 139 | 217 => 118 | 266 => 141 | n => n, fun | 9 => 9 | 5 => 5 | 3 => 3 | n => n, fun | n => n⟩
theorem Tryz.lays137 : Go.Proofs.Lays.n137 Tryz.prog Tryz.lays137_ren := {
  mixed := by kernel_rfl
  f137 := Tryz.func139.trans (congrArg some (by kernel_rfl))
  f217 := Tryz.func118.trans (congrArg some (by kernel_rfl))
  f266 := Tryz.func141.trans (congrArg some (by kernel_rfl))
  t3 := Tryz.underlying3
  a3 := Tryz.isAgg3
  z3 := Tryz.sizeOf3
  v3 := Tryz.zeroValue3
  t5 := Tryz.underlying5
  a5 := Tryz.isAgg5
  z5 := Tryz.sizeOf5
  v5 := Tryz.zeroValue5
  t9 := Tryz.underlying9
  a9 := Tryz.isAgg9
  z9 := Tryz.sizeOf9
  v9 := Tryz.zeroValue9 }
open Go.RowKit in
/-- strings.IndexByte: "IndexByte returns the index of the first instance of c in s, or -1 if c is not present in s.": IT RETURNS 'Lib.indexByte s c'; the world is as it was. (LAID: no walk: one application.) -/
theorem Tryz.strings_IndexByte (s : ByteArray) (c : Int) (w : World) :
    Calls Tryz.prog 139 #[.string s, .int .u8 c] w fun e w' => e = .returned (.int .i64 (Lib.indexByte s.data.toList c.toNat.toUInt8)) ∧ w' = w := Any.strings_IndexByte Tryz.lays137 s c w
def Tryz.lays143_ren : Go.Shelf.Ren := ⟨fun | 143 => 69 | 219 => 93 | 217 => 118 | 225 => 119 | 224 => 120 | 267 => 121 | 266 => 141 | 314 => 142 | n => n, fun | 9 => 9 | 3 => 3 | 4 => 4 | 5 => 5 | 46 => 92 | 146 => 169 | 51 => 145 | n => n, fun | 1 => 0 | n => n⟩
theorem Tryz.lays143 : Go.Proofs.Lays.n143 Tryz.prog Tryz.lays143_ren := {
  mixed := by kernel_rfl
  f143 := Tryz.func69.trans (congrArg some (by kernel_rfl))
  f217 := Tryz.func118.trans (congrArg some (by kernel_rfl))
  f219 := Tryz.func93.trans (congrArg some (by kernel_rfl))
  f224 := Tryz.func120.trans (congrArg some (by kernel_rfl))
  f225 := Tryz.func119.trans (congrArg some (by kernel_rfl))
  f266 := Tryz.func141.trans (congrArg some (by kernel_rfl))
  f267 := Tryz.func121.trans (congrArg some (by kernel_rfl))
  f314 := Tryz.func142.trans (congrArg some (by kernel_rfl))
  t3 := Tryz.underlying3
  a3 := Tryz.isAgg3
  z3 := Tryz.sizeOf3
  v3 := Tryz.zeroValue3
  t4 := Tryz.underlying4
  a4 := Tryz.isAgg4
  z4 := Tryz.sizeOf4
  v4 := Tryz.zeroValue4
  t5 := Tryz.underlying5
  a5 := Tryz.isAgg5
  z5 := Tryz.sizeOf5
  v5 := Tryz.zeroValue5
  t9 := Tryz.underlying9
  a9 := Tryz.isAgg9
  z9 := Tryz.sizeOf9
  v9 := Tryz.zeroValue9
  t46 := Tryz.underlying92
  a46 := Tryz.isAgg92
  z46 := Tryz.sizeOf92
  v46 := Tryz.zeroValue92
  t51 := Tryz.underlying145
  a51 := Tryz.isAgg145
  z51 := Tryz.sizeOf145
  v51 := Tryz.zeroValue145
  t146 := Tryz.underlying169
  a146 := Tryz.isAgg169
  z146 := Tryz.sizeOf169
  v146 := Tryz.zeroValue169
  g1 := by kernel_rfl }
open Go.RowKit Go.Lib in
/-- strings.Index: "Index returns the index of the first instance of substr in s, or -1 if substr is not present in s.": AT A substr OF ONE BYTE c: IT RETURNS 'Lib.indexByte s c'; the world is as it was. (LAID: no walk: one application.) -/
theorem Tryz.strings_Index_one (s : ByteArray) (c : UInt8) (w : World) :
    Calls Tryz.prog 69 #[.string s, .string ⟨#[c]⟩] w fun e w' => e = .returned (.int .i64 (Lib.indexByte s.data.toList c)) ∧ w' = w := Any.strings_Index_one Tryz.lays143 s c w
def Tryz.lays144_ren : Go.Shelf.Ren := ⟨fun | 144 => 43 | 143 => 69 | 219 => 93 | 217 => 118 | 225 => 119 | 224 => 120 | 267 => 121 | 266 => 141 | 314 => 142 | n => n, fun | 9 => 9 | 4 => 4 | 3 => 3 | 5 => 5 | 46 => 92 | 146 => 169 | 51 => 145 | n => n, fun | 1 => 0 | n => n⟩
theorem Tryz.lays144 : Go.Proofs.Lays.n144 Tryz.prog Tryz.lays144_ren := {
  mixed := by kernel_rfl
  f143 := Tryz.func69.trans (congrArg some (by kernel_rfl))
  f144 := Tryz.func43.trans (congrArg some (by kernel_rfl))
  f217 := Tryz.func118.trans (congrArg some (by kernel_rfl))
  f219 := Tryz.func93.trans (congrArg some (by kernel_rfl))
  f224 := Tryz.func120.trans (congrArg some (by kernel_rfl))
  f225 := Tryz.func119.trans (congrArg some (by kernel_rfl))
  f266 := Tryz.func141.trans (congrArg some (by kernel_rfl))
  f267 := Tryz.func121.trans (congrArg some (by kernel_rfl))
  f314 := Tryz.func142.trans (congrArg some (by kernel_rfl))
  t3 := Tryz.underlying3
  a3 := Tryz.isAgg3
  z3 := Tryz.sizeOf3
  v3 := Tryz.zeroValue3
  t4 := Tryz.underlying4
  a4 := Tryz.isAgg4
  z4 := Tryz.sizeOf4
  v4 := Tryz.zeroValue4
  t5 := Tryz.underlying5
  a5 := Tryz.isAgg5
  z5 := Tryz.sizeOf5
  v5 := Tryz.zeroValue5
  t9 := Tryz.underlying9
  a9 := Tryz.isAgg9
  z9 := Tryz.sizeOf9
  v9 := Tryz.zeroValue9
  t46 := Tryz.underlying92
  a46 := Tryz.isAgg92
  z46 := Tryz.sizeOf92
  v46 := Tryz.zeroValue92
  t51 := Tryz.underlying145
  a51 := Tryz.isAgg145
  z51 := Tryz.sizeOf145
  v51 := Tryz.zeroValue145
  t146 := Tryz.underlying169
  a146 := Tryz.isAgg169
  z146 := Tryz.sizeOf169
  v146 := Tryz.zeroValue169
  g1 := by kernel_rfl }
open Go.RowKit Go.Lib in
/-- strings.Contains: "Contains reports whether substr is within s.": AT A substr OF ONE BYTE c: IT RETURNS 'decide (0 ≤ Lib.indexByte s c)'; the world is as it was. (LAID: no walk: one application.) -/
theorem Tryz.strings_Contains_one (s : ByteArray) (c : UInt8) (w : World) :
    Calls Tryz.prog 43 #[.string s, .string ⟨#[c]⟩] w fun e w' => e = .returned (.bool (decide (0 ≤ Lib.indexByte s.data.toList c))) ∧ w' = w := Any.strings_Contains_one Tryz.lays144 s c w
def Tryz.lays100_ren : Go.Shelf.Ren := ⟨fun | 100 => 76 | 207 => 95 | n => n, fun | 9 => 9 | 4 => 4 | 3 => 3 | n => n, fun | n => n⟩
theorem Tryz.lays100 : Go.Proofs.Lays.n100 Tryz.prog Tryz.lays100_ren := {
  mixed := by kernel_rfl
  f100 := Tryz.func76.trans (congrArg some (by kernel_rfl))
  f207 := Tryz.func95.trans (congrArg some (by kernel_rfl))
  t3 := Tryz.underlying3
  a3 := Tryz.isAgg3
  z3 := Tryz.sizeOf3
  v3 := Tryz.zeroValue3
  t4 := Tryz.underlying4
  a4 := Tryz.isAgg4
  z4 := Tryz.sizeOf4
  v4 := Tryz.zeroValue4
  t9 := Tryz.underlying9
  a9 := Tryz.isAgg9
  z9 := Tryz.sizeOf9
  v9 := Tryz.zeroValue9 }
open Go.RowKit Go.Lib in
/-- strings.HasSuffix: "HasSuffix reports whether the string s ends with suffix.": IT RETURNS 'Lib.hasSuffix s suffix'; the world is as it was. ('hs': no Go string is longer: a caller has it of every string that it was handed.) (LAID: no walk: one application.) -/
theorem Tryz.strings_HasSuffix (s p : ByteArray) (w : World) (hs : s.size ≤ 9223372036854775807) :
    Calls Tryz.prog 76 #[.string s, .string p] w fun e w' => e = .returned (.bool (Lib.hasSuffix s.data.toList p.data.toList)) ∧ w' = w := Any.strings_HasSuffix Tryz.lays100 s p w hs
def Tryz.lays152_ren : Go.Shelf.Ren := ⟨fun | 152 => 114 | 137 => 139 | 119 => 140 | 224 => 120 | 225 => 119 | 217 => 118 | 266 => 141 | n => n, fun | 9 => 9 | 21 => 21 | 3 => 3 | 4 => 4 | 5 => 5 | 0 => 0 | 46 => 92 | n => n, fun | n => n⟩
theorem Tryz.lays152 : Go.Proofs.Lays.n152 Tryz.prog Tryz.lays152_ren := {
  mixed := by kernel_rfl
  f119 := Tryz.func140.trans (congrArg some (by kernel_rfl))
  f137 := Tryz.func139.trans (congrArg some (by kernel_rfl))
  f152 := Tryz.func114.trans (congrArg some (by kernel_rfl))
  f217 := Tryz.func118.trans (congrArg some (by kernel_rfl))
  f224 := Tryz.func120.trans (congrArg some (by kernel_rfl))
  f225 := Tryz.func119.trans (congrArg some (by kernel_rfl))
  f266 := Tryz.func141.trans (congrArg some (by kernel_rfl))
  t0 := Tryz.underlying0
  a0 := Tryz.isAgg0
  z0 := Tryz.sizeOf0
  v0 := Tryz.zeroValue0
  t3 := Tryz.underlying3
  a3 := Tryz.isAgg3
  z3 := Tryz.sizeOf3
  v3 := Tryz.zeroValue3
  t4 := Tryz.underlying4
  a4 := Tryz.isAgg4
  z4 := Tryz.sizeOf4
  v4 := Tryz.zeroValue4
  t5 := Tryz.underlying5
  a5 := Tryz.isAgg5
  z5 := Tryz.sizeOf5
  v5 := Tryz.zeroValue5
  t9 := Tryz.underlying9
  a9 := Tryz.isAgg9
  z9 := Tryz.sizeOf9
  v9 := Tryz.zeroValue9
  t21 := Tryz.underlying21
  a21 := Tryz.isAgg21
  z21 := Tryz.sizeOf21
  v21 := Tryz.zeroValue21
  t46 := Tryz.underlying92
  a46 := Tryz.isAgg92
  z46 := Tryz.sizeOf92
  v46 := Tryz.zeroValue92 }
open Go.RowKit Go.Lib in
theorem Tryz.strings_IndexRune_ascii (s : ByteArray) (r : Int) (w : World) (h0 : 0 ≤ r) (h1 : r < 128) :
    Calls Tryz.prog 114 #[.string s, .int .i32 r] w fun e w' => e = .returned (.int .i64 (Lib.indexByte s.data.toList r.toNat.toUInt8)) ∧ w' = w := Any.strings_IndexRune_ascii Tryz.lays152 s r w h0 h1
def Tryz.lays226_ren : Go.Shelf.Ren := ⟨fun | 226 => 115 | n => n, fun | 3 => 3 | 4 => 4 | n => n, fun | n => n⟩
theorem Tryz.lays226 : Go.Proofs.Lays.n226 Tryz.prog Tryz.lays226_ren := {
  mixed := by kernel_rfl
  f226 := Tryz.func115.trans (congrArg some (by kernel_rfl))
  t3 := Tryz.underlying3
  a3 := Tryz.isAgg3
  z3 := Tryz.sizeOf3
  v3 := Tryz.zeroValue3
  t4 := Tryz.underlying4
  a4 := Tryz.isAgg4
  z4 := Tryz.sizeOf4
  v4 := Tryz.zeroValue4 }
open Go.RowKit Go.Lib in
theorem Tryz.strings_shouldUseASCIISet (n : Int) (w : World) :
    Calls Tryz.prog 115 #[.int .i64 n] w fun e w' => e = .returned (.bool (decide (8 < n))) ∧ w' = w := Any.strings_shouldUseASCIISet Tryz.lays226 n w
def Tryz.lays153_ren : Go.Shelf.Ren := ⟨fun | 153 => 92 | 152 => 114 | 226 => 115 | 227 => 116 | 228 => 117 | 137 => 139 | 119 => 140 | 224 => 120 | 225 => 119 | 217 => 118 | 266 => 141 | n => n, fun | 9 => 9 | 3 => 3 | 4 => 4 | 5 => 5 | 21 => 21 | 117 => 151 | 116 => 150 | 0 => 0 | 46 => 92 | 124 => 168 | n => n, fun | n => n⟩
theorem Tryz.lays153 : Go.Proofs.Lays.n153 Tryz.prog Tryz.lays153_ren := {
  mixed := by kernel_rfl
  f119 := Tryz.func140.trans (congrArg some (by kernel_rfl))
  f137 := Tryz.func139.trans (congrArg some (by kernel_rfl))
  f152 := Tryz.func114.trans (congrArg some (by kernel_rfl))
  f153 := Tryz.func92.trans (congrArg some (by kernel_rfl))
  f217 := Tryz.func118.trans (congrArg some (by kernel_rfl))
  f224 := Tryz.func120.trans (congrArg some (by kernel_rfl))
  f225 := Tryz.func119.trans (congrArg some (by kernel_rfl))
  f226 := Tryz.func115.trans (congrArg some (by kernel_rfl))
  f227 := Tryz.func116.trans (congrArg some (by kernel_rfl))
  f228 := Tryz.func117.trans (congrArg some (by kernel_rfl))
  f266 := Tryz.func141.trans (congrArg some (by kernel_rfl))
  t0 := Tryz.underlying0
  a0 := Tryz.isAgg0
  z0 := Tryz.sizeOf0
  v0 := Tryz.zeroValue0
  t3 := Tryz.underlying3
  a3 := Tryz.isAgg3
  z3 := Tryz.sizeOf3
  v3 := Tryz.zeroValue3
  t4 := Tryz.underlying4
  a4 := Tryz.isAgg4
  z4 := Tryz.sizeOf4
  v4 := Tryz.zeroValue4
  t5 := Tryz.underlying5
  a5 := Tryz.isAgg5
  z5 := Tryz.sizeOf5
  v5 := Tryz.zeroValue5
  t9 := Tryz.underlying9
  a9 := Tryz.isAgg9
  z9 := Tryz.sizeOf9
  v9 := Tryz.zeroValue9
  t21 := Tryz.underlying21
  a21 := Tryz.isAgg21
  z21 := Tryz.sizeOf21
  v21 := Tryz.zeroValue21
  t46 := Tryz.underlying92
  a46 := Tryz.isAgg92
  z46 := Tryz.sizeOf92
  v46 := Tryz.zeroValue92
  t116 := Tryz.underlying150
  a116 := Tryz.isAgg150
  z116 := Tryz.sizeOf150
  t117 := Tryz.underlying151
  a117 := Tryz.isAgg151
  z117 := Tryz.sizeOf151
  v117 := Tryz.zeroValue151
  t124 := Tryz.underlying168
  a124 := Tryz.isAgg168
  z124 := Tryz.sizeOf168
  v124 := Tryz.zeroValue168 }
open Go.RowKit Go.Lib in
theorem Tryz.strings_IndexAny_long (hv116 : ∀ w, (zeroValue 150).run Tryz.prog w = .ok (.agg (Array.replicate 256 (.bool false))) w) (s chars : ByteArray) (w : World) (h2 : 2 ≤ chars.size) (h8 : 8 < s.size) (hs : s.size < 4294967281) (hcs : chars.size < 4294967281) (hascii : ∀ (j : Nat) b, chars.data.toList[j]? = some b → b.toNat < 128) :
    Calls Tryz.prog 92 #[.string s, .string chars] w fun e w' => e = .returned (.int .i64 (Lib.indexAny s.data.toList chars.data.toList)) ∧ w' = ((w.alloc (.cells (Lib.setCells chars.data.toList) 150)).alloc (.cells (Lib.setCells chars.data.toList) 150)) := Any.strings_IndexAny_long Tryz.lays153 hv116 (by kernel_rfl) s chars w h2 h8 hs hcs hascii
end Go.Proofs

namespace Go.Proofs.YtgbakogihkdddaaGreatDoor
end Go.Proofs.YtgbakogihkdddaaGreatDoor

namespace Go.Proofs.YtgbakogihkdddaaGreatDoor
open Go.RowKit
set_option linter.unusedVariables false
set_option linter.unusedSimpArgs false
set_option maxRecDepth 20000

theorem within_any (n m : Int) (w : World) : Calls Tryz.prog 44 #[.int .i64 n, .int .i64 m] w fun e w' => e = .returned (.bool (decide (0 ≤ n) && decide (n ≤ m))) ∧ w' = w := by
  go_enter Tryz.func44, Tryz.ntmps44
  by_cases h : 0 ≤ n
  · go_wp2
    go_ret
    exact ⟨by simp [h], rfl⟩
  · go_wp2
    go_ret
    have e : decide (0 ≤ n) = false := decide_eq_false (by omega)
    exact ⟨by rw [e]; rfl, rfl⟩
def setB (v : NodeV) : Bool := decide (0 ≤ v.mode) && decide (v.mode ≤ 4095) && (decide (0 ≤ v.user) && decide (v.user ≤ 2147483647)) && (decide (0 ≤ v.group) && decide (v.group ≤ 2147483647))
set_option maxHeartbeats 1000000 in
theorem mayBeSet_any (v : NodeV) (w : World) : Calls Tryz.prog 45 #[.agg (nvC v).toArray] w fun e w' => e = .returned (.bool (setB v)) ∧ w' = w.alloc (.cells (nvC v).toArray 27) := by
  obtain ⟨w1, hw1⟩ : ∃ w1, w1 = w.alloc (.cells (nvC v).toArray 27) := ⟨_, rfl⟩
  have hob : w1.heap[w.heap.size]? = some (.cells (nvC v).toArray 27 (0, 0)) := by rw [hw1]; exact heap_alloc_new _ _
  have c1 : w1.cell? ⟨w.heap.size, 1, none⟩ = some (.int .i64 v.mode) := by rw [obj_cell hob]; rfl
  have c2 : w1.cell? ⟨w.heap.size, 2, none⟩ = some (.int .i64 v.user) := by rw [obj_cell hob]; rfl
  have c3 : w1.cell? ⟨w.heap.size, 3, none⟩ = some (.int .i64 v.group) := by rw [obj_cell hob]; rfl
  have HW := Lib.hid hw1
  clear hob hw1
  obtain ⟨p1, hp1⟩ : ∃ p1, p1 = (decide (0 ≤ v.mode) && decide (v.mode ≤ 4095)) := ⟨_, rfl⟩
  obtain ⟨p2, hp2⟩ : ∃ p2, p2 = (decide (0 ≤ v.user) && decide (v.user ≤ 2147483647)) := ⟨_, rfl⟩
  obtain ⟨p3, hp3⟩ : ∃ p3, p3 = (decide (0 ≤ v.group) && decide (v.group ≤ 2147483647)) := ⟨_, rfl⟩
  have hS : setB v = (p1 && p2 && p3) := by rw [hp1, hp2, hp3]; rfl
  rw [hS]
  have H1 : ∀ W, Calls Tryz.prog 44 #[.int .i64 v.mode, .int .i64 4095] W fun e w' => e = .returned (.bool p1) ∧ w' = W := fun W => by rw [hp1]; exact within_any _ _ W
  have H2 : ∀ W, Calls Tryz.prog 44 #[.int .i64 v.user, .int .i64 2147483647] W fun e w' => e = .returned (.bool p2) ∧ w' = W := fun W => by rw [hp2]; exact within_any _ _ W
  have H3 : ∀ W, Calls Tryz.prog 44 #[.int .i64 v.group, .int .i64 2147483647] W fun e w' => e = .returned (.bool p3) ∧ w' = W := fun W => by rw [hp3]; exact within_any _ _ W
  have K1 := Lib.hid H1; have K2 := Lib.hid H2; have K3 := Lib.hid H3
  clear hp1 hp2 hp3 hS H1 H2 H3
  go_enter Tryz.func45, Tryz.ntmps45
  go_upto_region 1 with fail
  rw [← HW.out]
  cases p1
  · go_wp2_with (go_at_call 44; with_reducible refine (K1.out _).mono ?_; rintro e w2 ⟨rfl, rfl⟩)

    go_ret
    exact ⟨rfl, HW.out⟩
  · cases p2
    · go_wp2_with (go_at_call 44; first | (with_reducible refine (K1.out _).mono ?_; rintro e w2 ⟨rfl, rfl⟩) | (with_reducible refine (K2.out _).mono ?_; rintro e w2 ⟨rfl, rfl⟩))
      go_ret
      exact ⟨rfl, HW.out⟩
    · go_wp2_with (go_at_call 44; first | (with_reducible refine (K1.out _).mono ?_; rintro e w2 ⟨rfl, rfl⟩) | (with_reducible refine (K2.out _).mono ?_; rintro e w2 ⟨rfl, rfl⟩) | (with_reducible refine (K3.out _).mono ?_; rintro e w2 ⟨rfl, rfl⟩))
      go_ret
      exact ⟨rfl, HW.out⟩
theorem load_rowN {ops : Array Oper} {rest : List Oper} {o : Oper} {a : Act} {w : World} {Q : Exit → Act → World → Prop} (hw : Region.wanted o (yielded ops a.tmps) = true) (x : Operand) (ho : o.op = .load 27 x)
    (g : Nat) (hx : a.eval x = .pointer (some ⟨g, 0, none⟩)) (v : NodeV) (hg : w.heap[g]? = some (.cells (nvC v).toArray 27 (0, 0)))
    (h : wpList Tryz.prog ops Q rest (a.put o.dst (.agg (nvC v).toArray)) w) : wpList Tryz.prog ops Q (o :: rest) a w :=
  wpList_step fun K hK => by
    simp only [hw, if_true]
    exact wp_load_row 27 x ho g hx 27 (nvC v).toArray (0, 0) _ hg Tryz.underlying27 rfl infoNd (hK _ _ h)
set_option maxHeartbeats 4000000 in
theorem mayBe_1 (v : NodeV) (w : World) (hk : v.kind = 1) : Calls Tryz.prog 26 #[.agg (nvC v).toArray] w fun e w' => e = .returned (.bool (mayB v)) ∧ Kept NoB w w' := by
  obtain ⟨w1, hw1⟩ : ∃ w1, w1 = w.alloc (.cells (nvC v).toArray 27) := ⟨_, rfl⟩
  have hob : w1.heap[w.heap.size]? = some (.cells (nvC v).toArray 27 (0, 0)) := by rw [hw1]; exact heap_alloc_new _ _
  have c0 : w1.cell? ⟨w.heap.size, 0, none⟩ = some (.int .i64 1) := by rw [obj_cell hob, ← hk]; rfl
  have c5 : w1.cell? ⟨w.heap.size, 5, none⟩ = some (.string v.tgt) := by rw [obj_cell hob]; rfl
  have c6 : w1.cell? ⟨w.heap.size, 6, none⟩ = some (.int .i64 v.major) := by rw [obj_cell hob]; rfl
  have c7 : w1.cell? ⟨w.heap.size, 7, none⟩ = some (.int .i64 v.minor) := by rw [obj_cell hob]; rfl
  have d8 : ∀ o, (w1.alloc o).cell? ⟨w.heap.size, 8, none⟩ = some (.int .i64 v.size) := fun o => ((Kept.refl NoB w1).alloc o).cell (by rw [obj_cell hob]; rfl)
  have d9 : ∀ o, (w1.alloc o).cell? ⟨w.heap.size, 9, none⟩ = some (.int .i64 v.links) := fun o => ((Kept.refl NoB w1).alloc o).cell (by rw [obj_cell hob]; rfl)
  have d10 : ∀ o, (w1.alloc o).cell? ⟨w.heap.size, 10, none⟩ = some (.int .i64 v.change) := fun o => ((Kept.refl NoB w1).alloc o).cell (by rw [obj_cell hob]; rfl)
  have HW := Lib.hid hw1; have HO := Lib.hid hob
  have HK : Hid (Kept NoB w w1) := Lib.hid (by rw [hw1]; exact (Kept.refl NoB w).alloc _)
  have HKa : Hid (∀ o, Kept NoB w (w1.alloc o)) := Lib.hid (fun o => HK.out.alloc o)
  have HS := Lib.hid (mayBeSet_any v)
  have HM1 := Lib.hid (within_any v.major 1048575); have HM2 := Lib.hid (within_any v.minor 1048575)
  have HC := Lib.hid (Tryz.strings_Contains_one v.tgt 0)
  have HB : Hid (mayB v = (v.tgt.toList.isEmpty && (decide (v.major = 0) && decide (v.minor = 0)) && setB v && decide (v.size = 0) && decide (v.links = 0) && decide (v.change = 0))) := Lib.hid (by
    unfold mayB setB; rw [hk]; rfl)
  clear hob hw1 hk
  obtain ⟨st, hst⟩ : ∃ st, st = setB v := ⟨_, rfl⟩
  rw [← hst] at HS HB
  clear hst
  go_enter Tryz.func26, Tryz.ntmps26
  go_upto_region 1 with fail
  rw [← HW.out]
  rcases Classical.em (v.tgt.toList = []) with t1 | t1
  rotate_left
  · have t2 : v.tgt.toList.isEmpty = false := by simpa using t1
    have HF : Hid (mayB v = false) := Lib.hid (by rw [HB.out]; rw [t2]; simp)
    clear HB
    go_wp2_with (first | (refine load_rowN (by rfl) (.tmp 1) rfl w.heap.size rfl v HO.out ?_) | (go_at_call 45; refine (HS.out _).mono ?_; rintro e w2 ⟨rfl, rfl⟩) | (go_at_call 44; first | (with_reducible refine (HM1.out _).mono ?_; rintro e w2 ⟨rfl, rfl⟩) | (with_reducible refine (HM2.out _).mono ?_; rintro e w2 ⟨rfl, rfl⟩)) | (go_at_call 43; refine (HC.out _).mono ?_; rintro e w2 ⟨rfl, rfl⟩) | fail)
    all_goals go_ret
    all_goals exact ⟨by rw [HF.out]; rfl, by first | exact HK.out | exact HKa.out _⟩
  have t2 : v.tgt.toList.isEmpty = true := by simpa using t1
  rcases Classical.em (v.major = 0) with j1 | j1
  rotate_left
  · have j2 : (v.major == 0) = false := by simpa using j1
    have HJ : Hid (decide (v.major = 0) = false) := Lib.hid (decide_eq_false j1)
    have HF : Hid (mayB v = false) := Lib.hid (by rw [HB.out]; rw [t2]; rw [HJ.out]; simp)
    clear HB
    go_wp2_with (first | (refine load_rowN (by rfl) (.tmp 1) rfl w.heap.size rfl v HO.out ?_) | (go_at_call 45; refine (HS.out _).mono ?_; rintro e w2 ⟨rfl, rfl⟩) | (go_at_call 44; first | (with_reducible refine (HM1.out _).mono ?_; rintro e w2 ⟨rfl, rfl⟩) | (with_reducible refine (HM2.out _).mono ?_; rintro e w2 ⟨rfl, rfl⟩)) | (go_at_call 43; refine (HC.out _).mono ?_; rintro e w2 ⟨rfl, rfl⟩) | fail)
    all_goals go_ret
    all_goals exact ⟨by rw [HF.out]; rfl, by first | exact HK.out | exact HKa.out _⟩
  have HJ : Hid (decide (v.major = 0) = true) := Lib.hid (decide_eq_true j1)
  rw [j1] at c6
  have HJ1 := Lib.hid j1
  clear j1
  rcases Classical.em (v.minor = 0) with n1 | n1
  rotate_left
  · have n2 : (v.minor == 0) = false := by simpa using n1
    have HN : Hid (decide (v.minor = 0) = false) := Lib.hid (decide_eq_false n1)
    have HF : Hid (mayB v = false) := Lib.hid (by rw [HB.out]; rw [t2]; rw [HJ.out]; rw [HN.out]; simp)
    clear HB
    go_wp2_with (first | (refine load_rowN (by rfl) (.tmp 1) rfl w.heap.size rfl v HO.out ?_) | (go_at_call 45; refine (HS.out _).mono ?_; rintro e w2 ⟨rfl, rfl⟩) | (go_at_call 44; first | (with_reducible refine (HM1.out _).mono ?_; rintro e w2 ⟨rfl, rfl⟩) | (with_reducible refine (HM2.out _).mono ?_; rintro e w2 ⟨rfl, rfl⟩)) | (go_at_call 43; refine (HC.out _).mono ?_; rintro e w2 ⟨rfl, rfl⟩) | fail)
    all_goals go_ret
    all_goals exact ⟨by rw [HF.out]; rfl, by first | exact HK.out | exact HKa.out _⟩
  have HN : Hid (decide (v.minor = 0) = true) := Lib.hid (decide_eq_true n1)
  rw [n1] at c7
  have HN1 := Lib.hid n1
  clear n1
  cases st
  · have _u := 0
    have HF : Hid (mayB v = false) := Lib.hid (by rw [HB.out]; rw [t2]; rw [HJ.out]; rw [HN.out]; simp)
    clear HB
    go_wp2_with (first | (refine load_rowN (by rfl) (.tmp 1) rfl w.heap.size rfl v HO.out ?_) | (go_at_call 45; refine (HS.out _).mono ?_; rintro e w2 ⟨rfl, rfl⟩) | (go_at_call 44; first | (with_reducible refine (HM1.out _).mono ?_; rintro e w2 ⟨rfl, rfl⟩) | (with_reducible refine (HM2.out _).mono ?_; rintro e w2 ⟨rfl, rfl⟩)) | (go_at_call 43; refine (HC.out _).mono ?_; rintro e w2 ⟨rfl, rfl⟩) | fail)
    all_goals go_ret
    all_goals exact ⟨by rw [HF.out]; rfl, by first | exact HK.out | exact HKa.out _⟩
  rcases Classical.em (v.size = 0) with s1 | s1
  rotate_left
  · have s2 : (v.size == 0) = false := by simpa using s1
    have Hs3 : Hid (decide (v.size = 0) = false) := Lib.hid (decide_eq_false s1)
    have HF : Hid (mayB v = false) := Lib.hid (by rw [HB.out]; rw [t2]; rw [HJ.out]; rw [HN.out]; rw [Hs3.out]; simp)
    clear HB
    go_wp2_with (first | (refine load_rowN (by rfl) (.tmp 1) rfl w.heap.size rfl v HO.out ?_) | (go_at_call 45; refine (HS.out _).mono ?_; rintro e w2 ⟨rfl, rfl⟩) | (go_at_call 44; first | (with_reducible refine (HM1.out _).mono ?_; rintro e w2 ⟨rfl, rfl⟩) | (with_reducible refine (HM2.out _).mono ?_; rintro e w2 ⟨rfl, rfl⟩)) | (go_at_call 43; refine (HC.out _).mono ?_; rintro e w2 ⟨rfl, rfl⟩) | fail)
    all_goals go_ret
    all_goals exact ⟨by rw [HF.out]; rfl, by first | exact HK.out | exact HKa.out _⟩
  have Hs3 : Hid (decide (v.size = 0) = true) := Lib.hid (decide_eq_true s1)
  rw [s1] at d8
  have Hs4 := Lib.hid s1
  clear s1
  rcases Classical.em (v.links = 0) with l1 | l1
  rotate_left
  · have l2 : (v.links == 0) = false := by simpa using l1
    have Hl3 : Hid (decide (v.links = 0) = false) := Lib.hid (decide_eq_false l1)
    have HF : Hid (mayB v = false) := Lib.hid (by rw [HB.out]; rw [t2]; rw [HJ.out]; rw [HN.out]; rw [Hs3.out]; rw [Hl3.out]; simp)
    clear HB
    go_wp2_with (first | (refine load_rowN (by rfl) (.tmp 1) rfl w.heap.size rfl v HO.out ?_) | (go_at_call 45; refine (HS.out _).mono ?_; rintro e w2 ⟨rfl, rfl⟩) | (go_at_call 44; first | (with_reducible refine (HM1.out _).mono ?_; rintro e w2 ⟨rfl, rfl⟩) | (with_reducible refine (HM2.out _).mono ?_; rintro e w2 ⟨rfl, rfl⟩)) | (go_at_call 43; refine (HC.out _).mono ?_; rintro e w2 ⟨rfl, rfl⟩) | fail)
    all_goals go_ret
    all_goals exact ⟨by rw [HF.out]; rfl, by first | exact HK.out | exact HKa.out _⟩
  have Hl3 : Hid (decide (v.links = 0) = true) := Lib.hid (decide_eq_true l1)
  rw [l1] at d9
  have Hl4 := Lib.hid l1
  clear l1
  rcases Classical.em (v.change = 0) with h1 | h1
  rotate_left
  · have h2 : (v.change == 0) = false := by simpa using h1
    have Hh3 : Hid (decide (v.change = 0) = false) := Lib.hid (decide_eq_false h1)
    have HF : Hid (mayB v = false) := Lib.hid (by rw [HB.out]; rw [t2]; rw [HJ.out]; rw [HN.out]; rw [Hs3.out]; rw [Hl3.out]; rw [Hh3.out]; simp)
    clear HB
    go_wp2_with (first | (refine load_rowN (by rfl) (.tmp 1) rfl w.heap.size rfl v HO.out ?_) | (go_at_call 45; refine (HS.out _).mono ?_; rintro e w2 ⟨rfl, rfl⟩) | (go_at_call 44; first | (with_reducible refine (HM1.out _).mono ?_; rintro e w2 ⟨rfl, rfl⟩) | (with_reducible refine (HM2.out _).mono ?_; rintro e w2 ⟨rfl, rfl⟩)) | (go_at_call 43; refine (HC.out _).mono ?_; rintro e w2 ⟨rfl, rfl⟩) | fail)
    all_goals go_ret
    all_goals exact ⟨by rw [HF.out]; rfl, by first | exact HK.out | exact HKa.out _⟩
  have Hh3 : Hid (decide (v.change = 0) = true) := Lib.hid (decide_eq_true h1)
  rw [h1] at d10
  have Hh4 := Lib.hid h1
  clear h1
  have HF : Hid (mayB v = true) := Lib.hid (by rw [HB.out]; rw [t2]; rw [HJ.out]; rw [HN.out]; rw [Hs3.out]; rw [Hl3.out]; rw [Hh3.out]; simp)
  clear HB
  go_wp2_with (first | (refine load_rowN (by rfl) (.tmp 1) rfl w.heap.size rfl v HO.out ?_) | (go_at_call 45; refine (HS.out _).mono ?_; rintro e w2 ⟨rfl, rfl⟩) | (go_at_call 44; first | (with_reducible refine (HM1.out _).mono ?_; rintro e w2 ⟨rfl, rfl⟩) | (with_reducible refine (HM2.out _).mono ?_; rintro e w2 ⟨rfl, rfl⟩)) | (go_at_call 43; refine (HC.out _).mono ?_; rintro e w2 ⟨rfl, rfl⟩) | fail)
  all_goals go_ret
  all_goals exact ⟨by rw [HF.out]; rfl, by first | exact HK.out | exact HKa.out _⟩
set_option maxHeartbeats 4000000 in
theorem mayBe_6 (v : NodeV) (w : World) (hk : v.kind = 6) : Calls Tryz.prog 26 #[.agg (nvC v).toArray] w fun e w' => e = .returned (.bool (mayB v)) ∧ Kept NoB w w' := by
  obtain ⟨w1, hw1⟩ : ∃ w1, w1 = w.alloc (.cells (nvC v).toArray 27) := ⟨_, rfl⟩
  have hob : w1.heap[w.heap.size]? = some (.cells (nvC v).toArray 27 (0, 0)) := by rw [hw1]; exact heap_alloc_new _ _
  have c0 : w1.cell? ⟨w.heap.size, 0, none⟩ = some (.int .i64 6) := by rw [obj_cell hob, ← hk]; rfl
  have c5 : w1.cell? ⟨w.heap.size, 5, none⟩ = some (.string v.tgt) := by rw [obj_cell hob]; rfl
  have c6 : w1.cell? ⟨w.heap.size, 6, none⟩ = some (.int .i64 v.major) := by rw [obj_cell hob]; rfl
  have c7 : w1.cell? ⟨w.heap.size, 7, none⟩ = some (.int .i64 v.minor) := by rw [obj_cell hob]; rfl
  have d8 : ∀ o, (w1.alloc o).cell? ⟨w.heap.size, 8, none⟩ = some (.int .i64 v.size) := fun o => ((Kept.refl NoB w1).alloc o).cell (by rw [obj_cell hob]; rfl)
  have d9 : ∀ o, (w1.alloc o).cell? ⟨w.heap.size, 9, none⟩ = some (.int .i64 v.links) := fun o => ((Kept.refl NoB w1).alloc o).cell (by rw [obj_cell hob]; rfl)
  have d10 : ∀ o, (w1.alloc o).cell? ⟨w.heap.size, 10, none⟩ = some (.int .i64 v.change) := fun o => ((Kept.refl NoB w1).alloc o).cell (by rw [obj_cell hob]; rfl)
  have HW := Lib.hid hw1; have HO := Lib.hid hob
  have HK : Hid (Kept NoB w w1) := Lib.hid (by rw [hw1]; exact (Kept.refl NoB w).alloc _)
  have HKa : Hid (∀ o, Kept NoB w (w1.alloc o)) := Lib.hid (fun o => HK.out.alloc o)
  have HS := Lib.hid (mayBeSet_any v)
  have HM1 := Lib.hid (within_any v.major 1048575); have HM2 := Lib.hid (within_any v.minor 1048575)
  have HC := Lib.hid (Tryz.strings_Contains_one v.tgt 0)
  have HB : Hid (mayB v = (v.tgt.toList.isEmpty && (decide (v.major = 0) && decide (v.minor = 0)) && setB v && decide (v.size = 0) && decide (v.links = 0) && decide (v.change = 0))) := Lib.hid (by
    unfold mayB setB; rw [hk]; rfl)
  clear hob hw1 hk
  obtain ⟨st, hst⟩ : ∃ st, st = setB v := ⟨_, rfl⟩
  rw [← hst] at HS HB
  clear hst
  go_enter Tryz.func26, Tryz.ntmps26
  go_upto_region 1 with fail
  rw [← HW.out]
  rcases Classical.em (v.tgt.toList = []) with t1 | t1
  rotate_left
  · have t2 : v.tgt.toList.isEmpty = false := by simpa using t1
    have HF : Hid (mayB v = false) := Lib.hid (by rw [HB.out]; rw [t2]; simp)
    clear HB
    go_wp2_with (first | (refine load_rowN (by rfl) (.tmp 1) rfl w.heap.size rfl v HO.out ?_) | (go_at_call 45; refine (HS.out _).mono ?_; rintro e w2 ⟨rfl, rfl⟩) | (go_at_call 44; first | (with_reducible refine (HM1.out _).mono ?_; rintro e w2 ⟨rfl, rfl⟩) | (with_reducible refine (HM2.out _).mono ?_; rintro e w2 ⟨rfl, rfl⟩)) | (go_at_call 43; refine (HC.out _).mono ?_; rintro e w2 ⟨rfl, rfl⟩) | fail)
    all_goals go_ret
    all_goals exact ⟨by rw [HF.out]; rfl, by first | exact HK.out | exact HKa.out _⟩
  have t2 : v.tgt.toList.isEmpty = true := by simpa using t1
  rcases Classical.em (v.major = 0) with j1 | j1
  rotate_left
  · have j2 : (v.major == 0) = false := by simpa using j1
    have HJ : Hid (decide (v.major = 0) = false) := Lib.hid (decide_eq_false j1)
    have HF : Hid (mayB v = false) := Lib.hid (by rw [HB.out]; rw [t2]; rw [HJ.out]; simp)
    clear HB
    go_wp2_with (first | (refine load_rowN (by rfl) (.tmp 1) rfl w.heap.size rfl v HO.out ?_) | (go_at_call 45; refine (HS.out _).mono ?_; rintro e w2 ⟨rfl, rfl⟩) | (go_at_call 44; first | (with_reducible refine (HM1.out _).mono ?_; rintro e w2 ⟨rfl, rfl⟩) | (with_reducible refine (HM2.out _).mono ?_; rintro e w2 ⟨rfl, rfl⟩)) | (go_at_call 43; refine (HC.out _).mono ?_; rintro e w2 ⟨rfl, rfl⟩) | fail)
    all_goals go_ret
    all_goals exact ⟨by rw [HF.out]; rfl, by first | exact HK.out | exact HKa.out _⟩
  have HJ : Hid (decide (v.major = 0) = true) := Lib.hid (decide_eq_true j1)
  rw [j1] at c6
  have HJ1 := Lib.hid j1
  clear j1
  rcases Classical.em (v.minor = 0) with n1 | n1
  rotate_left
  · have n2 : (v.minor == 0) = false := by simpa using n1
    have HN : Hid (decide (v.minor = 0) = false) := Lib.hid (decide_eq_false n1)
    have HF : Hid (mayB v = false) := Lib.hid (by rw [HB.out]; rw [t2]; rw [HJ.out]; rw [HN.out]; simp)
    clear HB
    go_wp2_with (first | (refine load_rowN (by rfl) (.tmp 1) rfl w.heap.size rfl v HO.out ?_) | (go_at_call 45; refine (HS.out _).mono ?_; rintro e w2 ⟨rfl, rfl⟩) | (go_at_call 44; first | (with_reducible refine (HM1.out _).mono ?_; rintro e w2 ⟨rfl, rfl⟩) | (with_reducible refine (HM2.out _).mono ?_; rintro e w2 ⟨rfl, rfl⟩)) | (go_at_call 43; refine (HC.out _).mono ?_; rintro e w2 ⟨rfl, rfl⟩) | fail)
    all_goals go_ret
    all_goals exact ⟨by rw [HF.out]; rfl, by first | exact HK.out | exact HKa.out _⟩
  have HN : Hid (decide (v.minor = 0) = true) := Lib.hid (decide_eq_true n1)
  rw [n1] at c7
  have HN1 := Lib.hid n1
  clear n1
  cases st
  · have _u := 0
    have HF : Hid (mayB v = false) := Lib.hid (by rw [HB.out]; rw [t2]; rw [HJ.out]; rw [HN.out]; simp)
    clear HB
    go_wp2_with (first | (refine load_rowN (by rfl) (.tmp 1) rfl w.heap.size rfl v HO.out ?_) | (go_at_call 45; refine (HS.out _).mono ?_; rintro e w2 ⟨rfl, rfl⟩) | (go_at_call 44; first | (with_reducible refine (HM1.out _).mono ?_; rintro e w2 ⟨rfl, rfl⟩) | (with_reducible refine (HM2.out _).mono ?_; rintro e w2 ⟨rfl, rfl⟩)) | (go_at_call 43; refine (HC.out _).mono ?_; rintro e w2 ⟨rfl, rfl⟩) | fail)
    all_goals go_ret
    all_goals exact ⟨by rw [HF.out]; rfl, by first | exact HK.out | exact HKa.out _⟩
  rcases Classical.em (v.size = 0) with s1 | s1
  rotate_left
  · have s2 : (v.size == 0) = false := by simpa using s1
    have Hs3 : Hid (decide (v.size = 0) = false) := Lib.hid (decide_eq_false s1)
    have HF : Hid (mayB v = false) := Lib.hid (by rw [HB.out]; rw [t2]; rw [HJ.out]; rw [HN.out]; rw [Hs3.out]; simp)
    clear HB
    go_wp2_with (first | (refine load_rowN (by rfl) (.tmp 1) rfl w.heap.size rfl v HO.out ?_) | (go_at_call 45; refine (HS.out _).mono ?_; rintro e w2 ⟨rfl, rfl⟩) | (go_at_call 44; first | (with_reducible refine (HM1.out _).mono ?_; rintro e w2 ⟨rfl, rfl⟩) | (with_reducible refine (HM2.out _).mono ?_; rintro e w2 ⟨rfl, rfl⟩)) | (go_at_call 43; refine (HC.out _).mono ?_; rintro e w2 ⟨rfl, rfl⟩) | fail)
    all_goals go_ret
    all_goals exact ⟨by rw [HF.out]; rfl, by first | exact HK.out | exact HKa.out _⟩
  have Hs3 : Hid (decide (v.size = 0) = true) := Lib.hid (decide_eq_true s1)
  rw [s1] at d8
  have Hs4 := Lib.hid s1
  clear s1
  rcases Classical.em (v.links = 0) with l1 | l1
  rotate_left
  · have l2 : (v.links == 0) = false := by simpa using l1
    have Hl3 : Hid (decide (v.links = 0) = false) := Lib.hid (decide_eq_false l1)
    have HF : Hid (mayB v = false) := Lib.hid (by rw [HB.out]; rw [t2]; rw [HJ.out]; rw [HN.out]; rw [Hs3.out]; rw [Hl3.out]; simp)
    clear HB
    go_wp2_with (first | (refine load_rowN (by rfl) (.tmp 1) rfl w.heap.size rfl v HO.out ?_) | (go_at_call 45; refine (HS.out _).mono ?_; rintro e w2 ⟨rfl, rfl⟩) | (go_at_call 44; first | (with_reducible refine (HM1.out _).mono ?_; rintro e w2 ⟨rfl, rfl⟩) | (with_reducible refine (HM2.out _).mono ?_; rintro e w2 ⟨rfl, rfl⟩)) | (go_at_call 43; refine (HC.out _).mono ?_; rintro e w2 ⟨rfl, rfl⟩) | fail)
    all_goals go_ret
    all_goals exact ⟨by rw [HF.out]; rfl, by first | exact HK.out | exact HKa.out _⟩
  have Hl3 : Hid (decide (v.links = 0) = true) := Lib.hid (decide_eq_true l1)
  rw [l1] at d9
  have Hl4 := Lib.hid l1
  clear l1
  rcases Classical.em (v.change = 0) with h1 | h1
  rotate_left
  · have h2 : (v.change == 0) = false := by simpa using h1
    have Hh3 : Hid (decide (v.change = 0) = false) := Lib.hid (decide_eq_false h1)
    have HF : Hid (mayB v = false) := Lib.hid (by rw [HB.out]; rw [t2]; rw [HJ.out]; rw [HN.out]; rw [Hs3.out]; rw [Hl3.out]; rw [Hh3.out]; simp)
    clear HB
    go_wp2_with (first | (refine load_rowN (by rfl) (.tmp 1) rfl w.heap.size rfl v HO.out ?_) | (go_at_call 45; refine (HS.out _).mono ?_; rintro e w2 ⟨rfl, rfl⟩) | (go_at_call 44; first | (with_reducible refine (HM1.out _).mono ?_; rintro e w2 ⟨rfl, rfl⟩) | (with_reducible refine (HM2.out _).mono ?_; rintro e w2 ⟨rfl, rfl⟩)) | (go_at_call 43; refine (HC.out _).mono ?_; rintro e w2 ⟨rfl, rfl⟩) | fail)
    all_goals go_ret
    all_goals exact ⟨by rw [HF.out]; rfl, by first | exact HK.out | exact HKa.out _⟩
  have Hh3 : Hid (decide (v.change = 0) = true) := Lib.hid (decide_eq_true h1)
  rw [h1] at d10
  have Hh4 := Lib.hid h1
  clear h1
  have HF : Hid (mayB v = true) := Lib.hid (by rw [HB.out]; rw [t2]; rw [HJ.out]; rw [HN.out]; rw [Hs3.out]; rw [Hl3.out]; rw [Hh3.out]; simp)
  clear HB
  go_wp2_with (first | (refine load_rowN (by rfl) (.tmp 1) rfl w.heap.size rfl v HO.out ?_) | (go_at_call 45; refine (HS.out _).mono ?_; rintro e w2 ⟨rfl, rfl⟩) | (go_at_call 44; first | (with_reducible refine (HM1.out _).mono ?_; rintro e w2 ⟨rfl, rfl⟩) | (with_reducible refine (HM2.out _).mono ?_; rintro e w2 ⟨rfl, rfl⟩)) | (go_at_call 43; refine (HC.out _).mono ?_; rintro e w2 ⟨rfl, rfl⟩) | fail)
  all_goals go_ret
  all_goals exact ⟨by rw [HF.out]; rfl, by first | exact HK.out | exact HKa.out _⟩
set_option maxHeartbeats 4000000 in
theorem mayBe_7 (v : NodeV) (w : World) (hk : v.kind = 7) : Calls Tryz.prog 26 #[.agg (nvC v).toArray] w fun e w' => e = .returned (.bool (mayB v)) ∧ Kept NoB w w' := by
  obtain ⟨w1, hw1⟩ : ∃ w1, w1 = w.alloc (.cells (nvC v).toArray 27) := ⟨_, rfl⟩
  have hob : w1.heap[w.heap.size]? = some (.cells (nvC v).toArray 27 (0, 0)) := by rw [hw1]; exact heap_alloc_new _ _
  have c0 : w1.cell? ⟨w.heap.size, 0, none⟩ = some (.int .i64 7) := by rw [obj_cell hob, ← hk]; rfl
  have c5 : w1.cell? ⟨w.heap.size, 5, none⟩ = some (.string v.tgt) := by rw [obj_cell hob]; rfl
  have c6 : w1.cell? ⟨w.heap.size, 6, none⟩ = some (.int .i64 v.major) := by rw [obj_cell hob]; rfl
  have c7 : w1.cell? ⟨w.heap.size, 7, none⟩ = some (.int .i64 v.minor) := by rw [obj_cell hob]; rfl
  have d8 : ∀ o, (w1.alloc o).cell? ⟨w.heap.size, 8, none⟩ = some (.int .i64 v.size) := fun o => ((Kept.refl NoB w1).alloc o).cell (by rw [obj_cell hob]; rfl)
  have d9 : ∀ o, (w1.alloc o).cell? ⟨w.heap.size, 9, none⟩ = some (.int .i64 v.links) := fun o => ((Kept.refl NoB w1).alloc o).cell (by rw [obj_cell hob]; rfl)
  have d10 : ∀ o, (w1.alloc o).cell? ⟨w.heap.size, 10, none⟩ = some (.int .i64 v.change) := fun o => ((Kept.refl NoB w1).alloc o).cell (by rw [obj_cell hob]; rfl)
  have HW := Lib.hid hw1; have HO := Lib.hid hob
  have HK : Hid (Kept NoB w w1) := Lib.hid (by rw [hw1]; exact (Kept.refl NoB w).alloc _)
  have HKa : Hid (∀ o, Kept NoB w (w1.alloc o)) := Lib.hid (fun o => HK.out.alloc o)
  have HS := Lib.hid (mayBeSet_any v)
  have HM1 := Lib.hid (within_any v.major 1048575); have HM2 := Lib.hid (within_any v.minor 1048575)
  have HC := Lib.hid (Tryz.strings_Contains_one v.tgt 0)
  have HB : Hid (mayB v = (v.tgt.toList.isEmpty && (decide (v.major = 0) && decide (v.minor = 0)) && setB v && decide (v.size = 0) && decide (v.links = 0) && decide (v.change = 0))) := Lib.hid (by
    unfold mayB setB; rw [hk]; rfl)
  clear hob hw1 hk
  obtain ⟨st, hst⟩ : ∃ st, st = setB v := ⟨_, rfl⟩
  rw [← hst] at HS HB
  clear hst
  go_enter Tryz.func26, Tryz.ntmps26
  go_upto_region 1 with fail
  rw [← HW.out]
  rcases Classical.em (v.tgt.toList = []) with t1 | t1
  rotate_left
  · have t2 : v.tgt.toList.isEmpty = false := by simpa using t1
    have HF : Hid (mayB v = false) := Lib.hid (by rw [HB.out]; rw [t2]; simp)
    clear HB
    go_wp2_with (first | (refine load_rowN (by rfl) (.tmp 1) rfl w.heap.size rfl v HO.out ?_) | (go_at_call 45; refine (HS.out _).mono ?_; rintro e w2 ⟨rfl, rfl⟩) | (go_at_call 44; first | (with_reducible refine (HM1.out _).mono ?_; rintro e w2 ⟨rfl, rfl⟩) | (with_reducible refine (HM2.out _).mono ?_; rintro e w2 ⟨rfl, rfl⟩)) | (go_at_call 43; refine (HC.out _).mono ?_; rintro e w2 ⟨rfl, rfl⟩) | fail)
    all_goals go_ret
    all_goals exact ⟨by rw [HF.out]; rfl, by first | exact HK.out | exact HKa.out _⟩
  have t2 : v.tgt.toList.isEmpty = true := by simpa using t1
  rcases Classical.em (v.major = 0) with j1 | j1
  rotate_left
  · have j2 : (v.major == 0) = false := by simpa using j1
    have HJ : Hid (decide (v.major = 0) = false) := Lib.hid (decide_eq_false j1)
    have HF : Hid (mayB v = false) := Lib.hid (by rw [HB.out]; rw [t2]; rw [HJ.out]; simp)
    clear HB
    go_wp2_with (first | (refine load_rowN (by rfl) (.tmp 1) rfl w.heap.size rfl v HO.out ?_) | (go_at_call 45; refine (HS.out _).mono ?_; rintro e w2 ⟨rfl, rfl⟩) | (go_at_call 44; first | (with_reducible refine (HM1.out _).mono ?_; rintro e w2 ⟨rfl, rfl⟩) | (with_reducible refine (HM2.out _).mono ?_; rintro e w2 ⟨rfl, rfl⟩)) | (go_at_call 43; refine (HC.out _).mono ?_; rintro e w2 ⟨rfl, rfl⟩) | fail)
    all_goals go_ret
    all_goals exact ⟨by rw [HF.out]; rfl, by first | exact HK.out | exact HKa.out _⟩
  have HJ : Hid (decide (v.major = 0) = true) := Lib.hid (decide_eq_true j1)
  rw [j1] at c6
  have HJ1 := Lib.hid j1
  clear j1
  rcases Classical.em (v.minor = 0) with n1 | n1
  rotate_left
  · have n2 : (v.minor == 0) = false := by simpa using n1
    have HN : Hid (decide (v.minor = 0) = false) := Lib.hid (decide_eq_false n1)
    have HF : Hid (mayB v = false) := Lib.hid (by rw [HB.out]; rw [t2]; rw [HJ.out]; rw [HN.out]; simp)
    clear HB
    go_wp2_with (first | (refine load_rowN (by rfl) (.tmp 1) rfl w.heap.size rfl v HO.out ?_) | (go_at_call 45; refine (HS.out _).mono ?_; rintro e w2 ⟨rfl, rfl⟩) | (go_at_call 44; first | (with_reducible refine (HM1.out _).mono ?_; rintro e w2 ⟨rfl, rfl⟩) | (with_reducible refine (HM2.out _).mono ?_; rintro e w2 ⟨rfl, rfl⟩)) | (go_at_call 43; refine (HC.out _).mono ?_; rintro e w2 ⟨rfl, rfl⟩) | fail)
    all_goals go_ret
    all_goals exact ⟨by rw [HF.out]; rfl, by first | exact HK.out | exact HKa.out _⟩
  have HN : Hid (decide (v.minor = 0) = true) := Lib.hid (decide_eq_true n1)
  rw [n1] at c7
  have HN1 := Lib.hid n1
  clear n1
  cases st
  · have _u := 0
    have HF : Hid (mayB v = false) := Lib.hid (by rw [HB.out]; rw [t2]; rw [HJ.out]; rw [HN.out]; simp)
    clear HB
    go_wp2_with (first | (refine load_rowN (by rfl) (.tmp 1) rfl w.heap.size rfl v HO.out ?_) | (go_at_call 45; refine (HS.out _).mono ?_; rintro e w2 ⟨rfl, rfl⟩) | (go_at_call 44; first | (with_reducible refine (HM1.out _).mono ?_; rintro e w2 ⟨rfl, rfl⟩) | (with_reducible refine (HM2.out _).mono ?_; rintro e w2 ⟨rfl, rfl⟩)) | (go_at_call 43; refine (HC.out _).mono ?_; rintro e w2 ⟨rfl, rfl⟩) | fail)
    all_goals go_ret
    all_goals exact ⟨by rw [HF.out]; rfl, by first | exact HK.out | exact HKa.out _⟩
  rcases Classical.em (v.size = 0) with s1 | s1
  rotate_left
  · have s2 : (v.size == 0) = false := by simpa using s1
    have Hs3 : Hid (decide (v.size = 0) = false) := Lib.hid (decide_eq_false s1)
    have HF : Hid (mayB v = false) := Lib.hid (by rw [HB.out]; rw [t2]; rw [HJ.out]; rw [HN.out]; rw [Hs3.out]; simp)
    clear HB
    go_wp2_with (first | (refine load_rowN (by rfl) (.tmp 1) rfl w.heap.size rfl v HO.out ?_) | (go_at_call 45; refine (HS.out _).mono ?_; rintro e w2 ⟨rfl, rfl⟩) | (go_at_call 44; first | (with_reducible refine (HM1.out _).mono ?_; rintro e w2 ⟨rfl, rfl⟩) | (with_reducible refine (HM2.out _).mono ?_; rintro e w2 ⟨rfl, rfl⟩)) | (go_at_call 43; refine (HC.out _).mono ?_; rintro e w2 ⟨rfl, rfl⟩) | fail)
    all_goals go_ret
    all_goals exact ⟨by rw [HF.out]; rfl, by first | exact HK.out | exact HKa.out _⟩
  have Hs3 : Hid (decide (v.size = 0) = true) := Lib.hid (decide_eq_true s1)
  rw [s1] at d8
  have Hs4 := Lib.hid s1
  clear s1
  rcases Classical.em (v.links = 0) with l1 | l1
  rotate_left
  · have l2 : (v.links == 0) = false := by simpa using l1
    have Hl3 : Hid (decide (v.links = 0) = false) := Lib.hid (decide_eq_false l1)
    have HF : Hid (mayB v = false) := Lib.hid (by rw [HB.out]; rw [t2]; rw [HJ.out]; rw [HN.out]; rw [Hs3.out]; rw [Hl3.out]; simp)
    clear HB
    go_wp2_with (first | (refine load_rowN (by rfl) (.tmp 1) rfl w.heap.size rfl v HO.out ?_) | (go_at_call 45; refine (HS.out _).mono ?_; rintro e w2 ⟨rfl, rfl⟩) | (go_at_call 44; first | (with_reducible refine (HM1.out _).mono ?_; rintro e w2 ⟨rfl, rfl⟩) | (with_reducible refine (HM2.out _).mono ?_; rintro e w2 ⟨rfl, rfl⟩)) | (go_at_call 43; refine (HC.out _).mono ?_; rintro e w2 ⟨rfl, rfl⟩) | fail)
    all_goals go_ret
    all_goals exact ⟨by rw [HF.out]; rfl, by first | exact HK.out | exact HKa.out _⟩
  have Hl3 : Hid (decide (v.links = 0) = true) := Lib.hid (decide_eq_true l1)
  rw [l1] at d9
  have Hl4 := Lib.hid l1
  clear l1
  rcases Classical.em (v.change = 0) with h1 | h1
  rotate_left
  · have h2 : (v.change == 0) = false := by simpa using h1
    have Hh3 : Hid (decide (v.change = 0) = false) := Lib.hid (decide_eq_false h1)
    have HF : Hid (mayB v = false) := Lib.hid (by rw [HB.out]; rw [t2]; rw [HJ.out]; rw [HN.out]; rw [Hs3.out]; rw [Hl3.out]; rw [Hh3.out]; simp)
    clear HB
    go_wp2_with (first | (refine load_rowN (by rfl) (.tmp 1) rfl w.heap.size rfl v HO.out ?_) | (go_at_call 45; refine (HS.out _).mono ?_; rintro e w2 ⟨rfl, rfl⟩) | (go_at_call 44; first | (with_reducible refine (HM1.out _).mono ?_; rintro e w2 ⟨rfl, rfl⟩) | (with_reducible refine (HM2.out _).mono ?_; rintro e w2 ⟨rfl, rfl⟩)) | (go_at_call 43; refine (HC.out _).mono ?_; rintro e w2 ⟨rfl, rfl⟩) | fail)
    all_goals go_ret
    all_goals exact ⟨by rw [HF.out]; rfl, by first | exact HK.out | exact HKa.out _⟩
  have Hh3 : Hid (decide (v.change = 0) = true) := Lib.hid (decide_eq_true h1)
  rw [h1] at d10
  have Hh4 := Lib.hid h1
  clear h1
  have HF : Hid (mayB v = true) := Lib.hid (by rw [HB.out]; rw [t2]; rw [HJ.out]; rw [HN.out]; rw [Hs3.out]; rw [Hl3.out]; rw [Hh3.out]; simp)
  clear HB
  go_wp2_with (first | (refine load_rowN (by rfl) (.tmp 1) rfl w.heap.size rfl v HO.out ?_) | (go_at_call 45; refine (HS.out _).mono ?_; rintro e w2 ⟨rfl, rfl⟩) | (go_at_call 44; first | (with_reducible refine (HM1.out _).mono ?_; rintro e w2 ⟨rfl, rfl⟩) | (with_reducible refine (HM2.out _).mono ?_; rintro e w2 ⟨rfl, rfl⟩)) | (go_at_call 43; refine (HC.out _).mono ?_; rintro e w2 ⟨rfl, rfl⟩) | fail)
  all_goals go_ret
  all_goals exact ⟨by rw [HF.out]; rfl, by first | exact HK.out | exact HKa.out _⟩
end Go.Proofs.YtgbakogihkdddaaGreatDoor

namespace Go.Proofs.YtgbakogihkdddaaGreatDoor
set_option linter.unusedVariables false
set_option linter.unusedSimpArgs false
set_option maxRecDepth 20000

/-- A node with other marks. -/
def setN (n : NdP) (v : NodeV) (c : Int) : NdP := { n with v := { n.v with mode := v.mode, user := v.user, group := v.group, time := v.time, change := c } }
def setT (T : FsP) (i : Int) (n : NdP) (v : NodeV) : FsP := { T with clock := T.clock + 1, nd := updN T.nd i (some (setN n v (T.clock + 1))) }
def setP (T : FsP) (i : Int) (v : NodeV) : FsP × Int :=
  match T.nd i with
  | none => (T, 10)
  | some n => if setB v = true then (setT T i n v, 0) else (T, 1)
theorem setP_none {T : FsP} {i : Int} (v : NodeV) (hn : T.nd i = none) : setP T i v = (T, 10) := by unfold setP; rw [hn]
theorem setP_yes {T : FsP} {i : Int} {n : NdP} (v : NodeV) (hn : T.nd i = some n) : setP T i v = if setB v = true then (setT T i n v, 0) else (T, 1) := by unfold setP; rw [hn]
theorem setT_ok {T : FsP} (h : OkT T) {i : Int} {n : NdP} (hn : T.nd i = some n) (v : NodeV) (hb : setB v = true) (ht : -9223372036854775808 ≤ v.time ∧ v.time ≤ 9223372036854775807) : OkT (setT T i n v) := by
  have on := h.node i n hn
  have hs : (0 ≤ v.mode ∧ v.mode ≤ 4095) ∧ (0 ≤ v.user ∧ v.user ≤ 2147483647) ∧ (0 ≤ v.group ∧ v.group ≤ 2147483647) := by
    simp only [setB, Bool.and_eq_true, decide_eq_true_eq] at hb
    omega
  exact same_ok (n' := setN n v (T.clock + 1)) h hn rfl rfl rfl rfl on.data on.plain on.inside on.size rfl hs.1 hs.2.1 hs.2.2 ht ⟨rfl, rfl, rfl⟩ rfl h.room
end Go.Proofs.YtgbakogihkdddaaGreatDoor
