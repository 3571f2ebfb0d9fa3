/-
  What was written of a file, in memory: where a piece ends; how many pieces end no later.
  DERIVED: THE SHELF's CONTRACTS AT THIS DUMP, IN PLAIN WORDS (tools/lay-plain.mjs out of 'YtjjgadanobeamaaShelf.lean', which tools/lay-shelf.mjs wrote): THE SAME DECLARATIONS UNDER THE SAME NAMES: 'import', 'namespace', 'open', 'def', 'theorem' AND NOTHING ELSE: no command of the shelf's: FOR A HAND-IN. Each laying: the table of numbers ('.._ren') and one theorem, a field a fact of the dump's own or the kernel's comparison; each contract: ONE APPLICATION.
  strings.ContainsAny at "/\x00" and any bytes: what a rune that is no single byte has to do with it.
  strings.IndexAny and ContainsAny at "/\x00" and any bytes; name.Ok.
  strings.ContainsAny at "/\x00"; name.Ok.
-/
import Derived.Test.YtjjgadanobeamaaMh3
import Derived.Deep.RegionHeld3
import Derived.Shelf.Small.Utf8
import Derived.Shelf.Small.Strs
import Derived.Shelf.Strings.Search1
import Derived.Shelf.Strings.Search2
import Derived.Shelf.Strings.Search3
import Derived.Shelf.LaysM
import Derived.Shelf.Strings.Shaped
import Derived.Shelf.Strings.Runes
import Derived.Shelf.Strings.IndexAny
import Derived.Shelf.Strings.AsciiSet
import Derived.Shelf.Strings.IndexAnyAll
import Derived.Test.YtjjgadanobeamaaProg
import Derived.Lib.OthersKept
import Derived.Lib.IndexLaws
import Derived.Laws.RangeAny
import Derived.Laws.Runes
import Derived.WalkMore
namespace Go.Proofs.Ytjjgadanobeamaa
open Go.RowKit
set_option linter.unusedVariables false
set_option linter.unusedSimpArgs false
set_option maxRecDepth 20000

def RdD (w : World) (ao : Option Addr) (l : List Fp) : Prop :=
  ∀ i (hi : i < l.length), ∃ (b off : Nat) (bo : Option Addr) (bc : Nat), ao = some ⟨b, off, none⟩ ∧ w.cell? ⟨b, off + i * 2, none⟩ = some (.int .i64 l[i].1) ∧
    w.cell? ⟨b, off + (i * 2 + 1), none⟩ = some (.slice bo l[i].2.length bc) ∧ l[i].2.length ≤ bc ∧ bc ≤ maxLen
theorem RdD.kept {w w' : World} {ao : Option Addr} {l : List Fp} (h : RdD w ao l) (hk : Kept NoB w w') : RdD w' ao l := by
  intro i hi
  obtain ⟨b, off, bo, bc, h1, h2, h3, h4⟩ := h i hi
  exact ⟨b, off, bo, bc, h1, hk.cell h2, hk.cell h3, h4⟩

set_option maxHeartbeats 1000000 in
theorem end_any (z : Int) (n : Nat) (bo : Option Addr) (bc : Nat) (w : World) (hz : 0 ≤ z ∧ z + (n : Int) ≤ 4611686018427387904) :
    Calls Try.prog 32 #[.agg #[.int .i64 z, .slice bo n bc]] w fun e w' => e = .returned (.int .i64 (z + (n : Int))) ∧ w' = w.alloc (.cells #[.int .i64 z, .slice bo n bc] 43) := by
  go_enter Try.func32, Try.ntmps32
  go_wp2
  go_ret
  exact ⟨rfl, rfl⟩

set_option maxHeartbeats 2000000 in
/-- The closure of after. -/
theorem after1_any (l : List Fp) (hl : OkD l) (a : Option Addr) (c : Nat) (B1 B2 : Nat) (k : Int) (i : Nat) (hi : i < l.length) (w : World) (hr : RdD w a l)
    (h1 : w.cell? ⟨B1, 0, none⟩ = some (.slice a l.length c)) (h2 : w.cell? ⟨B2, 0, none⟩ = some (.int .i64 k)) (hlen : l.length ≤ 1099511627776) :
    Calls Try.prog 39 #[.int .i64 (i : Int), .pointer (some ⟨B1, 0, none⟩), .pointer (some ⟨B2, 0, none⟩)] w fun e w' => e = .returned (.bool (decide (k < endP l[i]))) ∧ Kept NoB w w' := by
  obtain ⟨b, off, bo, bc, rfl, c0, c1, q1, q2⟩ := hr i hi
  obtain ⟨n, hn⟩ : ∃ n, n = l.length := ⟨_, rfl⟩
  rw [← hn] at h1 hi hlen
  have hp := hl.each l[i] (List.getElem_mem (by rw [← hn]; exact hi))
  obtain ⟨z, hz⟩ : ∃ z, z = l[i].1 := ⟨_, rfl⟩
  obtain ⟨m, hm⟩ : ∃ m, m = l[i].2.length := ⟨_, rfl⟩
  have hE : endP l[i] = z + (m : Int) := by rw [hz, hm]; rfl
  rw [hE]
  have hz0 : 0 ≤ z := by rw [hz]; exact hp.1
  have hz1 : z + (m : Int) ≤ 1099511627776 := by rw [← hE]; exact hp.2.2
  rw [← hz] at c0
  rw [← hm] at c1 q1
  rw [show off + (i * 2 + 1) = off + i * 2 + 1 by omega] at c1
  have HE : Hid (∀ W, Calls Try.prog 32 #[.agg #[.int .i64 z, .slice bo m bc]] W fun e w' => e = .returned (.int .i64 (z + (m : Int))) ∧ Kept NoB W w') := Lib.hid (fun W => (end_any z m bo bc W ⟨hz0, by omega⟩).mono (by rintro e w' ⟨rfl, rfl⟩; exact ⟨rfl, (Kept.refl NoB W).alloc _⟩))
  have D0 : ∀ W, Kept NoB w W → W.cell? ⟨b, off + i * 2, none⟩ = some (.int .i64 z) := fun W hk => hk.cell c0
  have D1 : ∀ W, Kept NoB w W → W.cell? ⟨b, off + i * 2 + 1, none⟩ = some (.slice bo m bc) := fun W hk => hk.cell c1
  have D2 : ∀ W, Kept NoB w W → W.cell? ⟨B1, 0, none⟩ = some (.slice (some ⟨b, off, none⟩) n c) := fun W hk => hk.cell h1
  have D3 : ∀ W, Kept NoB w W → W.cell? ⟨B2, 0, none⟩ = some (.int .i64 k) := fun W hk => hk.cell h2
  clear hE hz hm hp hr hn hl c0 c1 h1 h2
  go_enter Try.func39, Try.ntmps39
  go_upto_region 1 with fail
  go_region_held3 (fun W => Kept NoB w W) (first | assumption | exact Kept.drew (Kept.refl _ _) | exact Kept.drew (by assumption) | exact Kept.trans (by assumption) hkn) ((go_at_call 32; ((with_reducible refine (HE.out _).mono ?_); rintro e wn ⟨rfl, hkn⟩)))
  have hkw : Kept NoB w wn := by assumption
  have HKw := Lib.hid hkw
  clear hkw hkn
  go_wp2
  go_ret
  exact ⟨rfl, HKw.out⟩

theorem fcells_len (qs : List FpQ) : (fcells qs).length = qs.length * 2 := by
  induction qs with
  | nil => rfl
  | cons p r ih => simp [fcells] at ih ⊢; omega
theorem fcells_at : ∀ (qs : List FpQ) (i : Nat) (h : i < qs.length), (fcells qs)[i * 2]? = some (.int .i64 qs[i].1.1) ∧ (fcells qs)[i * 2 + 1]? = some (.slice qs[i].2.1 qs[i].1.2.length qs[i].2.2) := by
  intro qs
  induction qs with
  | nil => intro i hi; simp at hi
  | cons p r ih =>
    intro i hi
    have e : fcells (p :: r) = .int .i64 p.1.1 :: .slice p.2.1 p.1.2.length p.2.2 :: fcells r := by simp [fcells]
    rw [e]
    cases i with
    | zero => exact ⟨rfl, rfl⟩
    | succ i =>
      have hi' : i < r.length := by simpa using hi
      obtain ⟨h1, h2⟩ := ih i hi'
      rw [show (i + 1) * 2 = i * 2 + 1 + 1 by omega]
      refine ⟨?_, ?_⟩
      · simpa using h1
      · rw [List.getElem?_cons_succ, List.getElem?_cons_succ]; simpa using h2
theorem DatSt.cap {L : Nat → Lab} {i : Int} {w : World} {a : Option Addr} {l c : Nat} {qs : List FpQ} (h : DatSt L i w a l c qs) : l ≤ c ∧ c ≤ maxLen ∧ (a = none → l = 0 ∧ c = 0) := by
  rcases h.own.2 with ⟨hv, hz⟩ | ⟨g, cc, cur, hv, _, _, h1, h2, _⟩
  · simp at hv
    obtain ⟨rfl, rfl, rfl⟩ := hv
    exact ⟨Nat.le_refl _, Nat.zero_le _, fun _ => ⟨rfl, rfl⟩⟩
  · simp at hv
    obtain ⟨rfl, rfl⟩ := hv
    exact ⟨h1, h2, fun e => by cases e⟩
theorem DatSt.cells {L : Nat → Lab} {i : Int} {w : World} {a : Option Addr} {l c : Nat} {qs : List FpQ} (h : DatSt L i w a l c qs) (h0 : 0 < l) :
    ∃ g cur, a = some ⟨g, 0, none⟩ ∧ w.heap[g]? = some (.cells cur 43 (0, 0)) ∧ cur.size = c * 2 ∧ cur.toList.take (l * 2) = fcells qs ∧ L g = .row i := by
  rcases h.own.2 with ⟨hv, hz⟩ | ⟨g, cc, cur, hv, _, hg, h1, h2, h3, h4⟩
  · omega
  · simp at hv
    obtain ⟨rfl, rfl⟩ := hv
    exact ⟨g, cur, rfl, hg, h3, h4, h.lab g (by simp [Value.ownBlock])⟩
theorem DatSt.rd {L : Nat → Lab} {i : Int} {w : World} {a : Option Addr} {l c : Nat} {qs : List FpQ} (h : DatSt L i w a l c qs) : RdD w a (qs.map Prod.fst) := by
  intro j hj
  have hj' : j < qs.length := by simpa using hj
  have hl := h.len
  obtain ⟨g, cur, rfl, hg, h3, h4, _⟩ := h.cells (by omega)
  obtain ⟨e1, e2⟩ := fcells_at qs j hj'
  have hown := h.each qs[j] (List.getElem_mem hj')
  obtain ⟨k1, k2⟩ := own_cap hown
  have hcur : ∀ (x : Nat) (v : Value), (fcells qs)[x]? = some v → cur[x]? = some v := by
    intro x v hx
    rw [← h4] at hx
    rw [List.getElem?_take] at hx
    split at hx
    · simpa using hx
    · cases hx
  refine ⟨g, 0, qs[j].2.1, qs[j].2.2, rfl, ?_, ?_, ?_, k2⟩
  · rw [Nat.zero_add, obj_cell hg, hcur _ _ e1]; simp
  · rw [Nat.zero_add, obj_cell hg, hcur _ _ e2]; simp
  · simpa using k1
theorem ahead_count (l : List Fp) (h : OkD l) (k : Int) (n : Nat) (hn : n ≤ l.length) (h1 : ∀ i (hi : i < l.length), i < n → ¬ k < endP l[i]) (h2 : ∀ i (hi : i < l.length), n ≤ i → k < endP l[i]) : n = (aheadP l (k + 1)).length := by
  unfold aheadP
  induction l generalizing n with
  | nil => simp at hn; subst hn; rfl
  | cons p t ih =>
    have ht : OkD t := ⟨fun q hq => h.each q (List.mem_cons_of_mem _ hq), (List.pairwise_cons.1 h.apart).2⟩
    rw [List.takeWhile_cons]
    cases n with
    | zero =>
      have := h2 0 (by simp) (by omega)
      simp only [List.getElem_cons_zero] at this
      rw [if_neg (by simp; omega)]
      rfl
    | succ n =>
      have := h1 0 (by simp) (by omega)
      simp only [List.getElem_cons_zero] at this
      rw [if_pos (by simp; omega)]
      simp only [List.length_cons]
      rw [← ih ht n (by simpa using hn) (fun i hi hin => by have := h1 (i + 1) (by simpa using hi) (by omega); simpa using this) (fun i hi hin => by have := h2 (i + 1) (by simpa using hi) (by omega); simpa using this)]
theorem okD_mono {l : List Fp} (h : OkD l) {i j : Nat} (hi : i < l.length) (hj : j < l.length) (hij : i ≤ j) : endP l[i] ≤ endP l[j] := by
  rcases Nat.lt_or_ge i j with hlt | hge
  · have := List.pairwise_iff_getElem.1 h.apart i j hi hj hlt
    unfold endP at *; omega
  · have : i = j := by omega
    subst this; exact Int.le_refl _
set_option maxHeartbeats 1000000 in
/-- How many pieces end no later than k. -/
theorem after_any (l : List Fp) (hl : OkD l) (a : Option Addr) (c : Nat) (k : Int) (w : World) (hr : RdD w a l) (hc : l.length ≤ c) (hcm : c ≤ maxLen) (hlen : l.length ≤ 1099511627776) (hk : -4611686018427387904 ≤ k ∧ k ≤ 4611686018427387904) :
    Calls Try.prog 29 #[.slice a l.length c, .int .i64 k] w fun e w' => e = .returned (.int .i64 ((aheadP l (k + 1)).length : Int)) ∧ Kept NoB w w' := by
  obtain ⟨w1, hw1⟩ : ∃ w1, w1 = (w.alloc (.cells #[.slice a l.length c] 48)).alloc (.cells #[.int .i64 k] 3) := ⟨_, rfl⟩
  have hk1 : Kept NoB w w1 := by rw [hw1]; exact ((Kept.refl NoB w).alloc _).alloc _
  have b1 : w1.cell? ⟨w.heap.size, 0, none⟩ = some (.slice a l.length c) := by
    rw [hw1]; exact ((Kept.refl NoB _).alloc _).cell (cell_new 0 rfl)
  have b2 : w1.cell? ⟨w.heap.size + 1, 0, none⟩ = some (.int .i64 k) := by
    rw [hw1]; exact cell_new 0 (by simp)
  have hS := search_after l.length #[.pointer (some ⟨w.heap.size, 0, none⟩), .pointer (some ⟨w.heap.size + 1, 0, none⟩)] (fun i => if hi : i < l.length then decide (k < endP l[i]) else true) w1 hlen
    (fun x y hxy hy hx => by
      have hxl : x < l.length := by omega
      simp only [hxl, hy, dif_pos, decide_eq_true_eq] at hx ⊢
      have := okD_mono hl hxl hy hxy
      omega)
    (fun W i hkW hi => by
      have := after1_any l hl a c w.heap.size (w.heap.size + 1) k i hi W ((hr.kept hk1).kept hkW) (hkW.cell b1) (hkW.cell b2) hlen
      simp only [hi, dif_pos]
      exact this)
  have hA : ∀ n, n ≤ l.length → (∀ j, j < n → (if hi : j < l.length then decide (k < endP l[j]) else true) = false) → (∀ j, n ≤ j → j < l.length → (if hi : j < l.length then decide (k < endP l[j]) else true) = true) → n = (aheadP l (k + 1)).length := by
    intro n hn h1 h2
    refine ahead_count l hl k n hn (fun i hi hin => ?_) (fun i hi hin => ?_)
    · have := h1 i hin; simp only [hi, dif_pos, decide_eq_false_iff_not] at this; exact this
    · have := h2 i hin hi; simp only [hi, dif_pos, decide_eq_true_eq] at this; exact this
  have hS2 : Calls Try.prog 33 #[.int .i64 (l.length : Int), .func (.func 39) #[] #[.pointer (some ⟨w.heap.size, 0, none⟩), .pointer (some ⟨w.heap.size + 1, 0, none⟩)]] w1 fun e w' => e = .returned (.int .i64 ((aheadP l (k + 1)).length : Int)) ∧ Kept NoB w1 w' := by
    refine hS.mono ?_
    rintro e w' ⟨i, rfl, h1, h2, h3, h4⟩
    exact ⟨by rw [hA i h1 h2 h3], h4⟩
  have HS := Lib.hid hS2; have HW := Lib.hid hw1; have HK1 := Lib.hid hk1
  obtain ⟨A, hAe⟩ : ∃ A, A = (aheadP l (k + 1)).length := ⟨_, rfl⟩
  rw [← hAe] at HS ⊢
  obtain ⟨n, hn⟩ : ∃ n, n = l.length := ⟨_, rfl⟩
  rw [← hn] at HS HW hc b1 ⊢
  clear hS hS2 hw1 hk1 b2 hA hr hAe hn hl hlen
  go_enter Try.func29, Try.ntmps29
  go_upto_region 1 with fail
  rw [← HW.out]
  go_wp2_with fail
  refine HS.out.mono ?_
  rintro e w2 ⟨rfl, hk2⟩
  go_wp2
  go_ret
  exact ⟨rfl, HK1.out.trans hk2⟩
end Go.Proofs.Ytjjgadanobeamaa

namespace Go.Proofs
open Go.Shelf
def Try.lays119_ren : Go.Shelf.Ren := ⟨fun | 119 => 56 | n => n, fun | 21 => 21 | 4 => 4 | n => n, fun | n => n⟩
theorem Try.lays119 : Go.Proofs.Lays.n119 Try.prog Try.lays119_ren := {
  mixed := by kernel_rfl
  f119 := Try.func56.trans (congrArg some (by kernel_rfl))
  t4 := Try.underlying4
  a4 := Try.isAgg4
  z4 := Try.sizeOf4
  v4 := Try.zeroValue4
  t21 := Try.underlying21
  a21 := Try.isAgg21
  z21 := Try.sizeOf21
  v21 := Try.zeroValue21 }
theorem Try.utf8_ValidRune (r : Int) (w : World) :
    Calls Try.prog 56 #[.int .i32 r] w fun e w' => e = .returned (.bool (Lib.validRune r)) ∧ w' = w := Any.utf8_ValidRune Try.lays119 r w
def Try.lays137_ren : Go.Shelf.Ren := ⟨fun | 137 => 55 | 217 => 50 | 266 => 57 | n => n, fun | 9 => 9 | 5 => 5 | 3 => 3 | n => n, fun | n => n⟩
theorem Try.lays137 : Go.Proofs.Lays.n137 Try.prog Try.lays137_ren := {
  mixed := by kernel_rfl
  f137 := Try.func55.trans (congrArg some (by kernel_rfl))
  f217 := Try.func50.trans (congrArg some (by kernel_rfl))
  f266 := Try.func57.trans (congrArg some (by kernel_rfl))
  t3 := Try.underlying3
  a3 := Try.isAgg3
  z3 := Try.sizeOf3
  v3 := Try.zeroValue3
  t5 := Try.underlying5
  a5 := Try.isAgg5
  z5 := Try.sizeOf5
  v5 := Try.zeroValue5
  t9 := Try.underlying9
  a9 := Try.isAgg9
  z9 := Try.sizeOf9
  v9 := Try.zeroValue9 }
open Go.RowKit in
/-- strings.IndexByte: "IndexByte returns the index of the first instance of c in s, or -1 if c is not present in s.": IT RETURNS 'Lib.indexByte s c'; the world is as it was. (LAID: no walk: one application.) -/
theorem Try.strings_IndexByte (s : ByteArray) (c : Int) (w : World) :
    Calls Try.prog 55 #[.string s, .int .u8 c] w fun e w' => e = .returned (.int .i64 (Lib.indexByte s.data.toList c.toNat.toUInt8)) ∧ w' = w := Any.strings_IndexByte Try.lays137 s c w
def Try.lays144_ren : Go.Shelf.Ren := ⟨fun | 144 => 25 | 143 => 38 | 219 => 44 | 217 => 50 | 225 => 51 | 224 => 52 | 267 => 53 | 266 => 57 | 314 => 58 | n => n, fun | 9 => 9 | 4 => 4 | 3 => 3 | 5 => 5 | 46 => 83 | 146 => 99 | 51 => 98 | n => n, fun | 1 => 0 | n => n⟩
theorem Try.lays144 : Go.Proofs.Lays.n144 Try.prog Try.lays144_ren := {
  mixed := by kernel_rfl
  f143 := Try.func38.trans (congrArg some (by kernel_rfl))
  f144 := Try.func25.trans (congrArg some (by kernel_rfl))
  f217 := Try.func50.trans (congrArg some (by kernel_rfl))
  f219 := Try.func44.trans (congrArg some (by kernel_rfl))
  f224 := Try.func52.trans (congrArg some (by kernel_rfl))
  f225 := Try.func51.trans (congrArg some (by kernel_rfl))
  f266 := Try.func57.trans (congrArg some (by kernel_rfl))
  f267 := Try.func53.trans (congrArg some (by kernel_rfl))
  f314 := Try.func58.trans (congrArg some (by kernel_rfl))
  t3 := Try.underlying3
  a3 := Try.isAgg3
  z3 := Try.sizeOf3
  v3 := Try.zeroValue3
  t4 := Try.underlying4
  a4 := Try.isAgg4
  z4 := Try.sizeOf4
  v4 := Try.zeroValue4
  t5 := Try.underlying5
  a5 := Try.isAgg5
  z5 := Try.sizeOf5
  v5 := Try.zeroValue5
  t9 := Try.underlying9
  a9 := Try.isAgg9
  z9 := Try.sizeOf9
  v9 := Try.zeroValue9
  t46 := Try.underlying83
  a46 := Try.isAgg83
  z46 := Try.sizeOf83
  v46 := Try.zeroValue83
  t51 := Try.underlying98
  a51 := Try.isAgg98
  z51 := Try.sizeOf98
  v51 := Try.zeroValue98
  t146 := Try.underlying99
  a146 := Try.isAgg99
  z146 := Try.sizeOf99
  v146 := Try.zeroValue99
  g1 := by kernel_rfl }
open Go.RowKit Go.Lib in
/-- strings.Contains: "Contains reports whether substr is within s.": AT A substr OF ONE BYTE c: IT RETURNS 'decide (0 ≤ Lib.indexByte s c)'; the world is as it was. (LAID: no walk: one application.) -/
theorem Try.strings_Contains_one (s : ByteArray) (c : UInt8) (w : World) :
    Calls Try.prog 25 #[.string s, .string ⟨#[c]⟩] w fun e w' => e = .returned (.bool (decide (0 ≤ Lib.indexByte s.data.toList c))) ∧ w' = w := Any.strings_Contains_one Try.lays144 s c w
def Try.lays152_ren : Go.Shelf.Ren := ⟨fun | 152 => 46 | 137 => 55 | 119 => 56 | 224 => 52 | 225 => 51 | 217 => 50 | 266 => 57 | n => n, fun | 9 => 9 | 21 => 21 | 3 => 3 | 4 => 4 | 5 => 5 | 0 => 0 | 46 => 83 | n => n, fun | n => n⟩
theorem Try.lays152 : Go.Proofs.Lays.n152 Try.prog Try.lays152_ren := {
  mixed := by kernel_rfl
  f119 := Try.func56.trans (congrArg some (by kernel_rfl))
  f137 := Try.func55.trans (congrArg some (by kernel_rfl))
  f152 := Try.func46.trans (congrArg some (by kernel_rfl))
  f217 := Try.func50.trans (congrArg some (by kernel_rfl))
  f224 := Try.func52.trans (congrArg some (by kernel_rfl))
  f225 := Try.func51.trans (congrArg some (by kernel_rfl))
  f266 := Try.func57.trans (congrArg some (by kernel_rfl))
  t0 := Try.underlying0
  a0 := Try.isAgg0
  z0 := Try.sizeOf0
  v0 := Try.zeroValue0
  t3 := Try.underlying3
  a3 := Try.isAgg3
  z3 := Try.sizeOf3
  v3 := Try.zeroValue3
  t4 := Try.underlying4
  a4 := Try.isAgg4
  z4 := Try.sizeOf4
  v4 := Try.zeroValue4
  t5 := Try.underlying5
  a5 := Try.isAgg5
  z5 := Try.sizeOf5
  v5 := Try.zeroValue5
  t9 := Try.underlying9
  a9 := Try.isAgg9
  z9 := Try.sizeOf9
  v9 := Try.zeroValue9
  t21 := Try.underlying21
  a21 := Try.isAgg21
  z21 := Try.sizeOf21
  v21 := Try.zeroValue21
  t46 := Try.underlying83
  a46 := Try.isAgg83
  z46 := Try.sizeOf83
  v46 := Try.zeroValue83 }
open Go.RowKit Go.Lib in
theorem Try.strings_IndexRune_ascii (s : ByteArray) (r : Int) (w : World) (h0 : 0 ≤ r) (h1 : r < 128) :
    Calls Try.prog 46 #[.string s, .int .i32 r] w fun e w' => e = .returned (.int .i64 (Lib.indexByte s.data.toList r.toNat.toUInt8)) ∧ w' = w := Any.strings_IndexRune_ascii Try.lays152 s r w h0 h1
def Try.lays226_ren : Go.Shelf.Ren := ⟨fun | 226 => 47 | n => n, fun | 3 => 3 | 4 => 4 | n => n, fun | n => n⟩
theorem Try.lays226 : Go.Proofs.Lays.n226 Try.prog Try.lays226_ren := {
  mixed := by kernel_rfl
  f226 := Try.func47.trans (congrArg some (by kernel_rfl))
  t3 := Try.underlying3
  a3 := Try.isAgg3
  z3 := Try.sizeOf3
  v3 := Try.zeroValue3
  t4 := Try.underlying4
  a4 := Try.isAgg4
  z4 := Try.sizeOf4
  v4 := Try.zeroValue4 }
open Go.RowKit Go.Lib in
theorem Try.strings_shouldUseASCIISet (n : Int) (w : World) :
    Calls Try.prog 47 #[.int .i64 n] w fun e w' => e = .returned (.bool (decide (8 < n))) ∧ w' = w := Any.strings_shouldUseASCIISet Try.lays226 n w
def Try.lays153_ren : Go.Shelf.Ren := ⟨fun | 153 => 43 | 152 => 46 | 226 => 47 | 227 => 48 | 228 => 49 | 137 => 55 | 119 => 56 | 224 => 52 | 225 => 51 | 217 => 50 | 266 => 57 | n => n, fun | 9 => 9 | 3 => 3 | 4 => 4 | 5 => 5 | 21 => 21 | 117 => 91 | 116 => 90 | 0 => 0 | 46 => 83 | 124 => 97 | n => n, fun | n => n⟩
theorem Try.lays153 : Go.Proofs.Lays.n153 Try.prog Try.lays153_ren := {
  mixed := by kernel_rfl
  f119 := Try.func56.trans (congrArg some (by kernel_rfl))
  f137 := Try.func55.trans (congrArg some (by kernel_rfl))
  f152 := Try.func46.trans (congrArg some (by kernel_rfl))
  f153 := Try.func43.trans (congrArg some (by kernel_rfl))
  f217 := Try.func50.trans (congrArg some (by kernel_rfl))
  f224 := Try.func52.trans (congrArg some (by kernel_rfl))
  f225 := Try.func51.trans (congrArg some (by kernel_rfl))
  f226 := Try.func47.trans (congrArg some (by kernel_rfl))
  f227 := Try.func48.trans (congrArg some (by kernel_rfl))
  f228 := Try.func49.trans (congrArg some (by kernel_rfl))
  f266 := Try.func57.trans (congrArg some (by kernel_rfl))
  t0 := Try.underlying0
  a0 := Try.isAgg0
  z0 := Try.sizeOf0
  v0 := Try.zeroValue0
  t3 := Try.underlying3
  a3 := Try.isAgg3
  z3 := Try.sizeOf3
  v3 := Try.zeroValue3
  t4 := Try.underlying4
  a4 := Try.isAgg4
  z4 := Try.sizeOf4
  v4 := Try.zeroValue4
  t5 := Try.underlying5
  a5 := Try.isAgg5
  z5 := Try.sizeOf5
  v5 := Try.zeroValue5
  t9 := Try.underlying9
  a9 := Try.isAgg9
  z9 := Try.sizeOf9
  v9 := Try.zeroValue9
  t21 := Try.underlying21
  a21 := Try.isAgg21
  z21 := Try.sizeOf21
  v21 := Try.zeroValue21
  t46 := Try.underlying83
  a46 := Try.isAgg83
  z46 := Try.sizeOf83
  v46 := Try.zeroValue83
  t116 := Try.underlying90
  a116 := Try.isAgg90
  z116 := Try.sizeOf90
  t117 := Try.underlying91
  a117 := Try.isAgg91
  z117 := Try.sizeOf91
  v117 := Try.zeroValue91
  t124 := Try.underlying97
  a124 := Try.isAgg97
  z124 := Try.sizeOf97
  v124 := Try.zeroValue97 }
open Go.RowKit Go.Lib in
theorem Try.strings_IndexAny_long (hv116 : ∀ w, (zeroValue 90).run Try.prog w = .ok (.agg (Array.replicate 256 (.bool false))) w) (s chars : ByteArray) (w : World) (h2 : 2 ≤ chars.size) (h8 : 8 < s.size) (hs : s.size < 4294967281) (hcs : chars.size < 4294967281) (hascii : ∀ (j : Nat) b, chars.data.toList[j]? = some b → b.toNat < 128) :
    Calls Try.prog 43 #[.string s, .string chars] w fun e w' => e = .returned (.int .i64 (Lib.indexAny s.data.toList chars.data.toList)) ∧ w' = ((w.alloc (.cells (Lib.setCells chars.data.toList) 90)).alloc (.cells (Lib.setCells chars.data.toList) 90)) := Any.strings_IndexAny_long Try.lays153 hv116 (by kernel_rfl) s chars w h2 h8 hs hcs hascii
end Go.Proofs

namespace Go.Proofs.Ytjjgadanobeamaa
open Go.RowKit
set_option linter.unusedVariables false
set_option linter.unusedSimpArgs false

def s47 : ByteArray := ⟨#[47, 0]⟩
theorem decode_span (s : ByteArray) (pos : Nat) (h : pos < s.size) (ha : 128 ≤ (s[pos]'h).toNat) : pos + (Utf8.decode s pos).2 ≤ s.size ∧ ∀ k, k < (Utf8.decode s pos).2 → 128 ≤ (s.get! (pos + k)).toNat := by
  have h0 : 128 ≤ (s.get! (pos + 0)).toNat := by rw [get_at s pos h]; exact ha
  have hn : ¬ (s.get! (pos + 0)).toNat < 128 := by omega
  have one : ∀ k, k < 1 → 128 ≤ (s.get! (pos + k)).toNat := fun k hk => by
    have : k = 0 := by omega
    subst this; exact h0
  simp only [Utf8.decode, hn, if_false]
  split
  · rename_i c
    simp at c
    split
    · refine ⟨by omega, fun k hk => ?_⟩
      rcases (show k = 0 ∨ k = 1 by omega) with rfl | rfl
      · exact h0
      · omega
    · exact ⟨by show pos + 1 ≤ _; omega, one⟩
  · split
    · rename_i c
      simp at c
      split
      · refine ⟨by omega, fun k hk => ?_⟩
        rcases (show k = 0 ∨ k = 1 ∨ k = 2 by omega) with rfl | rfl | rfl
        · exact h0
        · omega
        · omega
      · exact ⟨by show pos + 1 ≤ _; omega, one⟩
    · split
      · rename_i c
        simp at c
        split
        · refine ⟨by omega, fun k hk => ?_⟩
          rcases (show k = 0 ∨ k = 1 ∨ k = 2 ∨ k = 3 by omega) with rfl | rfl | rfl | rfl
          · exact h0
          · omega
          · omega
          · omega
        · exact ⟨by show pos + 1 ≤ _; omega, one⟩
      · exact ⟨by show pos + 1 ≤ _; omega, one⟩

set_option maxRecDepth 20000 in
set_option maxHeartbeats 4000000 in
theorem indexRune_high (r : Int) (w : World) (h0 : 128 ≤ r) (h1 : r ≤ 2147483647) :
    Calls Try.prog 46 #[.string s47, .int .i32 r] w fun e w' => e = .returned (.int .i64 (-1)) ∧ Below w.heap.size w w' := by
  have q0 : ¬ r < 128 := by omega
  have q1 : (0 : Int) ≤ r := by omega
  have hsz : s47.size = 2 := rfl
  by_cases he : r = 65533
  · subst he
    go_enter Try.func46, Try.ntmps46
    go_wp2
    go_loopw [5, 6] (fun _ _ wr => ∃ pos : Nat, pos ≤ 2 ∧ Hid (wr.heap[w.heap.size]? = some (.stringIter s47 pos)) ∧ Hid (Below w.heap.size w wr)) (fun _ _ wr => 2 - wr.iterPos w.heap.size)
    case atStart => exact ⟨0, by omega, Lib.hid (World.iter_heap w s47 0), Lib.hid ((Below.refl _ w).alloc (Nat.le_refl _) _)⟩
    case round =>
      obtain ⟨pos, hp, HI, HB⟩ := hrel
      by_cases hp2 : pos < 2
      · have hx : (s47[pos]'(by rw [hsz]; exact hp2)).toNat < 128 ∧ ((s47[pos]'(by rw [hsz]; exact hp2)).toNat : Int) ≠ 65533 := by
          rcases (show pos = 0 ∨ pos = 1 by omega) with rfl | rfl
          · exact ⟨by show (47 : UInt8).toNat < 128; decide, by show (((47 : UInt8).toNat : Nat) : Int) ≠ 65533; decide⟩
          · exact ⟨by show (0 : UInt8).toNat < 128; decide, by show (((0 : UInt8).toNat : Nat) : Int) ≠ 65533; decide⟩
        have hnx := fun ty => Lib.run_next_ascii_at (P := Try.prog) wr w.heap.size s47 pos ty HI.out (by rw [hsz]; exact hp2) hx.1
        obtain ⟨x, hxe⟩ : ∃ x : Nat, x = (s47[pos]'(by rw [hsz]; exact hp2)).toNat := ⟨_, rfl⟩
        rw [← hxe] at hx hnx
        have q3 : ((x : Int) == 65533) = false := by simpa using hx.2
        have HI2 := Lib.hid (Lib.iterAt_heap wr w.heap.size s47 pos (pos + 1) HI.out)
        have HB2 := Lib.hid (Lib.below_iterAt HB.out (Nat.le_refl _) s47 (pos + 1))
        have HIP : Hid (wr.iterPos w.heap.size = pos) := Lib.hid (by unfold World.iterPos; rw [HI.out])
        have HIP2 : Hid ((wr.iterAt w.heap.size s47 (pos + 1)).iterPos w.heap.size = pos + 1) := Lib.hid (by unfold World.iterPos; rw [HI2.out])
        clear hxe hx
        go_wp2
        go_roundw
        case rel => exact ⟨pos + 1, by omega, HI2, HB2⟩
        case measure => rw [HIP.out, HIP2.out]; omega
      · have hnx := fun ty => Lib.run_next_end_at (P := Try.prog) wr w.heap.size s47 pos ty HI.out (by rw [hsz]; omega)
        go_wp2
        go_ret
        exact ⟨rfl, HB.out⟩
  · have q2 : (r == 65533) = false := by simpa using he
    cases hv : Lib.validRune r with
    | false =>
      go_enter Try.func46, Try.ntmps46
      go_wp2_with fail
      refine (Try.utf8_ValidRune _ _).mono ?_
      rintro e w1 ⟨rfl, rfl⟩
      rw [hv]
      go_wp2
      go_ret
      exact ⟨rfl, Below.refl _ _⟩
    | true =>
      have hvv : Utf8.valid r = true := by rw [validRune_eq]; exact hv
      obtain ⟨e2, e4, e8⟩ := encode_facts r hvv h0
      obtain ⟨E, hE⟩ : ∃ E, E = Utf8.encode r := ⟨_, rfl⟩
      rw [← hE] at e2 e4 e8
      have hcv : ∀ W, (convert 21 9 (.int .i32 r)).run Try.prog W = .ok (.string E) W := fun W => by
        rw [hE]; exact run_convert_int_string W _ _ .i32 r rfl rfl
      clear hE
      go_enter Try.func46, Try.ntmps46
      go_wp2_with fail
      refine (Try.utf8_ValidRune _ _).mono ?_
      rintro e w1 ⟨rfl, hw⟩
      rw [hw, hv]
      clear hw
      obtain ⟨M, hM⟩ : ∃ M : Nat, E.size = M + 1 := ⟨E.size - 1, by omega⟩
      have hw1 : IntKind.i64.wrap ((E.size : Int) - 1) = (M : Int) := by rw [IntWalk.i64_in _ (by omega)]; omega
      have hMl : M < E.size := by omega
      have hEM : 128 ≤ (E[M]'hMl).toNat := by
        have h := e8 (by omega)
        have e : E.size - 1 = M := by omega
        simpa [e] using h
      clear e8
      go_wp2
      go_step3
      go_wp2
      go_loopw [9, 10, 11, 12] (fun v9 _ _ _ wr => v9 = .int .i64 (M : Int) ∧ Hid (w = wr)) (fun _ _ _ _ _ => 0)
      case atStart => exact ⟨by go_num, Lib.hid rfl⟩
      case round =>
        obtain ⟨rfl, HW⟩ := hrel
        by_cases hM2 : M < 2
        · have hM1 : M = 1 := by omega
          subst hM1
          have hs1 : (s47[1]'(by rw [hsz]; decide)).toNat = 0 := rfl
          obtain ⟨x1, hx1⟩ : ∃ x1, x1 = (s47[1]'(by rw [hsz]; decide)).toNat := ⟨_, rfl⟩
          obtain ⟨y1, hy1⟩ : ∃ y1, y1 = (E[1]'hMl).toNat := ⟨_, rfl⟩
          have q5 : (((s47[1]'(by rw [hsz]; decide)).toNat : Int) != ((E[1]'hMl).toNat : Int)) = true := by rw [hs1]; simp; omega
          have HIb := Lib.hid (fun W => Try.strings_IndexByte ByteArray.empty ((E[1]'hMl).toNat : Int) W)
          rw [show Lib.indexByte ByteArray.empty.data.toList (((E[1]'hMl).toNat : Int)).toNat.toUInt8 = -1 from rfl] at HIb
          clear hx1 hy1 hs1
          have hw2 : IntKind.i64.wrap 2 = 2 := by decide
          have hw3 : IntKind.i64.wrap ((1 : Nat) : Int) = 1 := by decide
          go_wp2
          go_step3
          go_upto_region 6 with fail
          go_quiet (fail)
          obtain ⟨wq, hwq⟩ : ∃ wq, wq = wr.drewN nq := ⟨_, rfl⟩
          have HQ : Hid (Below w.heap.size w wq) := Lib.hid (by rw [hwq, ← HW.out]; exact ((Kept.refl NoB w).drewN nq).belowNo (Below.refl _ _))
          rw [← hwq]
          clear hwq
          go_wp2
          go_quiet ((go_at_call 55; exact Calls.quiet_of_same ((HIb.out _).mono fun _ _ h => ⟨h.1, h.2⟩)))
          have HQ2 := Lib.hid (((Kept.refl NoB wq).drewN nq).belowNo HQ.out)
          go_wp2
          rw [Exit.noGoto_ret]
          go_wp2
          rw [Exit.noGoto_ret]
          go_ret
          exact ⟨rfl, HQ2.out⟩
        · go_wp2
          rw [Exit.noGoto_ret]
          go_ret
          exact ⟨rfl, by rw [← HW.out]; exact Below.refl _ _⟩
end Go.Proofs.Ytjjgadanobeamaa

namespace Go.Proofs.Ytjjgadanobeamaa
open Go.RowKit
set_option linter.unusedVariables false
set_option linter.unusedSimpArgs false

theorem data47 : s47.data.toList = [47, 0] := rfl
theorem byte_at (s : ByteArray) (i : Nat) (h : i < s.size) : s.data.toList[i]? = some (s[i]'h) := Lib.data_getElem? s i h
theorem get_byte (s : ByteArray) (i : Nat) (h : i < s.size) : s.get! i = s[i]'h := by simpa using get_at s i h
theorem high_no (x : UInt8) (h : 128 ≤ x.toNat) : ([47, 0] : List UInt8).contains x = false := by
  have e1 : x ≠ 47 := by rintro rfl; exact absurd h (by decide)
  have e2 : x ≠ 0 := by rintro rfl; exact absurd h (by decide)
  simp [e1, e2]
theorem noAny_span (s : ByteArray) (pos : Nat) (h : pos < s.size) (ha : 128 ≤ (s[pos]'h).toNat) (hno : Lib.NoAny s.data.toList [47, 0] pos) : Lib.NoAny s.data.toList [47, 0] (pos + (Utf8.decode s pos).2) := by
  obtain ⟨h1, h2⟩ := decode_span s pos h ha
  intro j b hj hb
  by_cases hjp : j < pos
  · exact hno j b hjp hb
  · have hjs : j < s.size := by omega
    rw [byte_at s j hjs] at hb
    cases hb
    have := h2 (j - pos) (by omega)
    rw [show pos + (j - pos) = j by omega, get_byte s j hjs] at this
    exact high_no _ this

set_option maxRecDepth 20000 in
set_option maxHeartbeats 4000000 in
theorem indexAny_short (s : ByteArray) (w : World) (h8 : s.size ≤ 8) :
    Calls Try.prog 43 #[.string s, .string s47] w fun e w' => e = .returned (.int .i64 (Lib.indexAny s.data.toList [47, 0])) ∧ Below w.heap.size w w' := by
  have hsz : s47.size = 2 := rfl
  have hemp : s47.toList.isEmpty = false := by rw [Lib.toList_data, data47]; rfl
  have h8z : decide ((8 : Int) < (s.size : Int)) = false := decide_eq_false (by omega)
  go_enter Try.func43, Try.ntmps43
  go_wp2_with fail
  refine (Try.strings_shouldUseASCIISet _ _).mono ?_
  rintro e w' ⟨rfl, hw⟩
  rw [hw, h8z]
  clear hw
  go_wp2
  go_loopw [9, 10] (fun _ _ wr => ∃ pos : Nat, pos ≤ s.size ∧ Hid (wr.heap[w.heap.size]? = some (.stringIter s pos)) ∧ Hid (Below w.heap.size w wr) ∧ Hid (Lib.NoAny s.data.toList [47, 0] pos)) (fun _ _ wr => s.size - wr.iterPos w.heap.size)
  case atStart => exact ⟨0, by omega, Lib.hid (World.iter_heap w s 0), Lib.hid ((Below.refl _ w).alloc (Nat.le_refl _) _), Lib.hid (Lib.NoAny.zero _ _)⟩
  case round =>
    obtain ⟨pos, hp, HI, HB, HN⟩ := hrel
    have hlt := (Array.getElem?_eq_some_iff.1 HI.out).1
    by_cases hp2 : pos < s.size
    · have hnx := fun ty => Lib.run_next_any_at (P := Try.prog) wr w.heap.size s pos ty HI.out hp2
      have hle := decode_le s pos
      by_cases ha : (s[pos]'hp2).toNat < 128
      · have hd := decode_ascii s pos hp2 ha
        rw [hd] at hnx
        have HX := Lib.hid (byte_at s pos hp2)
        obtain ⟨x, hx⟩ : ∃ x, x = s[pos]'hp2 := ⟨_, rfl⟩
        rw [← hx] at hnx ha HX
        have hcon := Lib.contains_iff_indexByte [47, 0] x
        have HRu := Lib.hid (fun W => Try.strings_IndexRune_ascii s47 (x.toNat : Int) W (by omega) (by omega))
        have hback : ((x.toNat : Int)).toNat.toUInt8 = x := by simp
        rw [hback, data47] at HRu
        have HI2 := Lib.hid (Lib.iterAt_heap wr w.heap.size s pos (pos + 1) HI.out)
        have HB2 := Lib.hid (Lib.below_iterAt HB.out (Nat.le_refl _) s (pos + 1))
        have HIP : Hid (wr.iterPos w.heap.size = pos) := Lib.hid (by unfold World.iterPos; rw [HI.out])
        have HIP2 : Hid ((wr.iterAt w.heap.size s (pos + 1)).iterPos w.heap.size = pos + 1) := Lib.hid (by unfold World.iterPos; rw [HI2.out])
        clear hd hx hle
        cases hin : ([47, 0] : List UInt8).contains x with
        | false =>
          rw [hin] at hcon
          have hl0 : ¬ (0 : Int) ≤ Lib.indexByte [47, 0] x := of_decide_eq_false hcon.symm
          have HN2 := Lib.hid (HN.out.succ HX.out hin)
          clear hcon hin
          go_wp2_with fail
          refine (HRu.out _).mono ?_
          rintro e w2 ⟨rfl, hw2⟩
          rw [hw2]
          clear hw2
          go_wp2
          go_roundw
          case rel => exact ⟨pos + 1, by omega, HI2, HB2, HN2⟩
          case measure => rw [HIP.out, HIP2.out]; omega
        | true =>
          rw [hin] at hcon
          have hl0 : (0 : Int) ≤ Lib.indexByte [47, 0] x := of_decide_eq_true hcon.symm
          have HH := Lib.hid (Lib.indexAny_hit HN.out HX.out hin)
          clear hcon hin
          go_wp2_with fail
          refine (HRu.out _).mono ?_
          rintro e w2 ⟨rfl, hw2⟩
          rw [hw2]
          clear hw2
          go_wp2
          go_ret
          exact ⟨by rw [HH.out]; rfl, HB2.out⟩
      · have hsp := decode_span s pos hp2 (by omega)
        have hhi := decode_high s pos hp2 (by omega)
        have HN2 := Lib.hid (noAny_span s pos hp2 (by omega) HN.out)
        obtain ⟨r, hr⟩ : ∃ r, r = (Utf8.decode s pos).1 := ⟨_, rfl⟩
        obtain ⟨d, hd⟩ : ∃ d, d = (Utf8.decode s pos).2 := ⟨_, rfl⟩
        rw [← hr] at hnx hle hhi
        rw [← hd] at hnx hsp hhi HN2
        have HI2 := Lib.hid (Lib.iterAt_heap wr w.heap.size s pos (pos + d) HI.out)
        have HB2 := Lib.hid (Lib.below_iterAt HB.out (Nat.le_refl _) s (pos + d))
        have HIP : Hid (wr.iterPos w.heap.size = pos) := Lib.hid (by unfold World.iterPos; rw [HI.out])
        have HRu := Lib.hid (fun W => indexRune_high (r : Int) W (by omega) (by omega))
        have hsl : (wr.iterAt w.heap.size s (pos + d)).heap.size = wr.heap.size := Lib.iterAt_size ..
        have HSl := Lib.hid hsl
        have hpd : pos + d ≤ s.size := hsp.1
        have hd1 : 1 ≤ d := hhi.2
        clear hr hd hsp hhi ha hsl hle
        go_wp2_with fail
        refine (HRu.out _).mono ?_
        rintro e w2 ⟨rfl, hb2⟩
        have HI3 : Hid (w2.heap[w.heap.size]? = some (.stringIter s (pos + d))) := Lib.hid ((hb2.block _ (by rw [HSl.out]; exact hlt)).trans HI2.out)
        have HB3 := Lib.hid (HB2.out.trans (hb2.mono (by rw [HSl.out]; omega)))
        have HIP3 : Hid (w2.iterPos w.heap.size = pos + d) := Lib.hid (by unfold World.iterPos; rw [HI3.out])
        clear hb2
        go_wp2
        go_roundw
        case rel => exact ⟨pos + d, by omega, HI3, HB3, HN2⟩
        case measure => rw [HIP.out, HIP3.out]; omega
    · have hps : pos = s.size := by omega
      subst hps
      have hnx := fun ty => Lib.run_next_end_at (P := Try.prog) wr w.heap.size s s.size ty HI.out hp2
      have HF := Lib.hid (Lib.indexAny_none (s := s.data.toList) (chars := [47, 0]) (by rw [← Lib.size_eq]; exact HN.out))
      clear hp2
      go_wp2
      go_ret
      exact ⟨by rw [HF.out]; rfl, HB.out⟩
end Go.Proofs.Ytjjgadanobeamaa

namespace Go.Proofs.Ytjjgadanobeamaa
open Go.RowKit Go.Shelf
set_option linter.unusedVariables false
set_option linter.unusedSimpArgs false

theorem indexAny_any (s : ByteArray) (w : World) (hs : s.size < 4294967281) :
    Calls Try.prog 43 #[.string s, .string s47] w fun e w' => e = .returned (.int .i64 (Lib.indexAny s.data.toList [47, 0])) ∧ Below w.heap.size w w' := by
  by_cases h8 : s.size ≤ 8
  · exact indexAny_short s w h8
  · have hac : ∀ (j : Nat) (b : UInt8), s47.data.toList[j]? = some b → b.toNat < 128 := by
      intro j b hb
      rw [data47] at hb
      rcases (show j = 0 ∨ j = 1 ∨ 2 ≤ j by omega) with rfl | rfl | h
      · simp at hb; subst hb; decide
      · simp at hb; subst hb; decide
      · rw [List.getElem?_eq_none (by simpa using h)] at hb; cases hb
    refine (Try.strings_IndexAny_long (zero_of_info (P := Try.prog) (t := 90) (n := 256) (by kernel_rfl)).1 s s47 w (by decide) (by omega) hs (by decide) hac).mono ?_
    rintro e w' ⟨rfl, rfl⟩
    exact ⟨rfl, ((Below.refl _ w).alloc (Nat.le_refl _) _).alloc (by simp) _⟩
set_option maxHeartbeats 1000000 in
theorem containsAny_any (s : ByteArray) (w : World) (hs : s.size < 4294967281) :
    Calls Try.prog 37 #[.string s, .string s47] w fun e w' => e = .returned (.bool (decide (0 ≤ Lib.indexAny s.data.toList [47, 0]))) ∧ Below w.heap.size w w' := by
  go_enter Try.func37, Try.ntmps37
  go_wp2_with fail
  refine (indexAny_any s w hs).mono ?_
  rintro e w1 ⟨rfl, hb⟩
  go_wp2
  go_ret
  exact ⟨rfl, hb⟩

set_option maxHeartbeats 1000000 in
theorem ok_calls (s : ByteArray) (w : World) (hs : s.size < 4294967281) :
    Calls Try.prog 24 #[.string s] w fun e w' => e = .returned (.bool (okN s)) ∧ Below w.heap.size w w' := by
  have HC := Lib.hid (containsAny_any s w hs)
  have HO : Hid (okN s = (!s.toList.isEmpty && decide (s.size ≤ 255) && !(s.toList == [46]) && !(s.toList == [46, 46]) && !decide (0 ≤ Lib.indexAny s.data.toList [47, 0]))) := Lib.hid rfl
  obtain ⟨b, hb⟩ : ∃ b, b = decide (0 ≤ Lib.indexAny s.data.toList [47, 0]) := ⟨_, rfl⟩
  rw [← hb] at HC HO
  clear hb
  go_enter Try.func24, Try.ntmps24
  by_cases h1 : s.toList = []
  · have HF : Hid (okN s = false) := Lib.hid (by rw [HO.out, h1]; rfl)
    go_wp2
    go_ret
    exact ⟨by rw [HF.out]; rfl, Below.refl _ _⟩
  · by_cases h2 : (s.size : Int) ≤ 255
    · by_cases h3 : s.toList = [46]
      · have HF : Hid (okN s = false) := Lib.hid (by rw [HO.out, h3]; simp)
        go_wp2
        go_ret
        exact ⟨by rw [HF.out]; rfl, Below.refl _ _⟩
      · by_cases h4 : s.toList = [46, 46]
        · have HF : Hid (okN s = false) := Lib.hid (by rw [HO.out, h4]; simp)
          go_wp2
          go_ret
          exact ⟨by rw [HF.out]; rfl, Below.refl _ _⟩
        · have HF : Hid (okN s = !b) := Lib.hid (by
            have e1 : s.toList.isEmpty = false := by simpa using h1
            have e2 : decide (s.size ≤ 255) = true := decide_eq_true (by omega)
            have e3 : (s.toList == [46]) = false := by simpa using h3
            have e4 : (s.toList == [46, 46]) = false := by simpa using h4
            rw [HO.out, e1, e2, e3, e4]; rfl)
          have HG : Hid ((!s.toList.isEmpty && !(s.toList == [46]) && !(s.toList == [46, 46]) && !b) = !b) := Lib.hid (by
            have e1 : s.toList.isEmpty = false := by simpa using h1
            have e3 : (s.toList == [46]) = false := by simpa using h3
            have e4 : (s.toList == [46, 46]) = false := by simpa using h4
            rw [e1, e3, e4]; rfl)
          go_wp2_with fail
          refine HC.out.mono ?_
          rintro e w1 ⟨rfl, hb2⟩
          have HB := Lib.hid hb2
          clear hb2
          go_wp2
          go_ret
          exact ⟨by rw [HF.out]; exact congrArg (fun x => Ending.returned (.bool x)) HG.out, HB.out⟩
    · have HF : Hid (okN s = false) := Lib.hid (by
        have e2 : decide (s.size ≤ 255) = false := decide_eq_false (by omega)
        rw [HO.out, e2]; simp)
      go_wp2
      go_ret
      exact ⟨by rw [HF.out]; rfl, Below.refl _ _⟩
end Go.Proofs.Ytjjgadanobeamaa
