/-
  strings.IndexAny and ContainsAny at "/\x00" and any bytes; name.Ok.
  strings.ContainsAny at "/\x00"; name.Ok.
  A tree of files in memory: Stat; a directory and a part; Find.
  append onto an own row from whatever source, of another slice type too; elements of any number of cells.
  Rows of pieces: copy; slices.Insert of one piece.
  What was written of a file, in memory: bytes put where no piece is touched.
  What was written of a file, in memory: put, where no piece is touched.
  What was written of a file, in memory: how many bytes; how many more fit.
  How many bytes fit, on paper, a piece at a time.
  What was written of a file, in memory: how many bytes fit.
-/
import Derived.Test.YtjjgadanobeamaaGreatDoorMs3
import Derived.Deep.AppendSrc
import Derived.Lib.AppendZerosOnto
import Derived.Lib.AppendZeros
import Derived.Lib.Overlaps
import Derived.Laws.CopyRow
import Derived.Laws.Externs
import Derived.Great.BuildSlice
namespace Go.Proofs.YtjjgadanobeamaaGreatDoor
open Go.RowKit
set_option linter.unusedVariables false
set_option linter.unusedSimpArgs false

theorem data47 : s47.data.toList = [47, 0] := rfl
theorem byte_at (s : ByteArray) (i : Nat) (h : i < s.size) : s.data.toList[i]? = some (s[i]'h) := Lib.data_getElem? s i h
theorem get_byte (s : ByteArray) (i : Nat) (h : i < s.size) : s.get! i = s[i]'h := by simpa using get_at s i h
theorem high_no (x : UInt8) (h : 128 ≤ x.toNat) : ([47, 0] : List UInt8).contains x = false := by
  have e1 : x ≠ 47 := by rintro rfl; exact absurd h (by decide)
  have e2 : x ≠ 0 := by rintro rfl; exact absurd h (by decide)
  simp [e1, e2]
theorem noAny_span (s : ByteArray) (pos : Nat) (h : pos < s.size) (ha : 128 ≤ (s[pos]'h).toNat) (hno : Lib.NoAny s.data.toList [47, 0] pos) : Lib.NoAny s.data.toList [47, 0] (pos + (Utf8.decode s pos).2) := by
  obtain ⟨h1, h2⟩ := decode_span s pos h ha
  intro j b hj hb
  by_cases hjp : j < pos
  · exact hno j b hjp hb
  · have hjs : j < s.size := by omega
    rw [byte_at s j hjs] at hb
    cases hb
    have := h2 (j - pos) (by omega)
    rw [show pos + (j - pos) = j by omega, get_byte s j hjs] at this
    exact high_no _ this

set_option maxRecDepth 20000 in
set_option maxHeartbeats 4000000 in
theorem indexAny_short (s : ByteArray) (w : World) (h8 : s.size ≤ 8) :
    Calls Tryz.prog 62 #[.string s, .string s47] w fun e w' => e = .returned (.int .i64 (Lib.indexAny s.data.toList [47, 0])) ∧ Below w.heap.size w w' := by
  have hsz : s47.size = 2 := rfl
  have hemp : s47.toList.isEmpty = false := by rw [Lib.toList_data, data47]; rfl
  have h8z : decide ((8 : Int) < (s.size : Int)) = false := decide_eq_false (by omega)
  go_enter Tryz.func62, Tryz.ntmps62
  go_wp2_with fail
  refine (Tryz.strings_shouldUseASCIISet _ _).mono ?_
  rintro e w' ⟨rfl, hw⟩
  rw [hw, h8z]
  clear hw
  go_wp2
  go_loopw [9, 10] (fun _ _ wr => ∃ pos : Nat, pos ≤ s.size ∧ Hid (wr.heap[w.heap.size]? = some (.stringIter s pos)) ∧ Hid (Below w.heap.size w wr) ∧ Hid (Lib.NoAny s.data.toList [47, 0] pos)) (fun _ _ wr => s.size - wr.iterPos w.heap.size)
  case atStart => exact ⟨0, by omega, Lib.hid (World.iter_heap w s 0), Lib.hid ((Below.refl _ w).alloc (Nat.le_refl _) _), Lib.hid (Lib.NoAny.zero _ _)⟩
  case round =>
    obtain ⟨pos, hp, HI, HB, HN⟩ := hrel
    have hlt := (Array.getElem?_eq_some_iff.1 HI.out).1
    by_cases hp2 : pos < s.size
    · have hnx := fun ty => Lib.run_next_any_at (P := Tryz.prog) wr w.heap.size s pos ty HI.out hp2
      have hle := decode_le s pos
      by_cases ha : (s[pos]'hp2).toNat < 128
      · have hd := decode_ascii s pos hp2 ha
        rw [hd] at hnx
        have HX := Lib.hid (byte_at s pos hp2)
        obtain ⟨x, hx⟩ : ∃ x, x = s[pos]'hp2 := ⟨_, rfl⟩
        rw [← hx] at hnx ha HX
        have hcon := Lib.contains_iff_indexByte [47, 0] x
        have HRu := Lib.hid (fun W => Tryz.strings_IndexRune_ascii s47 (x.toNat : Int) W (by omega) (by omega))
        have hback : ((x.toNat : Int)).toNat.toUInt8 = x := by simp
        rw [hback, data47] at HRu
        have HI2 := Lib.hid (Lib.iterAt_heap wr w.heap.size s pos (pos + 1) HI.out)
        have HB2 := Lib.hid (Lib.below_iterAt HB.out (Nat.le_refl _) s (pos + 1))
        have HIP : Hid (wr.iterPos w.heap.size = pos) := Lib.hid (by unfold World.iterPos; rw [HI.out])
        have HIP2 : Hid ((wr.iterAt w.heap.size s (pos + 1)).iterPos w.heap.size = pos + 1) := Lib.hid (by unfold World.iterPos; rw [HI2.out])
        clear hd hx hle
        cases hin : ([47, 0] : List UInt8).contains x with
        | false =>
          rw [hin] at hcon
          have hl0 : ¬ (0 : Int) ≤ Lib.indexByte [47, 0] x := of_decide_eq_false hcon.symm
          have HN2 := Lib.hid (HN.out.succ HX.out hin)
          clear hcon hin
          go_wp2_with fail
          refine (HRu.out _).mono ?_
          rintro e w2 ⟨rfl, hw2⟩
          rw [hw2]
          clear hw2
          go_wp2
          go_roundw
          case rel => exact ⟨pos + 1, by omega, HI2, HB2, HN2⟩
          case measure => rw [HIP.out, HIP2.out]; omega
        | true =>
          rw [hin] at hcon
          have hl0 : (0 : Int) ≤ Lib.indexByte [47, 0] x := of_decide_eq_true hcon.symm
          have HH := Lib.hid (Lib.indexAny_hit HN.out HX.out hin)
          clear hcon hin
          go_wp2_with fail
          refine (HRu.out _).mono ?_
          rintro e w2 ⟨rfl, hw2⟩
          rw [hw2]
          clear hw2
          go_wp2
          go_ret
          exact ⟨by rw [HH.out]; rfl, HB2.out⟩
      · have hsp := decode_span s pos hp2 (by omega)
        have hhi := decode_high s pos hp2 (by omega)
        have HN2 := Lib.hid (noAny_span s pos hp2 (by omega) HN.out)
        obtain ⟨r, hr⟩ : ∃ r, r = (Utf8.decode s pos).1 := ⟨_, rfl⟩
        obtain ⟨d, hd⟩ : ∃ d, d = (Utf8.decode s pos).2 := ⟨_, rfl⟩
        rw [← hr] at hnx hle hhi
        rw [← hd] at hnx hsp hhi HN2
        have HI2 := Lib.hid (Lib.iterAt_heap wr w.heap.size s pos (pos + d) HI.out)
        have HB2 := Lib.hid (Lib.below_iterAt HB.out (Nat.le_refl _) s (pos + d))
        have HIP : Hid (wr.iterPos w.heap.size = pos) := Lib.hid (by unfold World.iterPos; rw [HI.out])
        have HRu := Lib.hid (fun W => indexRune_high (r : Int) W (by omega) (by omega))
        have hsl : (wr.iterAt w.heap.size s (pos + d)).heap.size = wr.heap.size := Lib.iterAt_size ..
        have HSl := Lib.hid hsl
        have hpd : pos + d ≤ s.size := hsp.1
        have hd1 : 1 ≤ d := hhi.2
        clear hr hd hsp hhi ha hsl hle
        go_wp2_with fail
        refine (HRu.out _).mono ?_
        rintro e w2 ⟨rfl, hb2⟩
        have HI3 : Hid (w2.heap[w.heap.size]? = some (.stringIter s (pos + d))) := Lib.hid ((hb2.block _ (by rw [HSl.out]; exact hlt)).trans HI2.out)
        have HB3 := Lib.hid (HB2.out.trans (hb2.mono (by rw [HSl.out]; omega)))
        have HIP3 : Hid (w2.iterPos w.heap.size = pos + d) := Lib.hid (by unfold World.iterPos; rw [HI3.out])
        clear hb2
        go_wp2
        go_roundw
        case rel => exact ⟨pos + d, by omega, HI3, HB3, HN2⟩
        case measure => rw [HIP.out, HIP3.out]; omega
    · have hps : pos = s.size := by omega
      subst hps
      have hnx := fun ty => Lib.run_next_end_at (P := Tryz.prog) wr w.heap.size s s.size ty HI.out hp2
      have HF := Lib.hid (Lib.indexAny_none (s := s.data.toList) (chars := [47, 0]) (by rw [← Lib.size_eq]; exact HN.out))
      clear hp2
      go_wp2
      go_ret
      exact ⟨by rw [HF.out]; rfl, HB.out⟩
end Go.Proofs.YtjjgadanobeamaaGreatDoor

namespace Go.Proofs.YtjjgadanobeamaaGreatDoor
open Go.RowKit Go.Shelf
set_option linter.unusedVariables false
set_option linter.unusedSimpArgs false

theorem indexAny_any (s : ByteArray) (w : World) (hs : s.size < 4294967281) :
    Calls Tryz.prog 62 #[.string s, .string s47] w fun e w' => e = .returned (.int .i64 (Lib.indexAny s.data.toList [47, 0])) ∧ Below w.heap.size w w' := by
  by_cases h8 : s.size ≤ 8
  · exact indexAny_short s w h8
  · have hac : ∀ (j : Nat) (b : UInt8), s47.data.toList[j]? = some b → b.toNat < 128 := by
      intro j b hb
      rw [data47] at hb
      rcases (show j = 0 ∨ j = 1 ∨ 2 ≤ j by omega) with rfl | rfl | h
      · simp at hb; subst hb; decide
      · simp at hb; subst hb; decide
      · rw [List.getElem?_eq_none (by simpa using h)] at hb; cases hb
    refine (Tryz.strings_IndexAny_long (zero_of_info (P := Tryz.prog) (t := 124) (n := 256) (by kernel_rfl)).1 s s47 w (by decide) (by omega) hs (by decide) hac).mono ?_
    rintro e w' ⟨rfl, rfl⟩
    exact ⟨rfl, ((Below.refl _ w).alloc (Nat.le_refl _) _).alloc (by simp) _⟩
set_option maxHeartbeats 1000000 in
theorem containsAny_any (s : ByteArray) (w : World) (hs : s.size < 4294967281) :
    Calls Tryz.prog 46 #[.string s, .string s47] w fun e w' => e = .returned (.bool (decide (0 ≤ Lib.indexAny s.data.toList [47, 0]))) ∧ Below w.heap.size w w' := by
  go_enter Tryz.func46, Tryz.ntmps46
  go_wp2_with fail
  refine (indexAny_any s w hs).mono ?_
  rintro e w1 ⟨rfl, hb⟩
  go_wp2
  go_ret
  exact ⟨rfl, hb⟩

set_option maxHeartbeats 1000000 in
theorem ok_calls (s : ByteArray) (w : World) (hs : s.size < 4294967281) :
    Calls Tryz.prog 26 #[.string s] w fun e w' => e = .returned (.bool (okN s)) ∧ Below w.heap.size w w' := by
  have HC := Lib.hid (containsAny_any s w hs)
  have HO : Hid (okN s = (!s.toList.isEmpty && decide (s.size ≤ 255) && !(s.toList == [46]) && !(s.toList == [46, 46]) && !decide (0 ≤ Lib.indexAny s.data.toList [47, 0]))) := Lib.hid rfl
  obtain ⟨b, hb⟩ : ∃ b, b = decide (0 ≤ Lib.indexAny s.data.toList [47, 0]) := ⟨_, rfl⟩
  rw [← hb] at HC HO
  clear hb
  go_enter Tryz.func26, Tryz.ntmps26
  by_cases h1 : s.toList = []
  · have HF : Hid (okN s = false) := Lib.hid (by rw [HO.out, h1]; rfl)
    go_wp2
    go_ret
    exact ⟨by rw [HF.out]; rfl, Below.refl _ _⟩
  · by_cases h2 : (s.size : Int) ≤ 255
    · by_cases h3 : s.toList = [46]
      · have HF : Hid (okN s = false) := Lib.hid (by rw [HO.out, h3]; simp)
        go_wp2
        go_ret
        exact ⟨by rw [HF.out]; rfl, Below.refl _ _⟩
      · by_cases h4 : s.toList = [46, 46]
        · have HF : Hid (okN s = false) := Lib.hid (by rw [HO.out, h4]; simp)
          go_wp2
          go_ret
          exact ⟨by rw [HF.out]; rfl, Below.refl _ _⟩
        · have HF : Hid (okN s = !b) := Lib.hid (by
            have e1 : s.toList.isEmpty = false := by simpa using h1
            have e2 : decide (s.size ≤ 255) = true := decide_eq_true (by omega)
            have e3 : (s.toList == [46]) = false := by simpa using h3
            have e4 : (s.toList == [46, 46]) = false := by simpa using h4
            rw [HO.out, e1, e2, e3, e4]; rfl)
          have HG : Hid ((!s.toList.isEmpty && !(s.toList == [46]) && !(s.toList == [46, 46]) && !b) = !b) := Lib.hid (by
            have e1 : s.toList.isEmpty = false := by simpa using h1
            have e3 : (s.toList == [46]) = false := by simpa using h3
            have e4 : (s.toList == [46, 46]) = false := by simpa using h4
            rw [e1, e3, e4]; rfl)
          go_wp2_with fail
          refine HC.out.mono ?_
          rintro e w1 ⟨rfl, hb2⟩
          have HB := Lib.hid hb2
          clear hb2
          go_wp2
          go_ret
          exact ⟨by rw [HF.out]; exact congrArg (fun x => Ending.returned (.bool x)) HG.out, HB.out⟩
    · have HF : Hid (okN s = false) := Lib.hid (by
        have e2 : decide (s.size ≤ 255) = false := decide_eq_false (by omega)
        rw [HO.out, e2]; simp)
      go_wp2
      go_ret
      exact ⟨by rw [HF.out]; rfl, Below.refl _ _⟩
end Go.Proofs.YtjjgadanobeamaaGreatDoor

namespace Go.Proofs.YtjjgadanobeamaaGreatDoor
open Go.RowKit
open Go.Maps (Keyed)
set_option linter.unusedVariables false
set_option linter.unusedSimpArgs false
set_option maxRecDepth 20000

section
variable {ops : Array Oper} {rest : List Oper} {o : Oper} {a : Act} {w : World} {Q : Exit → Act → World → Prop}
theorem wpList_nodes_ok (hgd : o.guard = none) (m x : Operand) (hop : o.op = Op.lookup 49 m x true) {mb : Nat} {B : Int → Option Nat} {c : Nat} (hM : NodesAt w mb B c) (hm : a.eval m = .map (some mb)) {k : Int} (hx : a.eval x = .int .i64 k) (hk : -9223372036854775808 ≤ k ∧ k ≤ 9223372036854775807)
    (h : wpList Tryz.prog ops Q rest (a.put o.dst (.tuple #[ptrV (B k), .bool (B k).isSome])) w) : wpList Tryz.prog ops Q (o :: rest) a w := by
  refine wpList_plain hgd fun K' hK' => ?_
  unfold Oper.wp
  simp [execOp, hop, hm, hx, nodes_ok hM k hk w rfl, Result.andThen]
  exact hK' _ _ h
theorem wpList_names_ok (hgd : o.guard = none) (m x : Operand) (hop : o.op = Op.lookup 44 m x true) {mb : Nat} {l : Nms} (hM : NamesAt w mb l) (hm : a.eval m = .map (some mb)) {s : List UInt8} (hx : a.eval x = .string (strB s)) (hs : s.length ≤ maxLen)
    (h : wpList Tryz.prog ops Q rest (a.put o.dst (.tuple #[.int .i64 ((getK l s).getD 0), .bool (getK l s).isSome])) w) : wpList Tryz.prog ops Q (o :: rest) a w := by
  refine wpList_plain hgd fun K' hK' => ?_
  have := names_ok hM (strB s) (by rw [strB_size]; exact hs) w rfl
  rw [strB_data] at this
  unfold Oper.wp
  simp [execOp, hop, hm, hx, this, Result.andThen]
  exact hK' _ _ h
end
theorem ptrV_some (b : Nat) : ptrV (some b) = .pointer (some ⟨b, 0, none⟩) := rfl
theorem ptrV_none : ptrV none = .pointer none := rfl
theorem Kept.setRow {S : Nat → Prop} {a b : World} (h : Kept S a b) {B : Nat} (hp : S B ∨ a.heap.size ≤ B) (cs : Array Value) : Kept S a (b.setRow B cs) :=
  ⟨h.os, h.tape, h.output, by show _ ≤ (b.heap.modify B _).size; rw [Array.size_modify]; exact h.size, fun i hi hs => (setRow_other b B i cs (fun e => by rcases hp with hp | hp; exact hs (e ▸ hp); omega)).trans (h.block i hi hs)⟩
theorem results_cell_tmp {P : Program} {fn : Func} {p t : Tmp} {ty : TypeId} (h : fn.results = #[.cell p ty, .tmp t]) (tmps : Array Value) (w : World) (g : Nat) (t' : TypeId) (cs : Array Value) (fr : Nat × Nat) (d : TypeDesc)
    (hp : tmps.getD p undef = .pointer (some ⟨g, 0, none⟩)) (hg : w.heap[g]? = some (.cells cs t' fr))
    (hu : P.underlying ty = some d) (hd : (match d with | .struct _ | .array _ _ => true | _ => false) = true) (hi : (P.info? ty).map (·.size) = some cs.size) :
    (results fn tmps).run P w = .ok (.tuple #[.agg cs, tmps.getD t undef]) w := by
  have hp' := hp
  simp only [Array.getD_eq_getD_getElem?] at hp' ⊢
  simp [results, h, hp', asAddr, run_loadVar_row w g t' ty cs fr d hg hu hd hi]
theorem FsIn.at {L : Nat → Lab} {B : Int → Option Nat} {mb : Nat} {S : Nat → Prop} {w : World} {f : Nat} {T : FsP} (h : FsIn L B mb S w f T) {i : Int} {n : NdP} (hn : T.nd i = some n) : ∃ b m a c qs, B i = some b ∧ NdSt L i w b n m a c qs := by
  have hd := h.dom i
  rw [hn] at hd
  cases hb : B i with
  | none => rw [hb] at hd; cases hd
  | some b =>
    obtain ⟨m, a, c, qs, hq⟩ := h.node i n b hn hb
    exact ⟨b, m, a, c, qs, rfl, hq⟩
theorem FsIn.gone {L : Nat → Lab} {B : Int → Option Nat} {mb : Nat} {S : Nat → Prop} {w : World} {f : Nat} {T : FsP} (h : FsIn L B mb S w f T) {i : Int} (hn : T.nd i = none) : B i = none := by
  have hd := h.dom i
  rw [hn] at hd
  cases hb : B i with
  | none => rfl
  | some b => rw [hb] at hd; cases hd
theorem NdSt.cell {L : Nat → Lab} {i : Int} {w : World} {b : Nat} {n : NdP} {m : Option Nat} {a : Option Addr} {c : Nat} {qs : List FpQ} (h : NdSt L i w b n m a c qs) (j : Nat) : w.cell? ⟨b, j, none⟩ = (ndC n m a c)[j]? := by
  rw [obj_cell h.obj]; simp
theorem NdSt.lt {L : Nat → Lab} {i : Int} {w : World} {b : Nat} {n : NdP} {m : Option Nat} {a : Option Addr} {c : Nat} {qs : List FpQ} (h : NdSt L i w b n m a c qs) : b < w.heap.size := obj_lt h.obj
theorem NdSt.range {L : Nat → Lab} {i : Int} {w : World} {b : Nat} {n : NdP} {m : Option Nat} {a : Option Addr} {c : Nat} {qs : List FpQ} (h : NdSt L i w b n m a c qs) : w.rangeAt b 0 (nvC n.v) := by
  intro j v hj
  have : j < 11 := by have := (List.getElem?_eq_some_iff.1 hj).1; simpa [nvC] using this
  rw [Nat.zero_add, h.cell j, ndC, List.getElem?_append_left (by simpa [nvC] using this)]
  exact hj

def zeroNV : NodeV := { kind := 0, mode := 0, user := 0, group := 0, time := 0, tgt := ⟨#[]⟩, major := 0, minor := 0, size := 0, links := 0, change := 0 }
def statP (T : FsP) (i : Int) : NodeV × Int := match T.nd i with | some n => (n.v, 0) | none => (zeroNV, 10)

set_option maxHeartbeats 1000000 in
theorem place_in {L : Nat → Lab} {B : Int → Option Nat} {mb : Nat} {S : Nat → Prop} {w : World} {f : Nat} {T : FsP} (h : FsIn L B mb S w f T) (dir : Int) (hdir : -9223372036854775808 ≤ dir ∧ dir ≤ 9223372036854775807) (part : List UInt8) (hs : part.length < 4294967281) :
    Calls Tryz.prog 16 #[.pointer (some ⟨f, 0, none⟩), .int .i64 dir, .string (strB part)] w fun e w' =>
      e = .returned (.tuple #[ptrV (if placeE T dir part = 0 then B dir else none), .int .i64 (placeE T dir part)]) ∧ Kept NoB w w' := by
  obtain ⟨c0, c1, c2, c3, c4⟩ := h.cells
  have HT := Lib.hid h.tab
  have HOk := Lib.hid (ok_calls (strB part) w (by rw [strB_size]; exact hs))
  cases hn : T.nd dir with
  | none =>
    have hB := h.gone hn
    have hp : placeE T dir part = 10 := by unfold placeE; rw [hn]
    rw [hp]
    clear h hp hn
    go_enter Tryz.func16, Tryz.ntmps16
    go_wp2_with (at_lookup; refine wpList_nodes_ok rfl _ _ rfl HT.out rfl rfl hdir ?_; rw [hB, ptrV_none])
    go_ret2
    exact ⟨rfl, Kept.refl _ _⟩
  | some n =>
    obtain ⟨b, m, a, c, qs, hB, hN⟩ := h.at hn
    have k0 := hN.cell 0
    have hp : placeE T dir part = if n.v.kind = 6 then (if okN (strB part) = true then 0 else 9) else 12 := by unfold placeE; rw [hn]
    rw [hp, hB]
    simp [ndC, nvC] at k0
    obtain ⟨kd, hkd⟩ : ∃ kd, kd = n.v.kind := ⟨_, rfl⟩
    rw [← hkd] at k0 ⊢
    clear h hp hn hN hkd
    go_enter Tryz.func16, Tryz.ntmps16
    by_cases h6 : kd = 6
    · subst h6
      obtain ⟨q, hq⟩ : ∃ q, q = okN (strB part) := ⟨_, rfl⟩
      rw [← hq] at HOk ⊢
      clear hq
      cases q
      · go_wp2_with (first | (at_lookup; refine wpList_nodes_ok rfl _ _ rfl HT.out rfl rfl hdir ?_; rw [hB, ptrV_some]) | (go_at_call 26; refine HOk.out.mono ?_; rintro e w1 ⟨rfl, hb1⟩))
        go_ret2
        exact ⟨rfl, (Kept.refl NoB _).ofBelow hb1⟩
      · go_wp2_with (first | (at_lookup; refine wpList_nodes_ok rfl _ _ rfl HT.out rfl rfl hdir ?_; rw [hB, ptrV_some]) | (go_at_call 26; refine HOk.out.mono ?_; rintro e w1 ⟨rfl, hb1⟩))
        go_ret2
        exact ⟨rfl, (Kept.refl NoB _).ofBelow hb1⟩
    · have h6' : (kd == 6) = false := by simpa using h6
      rw [if_neg h6]
      go_wp2_with (at_lookup; refine wpList_nodes_ok rfl _ _ rfl HT.out rfl rfl hdir ?_; rw [hB, ptrV_some])
      go_ret2
      exact ⟨rfl, Kept.refl _ _⟩
set_option maxHeartbeats 1000000 in
theorem stat_any {S : Nat → Prop} {w : World} {f : Nat} {T : FsP} (h : FsSt S w f T) (i : Int) (hi : -9223372036854775808 ≤ i ∧ i ≤ 9223372036854775807) :
    Calls Tryz.prog 41 #[.pointer (some ⟨f, 0, none⟩), .int .i64 i] w fun e w' =>
      e = .returned (.tuple #[.agg (nvC (statP T i).1).toArray, .int .i64 (statP T i).2]) ∧ Kept NoB w w' := by
  obtain ⟨L, B, mb, h⟩ := h
  have c0 := h.cells.1
  have d0 : ∀ o, (w.alloc o).cell? ⟨f, 0, none⟩ = some (.map (some mb)) := fun o => ((Kept.refl NoB w).alloc o).cell c0
  have HT := Lib.hid h.tab
  cases hn : T.nd i with
  | none =>
    have hB := h.gone hn
    have hp : statP T i = (zeroNV, 10) := by unfold statP; rw [hn]
    rw [hp]
    clear h hp hn
    have HOne := Lib.hid (nv_one zeroNV)
    go_enter Tryz.func41, Tryz.ntmps41
    go_wp2_with (first | (at_lookup; refine wpList_nodes_ok rfl _ _ rfl (MapF.kept HT.out ((Kept.refl NoB w).alloc _) id) rfl rfl hi ?_; rw [hB, ptrV_none]) | (refine wpList_store_row rfl 25 (.tmp 4) (.tmp 19) rfl w.heap.size (nvC zeroNV).toArray rfl rfl _ _ (heap_alloc_new _ _) infoNd rfl HOne.out ?_))
    refine bodyPost_ret (results_cell_tmp rfl _ _ w.heap.size 25 _ (0, 0) _ rfl (setRow_heap _ _ _ _ _ _ (heap_alloc_new _ _)) Tryz.underlying25 rfl infoNd) rfl ?_
    exact ⟨rfl, ((Kept.refl NoB w).alloc _).setRow (.inr (Nat.le_refl _)) _⟩
  | some n =>
    obtain ⟨b, m, a, c, qs, hB, hN⟩ := h.at hn
    have hp : statP T i = (n.v, 0) := by unfold statP; rw [hn]
    rw [hp]
    have HN := Lib.hid hN
    have HOne := Lib.hid (nv_one n.v)
    have HR : Hid (∀ o, (w.alloc o).rangeAt b 0 (nvC n.v)) := Lib.hid fun o => by
      intro j v hj
      exact ((Kept.refl NoB w).alloc o).cell (hN.range j v hj)
    clear h hp hn hN
    go_enter Tryz.func41, Tryz.ntmps41
    go_wp2_with (first | (at_lookup; refine wpList_nodes_ok rfl _ _ rfl (MapF.kept HT.out ((Kept.refl NoB w).alloc _) id) rfl rfl hi ?_; rw [hB, ptrV_some]) | (refine wpList_load_mid rfl 25 (.tmp 22) rfl b 0 rfl (nvC n.v) _ (HR.out _) Tryz.underlying25 rfl infoNd ?_) | (refine wpList_store_row rfl 25 (.tmp 4) (.tmp 23) rfl w.heap.size (nvC n.v).toArray rfl rfl _ _ (heap_alloc_new _ _) infoNd rfl HOne.out ?_))
    refine bodyPost_ret (results_cell_tmp rfl _ _ w.heap.size 25 _ (0, 0) _ rfl (setRow_heap _ _ _ _ _ _ (heap_alloc_new _ _)) Tryz.underlying25 rfl infoNd) rfl ?_
    exact ⟨rfl, ((Kept.refl NoB w).alloc _).setRow (.inr (Nat.le_refl _)) _⟩
set_option maxHeartbeats 1000000 in
theorem find_any {S : Nat → Prop} {w : World} {f : Nat} {T : FsP} (h : FsSt S w f T) (dir : Int) (hdir : -9223372036854775808 ≤ dir ∧ dir ≤ 9223372036854775807) (part : List UInt8) (hs : part.length < 4294967281) :
    Calls Tryz.prog 10 #[.pointer (some ⟨f, 0, none⟩), .int .i64 dir, .string (strB part)] w fun e w' =>
      e = .returned (.tuple #[.int .i64 (findP T dir part).1, .int .i64 (findP T dir part).2]) ∧ Kept NoB w w' := by
  obtain ⟨L, B, mb, h⟩ := h
  have HP := Lib.hid (place_in h dir hdir part hs)
  by_cases hp : placeE T dir part = 0
  · rw [if_pos hp, hp] at HP
    have hdn : ∃ d, T.nd dir = some d ∧ d.v.kind = 6 := by
      unfold placeE at hp
      cases hn : T.nd dir with
      | none => rw [hn] at hp; simp at hp
      | some d =>
        rw [hn] at hp
        simp only at hp
        by_cases h6 : d.v.kind = 6
        · exact ⟨d, rfl, h6⟩
        · rw [if_neg h6] at hp; omega
    obtain ⟨d, hd, h6⟩ := hdn
    obtain ⟨b, m, a, c, qs, hB, hN⟩ := h.at hd
    obtain ⟨mb2, rfl, hl, hM⟩ := hN.dir h6
    rw [hB, ptrV_some] at HP
    have hf : findP T dir part = askK (getK d.names part) := by
      unfold findP namesP; rw [if_pos hp]; simp only [hd]
    have k11 : w.cell? ⟨b, 11, none⟩ = some (.map (some mb2)) := by rw [hN.cell 11]; rfl
    have HM := Lib.hid hM
    have hs2 : part.length ≤ maxLen := by unfold maxLen; omega
    clear h hN hM hp hd
    cases hg : getK d.names part with
    | none =>
      rw [hg] at hf
      rw [hf]
      have HG := Lib.hid hg
      clear hf hg
      go_enter Tryz.func10, Tryz.ntmps10
      go_wp2_with fail
      refine HP.out.mono ?_
      rintro e w1 ⟨rfl, hk1⟩
      have l11 := hk1.cell k11
      have HK := Lib.hid hk1
      clear hk1
      go_wp2_with (at_lookup; refine wpList_names_ok rfl _ _ rfl (MapF.kept HM.out HK.out id) rfl rfl hs2 ?_; rw [HG.out])
      go_ret2
      exact ⟨rfl, HK.out⟩
    | some i =>
      rw [hg] at hf
      rw [hf]
      have HG := Lib.hid hg
      clear hf hg
      go_enter Tryz.func10, Tryz.ntmps10
      go_wp2_with fail
      refine HP.out.mono ?_
      rintro e w1 ⟨rfl, hk1⟩
      have l11 := hk1.cell k11
      have HK := Lib.hid hk1
      clear hk1
      go_wp2_with (at_lookup; refine wpList_names_ok rfl _ _ rfl (MapF.kept HM.out HK.out id) rfl rfl hs2 ?_; rw [HG.out])
      go_ret2
      exact ⟨rfl, HK.out⟩
  · rw [if_neg hp, ptrV_none] at HP
    have hf : findP T dir part = (0, placeE T dir part) := by unfold findP; rw [if_neg hp]
    rw [hf]
    obtain ⟨z, hz⟩ : ∃ z, z = placeE T dir part := ⟨_, rfl⟩
    rw [← hz] at hp HP ⊢
    have hz2 : (z == 0) = false := by simpa using hp
    clear hz hf h hp
    go_enter Tryz.func10, Tryz.ntmps10
    go_wp2_with fail
    refine HP.out.mono ?_
    rintro e w1 ⟨rfl, hk1⟩
    go_wp2
    go_ret2
    exact ⟨rfl, hk1⟩
end Go.Proofs.YtjjgadanobeamaaGreatDoor

namespace Go.Proofs.YtjjgadanobeamaaGreatDoor
open Go.RowKit
set_option linter.unusedVariables false
set_option linter.unusedSimpArgs false
set_option maxRecDepth 20000

end Go.Proofs.YtjjgadanobeamaaGreatDoor

namespace Go.Proofs.YtjjgadanobeamaaGreatDoor
open Go.RowKit
set_option linter.unusedVariables false
set_option linter.unusedSimpArgs false
set_option maxRecDepth 20000

theorem row_shape {w : World} {base e s : Nat} {v : Value} {n : Nat} {xs : List Value} (h : w.ownsRow base e s v n xs) : ∃ ao cap, v = .slice ao n cap := by
  rcases h.2 with ⟨rfl, rfl⟩ | ⟨g, cap, cur, rfl, _⟩
  · exact ⟨none, 0, rfl⟩
  · exact ⟨_, cap, rfl⟩
section
variable {ops : Array Oper} {rest : List Oper} {o : Oper} {a : Act} {w : World} {K : Act → World → Prop} {Q : Exit → Act → World → Prop}
theorem wpList_copy_known (hgd : o.guard = none) (d s : Operand) (t t' : TypeId) (ho : o.op = .call { callee := .builtin .copy, args := #[d, s], argTypes := #[t, t'] }) (x y : Value)
    (hx : a.eval d = x) (hy : a.eval s = y) (v : Value) (w' : World) (hr : (Builtin.copy_ #[t, t'] o.type #[x, y]).run Tryz.prog w = .ok v w') (h : wpList Tryz.prog ops Q rest (a.put o.dst v) w') : wpList Tryz.prog ops Q (o :: rest) a w := by
  refine wpList_plain hgd fun K' hK' => ?_
  unfold Oper.wp
  simp [execOp, ho, resolve, invoke, builtin, hx, hy, hr, Result.andThen]
  exact hK' _ _ h
end
end Go.Proofs.YtjjgadanobeamaaGreatDoor

namespace Go.Proofs.YtjjgadanobeamaaGreatDoor
open Go.RowKit
set_option linter.unusedVariables false
set_option linter.unusedSimpArgs false
set_option maxRecDepth 20000

theorem ahead_le (l : List Fp) (k : Int) : (aheadP l k).length ≤ l.length := by
  have := congrArg List.length (split3 l k k)
  simp only [List.length_append] at this
  omega
end Go.Proofs.YtjjgadanobeamaaGreatDoor

namespace Go.Proofs.YtjjgadanobeamaaGreatDoor
open Go.RowKit
set_option linter.unusedVariables false
set_option linter.unusedSimpArgs false
set_option maxRecDepth 20000

theorem Kept.dom {S : Nat → Prop} {w w' : World} (h : Kept NoB w w') : Kept S w w' := h.mono (fun _ _ h => absurd h (fun h => h))
theorem row2_ne {w : World} {base e z n : Nat} {v : Value} {xs : List Value} (ho : w.ownsRow base e z v n xs) {R : Nat} {cs : Array Value} {t : TypeId} (h : w.heap[R]? = some (.cells cs t (0, 0))) (ht : t ≠ e) : ∀ k, v.ownBlock = some k → k ≠ R := by
  intro k hk e'
  subst e'
  rcases ho.2 with ⟨rfl, _⟩ | ⟨g, cap, cur, rfl, _, hg, _⟩
  · simp [Value.ownBlock] at hk
  · simp [Value.ownBlock] at hk
    subst hk
    rw [hg] at h
    simp at h
    exact ht h.2.symm
theorem heap_push (W : World) (o : Obj) : (W.alloc o).heap[W.heap.size]? = some o := by
  show (W.heap.push o)[W.heap.size]? = some o
  simp
end Go.Proofs.YtjjgadanobeamaaGreatDoor

namespace Go.Proofs.YtjjgadanobeamaaGreatDoor
open Go.RowKit
set_option linter.unusedVariables false
set_option linter.unusedSimpArgs false
set_option maxRecDepth 20000

end Go.Proofs.YtjjgadanobeamaaGreatDoor

namespace Go.Proofs.YtjjgadanobeamaaGreatDoor
set_option linter.unusedVariables false
set_option linter.unusedSimpArgs false

def isD (l : List Fp) (x : Int) : Bool := l.any (fun p => decide (p.1 ≤ x) && decide (x < endP p))
theorem isD_yes (l : List Fp) (x : Int) (i : Nat) (hi : i < l.length) (h1 : l[i].1 ≤ x) (h2 : x < endP l[i]) : isD l x = true := by
  unfold isD
  rw [List.any_eq_true]
  exact ⟨l[i], List.getElem_mem hi, by simp [h1, h2]⟩
structure FitS (l : List Fp) (size : Nat) (k : Int) (room d fr i : Nat) : Prop where
  done : d ≤ size
  fresh : fr ≤ room
  eq : fitB (isD l) size k room = (d + (fitB (isD l) (size - d) (k + d) (room - fr)).1, fr + (fitB (isD l) (size - d) (k + d) (room - fr)).2)
  ahead : d < size → ∀ j (hj : j < l.length), j < i → endP l[j] ≤ k + d
  behind : d < size → ∀ j (hj : j < l.length), i ≤ j → k + d < endP l[j]
theorem FitS.start (l : List Fp) (size : Nat) (k : Int) (room i : Nat) (h1 : ∀ j (hj : j < l.length), j < i → endP l[j] ≤ k) (h2 : ∀ j (hj : j < l.length), i ≤ j → k < endP l[j]) : FitS l size k room 0 0 i :=
  ⟨Nat.zero_le _, Nat.zero_le _, by simp, fun _ j hj hi => by have := h1 j hj hi; omega, fun _ j hj hi => by have := h2 j hj hi; omega⟩
theorem FitS.ends {l : List Fp} {size : Nat} {k : Int} {room d fr i : Nat} (h : FitS l size k room d fr i) (hd : d = size) : fitB (isD l) size k room = (size, fr) := by
  rw [h.eq, hd, Nat.sub_self]
  unfold fitB
  simp
theorem FitS.within {l : List Fp} (hl : OkD l) {size : Nat} {k : Int} {room d fr i g : Nat} (h : FitS l size k room d fr i) (hi : i < l.length) (hg : d + g ≤ size) (h1 : 0 < g → l[i].1 ≤ k + d) (h2 : k + d + g ≤ endP l[i]) (h3 : d + g < size → k + d + g = endP l[i]) :
    FitS l size k room (d + g) fr (if d + g < size then i + 1 else i) := by
  have hyes : ∀ x : Nat, x < g → isD l (k + d + x) = true := fun x hx => isD_yes l _ i hi (by have := h1 (by omega); omega) (by omega)
  refine ⟨hg, h.fresh, ?_, ?_, ?_⟩
  · rw [h.eq, fitB_in (isD l) g (size - d) (k + d) (room - fr) (by omega) hyes]
    have e1 : size - d - g = size - (d + g) := by omega
    have e2 : k + (d : Int) + (g : Int) = k + ((d + g : Nat) : Int) := by push_cast; omega
    rw [e1, e2]
    refine Prod.ext ?_ rfl
    simp only
    omega
  · intro hd j hj hlt
    rw [if_pos hd] at hlt
    rcases Nat.lt_or_ge j i with e | e
    · have := h.ahead (by omega) j hj e; omega
    · have e2 : j = i := by omega
      subst e2
      have := h3 hd; omega
  · intro hd j hj hle
    rw [if_pos hd] at hle
    have := List.pairwise_iff_getElem.1 hl.apart i j hi hj (by omega)
    have h4 := h3 hd
    have h5 := hl.each l[j] (List.getElem_mem hj)
    have h6 : 0 < l[j].2.length := List.length_pos_iff.2 h5.2.1
    unfold endP at *; omega
theorem FitS.more {l : List Fp} {size : Nat} {k : Int} {room d fr i : Nat} (h : FitS l size k room d fr i) (hd : d = size) : FitS l size k room d fr (i + 1) :=
  ⟨h.done, h.fresh, h.eq, fun hd' => by omega, fun hd' => by omega⟩
end Go.Proofs.YtjjgadanobeamaaGreatDoor

namespace Go.Proofs.YtjjgadanobeamaaGreatDoor
open Go.RowKit
set_option linter.unusedVariables false
set_option linter.unusedSimpArgs false
set_option maxRecDepth 20000

end Go.Proofs.YtjjgadanobeamaaGreatDoor
