/-
  The plans of SameTurns, on paper: two nodes and what is turned.
  Two trees side by side and blocks beside them.
  SameTurns on paper: both trees, call by call.
-/
import Derived.Test.YtjjgadanobeamaaGreatDoorMt26
namespace Go.Proofs.YtjjgadanobeamaaGreatDoor
open Go.Lib
set_option linter.unusedVariables false
set_option linter.unusedSimpArgs false
set_option maxRecDepth 20000

structure Plan (a b : NodeV) (s : List UInt8) (size : Int) (c : UInt8) (link want : Bool) : Prop where
  ma : mayB a = true
  mb : mayB b = true
  sa : a.size = 0
  sb : b.size = 0
  ka : a.kind ≠ 6
  kb : b.kind ≠ 6
  ta : -9223372036854775808 ≤ a.time ∧ a.time ≤ 9223372036854775807
  tb : -9223372036854775808 ≤ b.time ∧ b.time ≤ 9223372036854775807
  name : s = [110] ∨ s = [109]
  lim : 10 ≤ size ∧ size ≤ 300
  same : decide (rowF a link = rowG a b s size c link) = want
def tuF (m u g t : Int) : NodeV := { kind := 1, mode := m, user := u, group := g, time := t, tgt := ⟨#[]⟩, major := 0, minor := 0, size := 0, links := 0, change := 0 }
def tuS (c : UInt8) : NodeV := { kind := 3, mode := 0, user := 0, group := 0, time := 0, tgt := ⟨#[c]⟩, major := 0, minor := 0, size := 0, links := 0, change := 0 }
def tuC (x y : Int) : NodeV := { kind := 4, mode := 0, user := 0, group := 0, time := 0, tgt := ⟨#[]⟩, major := x, minor := y, size := 0, links := 0, change := 0 }
def tuP : NodeV := { kind := 7, mode := 5, user := 6, group := 7, time := 8, tgt := ⟨#[]⟩, major := 0, minor := 0, size := 0, links := 0, change := 0 }
theorem empty_list : (⟨#[]⟩ : ByteArray).toList = [] := by kernel_rfl
theorem may_tuF {m u g : Int} (t : Int) (hm : 0 ≤ m ∧ m ≤ 4095) (hu : 0 ≤ u ∧ u ≤ 2147483647) (hg : 0 ≤ g ∧ g ≤ 2147483647) : mayB (tuF m u g t) = true := by
  simp only [mayB, tuF, empty_list]
  simp [hm, hu, hg]
theorem may_tuC {x y : Int} (hx : 0 ≤ x ∧ x ≤ 1048575) (hy : 0 ≤ y ∧ y ≤ 1048575) : mayB (tuC x y) = true := by
  simp only [mayB, tuC, empty_list]
  simp [hx, hy]
theorem rows_ne {a b : NodeV} {s : List UInt8} {size : Int} {c : UInt8} {link : Bool}
    (h : hexB [110] = hexB s → a.kind = b.kind → a.mode = b.mode → a.user = b.user → a.group = b.group → a.time = b.time → moreV a (finS a 10) (finL a 1) = moreV b (finS b size) (finL b c) → False) :
    decide (rowF a link = rowG a b s size c link) = false := by
  refine decide_eq_false (fun e => ?_)
  obtain ⟨q1, q2, q3, q4, q5, q6, q7, _⟩ := lineV_inj (List.cons.inj e).1
  exact h q1 q2 q3 q4 q5 q6 q7
theorem plan0 : Plan (tuF 5 6 7 8) tuP [110] 10 1 false false :=
  ⟨by kernel_rfl, by kernel_rfl, rfl, rfl, by decide, by decide, by decide, by decide, .inl rfl, by decide, rows_ne (fun _ h _ _ _ _ _ => absurd h (by decide))⟩
theorem plan1 (B : Int) (hB : 1 ≤ B ∧ B ≤ 256) : Plan (tuF 5 6 7 8) (tuF (5 + B) 6 7 8) [110] 10 1 false false :=
  ⟨by kernel_rfl, may_tuF _ (by omega) (by omega) (by omega), rfl, rfl, by decide, by show (1 : Int) ≠ 6; decide, by decide, by show -9223372036854775808 ≤ (8 : Int) ∧ (8 : Int) ≤ 9223372036854775807; decide, .inl rfl, by decide, rows_ne (fun _ _ h _ _ _ _ => by have : (5 : Int) = 5 + B := h; omega)⟩
theorem plan2 (B : Int) (hB : 1 ≤ B ∧ B ≤ 256) : Plan (tuF 5 6 7 8) (tuF 5 (6 + B) 7 8) [110] 10 1 false false :=
  ⟨by kernel_rfl, may_tuF _ (by omega) (by omega) (by omega), rfl, rfl, by decide, by show (1 : Int) ≠ 6; decide, by decide, by show -9223372036854775808 ≤ (8 : Int) ∧ (8 : Int) ≤ 9223372036854775807; decide, .inl rfl, by decide, rows_ne (fun _ _ _ h _ _ _ => by have : (6 : Int) = 6 + B := h; omega)⟩
theorem plan3 (B : Int) (hB : 1 ≤ B ∧ B ≤ 256) : Plan (tuF 5 6 7 8) (tuF 5 6 (7 + B) 8) [110] 10 1 false false :=
  ⟨by kernel_rfl, may_tuF _ (by omega) (by omega) (by omega), rfl, rfl, by decide, by show (1 : Int) ≠ 6; decide, by decide, by show -9223372036854775808 ≤ (8 : Int) ∧ (8 : Int) ≤ 9223372036854775807; decide, .inl rfl, by decide, rows_ne (fun _ _ _ _ h _ _ => by have : (7 : Int) = 7 + B := h; omega)⟩
theorem plan4 (B : Int) (hB : 1 ≤ B ∧ B ≤ 256) : Plan (tuF 5 6 7 8) (tuF 5 6 7 (8 - B)) [110] 10 1 false false :=
  ⟨by kernel_rfl, may_tuF _ (by omega) (by omega) (by omega), rfl, rfl, by decide, by show (1 : Int) ≠ 6; decide, by decide, by show -9223372036854775808 ≤ (8 - B : Int) ∧ (8 - B : Int) ≤ 9223372036854775807; omega, .inl rfl, by decide, rows_ne (fun _ _ _ _ _ h _ => by have : (8 : Int) = 8 - B := h; omega)⟩
theorem more_file (m u g t s : Int) (l : List Fp) : moreV (tuF m u g t) s l = [numB s, numB (crcOf 0 (byN (readD l 0 (manyP s 0 s))) : Nat)] := if_pos rfl
theorem fin_file (m u g t s : Int) (c : UInt8) : finS (tuF m u g t) s = max s 5 ∧ finL (tuF m u g t) c = [(4, [c])] := ⟨if_pos rfl, if_pos rfl⟩
theorem plan5 (B : Int) (hB : 1 ≤ B ∧ B ≤ 256) : Plan (tuF 5 6 7 8) (tuF 5 6 7 8) [110] (10 + B) 1 false false :=
  ⟨by kernel_rfl, by kernel_rfl, rfl, rfl, by decide, by decide, by decide, by decide, .inl rfl, by omega, rows_ne (fun _ _ _ _ _ _ h => by
    rw [more_file, more_file, (fin_file _ _ _ _ _ 1).1, (fin_file _ _ _ _ _ 1).1] at h
    have := numB_inj (List.cons.inj h).1
    omega)⟩
theorem crc_one : ∀ c : Fin 256, c.val ≠ 1 → crcOf 0 (byN (readD [(4, [1])] 0 10)) ≠ crcOf 0 (byN (readD [(4, [UInt8.ofNat c.val])] 0 10)) := by decide +kernel
theorem plan6 (c : UInt8) (hc : c ≠ 1) : Plan (tuF 5 6 7 8) (tuF 5 6 7 8) [110] 10 c false false :=
  ⟨by kernel_rfl, by kernel_rfl, rfl, rfl, by decide, by decide, by decide, by decide, .inl rfl, by decide, rows_ne (fun _ _ _ _ _ _ h => by
    rw [more_file, more_file, (fin_file _ _ _ _ _ 1).1, (fin_file _ _ _ _ 0 c).2, (fin_file _ _ _ _ 0 1).2] at h
    have h2 := numB_inj (List.cons.inj (List.cons.inj h).2).1
    have h3 : crcOf 0 (byN (readD [(4, [1])] 0 10)) = crcOf 0 (byN (readD [(4, [c])] 0 10)) := Int.ofNat_inj.1 h2
    have hv : c.toNat ≠ 1 := fun e => hc (UInt8.toNat_inj.1 e)
    exact crc_one ⟨c.toNat, UInt8.toNat_lt c⟩ hv (by show _ = crcOf 0 (byN (readD [(4, [UInt8.ofNat c.toNat])] 0 10)); rw [UInt8.ofNat_toNat]; exact h3))⟩
theorem plan7 : Plan (tuS 116) (tuS 117) [110] 10 1 false false :=
  ⟨by kernel_rfl, by kernel_rfl, rfl, rfl, by decide, by decide, by decide, by decide, .inl rfl, by decide, rows_ne (fun _ _ _ _ _ _ h => by
    have h2 : [hexB [116]] = [hexB [117]] := h
    exact absurd h2 (by decide))⟩
theorem more_dev (x y : Int) (s : Int) (l : List Fp) : moreV (tuC x y) s l = [numB x, numB y] := rfl
theorem plan8 (B : Int) (hB : 1 ≤ B ∧ B ≤ 256) : Plan (tuC 3 4) (tuC (3 + B) 4) [110] 10 1 false false :=
  ⟨by kernel_rfl, may_tuC (by omega) (by omega), rfl, rfl, by decide, by show (4 : Int) ≠ 6; decide, by decide, by show -9223372036854775808 ≤ (0 : Int) ∧ (0 : Int) ≤ 9223372036854775807; decide, .inl rfl, by decide, rows_ne (fun _ _ _ _ _ _ h => by
    rw [more_dev, more_dev] at h
    have := numB_inj (List.cons.inj h).1
    omega)⟩
theorem plan9 (B : Int) (hB : 1 ≤ B ∧ B ≤ 256) : Plan (tuC 3 4) (tuC 3 (4 + B)) [110] 10 1 false false :=
  ⟨by kernel_rfl, may_tuC (by omega) (by omega), rfl, rfl, by decide, by show (4 : Int) ≠ 6; decide, by decide, by show -9223372036854775808 ≤ (0 : Int) ∧ (0 : Int) ≤ 9223372036854775807; decide, .inl rfl, by decide, rows_ne (fun _ _ _ _ _ _ h => by
    rw [more_dev, more_dev] at h
    have := numB_inj (List.cons.inj (List.cons.inj h).2).1
    omega)⟩
theorem plan10 : Plan (tuF 5 6 7 8) (tuF 5 6 7 8) [109] 10 1 false false :=
  ⟨by kernel_rfl, by kernel_rfl, rfl, rfl, by decide, by decide, by decide, by decide, .inr rfl, by decide, rows_ne (fun h _ _ _ _ _ _ => absurd h (by decide))⟩
theorem plan11 : Plan (tuF 5 6 7 8) (tuF 5 6 7 8) [110] 10 1 true false :=
  ⟨by kernel_rfl, by kernel_rfl, rfl, rfl, by decide, by decide, by decide, by decide, .inl rfl, by decide, decide_eq_false (fun e => by
    have h := (List.cons.inj (List.cons.inj e).2).1
    rw [if_pos rfl, if_pos rfl, if_pos rfl] at h
    obtain ⟨_, _, _, _, _, _, _, q⟩ := lineV_inj h
    exact absurd q (by decide))⟩
theorem plan12 : Plan (tuF 5 6 7 8) (tuF 5 6 7 8) [110] 10 1 false true :=
  ⟨by kernel_rfl, by kernel_rfl, rfl, rfl, by decide, by decide, by decide, by decide, .inl rfl, by decide, decide_eq_true rfl⟩
/-! ### a tree at its end -/
theorem tu_text {T : FsP} {k1 k2 : List UInt8} {j x c u : Int} (h : Tu T [(k1, 2), (k2, j)] x c u) (hc : c ≤ 1000) {a a3 : NodeV} {s s3 : Int} {l l3 : List Fp} (h1 : Says T 2 a s l) (h2 : Says T j a3 s3 l3) (hs : 0 ≤ s ∧ s ≤ 1000) (hs3 : 0 ≤ s3 ∧ s3 ≤ 1000)
    (hj : 1 ≤ j ∧ j ≤ 1000) (hk1 : k1.length ≤ 1000) (hk2 : k2.length ≤ 1000) :
    TxOk T [(k1, 2), (k2, j)] 1 ∧ textP T id [(k1, 2), (k2, j)] = [lineW (wordsV k1 a s l (firstP [(k1, 2), (k2, j)] 2)), lineW (wordsV k2 a3 s3 l3 (firstP [(k1, 2), (k2, j)] j))] := by
  obtain ⟨d, d1, d2, d3⟩ := h.root
  have hn : namesP T 1 = [(k1, 2), (k2, j)] := by unfold namesP; rw [d1]; exact d3
  have e1 : namesP T 2 = [] := by obtain ⟨n, n1, n2, _⟩ := h1; unfold namesP; rw [n1]; exact n2
  have e2 : namesP T j = [] := by obtain ⟨n, n1, n2, _⟩ := h2; unfold namesP; rw [n1]; exact n2
  have hcl := h.clk
  refine ⟨⟨?_, ?_, by omega, ?_, by simp, by decide⟩, ?_⟩
  · intro p hp
    rw [hn] at hp
    simp only [List.mem_cons, List.not_mem_nil, or_false] at hp
    rcases hp with rfl | rfl
    · exact e1
    · exact e2
  · show allL (allP T 0) [] (namesP T 1) = _
    rw [hn]; rfl
  · intro q hq
    simp only [List.mem_cons, List.not_mem_nil, or_false] at hq
    rcases hq with rfl | rfl
    · obtain ⟨n, n1, _, _, n4, _⟩ := h1
      exact ⟨by show k1.length ≤ _; omega, by show (1 : Int) ≤ 2 ∧ (2 : Int) ≤ _; decide, n, n1, by omega⟩
    · obtain ⟨n, n1, _, _, n4, _⟩ := h2
      exact ⟨by show k2.length ≤ _; omega, by show 1 ≤ j ∧ j ≤ _; omega, n, n1, by omega⟩
  · show [lineW (wordsP T id _ (k1, 2)), lineW (wordsP T id _ (k2, j))] = _
    rw [says_words h1 (by omega), says_words h2 (by omega)]
end Go.Proofs.YtjjgadanobeamaaGreatDoor

namespace Go.Proofs.YtjjgadanobeamaaGreatDoor
open Go.RowKit Go.Shelf
set_option linter.unusedVariables false
set_option linter.unusedSimpArgs false
set_option maxRecDepth 20000

structure TwX (X : Nat → Prop) (w W : World) (f g : Nat) (Tf Tg : FsP) : Prop where
  st : ∃ Sf Sg : Nat → Prop, FsSt Sf W f Tf ∧ FsSt Sg W g Tg ∧ (∀ k, Sf k → w.heap.size ≤ k ∧ k < W.heap.size) ∧ (∀ k, Sg k → w.heap.size ≤ k ∧ k < W.heap.size) ∧ (∀ k, Sf k → ¬ Sg k) ∧ ∀ k, X k → k < W.heap.size ∧ ¬ Sf k ∧ ¬ Sg k
  keep : Kept NoB w W
theorem TwX.two {X : Nat → Prop} {w W : World} {f g : Nat} {Tf Tg : FsP} (h : TwX X w W f g Tf Tg) : TwT w W f g Tf Tg := by
  obtain ⟨Sf, Sg, h1, h2, h3, h4, h5, h6⟩ := h.st
  exact ⟨⟨Sf, Sg, h1, h2, h3, h4, h5⟩, h.keep⟩
theorem TwX.ofTwo {w W : World} {f g : Nat} {Tf Tg : FsP} (h : TwT w W f g Tf Tg) : TwX (fun _ => False) w W f g Tf Tg := by
  obtain ⟨Sf, Sg, h1, h2, h3, h4, h5⟩ := h.st
  exact ⟨⟨Sf, Sg, h1, h2, h3, h4, h5, fun k e => e.elim⟩, h.keep⟩
theorem TwX.swap {X : Nat → Prop} {w W : World} {f g : Nat} {Tf Tg : FsP} (h : TwX X w W f g Tf Tg) : TwX X w W g f Tg Tf := by
  obtain ⟨Sf, Sg, h1, h2, h3, h4, h5, h6⟩ := h.st
  exact ⟨⟨Sg, Sf, h2, h1, h4, h3, fun k a b => h5 k b a, fun k e => ⟨(h6 k e).1, (h6 k e).2.2, (h6 k e).2.1⟩⟩, h.keep⟩
theorem TwX.less {X Y : Nat → Prop} {w W : World} {f g : Nat} {Tf Tg : FsP} (h : TwX X w W f g Tf Tg) (hy : ∀ k, Y k → X k) : TwX Y w W f g Tf Tg := by
  obtain ⟨Sf, Sg, h1, h2, h3, h4, h5, h6⟩ := h.st
  exact ⟨⟨Sf, Sg, h1, h2, h3, h4, h5, fun k e => h6 k (hy k e)⟩, h.keep⟩
theorem TwX.kept {X : Nat → Prop} {w W W' : World} {f g : Nat} {Tf Tg : FsP} (h : TwX X w W f g Tf Tg) (hk : Kept X W W') (hx : ∀ k, X k → w.heap.size ≤ k) : TwX (fun k => X k ∨ W.heap.size ≤ k ∧ k < W'.heap.size) w W' f g Tf Tg := by
  obtain ⟨Sf, Sg, h1, h2, h3, h4, h5, h6⟩ := h.st
  have hs := hk.size
  refine ⟨⟨Sf, Sg, h1.kept hk (fun k a b => (h6 k b).2.1 a), h2.kept hk (fun k a b => (h6 k b).2.2 a), fun k e => ⟨(h3 k e).1, by have := (h3 k e).2; omega⟩, fun k e => ⟨(h4 k e).1, by have := (h4 k e).2; omega⟩, h5, fun k e => ?_⟩, keep_on h.keep hk (fun i hi e => by have := hx i e; omega)⟩
  rcases e with e | e
  · exact ⟨by have := (h6 k e).1; omega, (h6 k e).2⟩
  · exact ⟨e.2, fun q => by have := (h3 k q).2; omega, fun q => by have := (h4 k q).2; omega⟩
theorem TwX.call {X : Nat → Prop} {w W : World} {f g : Nat} {Tf Tf' Tg : FsP} {fn : Nat} {args : Array Value} {v : Value} (h : TwX X w W f g Tf Tg)
    (hc : ∀ S, FsSt S W f Tf → (∀ k, X k → ¬ S k) → Calls Tryz.prog fn args W fun e w' => e = .returned v ∧ FsSt (Grow S W w') w' f Tf' ∧ Kept S W w') : Calls Tryz.prog fn args W fun e w' => e = .returned v ∧ Hid (TwX X w w' f g Tf' Tg) ∧ Hid (Kept (fun k => ¬ X k) W w') := by
  obtain ⟨Sf, Sg, h1, h2, h3, h4, h5, h6⟩ := h.st
  refine (hc Sf h1 (fun k e => (h6 k e).2.1)).mono ?_
  rintro e w' ⟨rfl, q1, q2⟩
  have hs := q2.size
  have hw := h.keep.size
  refine ⟨rfl, Lib.hid ⟨⟨_, Sg, q1, h2.kept q2 (fun k a b => h5 k b a), fun k e => ?_, fun k e => ⟨(h4 k e).1, by have := (h4 k e).2; omega⟩, fun k e he => ?_, fun k e => ?_⟩, keep_on h.keep q2 (fun i hi e => by have := (h3 i e).1; omega)⟩, Lib.hid (q2.mono (fun k _ e hx => (h6 k hx).2.1 e))⟩
  · rcases e with e | e
    · exact ⟨(h3 k e).1, by have := (h3 k e).2; omega⟩
    · exact ⟨by omega, e.2⟩
  · rcases e with e | e
    · exact h5 k e he
    · have := (h4 k he).2; omega
  · have := h6 k e
    refine ⟨by omega, fun q => ?_, this.2.2⟩
    rcases q with q | q
    · exact this.2.1 q
    · omega
/-! ### the calls -/
section
variable {X : Nat → Prop} {w W : World} {f g : Nat} {Tf Tg T' : FsP} {ns : Nms} {x c u : Int}
theorem TwX.make (h : TwX X w W f g Tf Tg) (ht : Tu Tf ns x c u) (hc : c ≤ 1000) (k : List UInt8) (hk : k.length ≤ 1000) (v : NodeV) (hv : -9223372036854775808 ≤ v.time ∧ v.time ≤ 9223372036854775807) (he : makeP Tf 1 k v = (T', x + 1, 0)) :
    Calls Tryz.prog 6 #[.pointer (some ⟨f, 0, none⟩), .int .i64 1, .string (strB k), .agg (nvC v).toArray] W fun e w' => e = .returned (.tuple #[.int .i64 (x + 1), .int .i64 0]) ∧ Hid (TwX X w w' f g T' Tg) ∧ Hid (Kept (fun k => ¬ X k) W w') :=
  h.call fun S hS _ => by
    have hcl := ht.clk
    have := make_any hS 1 (by decide) k (by omega) v hv (by omega)
    rw [he] at this
    exact this
theorem TwX.grow (h : TwX X w W f g Tf Tg) (ht : Tu Tf ns x c u) (hc : c ≤ 1000) (i : Int) (hi : 1 ≤ i ∧ i ≤ 1000) (s : Int) (hs : 0 ≤ s ∧ s ≤ 1000) {e0 : Int} (he : growP Tf i s = (T', e0)) :
    Calls Tryz.prog 7 #[.pointer (some ⟨f, 0, none⟩), .int .i64 i, .int .i64 s] W fun e w' => e = .returned (.int .i64 e0) ∧ Hid (TwX X w w' f g T' Tg) ∧ Hid (Kept (fun k => ¬ X k) W w') :=
  h.call fun S hS _ => by
    have hcl := ht.clk; have hq := ht.quo
    have := grow_any hS i (by omega) s (by omega) (by omega) (by omega)
    rw [he] at this
    exact this
theorem TwX.write (h : TwX X w W f g Tf Tg) (ht : Tu Tf ns x c u) (hc : c ≤ 1000) (i : Int) (hi : 1 ≤ i ∧ i ≤ 1000) (b : UInt8) (D : Nat) (hD : X D) {t : TypeId} {fr : Nat × Nat} (hb : W.heap[D]? = some (.cells #[.int .u8 b.toNat] t fr)) {e0 : Int} (he : writeP Tf i 4 [b] = (T', e0)) :
    Calls Tryz.prog 8 #[.pointer (some ⟨f, 0, none⟩), .int .i64 i, .int .i64 4, .slice (some ⟨D, 0, none⟩) 1 1] W fun e w' => e = .returned (.int .i64 e0) ∧ Hid (TwX X w w' f g T' Tg) ∧ Hid (Kept (fun k => ¬ X k) W w') :=
  h.call fun S hS hX => by
    have hcl := ht.clk; have hq := ht.quo
    have := write_all hS i (by omega) 4 (by decide) [b] (some ⟨D, 0, none⟩) 1 (lit_reads (nb [b]) hb rfl) (by simp) (by decide) (by simp) (fun _ x hx => by cases hx; exact hX D hD) (by omega) (by omega)
    rw [he] at this
    exact this
theorem TwX.link (h : TwX X w W f g Tf Tg) (ht : Tu Tf ns x c u) (hc : c ≤ 1000) (k : List UInt8) (hk : k.length ≤ 1000) (i : Int) (hi : 1 ≤ i ∧ i ≤ 1000) (he : linkP Tf 1 k i = (T', 0)) :
    Calls Tryz.prog 9 #[.pointer (some ⟨f, 0, none⟩), .int .i64 1, .string (strB k), .int .i64 i] W fun e w' => e = .returned (.int .i64 0) ∧ Hid (TwX X w w' f g T' Tg) ∧ Hid (Kept (fun k => ¬ X k) W w') :=
  h.call fun S hS _ => by
    have hcl := ht.clk
    have := link_any hS 1 (by decide) k (by omega) i (by omega) (by omega)
    rw [he] at this
    exact this
theorem TwX.find (h : TwX X w W f g Tf Tg) (k : List UInt8) (hk : k.length ≤ 1000) {i e0 : Int} (he : findP Tf 1 k = (i, e0)) :
    Calls Tryz.prog 10 #[.pointer (some ⟨f, 0, none⟩), .int .i64 1, .string (strB k)] W fun e w' => e = .returned (.tuple #[.int .i64 i, .int .i64 e0]) ∧ Kept NoB W w' := by
  obtain ⟨Sf, Sg, h1, h2, h3, h4, h5, h6⟩ := h.st
  have := find_any h1 1 (by decide) k (by omega)
  rw [he] at this
  exact this
end
/-! ### the law's own blocks -/
structure ThrX (A B D : Nat) (w W : World) (f g : Nat) (Tf Tg : FsP) (a b : NodeV) (c : UInt8) : Prop where
  two : TwX (fun k => k = A ∨ k = B ∨ k = D) w W f g Tf Tg
  objA : W.heap[A]? = some (.cells (nvC a).toArray 25 (0, 0))
  objB : W.heap[B]? = some (.cells (nvC b).toArray 25 (0, 0))
  objD : W.heap[D]? = some (.cells #[.int .u8 c.toNat] 5 (0, 0))
  ab : A ≠ B
  ad : A ≠ D
  bd : B ≠ D
  low : w.heap.size ≤ A ∧ w.heap.size ≤ B ∧ w.heap.size ≤ D
theorem ThrX.lowX {A B D : Nat} {w W : World} {f g : Nat} {Tf Tg : FsP} {a b : NodeV} {c : UInt8} (h : ThrX A B D w W f g Tf Tg a b c) : ∀ k, (k = A ∨ k = B ∨ k = D) → w.heap.size ≤ k := by
  rintro k (e | e | e)
  · rw [e]; exact h.low.1
  · rw [e]; exact h.low.2.1
  · rw [e]; exact h.low.2.2
theorem ThrX.after {A B D : Nat} {w W W' : World} {f g : Nat} {Tf Tg Tf' Tg' : FsP} {a b : NodeV} {c : UInt8} (h : ThrX A B D w W f g Tf Tg a b c) (h2 : TwX (fun k => k = A ∨ k = B ∨ k = D) w W' f g Tf' Tg') (hk : Kept (fun k => ¬ (k = A ∨ k = B ∨ k = D)) W W') : ThrX A B D w W' f g Tf' Tg' a b c :=
  ⟨h2, (hk.block A (obj_lt h.objA) (fun e => e (.inl rfl))).trans h.objA, (hk.block B (obj_lt h.objB) (fun e => e (.inr (.inl rfl)))).trans h.objB, (hk.block D (obj_lt h.objD) (fun e => e (.inr (.inr rfl)))).trans h.objD, h.ab, h.ad, h.bd, h.low⟩
theorem ThrX.kept {A B D : Nat} {w W W' : World} {f g : Nat} {Tf Tg : FsP} {a b : NodeV} {c : UInt8} (h : ThrX A B D w W f g Tf Tg a b c) (hk : Kept NoB W W') : ThrX A B D w W' f g Tf Tg a b c :=
  h.after ((h.two.kept (hk.mono (fun k _ e => e.elim)) h.lowX).less (fun k e => .inl e)) (hk.mono (fun k _ e => e.elim))
theorem ThrX.setB {A B D : Nat} {w W : World} {f g : Nat} {Tf Tg : FsP} {a b : NodeV} {c : UInt8} (h : ThrX A B D w W f g Tf Tg a b c) (i : Nat) (v : Value) (b' : NodeV) (hb : (nvC b).toArray.setIfInBounds i v = (nvC b').toArray) : ThrX A B D w (W.setCell ⟨B, i, none⟩ v) f g Tf Tg a b' c := by
  refine ⟨(h.two.kept ((Kept.refl (fun k => k = A ∨ k = B ∨ k = D) W).setCell (p := ⟨B, i, none⟩) (.inl (.inr (.inl rfl))) v) h.lowX).less (fun k e => .inl e), (Below.heap_setCell _ _ _ _ h.ab).trans h.objA, ?_, (Below.heap_setCell _ _ _ _ (fun e => h.bd e.symm)).trans h.objD, h.ab, h.ad, h.bd, h.low⟩
  rw [obj_set h.objB, hb]
theorem ThrX.setD {A B D : Nat} {w W : World} {f g : Nat} {Tf Tg : FsP} {a b : NodeV} {c : UInt8} (h : ThrX A B D w W f g Tf Tg a b c) (c' : UInt8) : ThrX A B D w (W.setCell ⟨D, 0, none⟩ (.int .u8 c'.toNat)) f g Tf Tg a b c' := by
  refine ⟨(h.two.kept ((Kept.refl (fun k => k = A ∨ k = B ∨ k = D) W).setCell (p := ⟨D, 0, none⟩) (.inl (.inr (.inr rfl))) _) h.lowX).less (fun k e => .inl e), (Below.heap_setCell _ _ _ _ h.ad).trans h.objA, (Below.heap_setCell _ _ _ _ h.bd).trans h.objB, ?_, h.ab, h.ad, h.bd, h.low⟩
  rw [obj_set h.objD]; rfl
theorem ThrX.fresh {A B D : Nat} {w W : World} {f g : Nat} {Tf Tg : FsP} {a b : NodeV} {c : UInt8} (h : ThrX A B D w W f g Tf Tg a b c) (c' : UInt8) : ThrX A B W.heap.size w (W.alloc (.cells #[.int .u8 c'.toNat] 5 (0, 0))) f g Tf Tg a b c' := by
  have hk : Kept NoB W (W.alloc (.cells #[.int .u8 c'.toNat] 5 (0, 0))) := (Kept.refl NoB W).alloc _
  have h2 := (h.two.kept (hk.mono (fun k _ e => e.elim)) h.lowX)
  have hA := obj_lt h.objA
  have hB := obj_lt h.objB
  refine ⟨h2.less (fun k e => ?_), (hk.block A hA (fun e => e)).trans h.objA, (hk.block B hB (fun e => e)).trans h.objB, heap_alloc_new _ _, h.ab, by omega, by omega, h.low.1, h.low.2.1, h.two.keep.size⟩
  rcases e with e | e | e
  · exact .inl (.inl e)
  · exact .inl (.inr (.inl e))
  · exact .inr ⟨by omega, by rw [e]; simp⟩
theorem ThrX.write1 {A B D : Nat} {w W : World} {f g : Nat} {Tf Tg T' : FsP} {a b : NodeV} {y : UInt8} {ns : Nms} {x c u : Int} (h : ThrX A B D w W f g Tf Tg a b y) (ht : Tu Tf ns x c u) (hc : c ≤ 1000) (i : Int) (hi : 1 ≤ i ∧ i ≤ 1000) {e0 : Int} (he : writeP Tf i 4 [1] = (T', e0)) :
    Calls Tryz.prog 8 #[.pointer (some ⟨f, 0, none⟩), .int .i64 i, .int .i64 4, .slice (some ⟨W.heap.size, 0, none⟩) 1 1] (W.alloc (.cells #[.int .u8 1] 5 (0, 0))) fun e w' => e = .returned (.int .i64 e0) ∧ Hid (ThrX A B D w w' f g T' Tg a b y) := by
  have hk : Kept NoB W (W.alloc (.cells #[.int .u8 1] 5 (0, 0))) := (Kept.refl NoB W).alloc _
  have h2 := (h.two.kept (hk.mono (fun k _ e => e.elim)) h.lowX)
  refine Calls.mono (h2.write ht hc i hi 1 W.heap.size (.inr ⟨Nat.le_refl _, by simp⟩) (heap_alloc_new _ _) he) ?_
  rintro e w' ⟨rfl, q1, q2⟩
  refine ⟨rfl, Lib.hid ((h.kept hk).after (q1.out.less (fun k e => .inl e)) (q2.out.mono (fun k _ e q => e (.inl q))))⟩
end Go.Proofs.YtjjgadanobeamaaGreatDoor

namespace Go.Proofs.YtjjgadanobeamaaGreatDoor
set_option linter.unusedVariables false
set_option linter.unusedSimpArgs false
set_option maxRecDepth 20000

theorem ok_110 : okN (strB [110]) = true := by kernel_rfl
theorem ok_109 : okN (strB [109]) = true := by kernel_rfl
theorem ok_122 : okN (strB [122]) = true := by kernel_rfl
theorem tu_start {a : NodeV} (ma : mayB a = true) (sa : a.size = 0) (s : List UInt8) (hs : s = [110] ∨ s = [109]) (size : Int) (hz : 10 ≤ size ∧ size ≤ 300) (c : UInt8) :
    ∃ T1 T2 T3 e2 e3, makeP (newT 100) 1 s a = (T1, 1 + 1, 0) ∧ growP T1 2 size = (T2, e2) ∧ writeP T2 2 4 [c] = (T3, e3) ∧ Tu T1 [(s, 2)] 2 1 0 ∧ Tu T2 [(s, 2)] 2 2 0 ∧ Tu T3 [(s, 2)] 2 3 1 ∧ Says T3 2 a (finS a size) (finL a c) := by
  have hok : okN (strB s) = true := by rcases hs with rfl | rfl; exact ok_110; exact ok_109
  obtain ⟨T1, m1, t1, s1, _⟩ := tu_make tu_new (by decide) s hok rfl a ma sa
  obtain ⟨T2, e2, m2, t2, s2, _⟩ := tu_grow t1 (i := 1 + 1) (by decide) s1 size (by omega)
  obtain ⟨T3, e3, m3, t3, s3, _⟩ := tu_write t2 (by decide) (i := 1 + 1) (by decide) s2 c
  refine ⟨T1, T2, T3, e2, e3, m1, m2, m3, t1, t2, t3, ?_⟩
  have e : finS a size = if a.kind = 1 then max (if a.kind = 1 then size else 0) 5 else (if a.kind = 1 then size else 0) := by unfold finS; by_cases h : a.kind = 1 <;> simp [h]
  rw [e]; exact s3
theorem put_z {s : List UInt8} (hs : s = [110] ∨ s = [109]) (i : Int) : putK [(s, 2)] [122] i = [(s, 2), ([122], i)] ∧ getK [(s, 2)] [122] = none := by
  rcases hs with rfl | rfl <;> exact ⟨rfl, rfl⟩
theorem tu_other {T : FsP} {s : List UInt8} (hs : s = [110] ∨ s = [109]) (h : Tu T [(s, 2)] 2 3 1) {b a : NodeV} {z : Int} {l : List Fp} (h2 : Says T 2 b z l) (ma : mayB a = true) (sa : a.size = 0) :
    ∃ T', makeP T 1 [122] a = (T', 2 + 1, 0) ∧ Tu T' [(s, 2), ([122], 3)] 3 4 1 ∧ Says T' 2 b z l ∧ Says T' 3 a 0 [] := by
  obtain ⟨T1, m1, t1, s1, o1⟩ := tu_make h (by decide) [122] ok_122 (put_z hs 3).2 a ma sa
  rw [(put_z hs (2 + 1)).1] at t1
  exact ⟨T1, m1, t1, o1 2 b z l (by decide) (by decide) h2, s1⟩
theorem tu_again {T : FsP} {s : List UInt8} (hs : s = [110] ∨ s = [109]) (h : Tu T [(s, 2)] 2 3 1) {b : NodeV} {z : Int} {l : List Fp} (h2 : Says T 2 b z l) (hb : b.kind ≠ 6) :
    ∃ T', linkP T 1 [122] 2 = (T', 0) ∧ Tu T' [(s, 2), ([122], 2)] 2 4 1 ∧ Says T' 2 b z l := by
  obtain ⟨T1, m1, t1, o1⟩ := tu_link h (i := 2) (by decide) h2 hb [122] ok_122 (put_z hs 2).2
  rw [(put_z hs 2).1] at t1
  exact ⟨T1, m1, t1, o1 2 b z l (by decide) h2⟩
theorem tu_more {T : FsP} (h : Tu T [([110], 2), ([122], 3)] 3 4 1) {a : NodeV} {z : Int} {l : List Fp} (h2 : Says T 2 a z l) (h3 : Says T 3 a 0 []) :
    findP T 1 [122] = (3, 0) ∧ ∃ T1 T2 e1 e2, growP T 3 10 = (T1, e1) ∧ writeP T1 3 4 [1] = (T2, e2) ∧ Tu T1 [([110], 2), ([122], 3)] 3 5 1 ∧ Tu T2 [([110], 2), ([122], 3)] 3 6 2 ∧ Says T2 2 a z l ∧ Says T2 3 a (finS a 10) (finL a 1) := by
  obtain ⟨d, d1, d2, d3⟩ := h.root
  obtain ⟨T1, e1, m1, t1, s1, o1⟩ := tu_grow h (i := 3) (by decide) h3 10 (by decide)
  obtain ⟨T2, e2, m2, t2, s2, o2⟩ := tu_write t1 (by decide) (i := 3) (by decide) s1 1
  have e : finS a 10 = if a.kind = 1 then max (if a.kind = 1 then 10 else 0) 5 else (if a.kind = 1 then 10 else 0) := by unfold finS; by_cases h : a.kind = 1 <;> simp [h]
  refine ⟨?_, T1, T2, e1, e2, m1, m2, t1, t2, o2 2 a z l (by decide) (o1 2 a z l (by decide) h2), by rw [e]; exact s2⟩
  unfold findP placeE namesP
  rw [d1]
  simp only [d2, d3, ok_122, if_pos]
  rfl
theorem fin_low (a : NodeV) (s : Int) (h : 10 ≤ s ∧ s ≤ 300) : 0 ≤ finS a s ∧ finS a s ≤ 1000 := by unfold finS; split <;> omega
theorem tu_endF {T : FsP} {x c u : Int} (h : Tu T [([110], 2), ([122], 3)] x c u) (hc : c ≤ 1000) {a : NodeV} (link : Bool) (h2 : Says T 2 a (finS a 10) (finL a 1)) (h3 : Says T 3 a (if link then finS a 10 else 0) (if link then finL a 1 else [])) :
    TxOk T [([110], 2), ([122], 3)] 1 ∧ textP T id [([110], 2), ([122], 3)] = rowF a link := by
  have hf := fin_low a 10 (by decide)
  exact tu_text h hc h2 h3 hf (by cases link; exact (show (0 : Int) ≤ 0 ∧ (0 : Int) ≤ 1000 from by decide); exact hf) (by decide) (by decide) (by decide)
theorem tu_endG {T : FsP} {x c u : Int} {s : List UInt8} (hs : s = [110] ∨ s = [109]) (h : Tu T [(s, 2), ([122], 3)] x c u) (hc : c ≤ 1000) {a b : NodeV} {size : Int} {y : UInt8} (hz : 10 ≤ size ∧ size ≤ 300) (h2 : Says T 2 b (finS b size) (finL b y)) (h3 : Says T 3 a 0 []) :
    TxOk T [(s, 2), ([122], 3)] 1 ∧ textP T id [(s, 2), ([122], 3)] = rowG a b s size y false := by
  have hl : s.length ≤ 1000 := by rcases hs with rfl | rfl <;> decide
  exact tu_text h hc h2 h3 (fin_low b size hz) (by decide) (by decide) hl (by decide)
theorem tu_endL {T : FsP} {x c u : Int} {s : List UInt8} (hs : s = [110] ∨ s = [109]) (h : Tu T [(s, 2), ([122], 2)] x c u) (hc : c ≤ 1000) (a : NodeV) {b : NodeV} {size : Int} {y : UInt8} (hz : 10 ≤ size ∧ size ≤ 300) (h2 : Says T 2 b (finS b size) (finL b y)) :
    TxOk T [(s, 2), ([122], 2)] 1 ∧ textP T id [(s, 2), ([122], 2)] = rowG a b s size y true := by
  have hl : s.length ≤ 1000 := by rcases hs with rfl | rfl <;> decide
  exact tu_text h hc h2 h2 (fin_low b size hz) (fin_low b size hz) (by decide) hl (by decide)
end Go.Proofs.YtjjgadanobeamaaGreatDoor
