/-
  Decimal digits, told alone (a seat without strconv).
  same.Text; what the document fixes of trees alike (awake).
  slices.Equal at texts; same.Same; two trees side by side.
  Two trees that differ in one thing, on paper.
  A tree of two names, on paper: what is told of it.
-/
import Derived.Test.YtjjgadanobeamaaGreatDoorMt25
import Derived.Lib.ItoaMem
namespace Go.Proofs.YtjjgadanobeamaaGreatDoor
open Go.Lib
set_option linter.unusedVariables false

theorem dig_toNat (k : Nat) (hk : k < 10) : (UInt8.ofNat (48 + k)).toNat = 48 + k := by
  rw [UInt8.toNat_ofNat']; omega
theorem decDigits_lt {u : Nat} (h : u < 10) : decDigits u = [UInt8.ofNat (48 + u)] := by rw [decDigits, dif_pos h]
theorem decDigits_ge {u : Nat} (h : ¬ u < 10) : decDigits u = decDigits (u / 10) ++ [UInt8.ofNat (48 + u % 10)] := by rw [decDigits, dif_neg h]
theorem decDigits_all : ∀ (n u : Nat), u ≤ n → ∀ b ∈ decDigits u, 48 ≤ b.toNat ∧ b.toNat ≤ 57 := by
  intro n
  induction n with
  | zero =>
    intro u hu b hb
    rw [decDigits_lt (by omega)] at hb
    simp only [List.mem_singleton] at hb
    subst hb
    rw [dig_toNat u (by omega)]; omega
  | succ n ih =>
    intro u hu b hb
    by_cases h10 : u < 10
    · rw [decDigits_lt h10] at hb
      simp only [List.mem_singleton] at hb
      subst hb
      rw [dig_toNat u h10]; omega
    · rw [decDigits_ge h10] at hb
      rcases List.mem_append.1 hb with h | h
      · exact ih (u / 10) (by omega) b h
      · simp only [List.mem_singleton] at h
        subst h
        rw [dig_toNat (u % 10) (by omega)]; omega
theorem dec_val : ∀ (n u : Nat), u ≤ n → (decDigits u).foldl (fun (a : Nat) (b : UInt8) => a * 10 + (b.toNat - 48)) 0 = u := by
  intro n
  induction n with
  | zero =>
    intro u hu
    rw [decDigits_lt (by omega), List.foldl_cons, List.foldl_nil, dig_toNat u (by omega)]
    omega
  | succ n ih =>
    intro u hu
    by_cases h10 : u < 10
    · rw [decDigits_lt h10, List.foldl_cons, List.foldl_nil, dig_toNat u h10]
      omega
    · rw [decDigits_ge h10, List.foldl_append, ih (u / 10) (by omega), List.foldl_cons, List.foldl_nil, dig_toNat (u % 10) (by omega)]
      omega
theorem dec_inj {u v : Nat} (h : decDigits u = decDigits v) : u = v := by
  have h1 := dec_val u u (Nat.le_refl _)
  rw [h, dec_val v v (Nat.le_refl _)] at h1
  exact h1.symm
end Go.Proofs.YtjjgadanobeamaaGreatDoor

namespace Go.Proofs.YtjjgadanobeamaaGreatDoor
open Go.RowKit Go.Shelf
set_option linter.unusedVariables false
set_option linter.unusedSimpArgs false
set_option maxRecDepth 20000

set_option maxHeartbeats 1000000 in
theorem text_any {S : Nat → Prop} {w : World} {f : Nat} {T : FsP} (h : FsSt S w f T) (htab : Pow10 w) (hclk : T.clock ≤ 1000000000) (k : Nat) (hk : k ≤ 1000000) (dir : Int) (hdir : -9223372036854775808 ≤ dir ∧ dir ≤ 9223372036854775807) (hd : Deep T k dir) (all : List SeenP) (hall : allP T k dir [] = all) (hl : all.length ≤ 1000000)
    (hq : ∀ q ∈ all, q.1.length ≤ 1000000 ∧ (1 ≤ q.2 ∧ q.2 ≤ 4611686018427387904) ∧ ∃ n, T.nd q.2 = some n ∧ n.v.size ≤ 1048576) :
    Calls Tryz.prog 13 #[.pointer (some ⟨f, 0, none⟩), .int .i64 dir] w fun e w' => ∃ a l c, e = .returned (.slice a l c) ∧ Hid (StrSt w w' a l c (textP T id all)) := by
  have H := Lib.hid (text_core h htab hclk k hk dir hdir hd all hall hl hq)
  clear h htab hd hall hl hq
  go_enter Tryz.func13, Tryz.ntmps13
  go_wp2_with (go_at_call 24; refine H.out.mono ?_; rintro e w1 ⟨a, l, c, rfl, hq⟩)
  go_ret
  exact ⟨a, l, c, rfl, hq⟩
/-! ### one file -/
def av15 : NodeV := { kind := 1, mode := 8, user := 0, group := 0, time := 5, tgt := ⟨#[]⟩, major := 0, minor := 0, size := 0, links := 0, change := 0 }
def at15 : FsP := (makeP (newT 10) 1 [97] av15).1
theorem at_make : (makeP (newT 10) 1 [97] av15).2 = (2, 0) := by kernel_rfl
theorem at_n1 : namesP at15 1 = [([97], 2)] := by kernel_rfl
theorem at_n2 : namesP at15 2 = [] := by kernel_rfl
theorem at_deep : Deep at15 1 1 := by
  intro p hp
  rw [at_n1] at hp
  simp at hp; subst hp
  exact at_n2
theorem at_all : allP at15 1 1 [] = [([97], 2)] := by kernel_rfl
theorem at_stat : (statP at15 2).1 = { kind := 1, mode := 8, user := 0, group := 0, time := 5, tgt := ⟨#[]⟩, major := 0, minor := 0, size := 0, links := 1, change := 1 } := by kernel_rfl
theorem at_clock : at15.clock = 1 := by kernel_rfl
theorem at_nd : ∃ n, at15.nd 2 = some n ∧ n.v.size ≤ 1048576 := ⟨freshN av15 1 1, by kernel_rfl, by decide⟩
theorem at_cont : contentP at15 2 0 = 0 := by
  unfold contentP
  rw [if_pos (by decide)]
  have : (readP at15 2 0 0).1 = [] := by kernel_rfl
  rw [this]
  exact crcOf_nil 0 (by decide)
theorem numB_digit (u : Nat) (hu : u < 10) : numB (u : Int) = [UInt8.ofNat (48 + u)] := by
  unfold numB
  rw [Lib.itoa_nonneg, decDigits_lt hu]
theorem at_text : textP at15 id [([97], 2)] = [[54, 49, 32, 49, 32, 56, 32, 48, 32, 48, 32, 53, 32, 48, 32, 48, 32, 48]] := by
  have e0 : numB 0 = [48] := numB_digit 0 (by decide)
  have e1 : numB 1 = [49] := numB_digit 1 (by decide)
  have e5 : numB 5 = [53] := numB_digit 5 (by decide)
  have e8 : numB 8 = [56] := numB_digit 8 (by decide)
  have hf : ((firstP [([97], 2)] 2 : Nat) : Int) = 0 := by kernel_rfl
  have hm : moreW at15 2 (statP at15 2).1 = [[48], [48]] := by
    rw [at_stat]
    unfold moreW
    rw [if_pos rfl]
    show [numB 0, numB (contentP at15 2 0 : Nat)] = _
    rw [at_cont]
    show [numB 0, numB 0] = _
    rw [e0]
  have hw : wordsP at15 id [([97], 2)] ([97], 2) = [[54, 49], [49], [56], [48], [48], [53], [48], [48], [48]] := by
    unfold wordsP
    rw [hm, hf, at_stat]
    show [hexB [97]] ++ [numB 1, numB 8, numB 0, numB 0, numB 5] ++ [[48], [48]] ++ [numB 0] = _
    rw [e0, e1, e5, e8]
    rfl
  show [lineW (wordsP at15 id [([97], 2)] ([97], 2))] = _
  rw [hw]
  rfl
set_option maxHeartbeats 4000000 in
theorem awake15_any (w : World) (htab : Pow10 w) : Calls Tryz.prog 14 #[] w fun e w' => e = .returned (.bool true) ∧ Kept NoB w w' := by
  have HNew := Lib.hid (new_any 10 w (by decide))
  have HTb := Lib.hid htab
  clear htab
  go_enter Tryz.func14, Tryz.ntmps14
  go_wp2_with fail
  refine HNew.out.mono ?_
  rintro e w1 ⟨f, rfl, hf1, hk1⟩
  have F1 := Lib.hid (FsOwn.made hf1 hk1)
  clear hf1 hk1 HNew
  have HM1 : Hid (Calls Tryz.prog 6 #[.pointer (some ⟨f, 0, none⟩), .int .i64 1, .string { data := #[97] }, .agg #[.int .i64 1, .int .i64 8, .int .i64 0, .int .i64 0, .int .i64 5, .string { data := #[] }, .int .i64 0, .int .i64 0, .int .i64 0, .int .i64 0, .int .i64 0]] w1 fun e w' => e = .returned (.tuple #[.int .i64 2, .int .i64 0]) ∧ Hid (FsOwn w w' f at15)) := Lib.hid (by
    have := make_any F1.out.st 1 (by decide) [97] (by decide) av15 (by decide) (by decide)
    refine Calls.mono this ?_
    rintro e w' ⟨rfl, h1, h2⟩
    refine ⟨by rw [at_make], Lib.hid (F1.out.step h1 h2)⟩)
  go_wp2_with fail
  refine HM1.out.mono ?_
  rintro e w2 ⟨rfl, F2⟩
  clear HM1
  have HTx := Lib.hid (text_any F2.out.st (HTb.out.keptNo F2.out.keep) (by rw [at_clock]; decide) 1 (by decide) 1 (by decide) at_deep [([97], 2)] at_all (by decide) (by
    intro q hq
    simp at hq; subst hq
    exact ⟨by decide, ⟨by decide, by decide⟩, at_nd⟩))
  go_wp2_with fail
  refine HTx.out.mono ?_
  rintro e w3 ⟨a, l, c, rfl, HS⟩
  rw [at_text] at HS
  obtain rfl : l = 1 := HS.out.len
  obtain ⟨g, off, rfl, _, s0⟩ := HS.out.reads 0 (by decide)
  have hk3 := HS.out.kept
  have F3 := Lib.hid (F2.out.kept hk3)
  have s1 : w3.cell? ⟨g, off, none⟩ = some (.string { data := #[54, 49, 32, 49, 32, 56, 32, 48, 32, 48, 32, 53, 32, 48, 32, 48, 32, 48] }) := s0
  have HS1 : Hid (∀ W, Calls Tryz.prog 15 #[.int .i64 (-1)] W fun e w' => e = .returned (.int .i64 (-1)) ∧ W = w') := Lib.hid (fun W => secs_any (-1) W (by decide))
  have HS2 : Hid (∀ W, Calls Tryz.prog 15 #[.int .i64 2000000000] W fun e w' => e = .returned (.int .i64 2) ∧ W = w') := Lib.hid (fun W => secs_any 2000000000 W (by decide))
  clear HTx HS s0 hk3 F2
  go_wp2_with (go_at_call 15; first | (with_reducible refine (HS1.out _).mono ?_; rintro e w4 ⟨rfl, rfl⟩) | (with_reducible refine (HS2.out _).mono ?_; rintro e w4 ⟨rfl, rfl⟩))
  go_ret
  exact ⟨rfl, F3.out.keep⟩
end Go.Proofs.YtjjgadanobeamaaGreatDoor

namespace Go.Proofs.YtjjgadanobeamaaGreatDoor
open Go.RowKit Go.Shelf
set_option linter.unusedVariables false
set_option linter.unusedSimpArgs false
set_option maxRecDepth 20000

set_option maxHeartbeats 4000000 in
theorem eqlS_any (a : Option Addr) (c : Nat) (xs : List (List UInt8)) (b : Option Addr) (d : Nat) (ys : List (List UInt8)) (A B : Nat) (w : World) (hx : RdS w A a xs) (hy : RdS w B b ys) (hm : xs.length ≤ 1000000) :
    Calls Tryz.prog 23 #[.slice a xs.length c, .slice b ys.length d] w fun e w' => e = .returned (.bool (decide (xs = ys))) ∧ Kept NoB w w' := by
  have HX := Lib.hid hx; have HY := Lib.hid hy
  clear hx hy
  by_cases hlen : xs.length = ys.length
  · obtain ⟨n, hn⟩ : ∃ n, n = xs.length := ⟨_, rfl⟩
    have hn2 : ys.length = n := by omega
    have HN := Lib.hid hn; have HN2 := Lib.hid hn2
    have hm2 : n ≤ 1000000 := by omega
    rw [← hn, hn2]
    clear hn hn2 hlen
    go_enter Tryz.func23, Tryz.ntmps23
    go_upto_region 4 with fail
    go_loopw [5, 13] (fun v5 v13 wr => ∃ j : Nat, v13 = .int .i64 (j : Int) ∧ j ≤ n ∧ Hid (Kept NoB w wr) ∧ Hid ((xs = ys) ↔ (xs.drop j = ys.drop j))) (fun _ v13 _ => n - (intOf v13).toNat)
    case atStart => exact ⟨0, rfl, by omega, Kept.refl _ _, (by rw [List.drop_zero, List.drop_zero]; exact Iff.rfl)⟩
    case round =>
      obtain ⟨j, rfl, hj, HK, HI⟩ := hrel
      by_cases hlt : (j : Int) < n
      · obtain ⟨g, off, rfl, hgl, hc0⟩ := HX.out j (by have := HN.out; omega)
        obtain ⟨g2, off2, rfl, hgl2, hc1⟩ := HY.out j (by have := HN2.out; omega)
        have hc0' := HK.out.cell hc0
        have hc1' := HK.out.cell hc1
        have hi := HI.out
        rw [drop_getDs xs j (by have := HN.out; omega), drop_getDs ys j (by have := HN2.out; omega)] at hi
        obtain ⟨x, hx⟩ : ∃ x, xs.getD j [] = x := ⟨_, rfl⟩
        obtain ⟨y, hy⟩ : ∃ y, ys.getD j [] = y := ⟨_, rfl⟩
        rw [hx] at hc0' hi
        rw [hy] at hc1' hi
        clear hx hy hc0 hc1 hgl hgl2
        by_cases hxy : x = y
        · subst hxy
          have HI2 : Hid ((xs = ys) ↔ (xs.drop (j + 1) = ys.drop (j + 1))) := hi.trans ⟨fun h => by injection h, fun h => by rw [h]⟩
          obtain ⟨X, hX⟩ : ∃ X, X = strB x := ⟨_, rfl⟩
          rw [← hX] at hc0' hc1'
          have hd : (X.toList != X.toList) = false := by simp
          clear hi hX
          go_upto_region 6 with fail
          go_quiet (fail)
          go_wp2
          go_roundw
          case rel => exact ⟨j + 1, by go_num, by omega, HK.out.drewN _, HI2⟩
          case measure => simp [intOf]; omega
        · have hne : ¬ xs = ys := fun h => hxy (by have := hi.1 h; injection this)
          have hne2 : ¬ (strB x).toList = (strB y).toList := by rw [strB_list, strB_list]; exact hxy
          obtain ⟨X, hX⟩ : ∃ X, X = strB x := ⟨_, rfl⟩
          obtain ⟨Y, hY⟩ : ∃ Y, Y = strB y := ⟨_, rfl⟩
          rw [← hX] at hc0' hne2
          rw [← hY] at hc1' hne2
          have hd : (X.toList == Y.toList) = false := by simpa using hne2
          have hd3 : (!X.toList == Y.toList) = true := by rw [hd]; rfl
          clear hi hxy hX hY
          have HNe := Lib.hid hne
          clear hne
          go_upto_region 6 with fail
          go_quiet (fail)
          go_wp2
          go_ret
          exact ⟨by rw [decide_eq_false HNe.out]; rfl, HK.out.drewN _⟩
      · have he : xs = ys := by
          have hi := HI.out
          rw [List.drop_of_length_le (by have := HN.out; omega), List.drop_of_length_le (by have := HN2.out; omega)] at hi
          exact hi.2 rfl
        have HE := Lib.hid he
        clear he
        go_wp2
        go_ret
        exact ⟨by rw [decide_eq_true HE.out]; rfl, HK.out⟩
  · have hne : ¬ xs = ys := fun h => hlen (by rw [h])
    have HNe := Lib.hid hne
    have g1 : ((xs.length : Int) != (ys.length : Int)) = true := bne_iff_ne.2 (by omega)
    clear hne hlen
    go_enter Tryz.func23, Tryz.ntmps23
    go_wp2
    go_ret
    exact ⟨by rw [decide_eq_false HNe.out]; rfl, Kept.refl _ _⟩
structure TwT (w W : World) (f g : Nat) (Tf Tg : FsP) : Prop where
  st : ∃ Sf Sg : Nat → Prop, FsSt Sf W f Tf ∧ FsSt Sg W g Tg ∧ (∀ k, Sf k → w.heap.size ≤ k ∧ k < W.heap.size) ∧ (∀ k, Sg k → w.heap.size ≤ k ∧ k < W.heap.size) ∧ ∀ k, Sf k → ¬ Sg k
  keep : Kept NoB w W
theorem TwT.kept {w W W' : World} {f g : Nat} {Tf Tg : FsP} (h : TwT w W f g Tf Tg) (hk : Kept NoB W W') : TwT w W' f g Tf Tg := by
  obtain ⟨Sf, Sg, h1, h2, h3, h4, h5⟩ := h.st
  exact ⟨⟨Sf, Sg, h1.keptNo hk, h2.keptNo hk, fun k e => ⟨(h3 k e).1, Nat.lt_of_lt_of_le (h3 k e).2 hk.size⟩, fun k e => ⟨(h4 k e).1, Nat.lt_of_lt_of_le (h4 k e).2 hk.size⟩, h5⟩, h.keep.trans hk⟩
theorem TwT.swap {w W : World} {f g : Nat} {Tf Tg : FsP} (h : TwT w W f g Tf Tg) : TwT w W g f Tg Tf := by
  obtain ⟨Sf, Sg, h1, h2, h3, h4, h5⟩ := h.st
  exact ⟨⟨Sg, Sf, h2, h1, h4, h3, fun k a b => h5 k b a⟩, h.keep⟩
theorem TwT.call {w W : World} {f g : Nat} {Tf Tf' Tg : FsP} {fn : Nat} {args : Array Value} {v : Value} (h : TwT w W f g Tf Tg)
    (hc : ∀ S, FsSt S W f Tf → Calls Tryz.prog fn args W fun e w' => e = .returned v ∧ FsSt (Grow S W w') w' f Tf' ∧ Kept S W w') : Calls Tryz.prog fn args W fun e w' => e = .returned v ∧ Hid (TwT w w' f g Tf' Tg) := by
  obtain ⟨Sf, Sg, h1, h2, h3, h4, h5⟩ := h.st
  refine (hc Sf h1).mono ?_
  rintro e w' ⟨rfl, q1, q2⟩
  have hs := q2.size
  have hw := h.keep.size
  refine ⟨rfl, Lib.hid ⟨⟨_, Sg, q1, h2.kept q2 (fun k a b => h5 k b a), fun k e => ?_, fun k e => ⟨(h4 k e).1, by have := (h4 k e).2; omega⟩, fun k e he => ?_⟩, keep_on h.keep q2 (fun i hi e => by have := (h3 i e).1; omega)⟩⟩
  · rcases e with e | e
    · exact ⟨(h3 k e).1, by have := (h3 k e).2; omega⟩
    · exact ⟨by omega, e.2⟩
  · rcases e with e | e
    · exact h5 k e he
    · have := (h4 k he).2; omega
theorem TwT.start {w W W' : World} {f g : Nat} {Tf Tg : FsP} (h : FsOwn w W f Tf) (hs : FsSt (_root_.Go.Proofs.YtjjgadanobeamaaGreatDoor.Grow NoB W W') W' g Tg) (hk : Kept NoB W W') : TwT w W' f g Tf Tg := by
  have hw := h.keep.size
  refine ⟨⟨_, _, h.st.keptNo hk, hs, fun k e => ⟨e.1, Nat.lt_of_lt_of_le e.2 hk.size⟩, fun k e => ?_, fun k e q => ?_⟩, h.keep.trans hk⟩
  · rcases e with e | e
    · exact e.elim
    · exact ⟨by omega, e.2⟩
  · rcases q with q | q
    · exact q
    · have := e.2; omega
structure TxOk (T : FsP) (all : List SeenP) (k : Nat) : Prop where
  deep : Deep T k 1
  told : allP T k 1 [] = all
  clk : T.clock ≤ 1000000000
  each : ∀ q ∈ all, q.1.length ≤ 1000000 ∧ (1 ≤ q.2 ∧ q.2 ≤ 4611686018427387904) ∧ ∃ n, T.nd q.2 = some n ∧ n.v.size ≤ 1048576
  len : all.length ≤ 1000000
  low : k ≤ 1000000
theorem textP_len (T : FsP) (tf : Int → Int) (all : List SeenP) : (textP T tf all).length = all.length := by simp [textP]
set_option maxHeartbeats 4000000 in
theorem same2_any {w W : World} {f g : Nat} {Tf Tg : FsP} (h : TwT w W f g Tf Tg) (htab : Pow10 w) {af ag : List SeenP} {kf kg : Nat} (hf : TxOk Tf af kf) (hg : TxOk Tg ag kg) :
    Calls Tryz.prog 11 #[.pointer (some ⟨f, 0, none⟩), .int .i64 1, .pointer (some ⟨g, 0, none⟩), .int .i64 1] W fun e w' => e = .returned (.bool (decide (textP Tf id af = textP Tg id ag))) ∧ Kept NoB W w' := by
  have HH := Lib.hid h
  have HTf : Hid (Calls Tryz.prog 13 #[.pointer (some ⟨f, 0, none⟩), .int .i64 1] W fun e w' => ∃ a l c, e = .returned (.slice a l c) ∧ Hid (StrSt W w' a l c (textP Tf id af))) := Lib.hid (by
    obtain ⟨Sf, Sg, h1, h2, h3, h4, h5⟩ := h.st
    exact text_any h1 (htab.keptNo h.keep) hf.clk kf hf.low 1 (by decide) hf.deep af hf.told hf.len hf.each)
  have HTg : Hid (∀ W', Kept NoB W W' → Calls Tryz.prog 13 #[.pointer (some ⟨g, 0, none⟩), .int .i64 1] W' fun e w' => ∃ a l c, e = .returned (.slice a l c) ∧ Hid (StrSt W' w' a l c (textP Tg id ag))) := Lib.hid (fun W' hW => by
    obtain ⟨Sf, Sg, h1, h2, h3, h4, h5⟩ := h.st
    exact text_any (h2.keptNo hW) ((htab.keptNo h.keep).keptNo hW) hg.clk kg hg.low 1 (by decide) hg.deep ag hg.told hg.len hg.each)
  have hlf : (textP Tf id af).length ≤ 1000000 := by rw [textP_len]; exact hf.len
  obtain ⟨X, hX⟩ : ∃ X, X = textP Tf id af := ⟨_, rfl⟩
  obtain ⟨Y, hY⟩ : ∃ Y, Y = textP Tg id ag := ⟨_, rfl⟩
  rw [← hX] at HTf hlf ⊢
  rw [← hY] at HTg ⊢
  clear h htab hf hg hX hY HH
  go_enter Tryz.func11, Tryz.ntmps11
  go_wp2_with fail
  refine HTf.out.mono ?_
  rintro e w1 ⟨a, l, c, rfl, HS1⟩
  have HTg := Lib.hid (HTg.out w1 HS1.out.kept)
  go_wp2_with fail
  refine HTg.out.mono ?_
  rintro e w2 ⟨b, m, d, rfl, HS2⟩
  have HEq : Hid (Calls Tryz.prog 23 #[.slice a l c, .slice b m d] w2 fun e w' => e = .returned (.bool (decide (X = Y))) ∧ Kept NoB w2 w') := Lib.hid (by
    have h1 := HS1.out.on HS2.out.kept
    have := eqlS_any a c X b d Y w2.heap.size w2.heap.size w2 h1.reads HS2.out.reads hlf
    rw [← h1.len, ← HS2.out.len] at this
    exact this)
  have HK := Lib.hid (HS1.out.kept.trans HS2.out.kept)
  clear HTf HTg HS1 HS2
  go_wp2_with fail
  refine HEq.out.mono ?_
  rintro e w3 ⟨rfl, hk3⟩
  go_wp2
  go_ret
  exact ⟨rfl, HK.out.trans hk3⟩
end Go.Proofs.YtjjgadanobeamaaGreatDoor

namespace Go.Proofs.YtjjgadanobeamaaGreatDoor
open Go.Lib
set_option linter.unusedVariables false
set_option linter.unusedSimpArgs false
set_option maxRecDepth 20000

/-! ### lines that are alike have words that are alike -/
theorem joinT_split (x : List UInt8) : ∀ (a b : List UInt8) (r s : List (List UInt8)), (32 : UInt8) ∉ a → (32 : UInt8) ∉ b → a ++ Lib.joinTail [32] r = b ++ Lib.joinTail [32] s → a = b ∧ Lib.joinTail [32] r = Lib.joinTail [32] s := by
  intro a
  induction a with
  | nil =>
    intro b r s ha hb h
    cases b with
    | nil => exact ⟨rfl, h⟩
    | cons c t =>
      cases r with
      | nil => simp [Lib.joinTail] at h
      | cons y z =>
        have e : Lib.joinTail [32] (y :: z) = 32 :: (y ++ Lib.joinTail [32] z) := by simp [Lib.joinTail]
        rw [e] at h
        have := (List.cons.inj h).1
        exact absurd (by rw [this]; simp) hb
  | cons c t ih =>
    intro b r s ha hb h
    cases b with
    | nil =>
      cases s with
      | nil => simp [Lib.joinTail] at h
      | cons y z =>
        have e : Lib.joinTail [32] (y :: z) = 32 :: (y ++ Lib.joinTail [32] z) := by simp [Lib.joinTail]
        rw [e] at h
        have := (List.cons.inj h).1
        exact absurd (by rw [← this]; simp) ha
    | cons d u =>
      obtain ⟨h1, h2⟩ := List.cons.inj h
      obtain ⟨h3, h4⟩ := ih u r s (fun e => ha (by simp [e])) (fun e => hb (by simp [e])) h2
      exact ⟨by rw [h1, h3], h4⟩
theorem joinT_inj : ∀ (r s : List (List UInt8)), (∀ x ∈ r, (32 : UInt8) ∉ x) → (∀ x ∈ s, (32 : UInt8) ∉ x) → Lib.joinTail [32] r = Lib.joinTail [32] s → r = s
  | [], [], _, _, _ => rfl
  | [], y :: z, _, _, h => by simp [Lib.joinTail] at h
  | y :: z, [], _, _, h => by simp [Lib.joinTail] at h
  | y :: z, a :: b, h1, h2, h => by
    have e1 : Lib.joinTail [32] (y :: z) = 32 :: (y ++ Lib.joinTail [32] z) := by simp [Lib.joinTail]
    have e2 : Lib.joinTail [32] (a :: b) = 32 :: (a ++ Lib.joinTail [32] b) := by simp [Lib.joinTail]
    rw [e1, e2] at h
    obtain ⟨h3, h4⟩ := joinT_split [] y a z b (h1 y (by simp)) (h2 a (by simp)) (List.cons.inj h).2
    rw [h3, joinT_inj z b (fun x hx => h1 x (by simp [hx])) (fun x hx => h2 x (by simp [hx])) h4]
theorem lineW_inj {r s : List (List UInt8)} (hr : r ≠ []) (hs : s ≠ []) (h1 : ∀ x ∈ r, (32 : UInt8) ∉ x) (h2 : ∀ x ∈ s, (32 : UInt8) ∉ x) (h : lineW r = lineW s) : r = s := by
  cases r with
  | nil => exact absurd rfl hr
  | cons y z =>
    cases s with
    | nil => exact absurd rfl hs
    | cons a b =>
      unfold lineW at h
      rw [Lib.join_cons, Lib.join_cons] at h
      obtain ⟨h3, h4⟩ := joinT_split [] y a z b (h1 y (by simp)) (h2 a (by simp)) h
      rw [h3, joinT_inj z b (fun x hx => h1 x (by simp [hx])) (fun x hx => h2 x (by simp [hx])) h4]
theorem hexB_no (s : List UInt8) : (32 : UInt8) ∉ hexB s := by
  intro h
  unfold hexB at h
  obtain ⟨b, _, hb⟩ := List.mem_flatMap.1 h
  have key : ∀ y : Fin 16, hexD y.val ≠ 32 := by decide
  have hlt := UInt8.toNat_lt b
  simp only [List.mem_cons, List.not_mem_nil, or_false] at hb
  rcases hb with e | e
  · exact key ⟨b.toNat / 16, by omega⟩ e.symm
  · exact key ⟨b.toNat % 16, by omega⟩ e.symm
theorem numB_nat (u : Nat) : numB (u : Int) = decDigits u := by unfold numB; exact itoa_nonneg u
theorem numB_neg (u : Nat) (h : 1 ≤ u) : numB (-(u : Int)) = 45 :: decDigits u := by unfold numB; exact itoa_neg u h
theorem dec_low (u : Nat) : ∀ b ∈ decDigits u, 48 ≤ b.toNat := fun b hb => (decDigits_all u u (Nat.le_refl _) b hb).1
theorem numB_no (z : Int) : (32 : UInt8) ∉ numB z := by
  rcases Int.lt_or_le z 0 with h | h
  · obtain ⟨u, rfl⟩ : ∃ u : Nat, z = -(u : Int) := ⟨(-z).toNat, by omega⟩
    rw [numB_neg u (by omega)]
    intro e
    rcases List.mem_cons.1 e with e | e
    · exact absurd e (by decide)
    · exact absurd (dec_low u _ e) (by decide)
  · obtain ⟨u, rfl⟩ : ∃ u : Nat, z = (u : Int) := ⟨z.toNat, by omega⟩
    rw [numB_nat]
    intro e
    exact absurd (dec_low u _ e) (by decide)
theorem numB_inj {x y : Int} (h : numB x = numB y) : x = y := by
  rcases Int.lt_or_le x 0 with hx | hx <;> rcases Int.lt_or_le y 0 with hy | hy
  · obtain ⟨u, rfl⟩ : ∃ u : Nat, x = -(u : Int) := ⟨(-x).toNat, by omega⟩
    obtain ⟨t, rfl⟩ : ∃ t : Nat, y = -(t : Int) := ⟨(-y).toNat, by omega⟩
    rw [numB_neg u (by omega), numB_neg t (by omega)] at h
    have := dec_inj (List.cons.inj h).2
    rw [this]
  · obtain ⟨u, rfl⟩ : ∃ u : Nat, x = -(u : Int) := ⟨(-x).toNat, by omega⟩
    obtain ⟨t, rfl⟩ : ∃ t : Nat, y = (t : Int) := ⟨y.toNat, by omega⟩
    rw [numB_neg u (by omega), numB_nat] at h
    exact absurd (dec_low t 45 (by rw [← h]; simp)) (by decide)
  · obtain ⟨u, rfl⟩ : ∃ u : Nat, x = (u : Int) := ⟨x.toNat, by omega⟩
    obtain ⟨t, rfl⟩ : ∃ t : Nat, y = -(t : Int) := ⟨(-y).toNat, by omega⟩
    rw [numB_neg t (by omega), numB_nat] at h
    exact absurd (dec_low u 45 (by rw [h]; simp)) (by decide)
  · obtain ⟨u, rfl⟩ : ∃ u : Nat, x = (u : Int) := ⟨x.toNat, by omega⟩
    obtain ⟨t, rfl⟩ : ∃ t : Nat, y = (t : Int) := ⟨y.toNat, by omega⟩
    rw [numB_nat, numB_nat] at h
    rw [dec_inj h]
end Go.Proofs.YtjjgadanobeamaaGreatDoor

namespace Go.Proofs.YtjjgadanobeamaaGreatDoor
open Go.Lib
set_option linter.unusedVariables false
set_option linter.unusedSimpArgs false
set_option maxRecDepth 20000

def Says (T : FsP) (i : Int) (a : NodeV) (s : Int) (l : List Fp) : Prop :=
  ∃ n, T.nd i = some n ∧ n.names = [] ∧ n.data = l ∧ n.v.size = s ∧ n.v.kind = a.kind ∧ n.v.mode = a.mode ∧ n.v.user = a.user ∧ n.v.group = a.group ∧ n.v.time = a.time ∧ n.v.tgt = a.tgt ∧ n.v.major = a.major ∧ n.v.minor = a.minor
structure Tu (T : FsP) (ns : Nms) (x c u : Int) : Prop where
  quo : T.quota = 100
  root : ∃ d, T.nd 1 = some d ∧ d.v.kind = 6 ∧ d.names = ns
  next : T.next = x
  clk : T.clock ≤ c
  used : T.used ≤ u
  cnt : T.cnt ≤ x.toNat
theorem tu_new : Tu (newT 100) [] 1 0 0 := ⟨rfl, ⟨rootN, rfl, rfl, rfl⟩, rfl, by decide, by decide, by decide⟩
theorem tu_make {T : FsP} {ns : Nms} {x c u : Int} (h : Tu T ns x c u) (hx : 1 ≤ x ∧ x ≤ 10) (k : List UInt8) (hk : okN (strB k) = true) (hg : getK ns k = none) (a : NodeV) (ha : mayB a = true) (hs : a.size = 0) :
    ∃ T', makeP T 1 k a = (T', x + 1, 0) ∧ Tu T' (putK ns k (x + 1)) (x + 1) (c + 1) u ∧ Says T' (x + 1) a 0 [] ∧ ∀ i b s l, i ≠ 1 → i ≠ x + 1 → Says T i b s l → Says T' i b s l := by
  obtain ⟨d, d1, d2, d3⟩ := h.root
  have hq := h.quo; have hn := h.next; have hc := h.clk; have hu := h.used; have ht := h.cnt
  refine ⟨makeT T 1 d k a, ?_, ⟨hq, ⟨{ touch (T.clock + 1) d with names := putK d.names k (T.next + 1) }, ?_, d2, by rw [← hn, ← d3]⟩, by show T.next + 1 = _; omega, by show T.clock + 1 ≤ _; omega, hu, by show T.cnt + 1 ≤ _; omega⟩, ?_, ?_⟩
  · rw [makeP_yes a d1 d2 hk, if_pos ha, d3, hg, if_neg (by decide), if_neg (by omega), hn]
  · show updN (updN T.nd 1 _) (T.next + 1) _ 1 = _
    rw [updN_other _ _ (by omega), updN_same]
  · refine ⟨freshN a (T.clock + 1) 1, ?_, rfl, rfl, hs, rfl, rfl, rfl, rfl, rfl, rfl, rfl, rfl⟩
    show updN (updN T.nd 1 _) (T.next + 1) _ (x + 1) = _
    rw [hn, updN_same]
  · rintro i b s l h1 h2 ⟨n, n1, n2⟩
    refine ⟨n, ?_, n2⟩
    show updN (updN T.nd 1 _) (T.next + 1) _ i = _
    rw [hn, updN_other _ _ h2, updN_other _ _ h1]; exact n1
theorem tu_grow {T : FsP} {ns : Nms} {x c u : Int} (h : Tu T ns x c u) {i : Int} (hi : i ≠ 1) {a : NodeV} {s0 : Int} (hs : Says T i a s0 []) (s : Int) (h0 : 0 ≤ s ∧ s ≤ 1000) :
    ∃ T' e, growP T i s = (T', e) ∧ Tu T' ns x (c + 1) u ∧ Says T' i a (if a.kind = 1 then s else s0) [] ∧ ∀ j b s l, j ≠ i → Says T j b s l → Says T' j b s l := by
  obtain ⟨n, n1, n2, n3, n4, n5, n6⟩ := hs
  have hc := h.clk
  by_cases hk : a.kind = 1
  · rw [if_pos hk]
    have hk' : n.v.kind = 1 := by rw [n5]; exact hk
    refine ⟨growT T i n s, 0, by rw [growP_yes n1 hk', if_neg (by omega)], ⟨h.quo, ?_, h.next, by show T.clock + 1 ≤ _; omega, ?_, h.cnt⟩, ⟨grN n (T.clock + 1) s, updN_same _ _ _, n2, by show cutP n.data s = []; rw [n3]; rfl, rfl, n5, n6⟩, ?_⟩
    · obtain ⟨d, d1, d2⟩ := h.root
      exact ⟨d, by show updN T.nd i _ 1 = _; rw [updN_other _ _ (fun e => hi e.symm)]; exact d1, d2⟩
    · show T.used - ((sizeD n.data : Int) - (sizeD (cutP n.data s) : Int)) ≤ u
      rw [n3]
      have := h.used
      have e : sizeD (cutP [] s) = 0 := rfl
      have e2 : sizeD [] = 0 := rfl
      rw [e, e2]; omega
    · rintro j b s l h1 ⟨m, m1, m2⟩
      exact ⟨m, by show updN T.nd i _ j = _; rw [updN_other _ _ h1]; exact m1, m2⟩
  · rw [if_neg hk]
    have hf : fileE T i ≠ 0 := by unfold fileE; rw [n1]; simp only; rw [if_neg (by rw [n5]; exact hk)]; decide
    refine ⟨T, _, growP_no hf, ⟨h.quo, h.root, h.next, by omega, h.used, h.cnt⟩, ⟨n, n1, n2, n3, n4, n5, n6⟩, fun j b s l _ q => q⟩
theorem tu_write {T : FsP} {ns : Nms} {x c u : Int} (h : Tu T ns x c u) (hu : u ≤ 90) {i : Int} (hi : i ≠ 1) {a : NodeV} {s0 : Int} (hs : Says T i a s0 []) (b : UInt8) :
    ∃ T' e, writeP T i 4 [b] = (T', e) ∧ Tu T' ns x (c + 1) (u + 1) ∧ Says T' i a (if a.kind = 1 then max s0 5 else s0) (if a.kind = 1 then [(4, [b])] else []) ∧ ∀ j b s l, j ≠ i → Says T j b s l → Says T' j b s l := by
  obtain ⟨n, n1, n2, n3, n4, n5, n6⟩ := hs
  have hc := h.clk
  by_cases hk : a.kind = 1
  · rw [if_pos hk, if_pos hk]
    have hk' : n.v.kind = 1 := by rw [n5]; exact hk
    have hr : (T.quota - T.used).toNat ≠ 0 := by have := h.quo; have := h.used; omega
    have hfit : fitP T n 4 [b] = (1, 1) := by
      unfold fitP
      rw [n3]
      show fitB (isD []) 1 4 (T.quota - T.used).toNat = (1, 1)
      obtain ⟨r, hr2⟩ : ∃ r, (T.quota - T.used).toNat = r + 1 := ⟨(T.quota - T.used).toNat - 1, by omega⟩
      rw [hr2]
      simp [fitB, isD]
    refine ⟨writeT T i n 4 [b] 1, 0, by rw [writeP_yes n1 hk', if_neg (by simp), hfit]; rfl, ⟨h.quo, ?_, h.next, by show T.clock + 1 ≤ _; omega, ?_, h.cnt⟩, ⟨wrN n (T.clock + 1) 4 [b], updN_same _ _ _, n2, by show putP n.data 4 [b] = _; rw [n3]; rfl, by show max n.v.size (4 + (1 : Nat)) = _; rw [n4]; rfl, n5, n6⟩, ?_⟩
    · obtain ⟨d, d1, d2⟩ := h.root
      exact ⟨d, by show updN T.nd i _ 1 = _; rw [updN_other _ _ (fun e => hi e.symm)]; exact d1, d2⟩
    · show T.used + ((1 : Nat) : Int) ≤ u + 1
      have := h.used; omega
    · rintro j b s l h1 ⟨m, m1, m2⟩
      exact ⟨m, by show updN T.nd i _ j = _; rw [updN_other _ _ h1]; exact m1, m2⟩
  · rw [if_neg hk, if_neg hk]
    have hf : fileE T i ≠ 0 := by unfold fileE; rw [n1]; simp only; rw [if_neg (by rw [n5]; exact hk)]; decide
    refine ⟨T, _, writeP_no hf, ⟨h.quo, h.root, h.next, by omega, by have := h.used; omega, h.cnt⟩, ⟨n, n1, n2, n3, n4, n5, n6⟩, fun j b s l _ q => q⟩
theorem tu_link {T : FsP} {ns : Nms} {x c u : Int} (h : Tu T ns x c u) {i : Int} (hi : i ≠ 1) {a : NodeV} {s : Int} {l : List Fp} (hs : Says T i a s l) (ha : a.kind ≠ 6) (k : List UInt8) (hk : okN (strB k) = true) (hg : getK ns k = none) :
    ∃ T', linkP T 1 k i = (T', 0) ∧ Tu T' (putK ns k i) x (c + 1) u ∧ ∀ j b s l, j ≠ 1 → Says T j b s l → Says T' j b s l := by
  obtain ⟨d, d1, d2, d3⟩ := h.root
  obtain ⟨n, n1, n2, n3, n4, n5, n6⟩ := hs
  have hc := h.clk
  refine ⟨linkT T 1 d k i n, ?_, ⟨h.quo, ⟨named (T.clock + 1) d (putK d.names k i), ?_, d2, by rw [← d3]; rfl⟩, h.next, by show T.clock + 1 ≤ _; omega, h.used, h.cnt⟩, ?_⟩
  · rw [linkP_yes n1 d1 d2 hk, if_neg (by rw [n5]; exact ha), d3, hg, if_neg (by decide)]
  · show updN (updN T.nd 1 _) i _ 1 = _
    rw [updN_other _ _ (fun e => hi e.symm), updN_same]
  · rintro j b s' l' h1 ⟨m, m1, m2⟩
    by_cases hj : j = i
    · subst hj
      rw [n1] at m1
      cases m1
      exact ⟨linked (T.clock + 1) 1 n, updN_same _ _ _, m2⟩
    · refine ⟨m, ?_, m2⟩
      show updN (updN T.nd 1 _) i _ j = _
      rw [updN_other _ _ hj, updN_other _ _ h1]; exact m1
/-! ### what is told -/
def moreV (a : NodeV) (s : Int) (l : List Fp) : List (List UInt8) :=
  if a.kind = 1 then [numB s, numB (crcOf 0 (byN (readD l 0 (manyP s 0 s))) : Nat)]
  else if a.kind = 3 then [hexB a.tgt.data.toList]
  else if a.kind = 4 ∨ a.kind = 5 then [numB a.major, numB a.minor]
  else []
def wordsV (q : List UInt8) (a : NodeV) (s : Int) (l : List Fp) (f : Nat) : List (List UInt8) :=
  [hexB q] ++ [numB a.kind, numB a.mode, numB a.user, numB a.group, numB a.time] ++ moreV a s l ++ [numB (f : Nat)]
theorem says_words {T : FsP} {q : List UInt8} {i : Int} {a : NodeV} {s : Int} {l : List Fp} (h : Says T i a s l) (h0 : 0 ≤ s ∧ s ≤ 1048576) (all : List SeenP) : wordsP T id all (q, i) = wordsV q a s l (firstP all i) := by
  obtain ⟨n, n1, n2, n3, n4, n5, n6, n7, n8, n9, n10, n11, n12⟩ := h
  have e : statP T i = (n.v, 0) := by unfold statP; rw [n1]
  have hm : moreW T i n.v = moreV a s l := by
    unfold moreW moreV
    rw [n4, n5, n10, n11, n12]
    by_cases hk : a.kind = 1
    · rw [if_pos hk, if_pos hk]
      unfold contentP
      rw [if_pos h0.2, readP_yes n1 (by rw [n5]; exact hk), if_neg (by omega), n3, n4]
    · rw [if_neg hk, if_neg hk]
  unfold wordsP wordsV
  simp only [e, hm, n5, n6, n7, n8, n9, id]
theorem moreV_no (a : NodeV) (s : Int) (l : List Fp) : ∀ x ∈ moreV a s l, (32 : UInt8) ∉ x := by
  intro x hx
  unfold moreV at hx
  split at hx
  · simp at hx; rcases hx with rfl | rfl <;> exact numB_no _
  · split at hx
    · simp only [List.mem_cons, List.not_mem_nil, or_false] at hx; subst hx; exact hexB_no _
    · split at hx
      · simp at hx; rcases hx with rfl | rfl <;> exact numB_no _
      · cases hx
theorem wordsV_no (q : List UInt8) (a : NodeV) (s : Int) (l : List Fp) (f : Nat) : ∀ x ∈ wordsV q a s l f, (32 : UInt8) ∉ x := by
  intro x hx
  unfold wordsV at hx
  rcases List.mem_append.1 hx with hx | hx
  · rcases List.mem_append.1 hx with hx | hx
    · rcases List.mem_append.1 hx with hx | hx
      · simp at hx; subst hx; exact hexB_no _
      · simp at hx
        rcases hx with rfl | rfl | rfl | rfl | rfl <;> exact numB_no _
    · exact moreV_no _ _ _ x hx
  · simp at hx; subst hx; exact numB_no _
theorem lineV_inj {q q' : List UInt8} {a b : NodeV} {s t : Int} {l m : List Fp} {f g : Nat} (h : lineW (wordsV q a s l f) = lineW (wordsV q' b t m g)) :
    hexB q = hexB q' ∧ a.kind = b.kind ∧ a.mode = b.mode ∧ a.user = b.user ∧ a.group = b.group ∧ a.time = b.time ∧ moreV a s l = moreV b t m ∧ f = g := by
  have e := lineW_inj (by unfold wordsV; simp) (by unfold wordsV; simp) (wordsV_no q a s l f) (wordsV_no q' b t m g) h
  unfold wordsV at e
  obtain ⟨e1, e2⟩ := List.append_inj' e rfl
  obtain ⟨e3, e4⟩ := List.append_inj e1 rfl
  simp only [List.cons_append, List.nil_append, List.cons.injEq, and_true] at e2 e3
  obtain ⟨q1, q2, q3, q4, q5, q6⟩ := e3
  exact ⟨q1, numB_inj q2, numB_inj q3, numB_inj q4, numB_inj q5, numB_inj q6, e4, by have := numB_inj e2; omega⟩
/-! ### both trees at their end -/
def finS (a : NodeV) (s : Int) : Int := if a.kind = 1 then max s 5 else 0
def finL (a : NodeV) (c : UInt8) : List Fp := if a.kind = 1 then [(4, [c])] else []
def rowF (a : NodeV) (link : Bool) : List (List UInt8) :=
  [lineW (wordsV [110] a (finS a 10) (finL a 1) 0), lineW (wordsV [122] a (if link then finS a 10 else 0) (if link then finL a 1 else []) 1)]
def rowG (a b : NodeV) (s : List UInt8) (size : Int) (c : UInt8) (link : Bool) : List (List UInt8) :=
  [lineW (wordsV s b (finS b size) (finL b c) 0), if link then lineW (wordsV [122] b (finS b size) (finL b c) 0) else lineW (wordsV [122] a 0 [] 1)]
end Go.Proofs.YtjjgadanobeamaaGreatDoor
