/-
  same.Text; what the document fixes of trees alike (awake).
-/
import Derived.Test.YtjjgadanobeamaaGreatDoorMs14
namespace Go.Proofs.YtjjgadanobeamaaGreatDoor
open Go.RowKit Go.Shelf
set_option linter.unusedVariables false
set_option linter.unusedSimpArgs false
set_option maxRecDepth 20000

set_option maxHeartbeats 1000000 in
theorem text_any {S : Nat → Prop} {w : World} {f : Nat} {T : FsP} (h : FsSt S w f T) (htab : Pow10 w) (hclk : T.clock ≤ 1000000000) (k : Nat) (hk : k ≤ 1000000) (dir : Int) (hdir : -9223372036854775808 ≤ dir ∧ dir ≤ 9223372036854775807) (hd : Deep T k dir) (all : List SeenP) (hall : allP T k dir [] = all) (hl : all.length ≤ 1000000)
    (hq : ∀ q ∈ all, q.1.length ≤ 1000000 ∧ (1 ≤ q.2 ∧ q.2 ≤ 4611686018427387904) ∧ ∃ n, T.nd q.2 = some n ∧ n.v.size ≤ 1048576) :
    Calls Tryz.prog 13 #[.pointer (some ⟨f, 0, none⟩), .int .i64 dir] w fun e w' => ∃ a l c, e = .returned (.slice a l c) ∧ Hid (StrSt w w' a l c (textP T id all)) := by
  have H := Lib.hid (text_core h htab hclk k hk dir hdir hd all hall hl hq)
  clear h htab hd hall hl hq
  go_enter Tryz.func13, Tryz.ntmps13
  go_wp2_with (go_at_call 24; refine H.out.mono ?_; rintro e w1 ⟨a, l, c, rfl, hq⟩)
  go_ret
  exact ⟨a, l, c, rfl, hq⟩
/-! ### one file -/
def av15 : NodeV := { kind := 1, mode := 8, user := 0, group := 0, time := 5, tgt := ⟨#[]⟩, major := 0, minor := 0, size := 0, links := 0, change := 0 }
def at15 : FsP := (makeP (newT 10) 1 [97] av15).1
theorem at_make : (makeP (newT 10) 1 [97] av15).2 = (2, 0) := by kernel_rfl
theorem at_n1 : namesP at15 1 = [([97], 2)] := by kernel_rfl
theorem at_n2 : namesP at15 2 = [] := by kernel_rfl
theorem at_deep : Deep at15 1 1 := by
  intro p hp
  rw [at_n1] at hp
  simp at hp; subst hp
  exact at_n2
theorem at_all : allP at15 1 1 [] = [([97], 2)] := by kernel_rfl
theorem at_stat : (statP at15 2).1 = { kind := 1, mode := 8, user := 0, group := 0, time := 5, tgt := ⟨#[]⟩, major := 0, minor := 0, size := 0, links := 1, change := 1 } := by kernel_rfl
theorem at_clock : at15.clock = 1 := by kernel_rfl
theorem at_nd : ∃ n, at15.nd 2 = some n ∧ n.v.size ≤ 1048576 := ⟨freshN av15 1 1, by kernel_rfl, by decide⟩
theorem at_cont : contentP at15 2 0 = 0 := by
  unfold contentP
  rw [if_pos (by decide)]
  have : (readP at15 2 0 0).1 = [] := by kernel_rfl
  rw [this]
  exact crcOf_nil 0 (by decide)
theorem numB_digit (u : Nat) (hu : u < 10) : numB (u : Int) = [UInt8.ofNat (48 + u)] := by
  unfold numB
  rw [Lib.itoa_nonneg, decDigits_lt hu]
theorem at_text : textP at15 id [([97], 2)] = [[54, 49, 32, 49, 32, 56, 32, 48, 32, 48, 32, 53, 32, 48, 32, 48, 32, 48]] := by
  have e0 : numB 0 = [48] := numB_digit 0 (by decide)
  have e1 : numB 1 = [49] := numB_digit 1 (by decide)
  have e5 : numB 5 = [53] := numB_digit 5 (by decide)
  have e8 : numB 8 = [56] := numB_digit 8 (by decide)
  have hf : ((firstP [([97], 2)] 2 : Nat) : Int) = 0 := by kernel_rfl
  have hm : moreW at15 2 (statP at15 2).1 = [[48], [48]] := by
    rw [at_stat]
    unfold moreW
    rw [if_pos rfl]
    show [numB 0, numB (contentP at15 2 0 : Nat)] = _
    rw [at_cont]
    show [numB 0, numB 0] = _
    rw [e0]
  have hw : wordsP at15 id [([97], 2)] ([97], 2) = [[54, 49], [49], [56], [48], [48], [53], [48], [48], [48]] := by
    unfold wordsP
    rw [hm, hf, at_stat]
    show [hexB [97]] ++ [numB 1, numB 8, numB 0, numB 0, numB 5] ++ [[48], [48]] ++ [numB 0] = _
    rw [e0, e1, e5, e8]
    rfl
  show [lineW (wordsP at15 id [([97], 2)] ([97], 2))] = _
  rw [hw]
  rfl
set_option maxHeartbeats 4000000 in
theorem awake15_any (w : World) (htab : Pow10 w) : Calls Tryz.prog 14 #[] w fun e w' => e = .returned (.bool true) ∧ Kept NoB w w' := by
  have HNew := Lib.hid (new_any 10 w (by decide))
  have HTb := Lib.hid htab
  clear htab
  go_enter Tryz.func14, Tryz.ntmps14
  go_wp2_with fail
  refine HNew.out.mono ?_
  rintro e w1 ⟨f, rfl, hf1, hk1⟩
  have F1 := Lib.hid (FsOwn.made hf1 hk1)
  clear hf1 hk1 HNew
  have HM1 : Hid (Calls Tryz.prog 6 #[.pointer (some ⟨f, 0, none⟩), .int .i64 1, .string { data := #[97] }, .agg #[.int .i64 1, .int .i64 8, .int .i64 0, .int .i64 0, .int .i64 5, .string { data := #[] }, .int .i64 0, .int .i64 0, .int .i64 0, .int .i64 0, .int .i64 0]] w1 fun e w' => e = .returned (.tuple #[.int .i64 2, .int .i64 0]) ∧ Hid (FsOwn w w' f at15)) := Lib.hid (by
    have := make_any F1.out.st 1 (by decide) [97] (by decide) av15 (by decide) (by decide)
    refine Calls.mono this ?_
    rintro e w' ⟨rfl, h1, h2⟩
    refine ⟨by rw [at_make], Lib.hid (F1.out.step h1 h2)⟩)
  go_wp2_with fail
  refine HM1.out.mono ?_
  rintro e w2 ⟨rfl, F2⟩
  clear HM1
  have HTx := Lib.hid (text_any F2.out.st (HTb.out.keptNo F2.out.keep) (by rw [at_clock]; decide) 1 (by decide) 1 (by decide) at_deep [([97], 2)] at_all (by decide) (by
    intro q hq
    simp at hq; subst hq
    exact ⟨by decide, ⟨by decide, by decide⟩, at_nd⟩))
  go_wp2_with fail
  refine HTx.out.mono ?_
  rintro e w3 ⟨a, l, c, rfl, HS⟩
  rw [at_text] at HS
  obtain rfl : l = 1 := HS.out.len
  obtain ⟨g, off, rfl, _, s0⟩ := HS.out.reads 0 (by decide)
  have hk3 := HS.out.kept
  have F3 := Lib.hid (F2.out.kept hk3)
  have s1 : w3.cell? ⟨g, off, none⟩ = some (.string { data := #[54, 49, 32, 49, 32, 56, 32, 48, 32, 48, 32, 53, 32, 48, 32, 48, 32, 48] }) := s0
  have HS1 : Hid (∀ W, Calls Tryz.prog 15 #[.int .i64 (-1)] W fun e w' => e = .returned (.int .i64 (-1)) ∧ W = w') := Lib.hid (fun W => secs_any (-1) W (by decide))
  have HS2 : Hid (∀ W, Calls Tryz.prog 15 #[.int .i64 2000000000] W fun e w' => e = .returned (.int .i64 2) ∧ W = w') := Lib.hid (fun W => secs_any 2000000000 W (by decide))
  clear HTx HS s0 hk3 F2
  go_wp2_with (go_at_call 15; first | (with_reducible refine (HS1.out _).mono ?_; rintro e w4 ⟨rfl, rfl⟩) | (with_reducible refine (HS2.out _).mono ?_; rintro e w4 ⟨rfl, rfl⟩))
  go_ret
  exact ⟨rfl, F3.out.keep⟩
end Go.Proofs.YtjjgadanobeamaaGreatDoor
