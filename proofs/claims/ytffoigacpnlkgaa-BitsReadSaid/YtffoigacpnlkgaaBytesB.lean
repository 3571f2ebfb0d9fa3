/-
  Reader.Bytes, and the document's own.
-/
import Derived.Test.YtffoigacpnlkgaaRefB
namespace Go.Proofs.Ytffoigacpnlkgaa
open Go.RowKit
set_option linter.unusedVariables false

theorem own_nil_cap {w : World} {ao : Option Addr} {n cap : Nat} {xs : List Value} (h : w.ownsRow 0 5 1 (.slice ao n cap) n xs) : ao = none → cap = 0 := by
  rintro rfl
  rcases h.2 with ⟨h1, _⟩ | ⟨g, c, cur, h1, _⟩
  · simp at h1; exact h1.2
  · simp at h1
theorem str_extract (bs : List Int) (a n : Nat) : (strOfNums bs).extract a (a + n) = strOfNums ((bs.drop a).take n) := by
  apply ByteArray.ext
  apply Array.ext'
  rw [strOfNums_data]
  simp [strOfNums_data, List.map_take, List.map_drop]

set_option maxHeartbeats 2000000 in
theorem refBytes_yes (w : World) (R : Nat) (bs : List Int) (p n : Nat) (h : Rfb w R bs p) (hn : up8 p + 8 * n ≤ 8 * bs.length) :
    Calls Try.prog 29 #[.pointer (some ⟨R, 0, none⟩), .int .i64 n] w fun e w' => e = .returned (.tuple #[.string (strOfNums ((bs.drop (up8 p / 8)).take n)), .bool true]) ∧ Rfb w' R bs (up8 p + 8 * n) ∧ Kept (OneB R) w w' := by
  have hlm := h.2.2.1
  have h8 : up8 p % 8 = 0 := by unfold up8; omega
  have H := Lib.hid h; clear h
  generalize hP : up8 p = P at hn h8 ⊢
  have HP := Lib.hid hP; clear hP
  obtain ⟨f, hf⟩ : ∃ f, f = P / 8 := ⟨_, rfl⟩
  have hdiv : (P : Int) / 8 = f := by omega
  have hnl : ¬ (8 * (bs.length : Int) - P) / 8 < n := by omega
  have hfn : f + n ≤ bs.length := by omega
  have hx := str_extract bs f n
  rw [← hf]
  have HX := Lib.hid hx; have HF := Lib.hid hf; clear hx hf
  go_enter Try.func29, Try.ntmps29
  go_wp2_with fail
  refine (refAlign_any _ _ _ _ H.out).mono ?_
  rintro e w1 ⟨rfl, hR, hk1⟩
  rw [HP.out] at hR
  have HR := Lib.hid hR; have HK := Lib.hid hk1; clear hR hk1
  go_wp2_with (go_at_call 31; refine (refLeft_any _ _ _ _ HR.out).mono ?_; rintro e w2 ⟨rfl, hk2⟩)
  have hR2 := HR.out.kept hk2 (fun h => h)
  have hsz : (strOfNums bs).size = bs.length := strOfNums_size bs
  have c0 : w2.cell? ⟨R, 0, none⟩ = some (.string (strOfNums bs)) := by simpa using obj_cell hR2.1 0
  have c1 : w2.cell? ⟨R, 1, none⟩ = some (.int .i64 P) := by simpa using obj_cell hR2.1 1
  have f1 : w2.frozen? ⟨R, 1, none⟩ = false := obj_free hR2.1 1
  have HR2 := Lib.hid hR2; have HK2 := Lib.hid (HK.out.trans (hk2.mono (fun _ _ h => h.elim))); clear hR2 hk2
  go_wp2_with fail
  go_quiet (fail)
  rw [HX.out]
  go_wp2
  go_ret2
  have e : ((P : Int) + 8 * n) = ((P + 8 * n : Nat) : Int) := by push_cast; rfl
  rw [e]
  exact ⟨rfl, HR2.out.moved ((Kept.refl NoB w2).drewN nq) hn, Kept.setCell (S := OneB R) (p := ⟨R, 1, none⟩) (HK2.out.drewN nq) (.inl rfl) _⟩

set_option maxHeartbeats 2000000 in
theorem refBytes_no (w : World) (R : Nat) (bs : List Int) (p : Nat) (n : Int) (h : Rfb w R bs p) (hn : n < 0 ∨ 8 * bs.length < up8 p + 8 * n) :
    Calls Try.prog 29 #[.pointer (some ⟨R, 0, none⟩), .int .i64 n] w fun e w' => e = .returned (.tuple #[.string (strOfNums []), .bool false]) ∧ Rfb w' R bs (up8 p) ∧ Kept (OneB R) w w' := by
  have hlm := h.2.2.1
  have h8 : up8 p % 8 = 0 ∧ up8 p ≤ 8 * bs.length := by have := h.2.2.2; unfold up8; omega
  have H := Lib.hid h; clear h
  generalize hP : up8 p = P at hn h8 ⊢
  have HP := Lib.hid hP; clear hP
  go_enter Try.func29, Try.ntmps29
  go_wp2_with fail
  refine (refAlign_any _ _ _ _ H.out).mono ?_
  rintro e w1 ⟨rfl, hR, hk1⟩
  rw [HP.out] at hR
  have HR := Lib.hid hR; have HK := Lib.hid hk1; clear hR hk1
  by_cases h0 : n < 0
  · go_wp2
    go_ret2
    exact ⟨rfl, HR.out, HK.out⟩
  · have h1 : (8 * (bs.length : Int) - P) / 8 < n := by omega
    go_wp2_with (go_at_call 31; refine (refLeft_any _ _ _ _ HR.out).mono ?_; rintro e w2 ⟨rfl, hk2⟩)
    go_ret2
    exact ⟨rfl, HR.out.kept hk2 (fun h => h), HK.out.trans (hk2.mono (fun _ _ h => h.elim))⟩

set_option maxHeartbeats 2000000 in
theorem bytes_no (w : World) (R : Nat) (ao : Option Addr) (cap : Nat) (bs : List Int) (p : Nat) (n : Int) (h : Rdr w R ao cap bs p) (hn : n < 0 ∨ 8 * bs.length < up8 p + 8 * n) :
    Calls Try.prog 28 #[.pointer (some ⟨R, 0, none⟩), .int .i64 n] w fun e w' => e = .returned (.tuple #[.slice none 0 0, .bool false]) ∧ Rdr w' R ao cap bs (up8 p) ∧ Kept (OneB R) w w' := by
  have hlm := h.2.2.1
  have h8 : up8 p % 8 = 0 ∧ up8 p ≤ 8 * bs.length := by have := h.2.2.2.1; unfold up8; omega
  have H := Lib.hid h; clear h
  generalize hP : up8 p = P at hn h8 ⊢
  have HP := Lib.hid hP; clear hP
  go_enter Try.func28, Try.ntmps28
  go_wp2_with fail
  refine (ralign_any _ _ _ _ _ _ H.out).mono ?_
  rintro e w1 ⟨rfl, hR, hk1⟩
  rw [HP.out] at hR
  have HR := Lib.hid hR; have HK := Lib.hid hk1; clear hR hk1
  by_cases h0 : n < 0
  · go_wp2
    go_ret2
    exact ⟨rfl, HR.out, HK.out⟩
  · have h1 : (8 * (bs.length : Int) - P) / 8 < n := by omega
    go_wp2_with (go_at_call 18; refine (left_any _ _ _ _ _ _ HR.out).mono ?_; rintro e w2 ⟨rfl, hk2⟩)
    go_ret2
    exact ⟨rfl, HR.out.keptNo hk2, HK.out.trans (hk2.mono (fun _ _ h => h.elim))⟩

/-- What Reader.Bytes tells: a copy, as a string. -/
def Gave (R : Nat) (ao : Option Addr) (cap : Nat) (bs xs : List Int) (q : Nat) (w : World) (e : Ending) (w' : World) : Prop :=
  ∃ ao' cap', e = .returned (.tuple #[.slice ao' xs.length cap', .bool true]) ∧ Hid ((convert 22 9 (.slice ao' xs.length cap')).run Try.prog w' = .ok (.string (strOfNums xs)) w') ∧ Hid (Reads w' ao' xs) ∧ Hid (w'.ownsRow 0 5 1 (.slice ao' xs.length cap') xs.length (xs.map (.int .u8))) ∧ Rdr w' R ao cap bs q ∧ Kept (OneB R) w w'
set_option maxHeartbeats 2000000 in
set_option maxRecDepth 20000 in
theorem bytes_yes (w : World) (R : Nat) (ao : Option Addr) (cap : Nat) (bs : List Int) (p n : Nat) (h : Rdr w R ao cap bs p) (hb47 : bs.length ≤ 140737488355328) (hn : up8 p + 8 * n ≤ 8 * bs.length) :
    Calls Try.prog 28 #[.pointer (some ⟨R, 0, none⟩), .int .i64 n] w (Gave R ao cap bs ((bs.drop (up8 p / 8)).take n) (up8 p + 8 * n) w) := by
  have hlm := h.2.2.1
  have h8 : up8 p % 8 = 0 := by unfold up8; omega
  have hcap : bs.length ≤ cap ∧ cap ≤ maxLen := by
    rcases h.2.1.2 with ⟨h1, _⟩ | ⟨g, c, cur, h1, _, _, h2, h3, _⟩
    · simp at h1; unfold maxLen; omega
    · simp at h1; omega
  have H := Lib.hid h; clear h
  generalize hP : up8 p = P at hn h8 ⊢
  have HP := Lib.hid hP; clear hP
  obtain ⟨f, hf⟩ : ∃ f, f = P / 8 := ⟨_, rfl⟩
  have hdiv : (P : Int) / 8 = f := by omega
  have hnl : ¬ (8 * (bs.length : Int) - P) / 8 < n := by omega
  have hfn : f + n ≤ bs.length := by omega
  rw [← hf]
  have HF := Lib.hid hf; clear hf
  have hxl : ((bs.drop f).take n).length = n := by rw [List.length_take, List.length_drop]; omega
  have HXl := Lib.hid hxl; clear hxl
  go_enter Try.func28, Try.ntmps28
  go_wp2_with fail
  refine (ralign_any _ _ _ _ _ _ H.out).mono ?_
  rintro e w1 ⟨rfl, hR, hk1⟩
  rw [HP.out] at hR
  have HR := Lib.hid hR; have HK := Lib.hid hk1; clear hR hk1
  go_wp2_with fail
  refine (left_any _ _ _ _ _ _ HR.out).mono ?_
  rintro e w2 ⟨rfl, hk2⟩
  have hR2 := HR.out.keptNo hk2
  have c0 : w2.cell? ⟨R, 0, none⟩ = some (.slice ao bs.length cap) := by simpa using obj_cell hR2.1 0
  have c1 : w2.cell? ⟨R, 1, none⟩ = some (.int .i64 P) := by simpa using obj_cell hR2.1 1
  have f1 : w2.frozen? ⟨R, 1, none⟩ = false := obj_free hR2.1 1
  have HR2 := Lib.hid hR2; have HK2 := Lib.hid (HK.out.trans (hk2.mono (fun _ _ h => h.elim))); clear hR2 hk2
  have hfi : (f : Int) + n ≤ cap := by omega
  have hf0 : (0 : Int) ≤ (f : Int) + n := by omega
  go_upto_region 6 with fail
  have e : ((P : Int) + 8 * n) = ((P + 8 * n : Nat) : Int) := by push_cast; rfl
  have hR3 : Rdr (w2.setCell ⟨R, 1, none⟩ (.int .i64 ((P : Int) + 8 * n))) R ao cap bs (P + 8 * n) := by
    rw [e]; exact HR2.out.moved (Kept.refl _ _) hn
  have hK3 : Kept (OneB R) w (w2.setCell ⟨R, 1, none⟩ (.int .i64 ((P : Int) + 8 * n))) := Kept.setCell (S := OneB R) (p := ⟨R, 1, none⟩) HK2.out (.inl rfl) _
  have HR3 := Lib.hid hR3; have HK3 := Lib.hid hK3
  clear hR3 hK3 c0 c1 f1 HR2 HK2 e
  generalize w2.setCell ⟨R, 1, none⟩ (.int .i64 ((P : Int) + 8 * n)) = w3 at HR3 HK3 ⊢
  have c0 : w3.cell? ⟨R, 0, none⟩ = some (.slice ao bs.length cap) := by simpa using obj_cell HR3.out.1 0
  have hrd := own_reads HR3.out.2.1 rfl
  have HRd := Lib.hid hrd; clear hrd
  by_cases hfc : f = cap
  · have hn0 : n = 0 := by omega
    subst hn0
    have hbc : bs.length = cap := by omega
    go_wp2_with fail
    refine (clone_any ao 0 [] w3 ⟨(fun _ => rfl), (fun a _ i hi => by simp at hi)⟩ (by simp)).mono ?_
    rintro e w4 ⟨ao', cap', rfl, ho, hf, hn', hk⟩
    have HO := Lib.hid ho; have HK4 := Lib.hid hk; clear ho hf hn' hk
    go_wp2
    go_ret2
    rw [List.take_zero]
    exact ⟨ao', cap', rfl, conv_reads (own_reads HO.out rfl) rfl (own_nil_cap HO.out), own_reads HO.out rfl, HO.out, HR3.out.keptNo HK4.out, HK3.out.trans (HK4.out.mono (fun _ _ h => h.elim))⟩
  · have hfl : (f : Int) < cap := by omega
    obtain ⟨x, rfl⟩ : ∃ x, ao = some x := by
      cases ao with
      | none => have := own_nil_cap HR3.out.2.1 rfl; omega
      | some x => exact ⟨x, rfl⟩
    have hcl := clone_any (some (x.add f)) (cap - f) ((bs.drop f).take n) w3 (reads_take n (reads_drop f HRd.out)) (by rw [HXl.out]; omega)
    rw [HXl.out] at hcl
    have HCl := Lib.hid hcl; clear hcl
    obtain ⟨xs, hxs⟩ : ∃ xs, xs = (bs.drop f).take n := ⟨_, rfl⟩
    rw [← hxs] at HCl HXl
    have HXs := Lib.hid hxs; clear hxs
    go_wp2_with fail
    refine HCl.out.mono ?_
    rintro e w4 ⟨ao', cap', rfl, ho, hf, hn', hk⟩
    have HO := Lib.hid ho; have HK4 := Lib.hid hk; clear ho hf hn' hk
    go_wp2
    go_ret2
    rw [← HXs.out]
    exact ⟨ao', cap', by rw [HXl.out]; rfl, conv_reads (own_reads HO.out rfl) rfl (own_nil_cap HO.out), own_reads HO.out rfl, HO.out, HR3.out.keptNo HK4.out, HK3.out.trans (HK4.out.mono (fun _ _ h => h.elim))⟩
end Go.Proofs.Ytffoigacpnlkgaa
