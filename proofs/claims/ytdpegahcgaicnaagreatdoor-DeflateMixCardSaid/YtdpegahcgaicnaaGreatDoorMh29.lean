/-
  readNumber: the rest behind a symbol.
  readStored: the head of a stored block.
  The document's own reader of bits: Left, Take, Align.
  Reader.Bytes, and the document's own.
  slices.Clone of a row of numbers: an own row.
  lens.Read: a head is read.
-/
import Derived.Test.YtdpegahcgaicnaaGreatDoorMh28
namespace Go.Proofs.YtdpegahcgaicnaaGreatDoor
open Go.RowKit
set_option linter.unusedVariables false
set_option linter.unusedSimpArgs false

theorem readNumber_bad (w : World) (R : Nat) (b n : Int) :
    Calls Tryz.prog 149 #[.pointer (some ⟨R, 0, none⟩), .int .i64 b, .int .i64 n, .bool false] w fun e w' => e = .returned (.tuple #[.int .i64 0, .int .i64 3]) ∧ w' = w := by
  go_enter Tryz.func149, Tryz.ntmps149
  go_wp2
  go_ret2
  exact ⟨rfl, rfl⟩
theorem readNumber_yes (w : World) (R : Nat) (ao : Option Addr) (cap : Nat) (bs : List Int) (p n b : Nat) (h : Rdr w R ao cap bs p) (hn : n ≤ 13) (hp : p + n ≤ 8 * bs.length) (hb : b ≤ 100000) :
    Calls Tryz.prog 149 #[.pointer (some ⟨R, 0, none⟩), .int .i64 (b : Int), .int .i64 (n : Int), .bool true] w fun e w' => e = .returned (.tuple #[.int .i64 ((b + bitsAt bs p n : Nat) : Int), .int .i64 0]) ∧ Rdr w' R ao cap bs (p + n) ∧ Kept (OneB R) w w' := by
  have hlt : bitsAt bs p n < 2 ^ 13 := Nat.lt_of_lt_of_le (bitsAt_lt bs p n) (Nat.pow_le_pow_right (by decide) hn)
  have HT := Lib.hid (take_yes w R ao cap bs p n h (by omega) hp)
  obtain ⟨x, hx⟩ : ∃ x, x = bitsAt bs p n := ⟨_, rfl⟩
  rw [← hx] at HT hlt ⊢
  clear h hx
  have e1 : IntKind.i64.wrap (x : Int) = x := IntWalk.i64_in _ (by omega)
  have e2 : IntKind.i64.wrap ((b : Int) + x) = ((b + x : Nat) : Int) := by rw [IntWalk.i64_in _ (by omega)]; omega
  go_enter Tryz.func149, Tryz.ntmps149
  go_wp2_with fail
  refine HT.out.mono ?_
  rintro e wn ⟨rfl, hr, hk⟩
  have HR := Lib.hid hr; have HK := Lib.hid hk
  clear hr hk
  go_wp2
  go_ret2
  exact ⟨rfl, HR.out, HK.out⟩
theorem readNumber_no (w : World) (R : Nat) (ao : Option Addr) (cap : Nat) (bs : List Int) (p n : Nat) (b : Int) (h : Rdr w R ao cap bs p) (hp : 8 * bs.length < p + n) :
    Calls Tryz.prog 149 #[.pointer (some ⟨R, 0, none⟩), .int .i64 b, .int .i64 (n : Int), .bool true] w fun e w' => e = .returned (.tuple #[.int .i64 0, .int .i64 2]) ∧ Kept NoB w w' := by
  have HT := Lib.hid (take_no w R ao cap bs p n h (by right; right; omega))
  clear h hp
  go_enter Tryz.func149, Tryz.ntmps149
  go_wp2_with fail
  refine HT.out.mono ?_
  rintro e wn ⟨rfl, hk⟩
  have HK := Lib.hid hk
  clear hk
  go_wp2
  go_ret2
  exact ⟨rfl, HK.out⟩
end Go.Proofs.YtdpegahcgaicnaaGreatDoor

namespace Go.Proofs.YtdpegahcgaicnaaGreatDoor
open Go.RowKit
set_option linter.unusedVariables false
set_option linter.unusedSimpArgs false

set_option maxRecDepth 20000 in
set_option maxHeartbeats 2000000 in
theorem readStored_short2 (w : World) (D : Nat) (v : IV) (R : Nat) (ao : Option Addr) (cap : Nat) (bs : List Int) (p : Nat) (h : InfO w D v) (hr : Rdr w R ao cap bs p) (hp : 8 * bs.length < up8 p + 32) :
    Calls Tryz.prog 125 #[.pointer (some ⟨D, 0, none⟩), .pointer (some ⟨R, 0, none⟩)] w fun e w' => e = .returned (.int .i64 2) ∧ Rdr w' R ao cap bs (up8 p) ∧ Kept (OneB R) w w' := by
  have HA := Lib.hid (ralign_any w R ao cap bs p hr)
  have HT : Hid (∀ w, Rdr w R ao cap bs (up8 p) → Calls Tryz.prog 105 #[.pointer (some ⟨R, 0, none⟩), .int .i64 32] w fun e w' => e = .returned (.tuple #[.int .u32 0, .bool false]) ∧ Kept NoB w w') := Lib.hid fun w hw => take_no w R ao cap bs (up8 p) 32 hw (by right; right; omega)
  clear h hr hp
  go_enter Tryz.func125, Tryz.ntmps125
  go_wp2_with fail
  refine HA.out.mono ?_
  rintro e w1 ⟨rfl, hr1, hk1⟩
  have HT1 := Lib.hid (HT.out w1 hr1); have HK1 := Lib.hid hk1; have HR1 := Lib.hid hr1
  clear hr1 hk1 HA HT
  go_wp2_with fail
  refine HT1.out.mono ?_
  rintro e w2 ⟨rfl, hk2⟩
  have HK := Lib.hid (HK1.out.trans (hk2.mono (fun _ _ h => h.elim))); have HR := Lib.hid (HR1.out.keptNo hk2)
  clear hk2 HK1 HT1
  go_wp2
  go_ret
  exact ⟨rfl, HR.out, HK.out⟩
theorem and16 (x : Nat) (h : x < 4294967296) : bits .and .u32 (x : Int) 65535 = ((x % 65536 : Nat) : Int) := by
  show IntKind.u32.wrap ((BitVec.ofInt 32 (x : Int) &&& BitVec.ofInt 32 65535).toNat : Int) = _
  have h1 : (BitVec.ofInt 32 (x : Int)).toNat = x := by rw [BitVec.ofInt_natCast, BitVec.toNat_ofNat]; exact Nat.mod_eq_of_lt (by omega)
  have h2 : (BitVec.ofInt 32 (65535 : Int)).toNat = 2 ^ 16 - 1 := by decide
  rw [BitVec.toNat_and, h1, h2, Nat.and_two_pow_sub_one_eq_mod, IntKind.wrap_u32']
  omega
theorem bits_low (bs : List Int) (P : Nat) : bitsAt bs P 32 % 65536 = bitsAt bs P 16 := by
  unfold bitsAt
  exact Nat.mod_mod_of_dvd _ (show 2 ^ 16 ∣ 2 ^ 32 from Nat.pow_dvd_pow 2 (by omega))
theorem bits_high (bs : List Int) (P : Nat) : bitsAt bs P 32 / 65536 = bitsAt bs (P + 16) 16 := by
  unfold bitsAt
  rw [Nat.pow_add, ← Nat.div_div_eq_div_mul]
  exact Nat.mod_mul_right_div_self _ (2 ^ 16) (2 ^ 16)
set_option maxRecDepth 20000 in
set_option maxHeartbeats 2000000 in
theorem readStored_bad2 (w : World) (D : Nat) (v : IV) (R : Nat) (ao : Option Addr) (cap : Nat) (bs : List Int) (p : Nat) (h : InfO w D v) (hr : Rdr w R ao cap bs p) (hp : up8 p + 32 ≤ 8 * bs.length) (hne : bitsAt bs (up8 p) 16 + bitsAt bs (up8 p + 16) 16 ≠ 65535) :
    Calls Tryz.prog 125 #[.pointer (some ⟨D, 0, none⟩), .pointer (some ⟨R, 0, none⟩)] w fun e w' => e = .returned (.int .i64 6) ∧ Rdr w' R ao cap bs (up8 p + 32) ∧ Kept (OneB R) w w' := by
  have HA := Lib.hid (ralign_any w R ao cap bs p hr)
  have hlt := bitsAt_lt bs (up8 p) 32
  rw [← bits_low, ← bits_high] at hne
  obtain ⟨x, hx⟩ : ∃ x, x = bitsAt bs (up8 p) 32 := ⟨_, rfl⟩
  have HT : Hid (∀ w, Rdr w R ao cap bs (up8 p) → Calls Tryz.prog 105 #[.pointer (some ⟨R, 0, none⟩), .int .i64 32] w fun e w' => e = .returned (.tuple #[.int .u32 (x : Nat), .bool true]) ∧ Rdr w' R ao cap bs (up8 p + 32) ∧ Kept (OneB R) w w') := Lib.hid fun w hw => by rw [hx]; exact take_yes w R ao cap bs (up8 p) 32 hw (by omega) hp
  rw [← hx] at hlt hne
  obtain ⟨a, ha⟩ : ∃ a, a = x % 65536 := ⟨_, rfl⟩
  obtain ⟨y, hy⟩ : ∃ y, y = 4294967295 - x := ⟨_, rfl⟩
  obtain ⟨z, hz⟩ : ∃ z, z = y / 65536 := ⟨_, rfl⟩
  have e1 : bits .and .u32 (x : Int) 65535 = (a : Int) := by rw [and16 x (by omega), ha]
  have e2 : bits .xor .u32 IntKind.u32.max (x : Int) = (y : Int) := by rw [not32 x (by omega), hy]
  have e3 : (y : Int) / 65536 = (z : Int) := by omega
  have e5 : ¬ (a : Int) = (z : Int) := by omega
  have e6 : ¬ a = z := by omega
  have e4 : ((a : Int) != (z : Int)) = true := by simpa using e5
  have e7 : ((a : Int) == (z : Int)) = false := by simpa using e5
  clear h hr hp hx ha hy hz hne hlt
  go_enter Tryz.func125, Tryz.ntmps125
  go_wp2_with fail
  refine HA.out.mono ?_
  rintro e w1 ⟨rfl, hr1, hk1⟩
  have HT1 := Lib.hid (HT.out w1 hr1); have HK1 := Lib.hid hk1
  clear hr1 hk1 HA HT
  go_wp2_with fail
  refine HT1.out.mono ?_
  rintro e w2 ⟨rfl, hr2, hk2⟩
  have HK := Lib.hid (HK1.out.trans hk2); have HR := Lib.hid hr2
  clear hr2 hk2 HK1 HT1
  go_upto_region 6 with fail
  go_wp2_with fail
  all_goals first
    | (exfalso; simp_all; done)
    | (go_ret; exact ⟨rfl, HR.out, HK.out⟩)
end Go.Proofs.YtdpegahcgaicnaaGreatDoor

namespace Go.Proofs.YtdpegahcgaicnaaGreatDoor
open Go.RowKit
set_option linter.unusedVariables false

/-- The document's reader: its bytes, as a string, and how many bits were taken. -/
def Rfb (w : World) (R : Nat) (bs : List Int) (p : Nat) : Prop :=
  w.heap[R]? = some (.cells #[.string (strOfNums bs), .int .i64 p] 61 (0, 0)) ∧ AllB bs ∧ bs.length ≤ 1000000 ∧ p ≤ 8 * bs.length
theorem Rfb.kept {S : Nat → Prop} {w w' : World} {R : Nat} {bs : List Int} {p : Nat} (h : Rfb w R bs p) (hk : Kept S w w') (h1 : ¬ S R) : Rfb w' R bs p := ⟨hk.obj h.1 h1, h.2⟩
theorem Rfb.moved {w w' : World} {R : Nat} {bs : List Int} {p q : Nat} (h : Rfb w R bs p) (hk : Kept NoB w w') (hq : q ≤ 8 * bs.length) : Rfb (w'.setCell ⟨R, 1, none⟩ (.int .i64 q)) R bs q :=
  ⟨by simpa using obj_set (hk.obj h.1 (fun h => h)) 1 (.int .i64 q), h.2.1, h.2.2.1, hq⟩

end Go.Proofs.YtdpegahcgaicnaaGreatDoor

namespace Go.Proofs.YtdpegahcgaicnaaGreatDoor
open Go.RowKit
set_option linter.unusedVariables false

theorem own_nil_cap {w : World} {ao : Option Addr} {n cap : Nat} {xs : List Value} (h : w.ownsRow 0 5 1 (.slice ao n cap) n xs) : ao = none → cap = 0 := by
  rintro rfl
  rcases h.2 with ⟨h1, _⟩ | ⟨g, c, cur, h1, _⟩
  · simp at h1; exact h1.2
  · simp at h1
/-- What Reader.Bytes tells: a copy, as a string. -/
def Gave (R : Nat) (ao : Option Addr) (cap : Nat) (bs xs : List Int) (q : Nat) (w : World) (e : Ending) (w' : World) : Prop :=
  ∃ ao' cap', e = .returned (.tuple #[.slice ao' xs.length cap', .bool true]) ∧ Hid ((convert 22 9 (.slice ao' xs.length cap')).run Tryz.prog w' = .ok (.string (strOfNums xs)) w') ∧ Hid (Reads w' ao' xs) ∧ Hid (w'.ownsRow 0 5 1 (.slice ao' xs.length cap') xs.length (xs.map (.int .u8))) ∧ Rdr w' R ao cap bs q ∧ Kept (OneB R) w w'
set_option maxHeartbeats 2000000 in
set_option maxRecDepth 20000 in
theorem bytes_yes (w : World) (R : Nat) (ao : Option Addr) (cap : Nat) (bs : List Int) (p n : Nat) (h : Rdr w R ao cap bs p) (hb47 : bs.length ≤ 140737488355328) (hn : up8 p + 8 * n ≤ 8 * bs.length) :
    Calls Tryz.prog 143 #[.pointer (some ⟨R, 0, none⟩), .int .i64 n] w (Gave R ao cap bs ((bs.drop (up8 p / 8)).take n) (up8 p + 8 * n) w) := by
  have hlm := h.2.2.1
  have h8 : up8 p % 8 = 0 := by unfold up8; omega
  have hcap : bs.length ≤ cap ∧ cap ≤ maxLen := by
    rcases h.2.1.2 with ⟨h1, _⟩ | ⟨g, c, cur, h1, _, _, h2, h3, _⟩
    · simp at h1; unfold maxLen; omega
    · simp at h1; omega
  have H := Lib.hid h; clear h
  generalize hP : up8 p = P at hn h8 ⊢
  have HP := Lib.hid hP; clear hP
  obtain ⟨f, hf⟩ : ∃ f, f = P / 8 := ⟨_, rfl⟩
  have hdiv : (P : Int) / 8 = f := by omega
  have hnl : ¬ (8 * (bs.length : Int) - P) / 8 < n := by omega
  have hfn : f + n ≤ bs.length := by omega
  rw [← hf]
  have HF := Lib.hid hf; clear hf
  have hxl : ((bs.drop f).take n).length = n := by rw [List.length_take, List.length_drop]; omega
  have HXl := Lib.hid hxl; clear hxl
  go_enter Tryz.func143, Tryz.ntmps143
  go_wp2_with fail
  refine (ralign_any _ _ _ _ _ _ H.out).mono ?_
  rintro e w1 ⟨rfl, hR, hk1⟩
  rw [HP.out] at hR
  have HR := Lib.hid hR; have HK := Lib.hid hk1; clear hR hk1
  go_wp2_with fail
  refine (left_any _ _ _ _ _ _ HR.out).mono ?_
  rintro e w2 ⟨rfl, hk2⟩
  have hR2 := HR.out.keptNo hk2
  have c0 : w2.cell? ⟨R, 0, none⟩ = some (.slice ao bs.length cap) := by simpa using obj_cell hR2.1 0
  have c1 : w2.cell? ⟨R, 1, none⟩ = some (.int .i64 P) := by simpa using obj_cell hR2.1 1
  have f1 : w2.frozen? ⟨R, 1, none⟩ = false := obj_free hR2.1 1
  have HR2 := Lib.hid hR2; have HK2 := Lib.hid (HK.out.trans (hk2.mono (fun _ _ h => h.elim))); clear hR2 hk2
  have hfi : (f : Int) + n ≤ cap := by omega
  have hf0 : (0 : Int) ≤ (f : Int) + n := by omega
  go_upto_region 6 with fail
  have e : ((P : Int) + 8 * n) = ((P + 8 * n : Nat) : Int) := by push_cast; rfl
  have hR3 : Rdr (w2.setCell ⟨R, 1, none⟩ (.int .i64 ((P : Int) + 8 * n))) R ao cap bs (P + 8 * n) := by
    rw [e]; exact HR2.out.moved (Kept.refl _ _) hn
  have hK3 : Kept (OneB R) w (w2.setCell ⟨R, 1, none⟩ (.int .i64 ((P : Int) + 8 * n))) := Kept.setCell (S := OneB R) (p := ⟨R, 1, none⟩) HK2.out (.inl rfl) _
  have HR3 := Lib.hid hR3; have HK3 := Lib.hid hK3
  clear hR3 hK3 c0 c1 f1 HR2 HK2 e
  generalize w2.setCell ⟨R, 1, none⟩ (.int .i64 ((P : Int) + 8 * n)) = w3 at HR3 HK3 ⊢
  have c0 : w3.cell? ⟨R, 0, none⟩ = some (.slice ao bs.length cap) := by simpa using obj_cell HR3.out.1 0
  have hrd := own_reads HR3.out.2.1 rfl
  have HRd := Lib.hid hrd; clear hrd
  by_cases hfc : f = cap
  · have hn0 : n = 0 := by omega
    subst hn0
    have hbc : bs.length = cap := by omega
    go_wp2_with fail
    refine (clone_any ao 0 [] w3 ⟨(fun _ => rfl), (fun a _ i hi => by simp at hi)⟩ (by simp)).mono ?_
    rintro e w4 ⟨ao', cap', rfl, ho, hf, hn', hk⟩
    have HO := Lib.hid ho; have HK4 := Lib.hid hk; clear ho hf hn' hk
    go_wp2
    go_ret2
    rw [List.take_zero]
    exact ⟨ao', cap', rfl, conv_reads (own_reads HO.out rfl) rfl (own_nil_cap HO.out), own_reads HO.out rfl, HO.out, HR3.out.keptNo HK4.out, HK3.out.trans (HK4.out.mono (fun _ _ h => h.elim))⟩
  · have hfl : (f : Int) < cap := by omega
    obtain ⟨x, rfl⟩ : ∃ x, ao = some x := by
      cases ao with
      | none => have := own_nil_cap HR3.out.2.1 rfl; omega
      | some x => exact ⟨x, rfl⟩
    have hcl := clone_any (some (x.add f)) (cap - f) ((bs.drop f).take n) w3 (reads_take n (reads_drop f HRd.out)) (by rw [HXl.out]; omega)
    rw [HXl.out] at hcl
    have HCl := Lib.hid hcl; clear hcl
    obtain ⟨xs, hxs⟩ : ∃ xs, xs = (bs.drop f).take n := ⟨_, rfl⟩
    rw [← hxs] at HCl HXl
    have HXs := Lib.hid hxs; clear hxs
    go_wp2_with fail
    refine HCl.out.mono ?_
    rintro e w4 ⟨ao', cap', rfl, ho, hf, hn', hk⟩
    have HO := Lib.hid ho; have HK4 := Lib.hid hk; clear ho hf hn' hk
    go_wp2
    go_ret2
    rw [← HXs.out]
    exact ⟨ao', cap', by rw [HXl.out]; rfl, conv_reads (own_reads HO.out rfl) rfl (own_nil_cap HO.out), own_reads HO.out rfl, HO.out, HR3.out.keptNo HK4.out, HK3.out.trans (HK4.out.mono (fun _ _ h => h.elim))⟩
end Go.Proofs.YtdpegahcgaicnaaGreatDoor

namespace Go.Proofs.YtdpegahcgaicnaaGreatDoor
open Go.RowKit
set_option linter.unusedVariables false
set_option linter.unusedSimpArgs false

set_option maxHeartbeats 1000000 in
theorem icln_any (ad : Addr) (cap B n : Nat) (zs : List Int) (w : World) (hr : RdI w B (some ad) zs) (hn : n = zs.length) (hl : zs.length ≤ 100000) :
    Calls Tryz.prog 160 #[.slice (some ad) n cap] w fun e w' => ∃ a c, e = .returned (.slice a zs.length c) ∧ OwnI w' a c zs ∧ Kept NoB w w' ∧ (∀ k, (Value.slice a zs.length c).ownBlock = some k → w.heap.size ≤ k) := by
  have q22 : ∀ (w : World) (a : Option Addr) (n c n' c' : Nat), (binOp .eql 23 (.slice a n c) (.slice none n' c')).run Tryz.prog w = .ok (.bool a.isNone) w := fun w a n c n' c' => Lib.run_eql_slice_nil w _ _ a n c n' c' Tryz.underlying23
  have hst := emp_sa (Kept.refl NoB w) w.heap.size rfl
  have hrn : ∀ j u, (zs.map (Value.int .i64))[j]? = some u → (w.alloc (.cells #[] 3)).cell? (ad.add j) = some u := by
    intro j u hu
    have hj : j < zs.length := by have := (List.getElem?_eq_some_iff.1 hu).1; simpa using this
    obtain ⟨g, off, he, _, hc⟩ := hr j hj
    cases he
    have := ((Kept.refl NoB w).alloc (.cells #[] 3)).cell hc
    rw [addr_add, this, ← hu]
    simp [List.getD, hj]
  have HSt := Lib.hid hst; have HRn := Lib.hid hrn; have HN := Lib.hid hn
  have hn2 : n ≤ 100000 := by omega
  clear hr hst hrn hn hl
  go_enter Tryz.func160, Tryz.ntmps160
  go_wp2_with (at_builtin; refine wpList_intsA rfl _ _ rfl HSt.out rfl ad n cap zs rfl HN.out.symm HRn.out (by omega) ?_)
  intro a6 c6 w6 hs6 hk6
  have HS6 := Lib.hid hs6
  clear hs6 hk6
  go_wp2
  go_ret
  exact ⟨a6, c6, by rw [← HN.out]; rfl, by have h := HS6.out.own; rw [HN.out] at h; exact h, HS6.out.kept, fun k hk => HS6.out.fresh k (by rw [HN.out]; exact hk)⟩
end Go.Proofs.YtdpegahcgaicnaaGreatDoor

namespace Go.Proofs.YtdpegahcgaicnaaGreatDoor
open Go.RowKit
set_option linter.unusedVariables false
set_option linter.unusedSimpArgs false

theorem DecG.inH {S : Nat → Prop} {ls : List Int} {D : Nat} {w : World} (h : DecG ls D S w) : DecG ls D (fun k => S k ∧ k < w.heap.size) w := by
  obtain ⟨pa, P, pc, h1, h2, h3, h4⟩ := h.all
  exact ⟨⟨h.lt, obj_lt h1.obj⟩, pa, P, pc, h1, fun i hi => by obtain ⟨g, o, k1, k2, k3⟩ := h2 i hi; exact ⟨g, o, k1, ⟨k2, World.block_lt_of_cell? w _ k3⟩, k3⟩, h3, h4⟩
/-- What Read of a head tells, where the reader is then. -/
def HeadRP (bs : List Int) (p R : Nat) (ao : Option Addr) (cap : Nat) (w : World) (e : Ending) (w' : World) : Prop :=
  ∃ (la : Option Addr) (lc : Nat) (lit : List Int) (da : Option Addr) (dc : Nat) (dist : List Int) (f : Int) (q q' : Nat), e = .returned (.tuple #[.slice la lit.length lc, .slice da dist.length dc, .int .i64 f]) ∧
    HeadR bs p lit dist f q ∧ Rdr w' R ao cap bs q' ∧ (f = 0 → q' = q) ∧ OwnI w' la lc lit ∧ OwnI w' da dc dist ∧ Kept (OneB R) w w'
theorem HeadRP.non {bs : List Int} {p R : Nat} {ao : Option Addr} {cap : Nat} {w w' : World} {f : Int} {q q' : Nat} (h : HeadR bs p [] [] f q) (h0 : f ≠ 0) (hr : Rdr w' R ao cap bs q') (hk : Kept (OneB R) w w') :
    HeadRP bs p R ao cap w (.returned (.tuple #[.slice none 0 0, .slice none 0 0, .int .i64 f])) w' :=
  ⟨none, 0, [], none, 0, [], f, q, q', rfl, h, hr, fun h => absurd h h0, World.ownsRow_nil _ _ _ _, World.ownsRow_nil _ _ _ _, hk⟩
theorem and31_u32 (r : Nat) (h : r < 4294967296) : bits .and .u32 (r : Int) 31 = ((r % 32 : Nat) : Int) := by
  have h1 := u32_and_nat r 31 h (by decide)
  rw [show r &&& 31 = r % 32 from Nat.and_two_pow_sub_one_eq_mod r 5] at h1
  exact h1
set_option maxRecDepth 20000 in
set_option maxHeartbeats 8000000 in
theorem lensRead_any (bs : List Int) (p R : Nat) (ao : Option Addr) (cap : Nat) (w : World) (hr : Rdr w R ao cap bs p) :
    Calls Tryz.prog 145 #[.pointer (some ⟨R, 0, none⟩)] w (HeadRP bs p R ao cap w) := by
  have HR := Lib.hid hr
  clear hr
  by_cases hsh : 8 * bs.length < p + 14
  · have htk := take_no w R ao cap bs p 14 HR.out (.inr (.inr (by omega)))
    have HTk := Lib.hid htk
    have HH := Lib.hid (show HeadR bs p [] [] 2 0 by unfold HeadR; rw [if_pos hsh]; exact ⟨rfl, rfl, rfl⟩)
    clear htk hsh
    go_enter Tryz.func145, Tryz.ntmps145
    go_wp2_with fail
    with_reducible refine HTk.out.mono ?_
    rintro e w1 ⟨rfl, hk1⟩
    have HR1 := Lib.hid (HR.out.keptNo hk1); have HK1 := Lib.hid hk1
    clear hk1 HTk
    go_wp2
    go_ret3
    exact HeadRP.non HH.out (by decide) HR1.out (HK1.out.mono (fun _ _ h => h.elim))
  · have htk := take_yes w R ao cap bs p 14 HR.out (by decide) (by omega)
    rw [show ((14 : Nat) : Int) = 14 from rfl] at htk
    obtain ⟨c1, c2, c3⟩ := counts14 bs p
    have hx := bitsAt_lt bs p 14
    obtain ⟨x, hxe⟩ : ∃ x, x = bitsAt bs p 14 := ⟨_, rfl⟩
    rw [← hxe] at htk c1 c2 c3 hx
    have hx2 : x < 16384 := hx
    have e1 := and31_u32 x (by omega)
    have e2 := and31_u32 (x / 32) (by omega)
    rw [c1] at e1
    rw [c2] at e2
    obtain ⟨A, hA⟩ : ∃ A, A = bitsAt bs p 5 := ⟨_, rfl⟩
    obtain ⟨Bv, hB⟩ : ∃ B, B = bitsAt bs (p + 5) 5 := ⟨_, rfl⟩
    obtain ⟨C, hC⟩ : ∃ C, C = bitsAt bs (p + 10) 4 := ⟨_, rfl⟩
    rw [← hA] at e1 c1
    rw [← hB] at e2 c2
    rw [← hC] at c3
    obtain ⟨Y, hY⟩ : ∃ Y, Y = x / 32 := ⟨_, rfl⟩
    rw [← hY] at e2
    have y1 : (x : Int) / 32 = (Y : Int) := by omega
    have y2 : (x : Int) / 1024 = (C : Int) := by omega
    have hA32 : A < 32 := by omega
    have hB32 : Bv < 32 := by omega
    have hC16 : C < 16 := by omega
    have HTk := Lib.hid htk; have HA := Lib.hid hA; have HB := Lib.hid hB; have HC := Lib.hid hC; have HSh := Lib.hid hsh
    clear htk hA hB hC hxe hx c1 c2 hsh hY c3
    go_enter Tryz.func145, Tryz.ntmps145
    go_wp2_with fail
    with_reducible refine HTk.out.mono ?_
    rintro e w1 ⟨rfl, hr1, hk1⟩
    have HR1 := Lib.hid hr1; have HK1 := Lib.hid hk1
    clear hr1 hk1 HTk
    go_upto_region 6 with fail
    by_cases hbig : 29 < A ∨ 29 < Bv
    · have HH := Lib.hid (show HeadR bs p [] [] 6 0 by unfold HeadR; rw [if_neg HSh.out, if_pos (by rw [← HA.out, ← HB.out]; exact hbig)]; exact ⟨rfl, rfl, rfl⟩)
      have hg : (286 : Int) < (A : Int) + 257 ∨ ¬ (286 : Int) < (A : Int) + 257 ∧ (30 : Int) < (Bv : Int) + 1 := by omega
      clear hbig
      rcases hg with g1 | ⟨g1, g2⟩
      all_goals
        go_wp2
        go_ret3
        exact HeadRP.non HH.out (by decide) HR1.out HK1.out
    · have g1 : ¬ (286 : Int) < (A : Int) + 257 := by omega
      have g2 : ¬ (30 : Int) < (Bv : Int) + 1 := by omega
      have HSm := Lib.hid hbig
      have hA29 : A ≤ 29 := by omega
      have hB29 : Bv ≤ 29 := by omega
      obtain ⟨n, hn⟩ : ∃ n, n = C + 4 := ⟨_, rfl⟩
      have n1 : (C : Int) + 4 = (n : Int) := by omega
      have hcd := readCode_any bs (p + 14) n R ao cap w1 HR1.out (by omega)
      have HCd := Lib.hid hcd; have HN := Lib.hid hn
      clear hbig hcd hn
      go_wp2_with fail
      with_reducible refine HCd.out.mono ?_
      rintro e w2 ⟨hk2, ⟨q2, hr2, hq2⟩, he⟩
      have HK2 := Lib.hid (HK1.out.trans hk2); have HR2 := Lib.hid hr2
      clear hk2 hr2 HCd
      by_cases hs2 : 8 * bs.length < p + 14 + 3 * n
      · rw [if_pos hs2] at he
        subst he
        have HH := Lib.hid (show HeadR bs p [] [] 2 0 by
          unfold HeadR
          rw [if_neg HSh.out, if_neg (by rw [← HA.out, ← HB.out]; exact HSm.out), if_pos (by rw [← HC.out, ← HN.out]; exact hs2)]; exact ⟨rfl, rfl, rfl⟩)
        clear hs2 hq2
        go_wp2
        go_ret3
        exact HeadRP.non HH.out (by decide) HR2.out HK2.out
      · rw [if_neg hs2] at he
        by_cases hfb : fullB (codeT bs (p + 14) n) = false
        · rw [if_pos hfb] at he
          subst he
          have HH := Lib.hid (show HeadR bs p [] [] 6 0 by
            unfold HeadR
            rw [if_neg HSh.out, if_neg (by rw [← HA.out, ← HB.out]; exact HSm.out), if_neg (by rw [← HC.out, ← HN.out]; exact hs2), if_pos (by rw [← HC.out, ← HN.out]; exact hfb)]; exact ⟨rfl, rfl, rfl⟩)
          clear hs2 hq2 hfb
          go_wp2
          go_ret3
          exact HeadRP.non HH.out (by decide) HR2.out HK2.out
        · rw [if_neg hfb] at he
          obtain ⟨D, rfl, hdg⟩ := he
          have hq := hq2 (by omega)
          subst hq
          obtain ⟨N, hN⟩ : ∃ N, N = (A + 257) + (Bv + 1) := ⟨_, rfl⟩
          have n2 : ((A : Int) + 257) + ((Bv : Int) + 1) = (N : Int) := by omega
          have HR1w := Lib.hid (obj_lt HR1.out.1)
          have hrw := readRow_any (codeT bs (p + 14) n) D R N (fun k => w1.heap.size ≤ k ∧ k < w2.heap.size) ao cap bs (p + 14 + 3 * n) w2 hdg.inH HR2.out (fun h => by have := HR1w.out; omega) (fun k h => h.2) (small7_15 (codeT_small _ _ _)) (by rw [codeT_len]; decide) (by omega)
          have HRw := Lib.hid hrw
          have HHs : Hid (∀ (row : List Int) (q' : Nat) (f : Int) (lit dist : List Int) (e : Int) (q : Nat), RowR (codeT bs (p + 14) n) bs N (p + 14 + 3 * n) [] q' row f → (if f = 0 then if mayB (row.take (A + 257)) (row.drop (A + 257)) = true then lit = row.take (A + 257) ∧ dist = row.drop (A + 257) ∧ e = 0 ∧ q = q' else lit = [] ∧ dist = [] ∧ e = 6 else lit = [] ∧ dist = [] ∧ e = f) → HeadR bs p lit dist e q) := Lib.hid (fun row q' f lit dist e q h1 h2 => by
            unfold HeadR
            rw [if_neg HSh.out, if_neg (by rw [← HA.out, ← HB.out]; exact HSm.out), if_neg (by rw [← HC.out, ← HN.out]; exact hs2), if_neg (by rw [← HC.out, ← HN.out]; exact hfb)]
            rw [← HC.out, ← HN.out, ← HA.out, ← HB.out, ← hN]
            exact ⟨row, q', f, h1, h2⟩)
          clear hrw hdg hs2 hq2 hfb hN
          go_wp2_with fail
          with_reducible refine HRw.out.mono ?_
          rintro e w3 ⟨a3, c3, row, f, q3, q3', rfl, hrr, hr3, hqq, hown, hk3, hnew⟩
          by_cases hf : f = 0
          · subst hf
            obtain ⟨hlen, hsm, _⟩ := hrr.ok rfl (by simp) (fun z hz => by simp at hz) (by have := HR2.out.2.2.2.1; omega)
            have hHs := HHs.out row q3 0
            have HF : Hid (∀ (lit dist : List Int), lit = row.take (A + 257) → dist = row.drop (A + 257) → (mayB lit dist = true → HeadR bs p lit dist 0 q3) ∧ (mayB lit dist = false → HeadR bs p [] [] 6 0)) := Lib.hid (fun lit dist h1 h2 => by
              subst h1 h2
              refine ⟨fun h => hHs _ _ _ _ hrr ?_, fun h => hHs _ _ _ _ hrr ?_⟩
              · rw [if_pos rfl, if_pos h]; exact ⟨rfl, rfl, rfl, rfl⟩
              · rw [if_pos rfl, if_neg (by rw [h]; decide)]; exact ⟨rfl, rfl, rfl⟩)
            obtain ⟨g3, rfl⟩ := own_some hown (by omega)
            obtain ⟨cb1, cb2⟩ := own_cap2 hown
            have hq3 : q3' = q3 := hqq rfl
            subst hq3
            have hrd := own_readsI hown rfl
            have HK3 := Lib.hid (HK2.out.trans hk3); have HR3 := Lib.hid hr3
            obtain ⟨lit, hlit⟩ : ∃ lit, lit = row.take (A + 257) := ⟨_, rfl⟩
            obtain ⟨dist, hdist⟩ : ∃ dist, dist = row.drop (A + 257) := ⟨_, rfl⟩
            have l1 : lit.length = A + 257 := by rw [hlit, List.length_take]; omega
            have l2 : dist.length = Bv + 1 := by rw [hdist, List.length_drop]; omega
            have HF2 := Lib.hid (HF.out lit dist hlit hdist)
            have r1 : RdI w3 w3.heap.size (some ⟨g3, 0, none⟩) lit := fun i hi => by
              obtain ⟨g, o, h1, h2, h3⟩ := hrd i (by omega)
              cases h1
              exact ⟨g3, 0, rfl, h2, by rw [h3, hlit]; simp [List.getD, List.getElem?_take, show i < A + 257 by omega]⟩
            have r2 : RdI w3 w3.heap.size (some ⟨g3, A + 257, none⟩) dist := fun i hi => by
              obtain ⟨g, o, h1, h2, h3⟩ := hrd (A + 257 + i) (by omega)
              cases h1
              refine ⟨g3, _, rfl, h2, ?_⟩
              rw [show A + 257 + i = 0 + (A + 257 + i) by omega, h3, hdist]
              simp [List.getD, List.getElem?_drop]
            have s1 : Small 15 lit := fun z hz => hsm z (by rw [hlit] at hz; exact List.mem_of_mem_take hz)
            have s2 : Small 15 dist := fun z hz => hsm z (by rw [hdist] at hz; exact List.mem_of_mem_drop hz)
            have HS1 := Lib.hid s1; have HS2 := Lib.hid s2
            obtain ⟨u, hu⟩ : ∃ u, u = A + 257 := ⟨_, rfl⟩
            obtain ⟨v, hv⟩ : ∃ v, v = Bv + 1 := ⟨_, rfl⟩
            rw [← hu] at l1 r2
            rw [← hv] at l2
            have HL1 := Lib.hid l1; have HL2 := Lib.hid l2
            have HC1 : Hid (∀ W, Kept NoB w3 W → Calls Tryz.prog 160 #[.slice (some ⟨g3, 0, none⟩) u c3] W fun e w' => ∃ a c, e = .returned (.slice a lit.length c) ∧ OwnI w' a c lit ∧ Kept NoB W w' ∧ (∀ k, (Value.slice a lit.length c).ownBlock = some k → W.heap.size ≤ k)) := Lib.hid (fun W hW => icln_any _ c3 _ u lit W (r1.keptNo hW) l1.symm (by omega))
            have HC2 : Hid (∀ W, Kept NoB w3 W → Calls Tryz.prog 160 #[.slice (some ⟨g3, u, none⟩) v (c3 - u)] W fun e w' => ∃ a c, e = .returned (.slice a dist.length c) ∧ OwnI w' a c dist ∧ Kept NoB W w' ∧ (∀ k, (Value.slice a dist.length c).ownBlock = some k → W.heap.size ≤ k)) := Lib.hid (fun W hW => icln_any _ (c3 - u) _ v dist W (r2.keptNo hW) l2.symm (by omega))
            have u1 : (A : Int) + 257 = (u : Int) := by omega
            have u2 : row.length = N := hlen
            have u3 : N = u + v := by omega
            have u4 : ¬ c3 = u := by omega
            have u5 : u ≤ c3 := by omega
            have u6 : u ≤ N := by omega
            have u7 : N - u = v := by omega
            have u8 : (u : Int) ≤ (N : Int) := by omega
            have u9 : (0 : Int) ≤ (u : Int) := by omega
            have HU := Lib.hid (show 257 ≤ u by omega)
            rw [u2] at cb1 ⊢
            rw [u1]
            clear u3 r1 r2 s1 s2 hlit hdist hrd hHs hrr hsm hqq hown hk3 hnew l1 l2 HF HHs hr3 hu hv u1 u2 hlen HRw n2 hA29 hB29 g1 g2 e1 e2
            have hk0 := Kept.refl NoB w3
            go_upto_region 14 with fail
            go_cut [2, 3] from 57 to 65 (fun s t wx => ∃ la lc da dc, s = .slice la lit.length lc ∧ t = .slice da dist.length dc ∧ Hid (OwnI wx la lc lit) ∧ Hid (OwnI wx da dc dist) ∧ Hid (Kept NoB w3 wx))
            case first =>
              go_wp2_with fail
              go_region_held3 (fun W => Kept NoB w3 W) (first | assumption | exact Kept.drew (by assumption) | exact Kept.trans (by assumption) hkn | exact Kept.trans (by assumption) hkm)
                (first
                  | (go_at_call 160; ((with_reducible refine (HC1.out _ (by assumption)).mono ?_); rintro e wn ⟨la, lc, rfl, hla, hkn, hfa⟩; have HLa := Lib.hid hla; clear hla hfa))
                  | (go_at_call 160; ((with_reducible refine (HC2.out _ (by assumption)).mono ?_); rintro e wm ⟨da, dc, rfl, hda, hkm, hfd⟩; have HDa := Lib.hid hda; clear hda hfd)))
              go_wp2
              go_meet
              have hk1 : Kept NoB w3 wn := by first | assumption | exact Kept.trans (by assumption) hkn | exact Kept.trans (Kept.drew (by assumption)) hkn
              exact ⟨la, lc, da, dc, rfl, rfl, Lib.hid (hkm.row HLa.out (fun _ _ h => h)), HDa, Lib.hid (hk1.trans hkm)⟩
            case rest =>
            obtain ⟨la, lc, da, dc, rfl, rfl, HLa, HDa, HKc⟩ := hcut
            have HRc := Lib.hid (HR3.out.keptNo HKc.out); have HK4 := Lib.hid (HK3.out.trans (HKc.out.mono (fun _ _ h => h.elim)))
            have hmb := may_any la lc _ lit da dc _ dist wc HLa.out.reads (fun z hz => by have := HS1.out z hz; omega) HDa.out.reads (fun z hz => by have := HS2.out z hz; omega) (by have := HL1.out; have := HU.out; omega)
            have HMb := Lib.hid hmb
            clear hmb HC1 HC2
            cases hmy : mayB lit dist with
            | true =>
              have HH := Lib.hid (HF2.out.1 hmy)
              rw [hmy] at HMb
              clear hmy
              go_wp2_with fail
              with_reducible refine HMb.out.mono ?_
              rintro e w5 ⟨rfl, hk5⟩
              have HR5 := Lib.hid (HRc.out.keptNo hk5); have HK5 := Lib.hid (HK4.out.trans (hk5.mono (fun _ _ h => h.elim))); have HLa5 := Lib.hid (hk5.row HLa.out (fun _ _ h => h)); have HDa5 := Lib.hid (hk5.row HDa.out (fun _ _ h => h))
              clear hk5 HMb
              go_wp2
              go_ret3
              exact ⟨la, lc, lit, da, dc, dist, 0, _, _, rfl, HH.out, HR5.out, fun _ => rfl, HLa5.out, HDa5.out, HK5.out⟩
            | false =>
              have HH := Lib.hid (HF2.out.2 hmy)
              rw [hmy] at HMb
              clear hmy
              go_wp2_with fail
              with_reducible refine HMb.out.mono ?_
              rintro e w5 ⟨rfl, hk5⟩
              have HR5 := Lib.hid (HRc.out.keptNo hk5); have HK5 := Lib.hid (HK4.out.trans (hk5.mono (fun _ _ h => h.elim)))
              clear hk5 HMb
              go_wp2
              go_ret3
              exact HeadRP.non HH.out (by decide) HR5.out HK5.out
          · have hl0 := hrr.err hf
            subst hl0
            have HH := Lib.hid (HHs.out [] q3 f [] [] f 0 hrr (by rw [if_neg hf]; exact ⟨rfl, rfl, rfl⟩))
            have hf2 : (f == 0) = false := by simp [hf]
            have HFn := Lib.hid hf; have HR3 := Lib.hid hr3; have HK3 := Lib.hid (HK2.out.trans hk3)
            clear hrr hr3 hqq hown hk3 hnew HHs hf HRw
            go_wp2
            go_ret3
            exact HeadRP.non HH.out HFn.out HR3.out HK3.out
end Go.Proofs.YtdpegahcgaicnaaGreatDoor
