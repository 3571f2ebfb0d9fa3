/-
  A tree of files in memory: bytes written into a file.
  What was written of a file, in memory: put, wherever; written into a file.
  What was written of a file, in memory: cut.
  What was written of a file, in memory: cut.
-/
import Derived.Test.YtgbakogihkdddaaGreatDoorMx11
namespace Go.Proofs.YtgbakogihkdddaaGreatDoor
open Go.RowKit
set_option linter.unusedVariables false
set_option linter.unusedSimpArgs false
set_option maxRecDepth 20000

theorem reads_takeA {w : World} {ao : Option Addr} {rb : List Int} (k : Nat) (h : Reads w ao rb) : Reads w ao (rb.take k) := by
  cases ao with
  | some x => exact reads_take k h
  | none => exact ⟨fun _ => by rw [h.1 rfl]; simp, fun a ha => by cases ha⟩
theorem kept_one (w : World) (b o : Nat) (v : Value) : Kept (OneB b) w (w.setCell ⟨b, o, none⟩ v) := Kept.setCell (S := OneB b) (p := ⟨b, o, none⟩) (Kept.refl _ w) (.inl rfl) v
theorem cnt_le (f : Int → Bool) : ∀ (n : Nat) (a : Int), cntD f a n ≤ n
  | 0, a => Nat.le_refl _
  | n + 1, a => by
    unfold cntD
    have := cnt_le f n (a + 1)
    split <;> omega
theorem len_size : ∀ {l : List Fp}, (∀ p ∈ l, p.2 ≠ []) → l.length ≤ sizeD l
  | [], _ => Nat.zero_le _
  | p :: t, h => by
    have h1 := len_size (l := t) (fun q hq => h q (by simp [hq]))
    have h2 : 0 < p.2.length := List.length_pos_iff.2 (h p (by simp))
    rw [sizeD_cons, List.length_cons]; omega
theorem ok_len {l : List Fp} (h : OkD l) : l.length ≤ 1099511627776 ∧ sizeD l ≤ 1099511627776 := by
  have h1 := len_size (fun p hp => (h.each p hp).2.1)
  obtain ⟨N, hN⟩ : ∃ N : Nat, N = 1099511627776 := ⟨_, rfl⟩
  have h2 := size_cnt h N (fun p hp => by have := (h.each p hp).2.2; omega)
  have h3 := cnt_le (isD l) N 0
  omega
theorem fileE_file {T : FsP} {i : Int} (h : fileE T i = 0) : ∃ n, T.nd i = some n ∧ n.v.kind = 1 := by
  unfold fileE at h
  cases hn : T.nd i with
  | none => rw [hn] at h; simp at h
  | some n =>
    rw [hn] at h
    simp only at h
    by_cases h1 : n.v.kind = 1
    · exact ⟨n, rfl, h1⟩
    · rw [if_neg h1] at h; omega
theorem writeP_no {T : FsP} {i k : Int} {b : List UInt8} (h : fileE T i ≠ 0) : writeP T i k b = (T, fileE T i) := by
  unfold writeP fileE at *
  cases hn : T.nd i with
  | none => rfl
  | some n =>
    rw [hn] at h
    simp only at h ⊢
    by_cases h1 : n.v.kind = 1
    · rw [if_pos h1] at h; exact absurd rfl h
    · rw [if_neg h1, if_neg h1]
theorem writeP_yes {T : FsP} {i k : Int} {b : List UInt8} {n : NdP} (hn : T.nd i = some n) (h1 : n.v.kind = 1) : writeP T i k b = if k < 0 ∨ 1099511627776 - (b.length : Int) < k then (T, 1) else
      (if (fitP T n k b).1 = 0 then T else writeT T i n k (b.take (fitP T n k b).1) (fitP T n k b).2, if (fitP T n k b).1 < b.length then 5 else 0) := by
  unfold writeP
  rw [hn]
  simp only
  rw [if_pos h1]

set_option maxHeartbeats 4000000 in
theorem write_any {S : Nat → Prop} {w : World} {f : Nat} {T : FsP} (h : FsSt S w f T) (i : Int) (hi : -9223372036854775808 ≤ i ∧ i ≤ 9223372036854775807) (k : Int) (hk : -9223372036854775808 ≤ k ∧ k ≤ 9223372036854775807) (b : List UInt8) (ab : Option Addr) (cb : Nat)
    (hrb : Reads w ab (nb b)) (hbc : b.length ≤ cb) (hcm : cb ≤ maxLen) (hbl : b.length ≤ 1099511627776) (hab0 : b ≠ [] → ∀ x, ab = some x → ¬ S x.block) (hclk : T.clock + 1 ≤ 4611686018427387904) (hquo : T.quota ≤ 4611686018427387904)
    (hput : ∀ n, T.nd i = some n → PutOk n.data k (b.take (fitP T n k b).1)) :
    Calls Tryz.prog 11 #[.pointer (some ⟨f, 0, none⟩), .int .i64 i, .int .i64 k, .slice ab b.length cb] w fun e w' =>
      e = .returned (.int .i64 (writeP T i k b).2) ∧ FsSt (Grow S w w') w' f (writeP T i k b).1 ∧ Kept S w w' := by
  obtain ⟨L, B, mb, h⟩ := h
  have HP := Lib.hid (file_in h i hi)
  have same : ∀ w', Kept NoB w w' → FsSt (Grow S w w') w' f T ∧ Kept S w w' := fun w' hk => ⟨⟨L, B, mb, (h.keptNo hk).mono (fun k e => .inl e)⟩, hk.mono (fun k _ e => e.elim)⟩
  by_cases hp : fileE T i = 0
  rotate_left
  · rw [if_neg hp, ptrV_none] at HP
    rw [writeP_no hp]
    obtain ⟨z, hz⟩ : ∃ z, z = fileE T i := ⟨_, rfl⟩
    rw [← hz] at hp HP ⊢
    have hz2 : (z == 0) = false := by simpa using hp
    have HSm := Lib.hid same
    obtain ⟨m, hm⟩ : ∃ m, m = b.length := ⟨_, rfl⟩
    rw [← hm]
    clear hz h hp same hput hrb hm
    go_enter Tryz.func11, Tryz.ntmps11
    go_wp2_with fail
    refine HP.out.mono ?_
    rintro e w2 ⟨rfl, hk2⟩
    go_wp2
    go_ret
    exact ⟨rfl, HSm.out _ hk2⟩
  obtain ⟨n, hn, h1⟩ := fileE_file hp
  rw [writeP_yes hn h1]
  rw [if_pos hp, hp] at HP
  obtain ⟨D, m, a, c, qs, hB, hN⟩ := h.at hn
  rw [hB, ptrV_some] at HP
  by_cases hbad : k < 0 ∨ 1099511627776 - (b.length : Int) < k
  · rw [if_pos hbad]
    have HSm := Lib.hid same
    obtain ⟨m, hm⟩ : ∃ m, m = b.length := ⟨_, rfl⟩
    rw [← hm] at hbad hbl ⊢
    clear h hp same hput hrb hm hN hB
    go_enter Tryz.func11, Tryz.ntmps11
    rcases Int.lt_or_le k 0 with hk0 | hk0
    · go_wp2_with fail
      refine HP.out.mono ?_
      rintro e w2 ⟨rfl, hk2⟩
      go_wp2
      go_ret
      exact ⟨rfl, HSm.out _ hk2⟩
    · have hb2 : 1099511627776 - (m : Int) < k := by omega
      go_wp2_with fail
      refine HP.out.mono ?_
      rintro e w2 ⟨rfl, hk2⟩
      go_wp2
      go_ret
      exact ⟨rfl, HSm.out _ hk2⟩
  rw [if_neg hbad]
  have hk0 : 0 ≤ k := by omega
  have hks : k + (b.length : Int) ≤ 1099511627776 := by omega
  have on := h.ok.node i n hn
  have hq := h.ok.quota
  have hus : 0 ≤ T.used := by rw [h.ok.used]; omega
  have hrm := h.ok.room
  obtain ⟨room, hroom⟩ : ∃ room : Nat, room = (T.quota - T.used).toNat := ⟨_, rfl⟩
  have hr2 : (room : Int) = T.quota - T.used := by omega
  have c13 : w.cell? ⟨D, 13, none⟩ = some (.slice a n.data.length c) := by rw [hN.cell 13]; rfl
  have HF : Hid (∀ W, Kept NoB w W → Calls Tryz.prog 29 #[.slice a n.data.length c, .int .i64 k, .int .i64 (b.length : Int), .int .i64 (T.quota - T.used)] W fun e w' => e = .returned (.tuple #[.int .i64 ((fitP T n k b).1 : Int), .int .i64 ((fitP T n k b).2 : Int)]) ∧ Kept NoB w w') := Lib.hid (fun W hW => by
    have hcp := hN.dat.cap
    have hlen := (ok_len on.data).1
    have := fitting_any n.data on.data a c k b.length room W ((by rw [← hN.data]; exact hN.dat.rd : RdD w a n.data).kept hW) hcp.1 hcp.2.1 hlen hk0 hks (by omega)
    rw [hr2] at this
    unfold fitP
    rw [← hroom]
    exact this.mono (fun e w' ⟨h1, h2⟩ => ⟨h1, hW.trans h2⟩))
  obtain ⟨ft, hft⟩ : ∃ x, x = (fitP T n k b).1 := ⟨_, rfl⟩
  obtain ⟨fr, hfr⟩ : ∃ x, x = (fitP T n k b).2 := ⟨_, rfl⟩
  rw [← hft, ← hfr] at HF ⊢
  have hle := fitB_le (isD n.data) b.length k room
  have hle2 : ft ≤ b.length ∧ fr ≤ room := by
    unfold fitP at hft hfr
    rw [← hroom] at hft hfr
    omega
  have c2 := h.cells.2.2.1
  have c3 := h.cells.2.2.2.1
  have hwr : IntKind.i64.wrap (T.quota - T.used) = T.quota - T.used := by rw [IntKind.wrap_i64]; omega
  have D13 : ∀ W, Kept NoB w W → W.cell? ⟨D, 13, none⟩ = some (.slice a n.data.length c) := fun W hk => hk.cell c13
  have D2 : ∀ W, Kept NoB w W → W.cell? ⟨f, 2, none⟩ = some (.int .i64 T.quota) := fun W hk => hk.cell c2
  have D3 : ∀ W, Kept NoB w W → W.cell? ⟨f, 3, none⟩ = some (.int .i64 T.used) := fun W hk => hk.cell c3
  obtain ⟨qo, hqo⟩ : ∃ x, x = T.quota := ⟨_, rfl⟩
  obtain ⟨us, huse⟩ : ∃ x, x = T.used := ⟨_, rfl⟩
  obtain ⟨dl, hdl⟩ : ∃ x, x = n.data.length := ⟨_, rfl⟩
  obtain ⟨bl, hbl2⟩ : ∃ x, x = b.length := ⟨_, rfl⟩
  rw [← hqo, ← huse] at hr2 hwr
  rw [← hqo] at D2 hq hquo
  rw [← huse] at D3 hus
  rw [← hqo, ← huse, ← hdl, ← hbl2] at HF
  rw [← hdl] at D13
  rw [← hbl2] at hle2 hks hbl hbc ⊢
  obtain ⟨z, hz⟩ : ∃ z : Int, z = if ft < bl then 5 else 0 := ⟨_, rfl⟩
  rw [← hz]
  have HZ := Lib.hid hz
  clear hz
  by_cases hf0 : ft = 0
  · rw [if_pos hf0]
    subst hf0
    have HSm := Lib.hid same
    clear h hp same hput hrb hN hB hn hbad hle hroom hft hfr on c13 c2 c3 hqo huse hdl hbl2 hrm h1
    go_enter Tryz.func11, Tryz.ntmps11
    go_upto_region 1 with fail
    go_wp2_with fail
    refine HP.out.mono ?_
    rintro e w2 ⟨rfl, hk2⟩
    go_upto_region 6 with fail
    go_region_held3 (fun W => Kept NoB w W) (first | assumption | exact Kept.drew (by assumption) | exact Kept.trans (by assumption) hkn) ((go_at_call 29; ((with_reducible refine (HF.out _ (by assumption)).mono ?_); rintro e wn ⟨rfl, hkn⟩)))
    have hkw : Kept NoB w wn := by assumption
    have HKw := Lib.hid hkw
    clear hkw
    by_cases hfl : 0 < bl
    · have hfl2 : (0 : Int) < (bl : Int) := by omega
      go_wp2
      go_ret
      exact ⟨by rw [HZ.out, if_pos hfl]; rfl, HSm.out _ HKw.out⟩
    · have hfl2 : ¬ (0 : Int) < (bl : Int) := by omega
      go_wp2
      go_ret
      exact ⟨by rw [HZ.out, if_neg hfl]; rfl, HSm.out _ HKw.out⟩
  have hab : ∀ x, ab = some x → ¬ S x.block := hab0 (fun e => by rw [e] at hbl2; simp at hbl2; omega)
  rw [if_neg hf0]
  have hf1 : 0 < ft := by omega
  have HA := Lib.hid (⟨h, hrb, hN, hB, hn, hks, hft, hfr, hqo, huse, hdl, hbl2, h1, hput n hn⟩ : _ ∧ _ ∧ _ ∧ _ ∧ _ ∧ _ ∧ _ ∧ _ ∧ _ ∧ _ ∧ _ ∧ _ ∧ _ ∧ _)
  have HSz := Lib.hid on.size
  have HCk := Lib.hid h.ok.clock
  clear h hp same hput hrb hN hB hn hbad hle hroom hft hfr on c13 c2 c3 hqo huse hdl hbl2 hrm h1
  go_enter Tryz.func11, Tryz.ntmps11
  go_upto_region 1 with fail
  go_wp2_with fail
  refine HP.out.mono ?_
  rintro e w2 ⟨rfl, hk2⟩
  go_upto_region 6 with fail
  go_region_held3 (fun W => Kept NoB w W) (first | assumption | exact Kept.drew (by assumption) | exact Kept.trans (by assumption) hkn) ((go_at_call 29; ((with_reducible refine (HF.out _ (by assumption)).mono ?_); rintro e wn ⟨rfl, hkn⟩)))
  have hkw : Kept NoB w wn := by assumption
  have HKw := Lib.hid hkw
  clear hkw
  have hf2 : (0 : Int) < (ft : Int) := by omega
  go_upto_region 8 with fail
  -- the clock
  have hn3 : FsIn L B mb S wn f T := HA.out.1.keptNo HKw.out
  have hN3 : NdSt L i wn D n m a c qs := HA.out.2.2.1.kept HKw.out (fun _ _ e => e) (fun _ _ e => e) (fun _ _ e => e) (fun _ _ e => e)
  have HTk := Lib.hid (tick_any (w := wn) (f := f) (fc := (fsC mb T).toArray) (c := T.clock) [] (fun _ => #[]) none 0 hn3.obj rfl ⟨HCk.out, by omega⟩ (fun i hi => absurd hi (by simp)) (fun x hx => by simp at hx) (by simp))
  have HI3 := Lib.hid hn3; have HN3 := Lib.hid hN3
  clear hn3 hN3
  go_wp2_with fail
  refine HTk.out.mono ?_
  rintro e w3 ⟨rfl, o3, _, k3, s3⟩
  have o3' : w3.heap[f]? = some (.cells (fsC mb { T with clock := T.clock + 1 }).toArray 66 (0, 0)) := o3
  have k3' : Kept (OneB f) wn w3 := k3.mono (fun j _ e => by rcases e with e | e; exact e; simp at e)
  have hlf := HI3.out.labf
  have N3 : NdSt L i w3 D n m a c qs := HN3.out.kept k3' (fun j e hj => by rw [hj, hlf] at e; cases e) (fun j e hj => by rw [hj, hlf] at e; cases e) (fun j e hj => by rw [hj, hlf] at e; cases e) (fun j e hj => by rw [hj, hlf] at e; cases e)
  have hSl : ∀ j x, L j = x → x ≠ .no → S j ∧ j < w.heap.size := fun j x => HA.out.1.low
  have hlen : n.data.length = qs.length := N3.dat.len
  have hdat : DatO w3 a c qs := ⟨by have := N3.dat.own; rw [hlen] at this; exact this, N3.dat.each, N3.dat.apart⟩
  have hbl3 : (b.take ft).length = ft := by rw [List.length_take]; have := HA.out.2.2.2.2.2.2.2.2.2.2.2.1; omega
  have hrd3 : Reads w3 ab (nb (b.take ft)) := by
    have h1 := HA.out.2.1.kept (HKw.out.dom.trans k3') (fun x hx e => hab x hx (by have e : x.block = f := e; rw [e]; exact (hSl f _ hlf (by simp)).1))
    have e : nb (b.take ft) = (nb b).take ft := by simp [nb]
    rw [e]
    exact reads_takeA ft h1
  have hbyt : ∀ j, BytB qs j → L j = .byt i := fun j ⟨q, hq, hj⟩ => N3.dat.labs q hq j hj
  have hrow : ∀ j, (Value.slice a qs.length c).ownBlock = some j → L j = .row i := fun j hj => N3.dat.lab j (by rw [hlen]; exact hj)
  have HPut : Hid (∀ W, Kept NoB w3 W → Calls Tryz.prog 30 #[.pointer (some ⟨D, 13, none⟩), .int .i64 k, .slice ab ft cb] W (PutP W D (ndC n m a c).toArray a c qs k (b.take ft))) := Lib.hid (fun W hW => by
    obtain ⟨_, _, _, _, _, hks, hft, _, _, _, _, hbl2, _, hput⟩ := HA.out
    rw [← hft] at hput
    have hlD := N3.lab
    have := hput D (ndC n m a c).toArray a c qs ab cb W N3.data (hW.obj N3.obj id) (by simp [ndC, nvC, hlen]) ⟨hW.row hdat.own (fun _ _ e => e), fun q hq => hW.row (hdat.each q hq) (fun _ _ e => e), hdat.apart⟩ (HA.out.1.ok.node i n HA.out.2.2.2.2.1).data
      (fun j hj => ⟨fun e => (by have h9 := hbyt j hj; rw [e, hlD] at h9; cases h9), fun x hx e => hab x hx (by rw [e]; exact (hSl j _ (hbyt j hj) (by simp)).1)⟩)
      (fun x hx => ⟨fun e => hab x hx (by rw [e]; exact (hSl D _ hlD (by simp)).1), fun e => hab x hx (hSl x.block _ (hrow _ e) (by simp)).1⟩)
      hk0 (fun e => by rw [e] at hbl3; simp at hbl3; omega) (by rw [hbl3]; omega) (hrd3.keptNo hW) (by rw [← hlen]; exact (ok_len (HA.out.1.ok.node i n HA.out.2.2.2.2.1).data).1)
    rw [hbl3] at this
    exact this)
  have HN4 := Lib.hid N3; have HSl := Lib.hid hSl; have HByt := Lib.hid hbyt; have HRow := Lib.hid hrow; have HO3 := Lib.hid o3'; have HK3 := Lib.hid k3'; have HDat := Lib.hid hdat; have HLen := Lib.hid hlen; have HS3 := Lib.hid s3
  clear o3 k3 s3 o3' k3' N3 hSl hlen hdat hbl3 hrd3 hbyt hrow hlf HTk
  have hf3 : (0 : Int) ≤ (ft : Int) := by omega
  have hf4 : (ft : Int) ≤ (cb : Int) := by omega
  go_upto_region 9 with fail
  go_region_held3 (fun _ => True) (exact True.intro) ((go_at_call 30; ((with_reducible refine (HPut.out _ (by first | exact Kept.refl _ _ | exact Kept.drew (Kept.refl _ _) | assumption)).mono ?_); rintro e w4 ⟨rfl, hP4⟩)))
  obtain ⟨a', c', qs', e1, e2, e3, e4, e5, e6⟩ := hP4
  have e6' : Kept (fun j => j = D ∨ (Value.slice a qs.length c).ownBlock = some j ∨ BytB qs j) w3 w4 := by first | exact e6 | exact (Kept.refl _ w3).drew.trans e6 | exact ((Kept.refl _ w3).drewN _).trans e6
  have e4' : ∀ j, (Value.slice a' qs'.length c').ownBlock = some j → (Value.slice a qs.length c).ownBlock = some j ∨ w3.heap.size ≤ j := e4
  have e5' : ∀ j, BytB qs' j → BytB qs j ∨ w3.heap.size ≤ j := e5
  have hlf := HI3.out.labf
  have hlD := HN4.out.lab
  have hfD : D ≠ f := fun e => by rw [e, hlf] at hlD; cases hlD
  have o4 : w4.heap[f]? = some (.cells (fsC mb { T with clock := T.clock + 1 }).toArray 66 (0, 0)) := e6'.obj HO3.out (fun e => by
    rcases e with e | e | e
    · exact hfD e.symm
    · have := HRow.out f e; rw [hlf] at this; cases this
    · have := HByt.out f e; rw [hlf] at this; cases this)
  rw [HN4.out.data] at e1
  have hl' : qs'.length = (putP n.data k (b.take ft)).length := by rw [← e1]; simp
  have n4 : w4.heap[D]? = some (.cells (ndC { n with data := putP n.data k (b.take ft) } m a' c').toArray 63 (0, 0)) := by
    rw [e2, hl']; rfl
  have HE := Lib.hid (⟨e1, e3, e4', e5', e6', hl'⟩ : _ ∧ _ ∧ _ ∧ _ ∧ _ ∧ _)
  have f3 : w4.cell? ⟨f, 3, none⟩ = some (.int .i64 us) := by rw [obj_cell o4, HA.out.2.2.2.2.2.2.2.2.2.1]; rfl
  have g3 := obj_free o4 3
  obtain ⟨w5, hw5⟩ : ∃ w5, w5 = w4.setCell ⟨f, 3, none⟩ (.int .i64 (us + (fr : Int))) := ⟨_, rfl⟩
  have o5 : w5.heap[f]? = some (.cells (fsC mb { T with clock := T.clock + 1, used := us + (fr : Int) }).toArray 66 (0, 0)) := by rw [hw5]; exact obj_set o4 3 _
  have n5 : w5.heap[D]? = some (.cells (ndC { n with data := putP n.data k (b.take ft) } m a' c').toArray 63 (0, 0)) := by rw [hw5, Below.heap_setCell _ _ _ _ hfD]; exact n4
  have k5 : Kept (OneB f) w4 w5 := by rw [hw5]; exact kept_one _ _ _ _
  obtain ⟨sz, hsz⟩ : ∃ sz, sz = n.v.size := ⟨_, rfl⟩
  have f8 : w5.cell? ⟨D, 8, none⟩ = some (.int .i64 sz) := by rw [obj_cell n5, hsz]; rfl
  have g8 := obj_free n5 8
  obtain ⟨w6, hw6⟩ : ∃ w6, w6 = w5.setCell ⟨D, 8, none⟩ (.int .i64 (max sz (k + (ft : Int)))) := ⟨_, rfl⟩
  have o6 : w6.heap[f]? = some (.cells (fsC mb { T with clock := T.clock + 1, used := us + (fr : Int) }).toArray 66 (0, 0)) := by rw [hw6, Below.heap_setCell _ _ _ _ hfD.symm]; exact o5
  have n6 : w6.heap[D]? = some (.cells (ndC { n with data := putP n.data k (b.take ft), v := { n.v with size := max sz (k + (ft : Int)) } } m a' c').toArray 63 (0, 0)) := by rw [hw6]; exact obj_set n5 8 _
  have k6 : Kept (OneB D) w5 w6 := by rw [hw6]; exact kept_one _ _ _ _
  obtain ⟨cl, hcl⟩ : ∃ cl, cl = T.clock + 1 := ⟨_, rfl⟩
  have f4 : w6.cell? ⟨f, 4, none⟩ = some (.int .i64 cl) := by rw [obj_cell o6, hcl]; rfl
  have g10 := obj_free n6 10
  have f10 : w6.cell? ⟨D, 10, none⟩ = some (.int .i64 n.v.change) := by rw [obj_cell n6]; rfl
  obtain ⟨w7, hw7⟩ : ∃ w7, w7 = w6.setCell ⟨D, 10, none⟩ (.int .i64 cl) := ⟨_, rfl⟩
  have o7 : w7.heap[f]? = some (.cells (fsC mb { T with clock := T.clock + 1, used := us + (fr : Int) }).toArray 66 (0, 0)) := by rw [hw7, Below.heap_setCell _ _ _ _ hfD.symm]; exact o6
  have n7 : w7.heap[D]? = some (.cells (ndC { n with data := putP n.data k (b.take ft), v := { n.v with size := max sz (k + (ft : Int)), change := cl } } m a' c').toArray 63 (0, 0)) := by rw [hw7]; exact obj_set n6 10 _
  have k7 : Kept (OneB D) w6 w7 := by rw [hw7]; exact kept_one _ _ _ _
  have hfin : Hid (FsSt (Grow S w w7) w7 f (writeT T i n k (b.take ft) fr) ∧ Kept S w w7) := Lib.hid (by
    obtain ⟨h, _, hN, hB, hn, hks, hft, hfr, _, huse, hdl, hbl2, h1, _⟩ := HA.out
    have hbl3 : (b.take ft).length = ft := by rw [List.length_take]; omega
    have sw : w.heap.size ≤ w3.heap.size := (HKw.out.dom.trans HK3.out).size
    have hlt : f < w.heap.size ∧ D < w.heap.size := ⟨(HSl.out f _ hlf (by simp)).2, (HSl.out D _ hlD (by simp)).2⟩
    have k47 : Kept (fun j => j = f ∨ j = D) w4 w7 := ((k5.mono (fun j _ e => .inl e)).trans (k6.mono (fun j _ e => .inr e))).trans (k7.mono (fun j _ e => .inr e))
    have k07 : Kept (fun j => j = f ∨ j = D ∨ (Value.slice a qs.length c).ownBlock = some j ∨ BytB qs j) w w7 :=
      ((HKw.out.dom.trans (HK3.out.mono (fun j _ e => .inl e))).trans (e6'.mono (fun j _ e => .inr e))).trans (k47.mono (fun j _ e => by rcases e with e | e; exact .inl e; exact .inr (.inl e)))
    have hrow : ∀ j, (Value.slice a' qs'.length c').ownBlock = some j → L j = .row i ∨ w.heap.size ≤ j := fun j hj => by
      rcases e4' j hj with e | e
      · exact .inl (HRow.out j e)
      · right; omega
    have hbyt : ∀ j, BytB qs' j → L j = .byt i ∨ w.heap.size ≤ j := fun j hj => by
      rcases e5' j hj with e | e
      · exact .inl (HByt.out j e)
      · right; omega
    have hrow4 : ∀ j, (Value.slice a' qs'.length c').ownBlock = some j → ¬ (j = f ∨ j = D) := fun j hj e => by
      rcases hrow j hj with h2 | h2
      · rcases e with e | e
        · rw [e, hlf] at h2; cases h2
        · rw [e, hlD] at h2; cases h2
      · omega
    have hbyt4 : ∀ j, BytB qs' j → ¬ (j = f ∨ j = D) := fun j hj e => by
      rcases hbyt j hj with h2 | h2
      · rcases e with e | e
        · rw [e, hlf] at h2; cases h2
        · rw [e, hlD] at h2; cases h2
      · omega
    have hok := writeT_ok h.ok hn h1 k b hk0 (by omega) (by omega)
    rw [← hft, ← hfr] at hok
    refine data_done (n' := wrN n (T.clock + 1) k (b.take ft)) h hB hN hok rfl rfl rfl rfl k07 (fun j hj _ => ?_) ?_ ?_ ⟨k47.row e3.own hrow4, fun q hq => k47.row (e3.each q hq) (fun j hj => hbyt4 j ⟨q, hq, hj⟩), e3.apart⟩ e1 hrow hbyt
    · rcases hj with e | e | e | e
      · exact .inl e
      · exact .inr (.inl e)
      · exact .inr (.inr (.inl (HRow.out j e)))
      · exact .inr (.inr (.inr (HByt.out j e)))
    · rw [huse] at o7; exact o7
    · rw [hcl, hsz] at n7
      unfold wrN
      rw [hbl3]
      exact n7)
  have HW5 := Lib.hid hw5; have HW6 := Lib.hid hw6; have HW7 := Lib.hid hw7
  have HQ := Lib.hid (⟨o7, n7, k5, k6, k7, hsz, hcl, hfD⟩ : _ ∧ _ ∧ _ ∧ _ ∧ _ ∧ _ ∧ _ ∧ _)
  have hsz2 : 0 ≤ sz ∧ sz ≤ 1099511627776 := by rw [hsz]; exact HSz.out
  clear hw5 hw6 hw7 o4 o5 o6 o7 n4 n5 n6 n7 k5 k6 k7 hsz hcl hfD e1 e2 e3 e4 e5 e6 e4' e5' e6' hl' hlf hlD
  go_upto_region 11 with fail
  rw [← HW5.out]
  clear f3 g3
  go_upto_region 12 with fail
  rw [← HW6.out]
  clear f8 g8
  go_upto_region 13 with fail
  rw [← HW7.out]
  clear f4 g10 f10
  by_cases hfl : ft < bl
  · have hfl2 : (ft : Int) < (bl : Int) := by omega
    go_wp2
    go_ret
    exact ⟨by rw [HZ.out, if_pos hfl]; rfl, hfin.out⟩
  · have hfl2 : ¬ (ft : Int) < (bl : Int) := by omega
    go_wp2
    go_ret
    exact ⟨by rw [HZ.out, if_neg hfl]; rfl, hfin.out⟩
end Go.Proofs.YtgbakogihkdddaaGreatDoor

namespace Go.Proofs.YtgbakogihkdddaaGreatDoor
open Go.RowKit
set_option linter.unusedVariables false

theorem putOk_any (l : List Fp) (k : Int) (bs : List UInt8) : PutOk l k bs := by
  by_cases ht : touchP l k (k + bs.length) = []
  · exact putOk_free ht
  · intro D cs a c qs ab cb w hl hD h13 hd hok hx hy hk hb hkb hrb hlen
    subst hl
    exact put_touch D cs a c qs k bs ab cb w hD h13 hd hok hx hy hk hb hkb hrb hlen ht
theorem write_all {S : Nat → Prop} {w : World} {f : Nat} {T : FsP} (h : FsSt S w f T) (i : Int) (hi : -9223372036854775808 ≤ i ∧ i ≤ 9223372036854775807) (k : Int) (hk : -9223372036854775808 ≤ k ∧ k ≤ 9223372036854775807) (b : List UInt8) (ab : Option Addr) (cb : Nat)
    (hrb : Reads w ab (nb b)) (hbc : b.length ≤ cb) (hcm : cb ≤ maxLen) (hbl : b.length ≤ 1099511627776) (hab0 : b ≠ [] → ∀ x, ab = some x → ¬ S x.block) (hclk : T.clock + 1 ≤ 4611686018427387904) (hquo : T.quota ≤ 4611686018427387904) :
    Calls Tryz.prog 11 #[.pointer (some ⟨f, 0, none⟩), .int .i64 i, .int .i64 k, .slice ab b.length cb] w fun e w' =>
      e = .returned (.int .i64 (writeP T i k b).2) ∧ FsSt (Grow S w w') w' f (writeP T i k b).1 ∧ Kept S w w' :=
  write_any h i hi k hk b ab cb hrb hbc hcm hbl hab0 hclk hquo (fun n hn => putOk_any _ _ _)
end Go.Proofs.YtgbakogihkdddaaGreatDoor

namespace Go.Proofs.YtgbakogihkdddaaGreatDoor
open Go.RowKit
set_option linter.unusedVariables false
set_option linter.unusedSimpArgs false
set_option maxRecDepth 20000

theorem fcells_set : ∀ (qs : List FpQ) (i : Nat) (q q' : FpQ), qs[i]? = some q → q'.1.1 = q.1.1 → (fcells qs).set (i * 2 + 1) (.slice q'.2.1 q'.1.2.length q'.2.2) = fcells (qs.set i q')
  | [], i, q, q', h, _ => by simp at h
  | x :: t, 0, q, q', h, e => by
    simp at h; subst h
    rw [fcells_cons, List.set_cons_zero, fcells_cons, e]
    rfl
  | x :: t, i + 1, q, q', h, e => by
    have ih := fcells_set t i q q' (by simpa using h) e
    rw [List.set_cons_succ, fcells_cons, fcells_cons, ← ih, show (i + 1) * 2 + 1 = (i * 2 + 1) + 1 + 1 by omega, List.set_cons_succ, List.set_cons_succ]
/-- Another row of bytes for one piece. -/
theorem own_set {w : World} {g n c : Nat} {qs : List FpQ} (hown : w.ownsRow 0 40 2 (.slice (some ⟨g, 0, none⟩) n c) n (fcells qs)) (hn : n = qs.length) (i : Nat) (q q' : FpQ) (hq : qs[i]? = some q) (he : q'.1.1 = q.1.1) :
    (w.setCell ⟨g, i * 2 + 1, none⟩ (.slice q'.2.1 q'.1.2.length q'.2.2)).ownsRow 0 40 2 (.slice (some ⟨g, 0, none⟩) n c) n (fcells (qs.set i q')) := by
  rcases hown.2 with ⟨h1, h2⟩ | ⟨g', cc, cur, h1, _, hg, hnc, hcm, hcs, htk⟩
  · cases h1
  · simp only [Value.slice.injEq, Option.some.injEq, Addr.mk.injEq, and_true, true_and] at h1
    obtain ⟨rfl, rfl⟩ := h1
    have hi : i < qs.length := (List.getElem?_eq_some_iff.1 hq).1
    refine ⟨by rw [fcells_len, List.length_set, hn], .inr ⟨g, c, _, rfl, Nat.zero_le _, obj_set hg (i * 2 + 1) _, hnc, hcm, by rw [Array.size_setIfInBounds]; exact hcs, ?_⟩⟩
    rw [← fcells_set qs i q q' hq he, ← htk, Array.toList_setIfInBounds, List.take_set]
theorem cutP_ahead {l : List Fp} (s : Int) : l.takeWhile (fun p => decide (endP p ≤ s)) = aheadP l (s + 1) ∧ l.dropWhile (fun p => decide (endP p ≤ s)) = l.dropWhile (fun p => decide (endP p < s + 1)) := by
  have e : (fun p : Fp => decide (endP p ≤ s)) = (fun p => decide (endP p < s + 1)) := by
    funext p; congr 1; exact propext ⟨fun h => by omega, fun h => by omega⟩
  exact ⟨by unfold aheadP; rw [e], by rw [e]⟩
/-- How a row of pieces is cut. -/
theorem cut_cases (qs : List FpQ) (s : Int) (A : Nat) (hA : A = (aheadP (qs.map Prod.fst) (s + 1)).length) : A ≤ qs.length ∧
    ((∃ q, qs[A]? = some q ∧ q.1.1 < s ∧ s < endP q.1 ∧ cutP (qs.map Prod.fst) s = (qs.take A).map Prod.fst ++ [(q.1.1, q.1.2.take (s - q.1.1).toNat)]) ∨ ((∀ q, qs[A]? = some q → ¬ q.1.1 < s) ∧ cutP (qs.map Prod.fst) s = (qs.take A).map Prod.fst)) := by
  obtain ⟨e1, e2⟩ := cutP_ahead (l := qs.map Prod.fst) s
  have hsp : qs.map Prod.fst = aheadP (qs.map Prod.fst) (s + 1) ++ (qs.map Prod.fst).dropWhile (fun p => decide (endP p < s + 1)) := (List.takeWhile_append_dropWhile).symm
  have hle : A ≤ qs.length := by
    have := congrArg List.length hsp
    rw [List.length_map, List.length_append, ← hA] at this
    omega
  have ht : (qs.take A).map Prod.fst = aheadP (qs.map Prod.fst) (s + 1) := by
    rw [List.map_take]
    conv => lhs; rw [hsp]
    rw [hA, List.take_left]
  have hd : (qs.drop A).map Prod.fst = (qs.map Prod.fst).dropWhile (fun p => decide (endP p < s + 1)) := by
    rw [List.map_drop]
    conv => lhs; rw [hsp]
    rw [hA, List.drop_left]
  refine ⟨hle, ?_⟩
  unfold cutP
  rw [e1, e2, ← ht, ← hd]
  cases hq : qs.drop A with
  | nil =>
    right
    have hn : qs[A]? = none := by
      have := congrArg List.length hq
      rw [List.length_drop] at this
      exact List.getElem?_eq_none (by simp at this; omega)
    exact ⟨fun q h => (by rw [hn] at h; cases h), by simp⟩
  | cons q t =>
    have hn : qs[A]? = some q := by
      have := congrArg (fun l => l[0]?) hq
      simpa [List.getElem?_drop] using this
    by_cases hs : q.1.1 < s
    · left
      refine ⟨q, hn, hs, ?_, by simp [hs]⟩
      have h1 : ¬ endP q.1 < s + 1 := fun h => by
        have h2 := hd
        rw [hq, List.map_cons] at h2
        have := drop_first h2.symm
        simp at this
        omega
      omega
    · right
      exact ⟨fun q' h => by rw [hn] at h; cases h; exact hs, by simp [hs]⟩
/-- What comes of cut. -/
def CutR (w : World) (D : Nat) (cs : Array Value) (a : Option Addr) (c : Nat) (qs : List FpQ) (s : Int) (e : Ending) (w' : World) : Prop :=
  e = .returned (.int .i64 ((sizeD (qs.map Prod.fst) : Int) - (sizeD (cutP (qs.map Prod.fst) s) : Int))) ∧ ∃ (a' : Option Addr) (c' : Nat) (qs' : List FpQ), qs'.map Prod.fst = cutP (qs.map Prod.fst) s ∧ w'.heap[D]? = some (.cells (cs.setIfInBounds 13 (.slice a' qs'.length c')) 63 (0, 0)) ∧ DatO w' a' c' qs' ∧
    (∀ j, (Value.slice a' qs'.length c').ownBlock = some j → (Value.slice a qs.length c).ownBlock = some j ∨ w.heap.size ≤ j) ∧ (∀ j, BytB qs' j → BytB qs j ∨ w.heap.size ≤ j) ∧
    Kept (fun j => j = D ∨ (Value.slice a qs.length c).ownBlock = some j ∨ BytB qs j) w w'
end Go.Proofs.YtgbakogihkdddaaGreatDoor

namespace Go.Proofs.YtgbakogihkdddaaGreatDoor
open Go.RowKit
set_option linter.unusedVariables false
set_option linter.unusedSimpArgs false
set_option maxRecDepth 20000

theorem set_split {α : Type} {l : List α} {i : Nat} {q q' : α} (h : l[i]? = some q) : (l.set i q').take (i + 1) = l.take i ++ [q'] := by
  obtain ⟨hi, rfl⟩ := List.getElem?_eq_some_iff.1 h
  rw [List.take_add_one, List.take_set_of_le (Nat.le_refl _), List.getElem?_set_self hi]; rfl
set_option maxHeartbeats 4000000 in
theorem cut_any (D : Nat) (cs : Array Value) (a : Option Addr) (c : Nat) (qs : List FpQ) (s : Int) (w : World) (hD : w.heap[D]? = some (.cells cs 63 (0, 0))) (h13 : cs[13]? = some (.slice a qs.length c))
    (hd : DatO w a c qs) (hl : OkD (qs.map Prod.fst)) (hx : ∀ j, BytB qs j → j ≠ D) (hs : 0 ≤ s ∧ s ≤ 1099511627776) :
    Calls Tryz.prog 85 #[.pointer (some ⟨D, 13, none⟩), .int .i64 s] w (CutR w D cs a c qs s) := by
  have hr := bytes_rd hd
  have hol := ok_len hl
  obtain ⟨l, hle⟩ : ∃ l, l = qs.map Prod.fst := ⟨_, rfl⟩
  rw [← hle] at hr hl hol
  have hll : l.length = qs.length := by rw [hle]; simp
  obtain ⟨n, hn⟩ : ∃ n, n = qs.length := ⟨_, rfl⟩
  have hown := hd.own
  rw [← hn] at h13 hown hll
  have hlen : n ≤ 1099511627776 := by omega
  have c13 : w.cell? ⟨D, 13, none⟩ = some (.slice a n c) := by rw [obj_cell hD]; exact h13
  have hcap : n ≤ c ∧ c ≤ maxLen := by
    rcases hown.2 with ⟨h1, h2⟩ | ⟨g, cc, cur, h1, _, _, h2, h3, _⟩
    · simp at h1; constructor; omega; unfold maxLen; omega
    · simp at h1; obtain ⟨_, rfl⟩ := h1; exact ⟨h2, h3⟩
  have hc63 : (c : Int) ≤ 9223372036854775807 := by have := hcap.2; unfold maxLen at this; omega
  obtain ⟨A, hA⟩ : ∃ A, A = (aheadP l (s + 1)).length := ⟨_, rfl⟩
  obtain ⟨hAn, hcc⟩ := cut_cases qs s A (by rw [hA, hle])
  obtain ⟨S0, hS0⟩ : ∃ S0, S0 = sizeD l := ⟨_, rfl⟩
  have HSz := Lib.hid (size_any l a c w hr (by omega) hcap.2 (by omega))
  have HAf : Hid (∀ W, Kept NoB w W → Calls Tryz.prog 46 #[.slice a n c, .int .i64 s] W fun e w' => e = .returned (.int .i64 (A : Int)) ∧ Kept NoB W w') := Lib.hid (fun W hW => by
    have := after_any l hl a c s W (hr.kept hW) (by omega) hcap.2 (by omega) (by omega)
    rw [hll, ← hA] at this
    exact this)
  rw [hll, ← hS0] at HSz
  have HAll := Lib.hid (⟨hD, hd, hl, hx, hle, hS0, hn, h13⟩ : _ ∧ _ ∧ _ ∧ _ ∧ _ ∧ _ ∧ _ ∧ _)
  rw [← hn] at hAn
  -- the end, whatever was taken away
  have HEnd : Hid (∀ (wd we : World) (qs' : List FpQ) (i : Nat), Kept (fun j => (Value.slice a n c).ownBlock = some j) w wd → we = wd.setCell ⟨D, 13, none⟩ (.slice a i c) → qs'.map Prod.fst = cutP l s → i = qs'.length → wd.ownsRow 0 40 2 (.slice a i c) i (fcells qs') → (∀ q ∈ qs', q ∈ qs ∨ (wd.ownsRow 0 5 1 (.slice q.2.1 q.1.2.length q.2.2) q.1.2.length (bc q.1.2) ∧ ∀ j, pcB q = some j → w.heap.size ≤ j)) →
      qs'.Pairwise (fun p q => ∀ j, pcB p = some j → pcB q ≠ some j) → DatO we a c qs' ∧ we.heap[D]? = some (.cells (cs.setIfInBounds 13 (.slice a i c)) 63 (0, 0)) ∧ (∀ j, BytB qs' j → BytB qs j ∨ w.heap.size ≤ j) ∧ Kept (fun j => j = D ∨ (Value.slice a n c).ownBlock = some j ∨ BytB qs j) w we ∧ (∀ j, (Value.slice a i c).ownBlock = some j → (Value.slice a n c).ownBlock = some j)) := Lib.hid (fun wd we qs' i hk hwe hq hi hro hby hap => by
    obtain ⟨hD, hd, hl, hx, hle, hS0, hn, h13⟩ := HAll.out
    have hrD : ∀ j, (Value.slice a n c).ownBlock = some j → j ≠ D := fun j hj => row2_ne (by have := hd.own; rw [← hn] at this; exact this) hD (by decide) j hj
    have hDd : wd.heap[D]? = some (.cells cs 63 (0, 0)) := hk.obj hD (fun e => hrD D e rfl)
    have ks : Kept (OneB D) wd we := by rw [hwe]; exact Kept.setCell (S := OneB D) (p := ⟨D, 13, none⟩) (Kept.refl _ wd) (.inl rfl) _
    have hob : ∀ j, (Value.slice a i c).ownBlock = some j → (Value.slice a n c).ownBlock = some j := fun j hj => by cases a with
      | none => cases hj
      | some x => exact hj
    have heach : ∀ q ∈ qs', wd.ownsRow 0 5 1 (.slice q.2.1 q.1.2.length q.2.2) q.1.2.length (bc q.1.2) := fun q hq2 => by
      rcases hby q hq2 with h | h
      · exact hk.row (hd.each q h) (fun j hj e => row_byt hd ⟨q, h, hj⟩ (by rw [← hn]; exact e))
      · exact h.1
    refine ⟨⟨?_, fun q hq2 => ?_, hap⟩, by rw [hwe]; exact obj_set hDd 13 _, fun j hj => ?_, (hk.mono (fun j _ e => .inr (.inl e))).trans (ks.mono (fun j _ e => .inl e)), hob⟩
    · rw [← hi]
      exact ks.row hro (fun j hj e => hrD j (hob j hj) e)
    · refine ks.row (heach q hq2) (fun j hj e => ?_)
      have e : j = D := e
      rcases hby q hq2 with h | h
      · exact hx j ⟨q, h, hj⟩ e
      · have := h.2 j hj
        have := obj_lt hD
        omega
    · obtain ⟨q, hq2, hj2⟩ := hj
      rcases hby q hq2 with h | h
      · exact .inl ⟨q, h, hj2⟩
      · exact .inr (h.2 j hj2))
  have HFin : Hid (∀ (we w5 : World) (qs' : List FpQ) (i : Nat), Kept NoB we w5 → qs'.map Prod.fst = cutP l s → i = qs'.length → (DatO we a c qs' ∧ we.heap[D]? = some (.cells (cs.setIfInBounds 13 (.slice a i c)) 63 (0, 0)) ∧ (∀ j, BytB qs' j → BytB qs j ∨ w.heap.size ≤ j) ∧ Kept (fun j => j = D ∨ (Value.slice a n c).ownBlock = some j ∨ BytB qs j) w we ∧ (∀ j, (Value.slice a i c).ownBlock = some j → (Value.slice a n c).ownBlock = some j)) →
      CutR w D cs a c qs s (.returned (.int .i64 ((S0 : Int) - (sizeD (cutP l s) : Int)))) w5) := Lib.hid (fun we w5 qs' i hk hq hi ⟨h1, h2, h3, h4, h5⟩ => by
    obtain ⟨hD, hd, hl, hx, hle, hS0, hn, h13⟩ := HAll.out
    subst hi
    refine ⟨by rw [hS0, hle], a, c, qs', by rw [← hle]; exact hq, hk.obj h2 id, ⟨hk.row h1.own (fun _ _ e => e), fun q hq2 => hk.row (h1.each q hq2) (fun _ _ e => e), h1.apart⟩, fun j hj => .inl (by rw [← hn]; exact h5 j hj), h3, ?_⟩
    rw [← hn]
    exact h4.trans hk.dom)
  have HSn : Hid (∀ W qs', DatO W a c qs' → qs'.map Prod.fst = cutP l s → Calls Tryz.prog 99 #[.slice a qs'.length c] W fun e w' => e = .returned (.int .i64 (sizeD (cutP l s) : Int)) ∧ Kept NoB W w') := Lib.hid (fun W qs' hdo hq => by
    have hok := cut_ok hl s hs.1
    have hb := (ok_len hok).2
    have hcp : qs'.length ≤ c ∧ c ≤ maxLen := by
      rcases hdo.own.2 with ⟨h1, h2⟩ | ⟨g, cc, cur, h1, _, _, h2, h3, _⟩
      · simp at h1; constructor; omega; unfold maxLen; omega
      · simp at h1; obtain ⟨_, rfl⟩ := h1; exact ⟨h2, h3⟩
    have := size_any (qs'.map Prod.fst) a c W (bytes_rd hdo) (by rw [List.length_map]; exact hcp.1) hcp.2 (by rw [hq]; omega)
    rw [List.length_map, hq] at this
    exact this)
  have hsc := (ok_len (cut_ok hl s hs.1)).2
  obtain ⟨S1, hS1⟩ : ∃ S1, S1 = sizeD (cutP l s) := ⟨_, rfl⟩
  rw [← hS1] at HSn hsc
  have hS0b : S0 ≤ 1099511627776 := by omega
  have HS1 := Lib.hid hS1
  have HLe := Lib.hid hle; have HN := Lib.hid hn; have HS0 := Lib.hid hS0
  have HOwn := Lib.hid hown
  have hCs := Lib.hid h13
  rcases hcc with ⟨q, hqA, hqs, hqe, hcut⟩ | ⟨hno, hcut⟩
  · have hAlt : A < n := by rw [hn]; exact (List.getElem?_eq_some_iff.1 hqA).1
    obtain ⟨g, rfl⟩ : ∃ g, a = some ⟨g, 0, none⟩ := by
      rcases hown.2 with ⟨h1, h2⟩ | ⟨g, cc, cur, h1, _⟩
      · omega
      · simp only [Value.slice.injEq] at h1; exact ⟨g, h1.1⟩
    have hgcur : ∃ cur, w.heap[g]? = some (.cells cur 40 (0, 0)) := by
      rcases hown.2 with ⟨h1, h2⟩ | ⟨g', cc, cur, h1, _, hg, _⟩
      · cases h1
      · simp only [Value.slice.injEq, Option.some.injEq, Addr.mk.injEq, and_true, true_and] at h1
        obtain ⟨rfl, _⟩ := h1
        exact ⟨cur, hg⟩
    obtain ⟨cur, hcur⟩ := hgcur
    have hq12 := fcells_at2 qs A q hqA
    have y0 : w.cell? ⟨g, A * 2, none⟩ = some (.int .i64 q.1.1) := by
      have := hown.cells (g := g) rfl _ _ hq12.1
      rw [Addr.add_lit, Nat.zero_add] at this; exact this
    have y1 : w.cell? ⟨g, A * 2 + 1, none⟩ = some (.slice q.2.1 q.1.2.length q.2.2) := by
      have := hown.cells (g := g) rfl _ _ hq12.2
      rw [Addr.add_lit, Nat.zero_add] at this; exact this
    have hqm : q ∈ qs := List.mem_of_getElem? hqA
    have hqr := hd.each q hqm
    have hqok := hl.each q.1 (by rw [hle]; exact List.mem_map.2 ⟨q, hqm, rfl⟩)
    obtain ⟨z, hz⟩ : ∃ z, z = q.1.1 := ⟨_, rfl⟩
    obtain ⟨m, hm⟩ : ∃ m, m = q.1.2.length := ⟨_, rfl⟩
    obtain ⟨qc, hqc⟩ : ∃ qc, qc = q.2.2 := ⟨_, rfl⟩
    obtain ⟨qa, hqa⟩ : ∃ qa, qa = q.2.1 := ⟨_, rfl⟩
    unfold endP at hqe hqok
    rw [← hz] at hqs hqe hqok y0
    rw [← hm] at hqe hqok
    rw [← hqa, ← hm, ← hqc] at y1 hqr
    have hmc : m ≤ qc ∧ qc ≤ maxLen := by
      rcases hqr.2 with ⟨h1, h2⟩ | ⟨gx, cc, cux, h1, _, _, h2, h3, _⟩
      · simp at h1; constructor; omega; unfold maxLen; omega
      · simp at h1; obtain ⟨_, rfl⟩ := h1; exact ⟨h2, h3⟩
    have hqc63 : (qc : Int) ≤ 9223372036854775807 := by have := hmc.2; unfold maxLen at this; omega
    obtain ⟨gq, hgq⟩ : ∃ gq, qa = some ⟨gq, 0, none⟩ := by
      rcases hqr.2 with ⟨h1, h2⟩ | ⟨gx, cc, cux, h1, _⟩
      · omega
      · simp only [Value.slice.injEq] at h1; exact ⟨gx, h1.1⟩
    subst hgq
    obtain ⟨P, hP⟩ : ∃ P, P = (s - z).toNat := ⟨_, rfl⟩
    have hPm : P < m := by omega
    have hpl : (q.1.2.take P).length = P := by rw [List.length_take, ← hm]; omega
    have HCl : Hid (∀ W, Kept NoB w W → Calls Tryz.prog 51 #[.slice (some ⟨gq, 0, none⟩) (s - z).toNat qc] W fun e w' => ∃ ao cap, e = .returned (.slice ao (s - z).toNat cap) ∧ Hid (w'.ownsRow 0 5 1 (.slice ao P cap) P (bc (q.1.2.take P)) ∧ (∀ j, (Value.slice ao P cap).ownBlock = some j → w.heap.size ≤ j) ∧ Kept NoB w w')) := Lib.hid (fun W hW => by
      have hrow := hW.row hqr (fun _ _ e => e)
      have h0 : W.ownsRow 0 5 1 (.slice (some ⟨gq, 0, none⟩) (nb q.1.2).length qc) (nb q.1.2).length ((nb q.1.2).map (.int .u8)) := by
        rw [nb_len, ← hm, ← bc_nb]; exact hrow
      have h1 := reads_takeA P (own_reads h0 rfl)
      have e : nb (q.1.2.take P) = (nb q.1.2).take P := by simp [nb, List.map_take]
      rw [← e] at h1
      have e0 : (nb (q.1.2.take P)).length = P := by rw [nb_len, hpl]
      have := clone_any (some ⟨gq, 0, none⟩) qc (nb (q.1.2.take P)) W h1 (by rw [e0]; omega)
      rw [e0] at this
      rw [← hP]
      refine this.mono ?_
      rintro e w' ⟨ao, cap, rfl, h1, h2, _, h4⟩
      rw [e0] at h1 h2 ⊢
      refine ⟨ao, cap, rfl, Lib.hid ⟨?_, fun j hj => Nat.le_trans hW.size (h2 j hj), hW.trans h4⟩⟩
      rw [bc_nb]; exact h1)
    have HDl : Hid (∀ (W : World) (q2 : FpQ), W.ownsRow 0 40 2 (.slice (some ⟨g, 0, none⟩) n c) n (fcells (qs.set A q2)) → Kept (OwnB (.slice (some ⟨g, 0, none⟩) n c)) w W → Calls Tryz.prog 100 #[.slice (some ⟨g, 0, none⟩) n c, .int .i64 ((A : Int) + 1), .int .i64 (n : Int)] W fun e w' => e = .returned (.slice (some ⟨g, 0, none⟩) (A + 1) c) ∧ Hid (w'.ownsRow 0 40 2 (.slice (some ⟨g, 0, none⟩) (A + 1) c) (A + 1) (fcells (qs.take A ++ [q2])) ∧ Kept (OwnB (.slice (some ⟨g, 0, none⟩) n c)) W w' ∧ Kept (OwnB (.slice (some ⟨g, 0, none⟩) n c)) w w')) := Lib.hid (fun W q2 ho hk => by
      have := delete_any (some ⟨g, 0, none⟩) n c (A + 1) (qs.set A q2) W (by rw [List.length_set]; exact hn) ho (by omega) hlen
      rw [set_split hqA] at this
      rw [show ((A + 1 : Nat) : Int) = (A : Int) + 1 by push_cast; rfl] at this
      refine this.mono ?_
      rintro e w' ⟨rfl, h1, h2⟩
      exact ⟨rfl, Lib.hid ⟨h1, h2, hk.trans h2⟩⟩)
    have HQ := Lib.hid (⟨hqA, hz, hm, hqc, hqa, hP, hpl, hcut⟩ : _ ∧ _ ∧ _ ∧ _ ∧ _ ∧ _ ∧ _ ∧ _)
    have hAlt2 : (A : Int) < (n : Int) := by omega
    have hsz0 : 0 ≤ s - z := by omega
    have hzs2 : z ≤ s := by omega
    have hszm : s - z ≤ (m : Int) := by omega
    have hszc : s - z ≤ (qc : Int) := by have := hmc.1; omega
    have hszw : IntKind.i64.wrap (s - z) = s - z := by rw [IntKind.wrap_i64]; omega
    have HMc := Lib.hid hmc
    have HCur := Lib.hid hcur
    clear hcut hr hl hle hll hn hown hd hD h13 hA hS0 hS1 hx hcap hol hqA hz hm hqc hqa hP hpl hq12 hqm hqr hqok hmc hcur
    go_enter Tryz.func85, Tryz.ntmps85
    go_wp2_with fail
    refine HSz.out.mono ?_
    rintro e w1 ⟨rfl, hk1⟩
    go_wp2_with fail
    refine (HAf.out _ hk1).mono ?_
    rintro e w2 ⟨rfl, hk2⟩
    have hk12 := hk1.trans hk2
    have HK2 := Lib.hid hk12
    have d13 := hk12.cell c13
    have z0 := hk12.cell y0
    have z1 := hk12.cell y1
    clear hk1 hk2 hk12 HSz HAf c13 y0 y1
    go_upto_region 5 with fail
    have HCl := Lib.hid (fun W (hW : Kept NoB w2 W) => HCl.out W (HK2.out.trans hW))
    have HS3 : Hid (∀ W, Kept NoB w W → W.cell? ⟨g, A * 2 + 1, none⟩ = some (.slice (some ⟨gq, 0, none⟩) m qc) ∧ W.frozen? ⟨g, A * 2 + 1, none⟩ = false ∧ W.cell? ⟨g, A * 2, none⟩ = some (.int .i64 z)) := Lib.hid (fun W hW => by
      have o := hW.obj HCur.out id
      have h1 := (hW.row HOwn.out (fun _ _ e => e)).cells (g := g) rfl
      have h2 := fcells_at2 qs A q HQ.out.1
      have h3 := h1 _ _ h2.1
      have h4 := h1 _ _ h2.2
      rw [Addr.add_lit, Nat.zero_add] at h3 h4
      rw [← HQ.out.2.1] at h3
      rw [← HQ.out.2.2.1, ← HQ.out.2.2.2.1, ← HQ.out.2.2.2.2.1] at h4
      exact ⟨h4, obj_free o _, h3⟩)
    go_region_law (first
      | (go_simp; go_at_call 51; (with_reducible refine (HCl.out _ (Kept.refl NoB w2).drew).mono ?_); rintro e w3 ⟨ao, cap, rfl, h3⟩; have k3 := HS3.out w3 h3.out.2.2; obtain ⟨k3a, k3b, k3c⟩ := k3))
    all_goals go_simp
    all_goals
      obtain ⟨q2, hq2⟩ : ∃ q2 : FpQ, q2 = ((z, q.1.2.take P), (ao, cap)) := ⟨_, rfl⟩
      obtain ⟨w4, hw4⟩ : ∃ w4, w4 = w3.setCell ⟨g, A * 2 + 1, none⟩ (.slice ao (s - z).toNat cap) := ⟨_, rfl⟩
      have hrow3 := h3.out.2.2.row HOwn.out (fun _ _ e => e)
      have hval : (Value.slice ao (s - z).toNat cap) = .slice q2.2.1 q2.1.2.length q2.2.2 := by rw [hq2, ← HQ.out.2.2.2.2.2.1]; show _ = Value.slice ao (q.1.2.take P).length cap; rw [HQ.out.2.2.2.2.2.2.1]
      have hq21 : q2.1.1 = q.1.1 := by rw [hq2]; exact HQ.out.2.1
      have o4 : w4.ownsRow 0 40 2 (.slice (some ⟨g, 0, none⟩) n c) n (fcells (qs.set A q2)) := by rw [hw4, hval]; exact own_set hrow3 HN.out A q q2 HQ.out.1 hq21
      have k34 : Kept (OneB g) w3 w4 := by rw [hw4]; exact Kept.setCell (S := OneB g) (p := ⟨g, A * 2 + 1, none⟩) (Kept.refl _ w3) (.inl rfl) _
      have k4 : Kept (OwnB (.slice (some ⟨g, 0, none⟩) n c)) w w4 := (h3.out.2.2.dom).trans (k34.mono (fun j _ e => by have e : j = g := e; rw [e]; rfl))
      have b4 : w4.ownsRow 0 5 1 (.slice ao P cap) P (bc (q.1.2.take P)) := k34.row h3.out.1 (fun j hj e => by
        have e : j = g := e
        have h1 := h3.out.2.1 j hj
        have h2 := (HOwn.out.lt g rfl).2
        omega)
      have HDl := Lib.hid (HDl.out w4 q2 o4 k4)
      have H4 := Lib.hid (⟨o4, k4, b4, hq2⟩ : _ ∧ _ ∧ _ ∧ _)
      have HW4 := Lib.hid hw4
      clear o4 k4 b4 hq2 hw4 hrow3 hval hq21 k34 k3a k3b k3c
      rw [← HW4.out]
      have d4 : w4.cell? ⟨D, 13, none⟩ = some (.slice (some ⟨g, 0, none⟩) n c) := by rw [obj_cell (H4.out.2.1.obj HAll.out.1 (fun e => row2_ne HOwn.out HAll.out.1 (by decide) D e rfl)), hCs.out]
      clear d13 z0 z1
      have hAw : IntKind.i64.wrap ((A : Int) + 1) = (A : Int) + 1 := by rw [IntKind.wrap_i64]; omega
      go_upto_region 8 with (first | (go_at_call 100; refine HDl.out.mono ?_; rintro e w5 ⟨rfl, h5⟩; (have o5 : w5.heap[D]? = some (.cells cs 63 (0, 0)) := h5.out.2.2.obj HAll.out.1 (fun e => row2_ne HOwn.out HAll.out.1 (by decide) D e rfl)); (have c5 := obj_cell o5 13); (rw [hCs.out] at c5); (have f5 := obj_free o5 13); have HO5 := Lib.hid o5; clear o5) | fail)
      have hm4 : (qs.take A ++ [q2]).map Prod.fst = cutP l s := by
        rw [HLe.out, HQ.out.2.2.2.2.2.2.2, List.map_append, H4.out.2.2.2]
        show _ ++ [(z, q.1.2.take P)] = _
        rw [HQ.out.2.2.2.2.2.1, HQ.out.2.1]
      have hl4 : A + 1 = (qs.take A ++ [q2]).length := by rw [List.length_append, List.length_take, ← HN.out]; simp; omega
      have hq2b : ∀ j, pcB q2 = some j → w.heap.size ≤ j := fun j hj => by
        refine h3.out.2.1 j ?_
        rw [← hj, H4.out.2.2.2]
        show _ = (Value.slice ao (q.1.2.take P).length cap).ownBlock
        rw [HQ.out.2.2.2.2.2.2.1]
      have e4 := HEnd.out w5 _ (qs.take A ++ [q2]) (A + 1) h5.out.2.2 rfl hm4 hl4 h5.out.1 (fun x hx => by
        rcases List.mem_append.1 hx with h | h
        · exact .inl (List.mem_of_mem_take h)
        · right
          rw [List.mem_singleton] at h
          subst h
          refine ⟨?_, hq2b⟩
          have := h5.out.2.1.row H4.out.2.2.1 (fun j hj e => by
            have h1 := h3.out.2.1 j hj
            have h2 := (HOwn.out.lt j e).2
            omega)
          rw [H4.out.2.2.2]
          show w5.ownsRow 0 _ 1 (.slice ao (q.1.2.take P).length cap) (q.1.2.take P).length (bc (q.1.2.take P))
          rw [HQ.out.2.2.2.2.2.2.1]
          exact this) (by
        rw [List.pairwise_append]
        refine ⟨HAll.out.2.1.apart.sublist (List.take_sublist _ _), List.pairwise_singleton _ _, fun x hx y hy j hj e => ?_⟩
        rw [List.mem_singleton] at hy
        subst hy
        have h1 := hq2b j e
        have h2 := ((HAll.out.2.1.each x (List.mem_of_mem_take hx)).lt j hj).2
        omega)
      have HM4 := Lib.hid hm4
      have HL4 := Lib.hid hl4
      generalize w5.setCell ⟨D, 13, none⟩ (.slice (some ⟨g, 0, none⟩) (A + 1) c) = w6 at e4 ⊢
      have d6 : w6.cell? ⟨D, 13, none⟩ = some (.slice (some ⟨g, 0, none⟩) (A + 1) c) := by rw [obj_cell e4.2.1, Array.getElem?_setIfInBounds_self_of_lt (Array.getElem?_eq_some_iff.1 hCs.out).1]
      have HSn := Lib.hid (HSn.out w6 (qs.take A ++ [q2]) e4.1 hm4)
      rw [← hl4] at HSn
      have HE4 := Lib.hid e4
      clear e4 hm4 hl4 c5 f5 hq2b d4
      go_wp2_with (go_at_call 99; refine HSn.out.mono ?_; rintro e w7 ⟨rfl, hk7⟩)
      go_ret
      rw [HS1.out]
      exact HFin.out w6 w7 (qs.take A ++ [q2]) (A + 1) hk7 HM4.out HL4.out HE4.out
  · have hgd : ((A : Int) < (n : Int)) → ∃ g z, a = some ⟨g, 0, none⟩ ∧ w.cell? ⟨g, A * 2, none⟩ = some (.int .i64 z) ∧ ¬ z < s := fun hlt => by
      obtain ⟨g, rfl⟩ : ∃ g, a = some ⟨g, 0, none⟩ := by
        rcases hown.2 with ⟨h1, h2⟩ | ⟨g, cc, cur, h1, _⟩
        · omega
        · simp only [Value.slice.injEq] at h1; exact ⟨g, h1.1⟩
      have hq : qs[A]? = some (qs[A]'(by omega)) := List.getElem?_eq_getElem (by omega)
      refine ⟨g, (qs[A]'(by omega)).1.1, rfl, ?_, hno _ hq⟩
      have := hown.cells (g := g) rfl _ _ (fcells_at2 qs A _ hq).1
      rw [Addr.add_lit, Nat.zero_add] at this
      exact this
    have HDl : Hid (∀ W, Kept NoB w W → Calls Tryz.prog 100 #[.slice a n c, .int .i64 (A : Int), .int .i64 (n : Int)] W fun e w' => e = .returned (.slice a A c) ∧ Hid (w'.ownsRow 0 40 2 (.slice a A c) A (fcells (qs.take A)) ∧ Kept (OwnB (.slice a n c)) w w')) := Lib.hid (fun W hW => by
      have := delete_any a n c A qs W hn (hW.row hown (fun _ _ e => e)) hAn hlen
      refine this.mono ?_
      rintro e w' ⟨rfl, h1, h2⟩
      exact ⟨rfl, Lib.hid ⟨h1, hW.dom.trans h2⟩⟩)
    have HGd := Lib.hid hgd
    have HCut := Lib.hid hcut
    clear hgd hno hcut hr hl hle hll hn hown hd hD h13 hA hS0 hS1 hx hcap hol
    go_enter Tryz.func85, Tryz.ntmps85
    go_wp2_with fail
    refine HSz.out.mono ?_
    rintro e w1 ⟨rfl, hk1⟩
    go_wp2_with fail
    refine (HAf.out _ hk1).mono ?_
    rintro e w2 ⟨rfl, hk2⟩
    have hk12 := hk1.trans hk2
    have HK2 := Lib.hid hk12
    have d13 := hk12.cell c13
    clear hk1 hk2 hk12 HSz HAf c13
    by_cases hlt : (A : Int) < (n : Int)
    · obtain ⟨g, z, rfl, hz, hzs⟩ := HGd.out hlt
      have hz2 := HK2.out.cell hz
      clear hz
      go_upto_region 7 with fail
      have HDl := Lib.hid (HDl.out _ HK2.out)
      go_upto_region 8 with (first | (go_at_call 100; refine HDl.out.mono ?_; rintro e w3 ⟨rfl, h3⟩; (have o3 : w3.heap[D]? = some (.cells cs 63 (0, 0)) := h3.out.2.obj HAll.out.1 (fun e => row2_ne HOwn.out HAll.out.1 (by decide) D e rfl)); (have c3 := obj_cell o3 13); (rw [hCs.out] at c3); (have f3 := obj_free o3 13); have HO3 := Lib.hid o3; clear o3) | fail)
      have hm4 : (qs.take A).map Prod.fst = cutP l s := by rw [HLe.out]; exact HCut.out.symm
      have hl4 : A = (qs.take A).length := by rw [List.length_take, ← HN.out]; omega
      have e4 := HEnd.out w3 _ (qs.take A) A h3.out.2 rfl hm4 hl4 h3.out.1 (fun q hq => .inl (List.mem_of_mem_take hq)) (HAll.out.2.1.apart.sublist (List.take_sublist _ _))
      have HM4 := Lib.hid hm4
      have HL4 := Lib.hid hl4
      generalize w3.setCell ⟨D, 13, none⟩ (.slice (some ⟨g, 0, none⟩) A c) = w4 at e4 ⊢
      have d4 : w4.cell? ⟨D, 13, none⟩ = some (.slice (some ⟨g, 0, none⟩) A c) := by rw [obj_cell e4.2.1, Array.getElem?_setIfInBounds_self_of_lt (Array.getElem?_eq_some_iff.1 hCs.out).1]
      have HSn := Lib.hid (HSn.out w4 (qs.take A) e4.1 hm4)
      rw [← hl4] at HSn
      have HE4 := Lib.hid e4
      clear e4 hm4 hl4 c3 f3
      go_wp2_with (go_at_call 99; refine HSn.out.mono ?_; rintro e w5 ⟨rfl, hk5⟩)
      go_ret
      rw [HS1.out]
      exact HFin.out w4 w5 (qs.take A) A hk5 HM4.out HL4.out HE4.out
    · have hlt2 : (n : Int) ≤ (A : Int) := by omega
      go_upto_region 7 with fail
      have HDl := Lib.hid (HDl.out _ HK2.out)
      go_upto_region 8 with (first | (go_at_call 100; refine HDl.out.mono ?_; rintro e w3 ⟨rfl, h3⟩; (have o3 : w3.heap[D]? = some (.cells cs 63 (0, 0)) := h3.out.2.obj HAll.out.1 (fun e => row2_ne HOwn.out HAll.out.1 (by decide) D e rfl)); (have c3 := obj_cell o3 13); (rw [hCs.out] at c3); (have f3 := obj_free o3 13); have HO3 := Lib.hid o3; clear o3) | fail)
      have hm4 : (qs.take A).map Prod.fst = cutP l s := by rw [HLe.out]; exact HCut.out.symm
      have hl4 : A = (qs.take A).length := by rw [List.length_take, ← HN.out]; omega
      have e4 := HEnd.out w3 _ (qs.take A) A h3.out.2 rfl hm4 hl4 h3.out.1 (fun q hq => .inl (List.mem_of_mem_take hq)) (HAll.out.2.1.apart.sublist (List.take_sublist _ _))
      have HM4 := Lib.hid hm4
      have HL4 := Lib.hid hl4
      generalize w3.setCell ⟨D, 13, none⟩ (.slice a A c) = w4 at e4 ⊢
      have d4 : w4.cell? ⟨D, 13, none⟩ = some (.slice a A c) := by rw [obj_cell e4.2.1, Array.getElem?_setIfInBounds_self_of_lt (Array.getElem?_eq_some_iff.1 hCs.out).1]
      have HSn := Lib.hid (HSn.out w4 (qs.take A) e4.1 hm4)
      rw [← hl4] at HSn
      have HE4 := Lib.hid e4
      clear e4 hm4 hl4 c3 f3
      go_wp2_with (go_at_call 99; refine HSn.out.mono ?_; rintro e w5 ⟨rfl, hk5⟩)
      go_ret
      rw [HS1.out]
      exact HFin.out w4 w5 (qs.take A) A hk5 HM4.out HL4.out HE4.out
end Go.Proofs.YtgbakogihkdddaaGreatDoor
