/-
  A tree of files in memory: a file's size.
  A tree of files in memory: Link.
-/
import Derived.Test.YtgbakogihkdddaaGreatDoorMx12
import Derived.Great.BuildSlice
namespace Go.Proofs.YtgbakogihkdddaaGreatDoor
open Go.RowKit
set_option linter.unusedVariables false
set_option linter.unusedSimpArgs false
set_option maxRecDepth 20000

theorem cut_inside {l : List Fp} (h : OkD l) (s : Int) : ∀ p ∈ cutP l s, endP p ≤ s := by
  intro p hp
  unfold cutP at hp
  rcases List.mem_append.1 hp with h1 | h1
  · have := mem_tw h1; simpa using this
  · split at h1
    · rename_i q t _
      split at h1
      · rename_i hq
        rw [List.mem_singleton] at h1
        subst h1
        unfold endP
        simp only [List.length_take]
        omega
      · cases h1
    · cases h1
theorem cut_size (l : List Fp) (s : Int) : sizeD (cutP l s) ≤ sizeD l := by
  have h1 : l = l.takeWhile (fun p => decide (endP p ≤ s)) ++ l.dropWhile (fun p => decide (endP p ≤ s)) := (List.takeWhile_append_dropWhile).symm
  have h2 := congrArg sizeD h1
  rw [sizeD_append] at h2
  unfold cutP
  rw [sizeD_append]
  cases hq : l.dropWhile (fun p => decide (endP p ≤ s)) with
  | nil => rw [hq] at h2; simp only; omega
  | cons q t =>
    rw [hq, sizeD_cons] at h2
    simp only
    split
    · rw [sizeD_cons]
      simp only [List.length_take]
      have : sizeD [] = 0 := rfl
      omega
    · have : sizeD [] = 0 := rfl
      omega
/-- A file of another size. -/
def grN (n : NdP) (c s : Int) : NdP := { n with data := cutP n.data s, v := { n.v with size := s, change := c } }
def growT (T : FsP) (i : Int) (n : NdP) (s : Int) : FsP :=
  { T with clock := T.clock + 1, used := T.used - ((sizeD n.data : Int) - (sizeD (cutP n.data s) : Int)), nd := updN T.nd i (some (grN n (T.clock + 1) s)) }
def growP (T : FsP) (i s : Int) : FsP × Int :=
  match T.nd i with
  | none => (T, 10)
  | some n => if n.v.kind = 1 then (if s < 0 ∨ 1099511627776 < s then (T, 1) else (growT T i n s, 0)) else (T, 13)
theorem growT_ok {T : FsP} (h : OkT T) {i : Int} {n : NdP} (hn : T.nd i = some n) (h1 : n.v.kind = 1) (s : Int) (hs : 0 ≤ s ∧ s ≤ 1099511627776) : OkT (growT T i n s) := by
  have on := h.node i n hn
  have hc := cut_size n.data s
  refine same_ok h hn rfl rfl rfl rfl (cut_ok on.data s hs.1) (fun e => absurd h1 e) (cut_inside on.data s) hs rfl on.mode on.user on.group on.time ⟨rfl, rfl, rfl⟩ ?_ ?_
  · show T.used - ((sizeD n.data : Int) - (sizeD (cutP n.data s) : Int)) + (sizeD n.data : Nat) = T.used + (sizeD (cutP n.data s) : Nat)
    omega
  · have := h.room
    omega
theorem growP_no {T : FsP} {i s : Int} (h : fileE T i ≠ 0) : growP T i s = (T, fileE T i) := by
  unfold growP fileE at *
  cases hn : T.nd i with
  | none => rfl
  | some n =>
    rw [hn] at h
    simp only at h ⊢
    by_cases h1 : n.v.kind = 1
    · rw [if_pos h1] at h; exact absurd rfl h
    · rw [if_neg h1, if_neg h1]
theorem growP_yes {T : FsP} {i s : Int} {n : NdP} (hn : T.nd i = some n) (h1 : n.v.kind = 1) : growP T i s = if s < 0 ∨ 1099511627776 < s then (T, 1) else (growT T i n s, 0) := by
  unfold growP
  rw [hn]
  simp only
  rw [if_pos h1]

set_option maxHeartbeats 4000000 in
theorem grow_any {S : Nat → Prop} {w : World} {f : Nat} {T : FsP} (h : FsSt S w f T) (i : Int) (hi : -9223372036854775808 ≤ i ∧ i ≤ 9223372036854775807) (s : Int) (hs : -9223372036854775808 ≤ s ∧ s ≤ 9223372036854775807) (hclk : T.clock + 1 ≤ 4611686018427387904) (hquo : T.quota ≤ 4611686018427387904) :
    Calls Tryz.prog 61 #[.pointer (some ⟨f, 0, none⟩), .int .i64 i, .int .i64 s] w fun e w' =>
      e = .returned (.int .i64 (growP T i s).2) ∧ FsSt (Grow S w w') w' f (growP T i s).1 ∧ Kept S w w' := by
  obtain ⟨L, B, mb, h⟩ := h
  have HP := Lib.hid (file_in h i hi)
  have same : ∀ w', Kept NoB w w' → FsSt (Grow S w w') w' f T ∧ Kept S w w' := fun w' hk => ⟨⟨L, B, mb, (h.keptNo hk).mono (fun k e => .inl e)⟩, hk.mono (fun k _ e => e.elim)⟩
  by_cases hp : fileE T i = 0
  rotate_left
  · rw [if_neg hp, ptrV_none] at HP
    rw [growP_no hp]
    obtain ⟨z, hz⟩ : ∃ z, z = fileE T i := ⟨_, rfl⟩
    rw [← hz] at hp HP ⊢
    have hz2 : (z == 0) = false := by simpa using hp
    have HSm := Lib.hid same
    clear hz h hp same
    go_enter Tryz.func61, Tryz.ntmps61
    go_wp2_with fail
    refine HP.out.mono ?_
    rintro e w2 ⟨rfl, hk2⟩
    go_wp2
    go_ret
    exact ⟨rfl, HSm.out _ hk2⟩
  obtain ⟨n, hn, h1⟩ := fileE_file hp
  rw [growP_yes hn h1]
  rw [if_pos hp, hp] at HP
  obtain ⟨D, m, a, c, qs, hB, hN⟩ := h.at hn
  rw [hB, ptrV_some] at HP
  by_cases hbad : s < 0 ∨ 1099511627776 < s
  · rw [if_pos hbad]
    have HSm := Lib.hid same
    clear h hp same hN hB
    go_enter Tryz.func61, Tryz.ntmps61
    by_cases hb1 : s < 0
    · go_wp2_with fail
      refine HP.out.mono ?_
      rintro e w2 ⟨rfl, hk2⟩
      go_wp2
      go_ret
      exact ⟨rfl, HSm.out _ hk2⟩
    · have hb2 : 1099511627776 < s := by omega
      go_wp2_with fail
      refine HP.out.mono ?_
      rintro e w2 ⟨rfl, hk2⟩
      go_wp2
      go_ret
      exact ⟨rfl, HSm.out _ hk2⟩
  rw [if_neg hbad]
  have hs0 : 0 ≤ s ∧ s ≤ 1099511627776 := by omega
  have HA := Lib.hid (⟨h, hN, hB, hn, h1⟩ : _ ∧ _ ∧ _ ∧ _ ∧ _)
  have HCk := Lib.hid h.ok.clock
  have HU := Lib.hid (⟨h.ok.used, h.ok.room, h.ok.quota⟩ : _ ∧ _ ∧ _)
  have HOn := Lib.hid (h.ok.node i n hn)
  have hl1 : s < 0 ↔ False := by simp; omega
  clear h hp same hN hB hn hbad h1 hl1
  go_enter Tryz.func61, Tryz.ntmps61
  have hb1 : ¬ s < 0 := by omega
  have hb2 : ¬ 1099511627776 < s := by omega
  go_wp2_with fail
  refine HP.out.mono ?_
  rintro e wn ⟨rfl, hkw⟩
  have HKw := Lib.hid hkw
  clear hkw HP
  go_upto_region 6 with fail
  -- the clock
  have hn3 : FsIn L B mb S wn f T := HA.out.1.keptNo HKw.out
  have hN3 : NdSt L i wn D n m a c qs := HA.out.2.1.kept HKw.out (fun _ _ e => e) (fun _ _ e => e) (fun _ _ e => e) (fun _ _ e => e)
  have HTk := Lib.hid (tick_any (w := wn) (f := f) (fc := (fsC mb T).toArray) (c := T.clock) [] (fun _ => #[]) none 0 hn3.obj rfl ⟨HCk.out, by omega⟩ (fun i hi => absurd hi (by simp)) (fun x hx => by simp at hx) (by simp))
  have HI3 := Lib.hid hn3; have HN3 := Lib.hid hN3
  clear hn3 hN3
  go_wp2_with fail
  refine HTk.out.mono ?_
  rintro e w3 ⟨rfl, o3, _, k3, s3⟩
  have o3' : w3.heap[f]? = some (.cells (fsC mb { T with clock := T.clock + 1 }).toArray 66 (0, 0)) := o3
  have k3' : Kept (OneB f) wn w3 := k3.mono (fun j _ e => by rcases e with e | e; exact e; simp at e)
  have hlf := HI3.out.labf
  have N3 : NdSt L i w3 D n m a c qs := HN3.out.kept k3' (fun j e hj => by rw [hj, hlf] at e; cases e) (fun j e hj => by rw [hj, hlf] at e; cases e) (fun j e hj => by rw [hj, hlf] at e; cases e) (fun j e hj => by rw [hj, hlf] at e; cases e)
  have hSl : ∀ j x, L j = x → x ≠ .no → S j ∧ j < w.heap.size := fun j x => HA.out.1.low
  have hlen : n.data.length = qs.length := N3.dat.len
  have hdat : DatO w3 a c qs := ⟨by have := N3.dat.own; rw [hlen] at this; exact this, N3.dat.each, N3.dat.apart⟩
  have hbyt : ∀ j, BytB qs j → L j = .byt i := fun j ⟨q, hq, hj⟩ => N3.dat.labs q hq j hj
  have hrow : ∀ j, (Value.slice a qs.length c).ownBlock = some j → L j = .row i := fun j hj => N3.dat.lab j (by rw [hlen]; exact hj)
  have hlD := N3.lab
  have HCut : Hid (∀ W, Kept NoB w3 W → Calls Tryz.prog 85 #[.pointer (some ⟨D, 13, none⟩), .int .i64 s] W (CutR W D (ndC n m a c).toArray a c qs s)) := Lib.hid (fun W hW =>
    cut_any D (ndC n m a c).toArray a c qs s W (hW.obj N3.obj id) (by simp [ndC, nvC, hlen]) ⟨hW.row hdat.own (fun _ _ e => e), fun q hq => hW.row (hdat.each q hq) (fun _ _ e => e), hdat.apart⟩ (by rw [N3.data]; exact HOn.out.data)
      (fun j hj e => by have h9 := hbyt j hj; rw [e, hlD] at h9; cases h9) hs0)
  obtain ⟨us, huse⟩ : ∃ us, us = T.used := ⟨_, rfl⟩
  obtain ⟨S0, hS0⟩ : ∃ S0, S0 = sizeD n.data := ⟨_, rfl⟩
  obtain ⟨S1, hS1⟩ : ∃ S1, S1 = sizeD (cutP n.data s) := ⟨_, rfl⟩
  have hdd := N3.data
  have HSb : 0 ≤ us ∧ us ≤ 4611686018427387904 ∧ S0 ≤ 1099511627776 ∧ S1 ≤ S0 := by
    have h1 := (ok_len HOn.out.data).2
    have h2 := cut_size n.data s
    have h3 := HU.out.1
    have h4 := HU.out.2.1
    omega
  have hfD : D ≠ f := fun e => by rw [e, hlf] at hlD; cases hlD
  have f3 : ∀ W, Kept NoB w3 W → W.cell? ⟨f, 3, none⟩ = some (.int .i64 us) := fun W hW => by rw [obj_cell (hW.obj o3' id), huse]; rfl
  have HQ := Lib.hid (⟨N3, hSl, hlen, hdat, hbyt, hrow, hlD, hdd, hfD, k3', o3', huse, hS0, hS1⟩ : _ ∧ _ ∧ _ ∧ _ ∧ _ ∧ _ ∧ _ ∧ _ ∧ _ ∧ _ ∧ _ ∧ _ ∧ _ ∧ _)
  have hf3 := f3 w3 (Kept.refl _ _)
  clear o3 k3 s3 o3' k3' N3 hSl hlen hdat hbyt hrow hlD hdd HTk hlf huse hS0 hS1
  go_upto_region 7 with fail
  have HCut := Lib.hid (HCut.out w3.drew (Kept.refl _ _).drew)
  have HF4 : Hid (∀ W e, CutR w3.drew D (ndC n m a c).toArray a c qs s e W → e = .returned (.int .i64 ((S0 : Int) - (S1 : Int))) ∧ W.cell? ⟨f, 3, none⟩ = some (.int .i64 us) ∧ W.frozen? ⟨f, 3, none⟩ = false) := Lib.hid (fun W e hc => by
    obtain ⟨N3, hSl, hlen, hdat, hbyt, hrow, hlD, hdd, hfD, k3', o3', huse, hS0, hS1⟩ := HQ.out
    obtain ⟨he, a', c', qs', e1, e2, e3, e4, e5, e6⟩ := hc
    have hlf := HI3.out.labf
    have o4 : W.heap[f]? = some (.cells (fsC mb { T with clock := T.clock + 1 }).toArray 66 (0, 0)) := e6.obj (show w3.drew.heap[f]? = _ from o3') (fun e => by
      rcases e with e | e | e
      · exact hfD e.symm
      · have := hrow f e; rw [hlf] at this; cases this
      · have := hbyt f e; rw [hlf] at this; cases this)
    refine ⟨by rw [he, hdd, hS0, hS1], by rw [obj_cell o4, huse]; rfl, obj_free o4 3⟩)
  go_region_law (first
    | (go_simp; go_at_call 85; (with_reducible refine HCut.out.mono ?_); rintro e w4 hc4; have hq4 := HF4.out w4 e hc4; obtain ⟨rfl, c4, g4⟩ := hq4))
  all_goals go_simp
  all_goals
    obtain ⟨he4, a', c', qs', e1, e2, e3, e4, e5, e6⟩ := hc4
    obtain ⟨N3, hSl, hlen, hdat, hbyt, hrow, hlD, hdd, hfD, k3', o3', huse, hS0, hS1⟩ := HQ.out
    clear he4
    have hlf := HI3.out.labf
    have o4 : w4.heap[f]? = some (.cells (fsC mb { T with clock := T.clock + 1 }).toArray 66 (0, 0)) := e6.obj (show w3.drew.heap[f]? = _ from o3') (fun e => by
      rcases e with e | e | e
      · exact hfD e.symm
      · have := hrow f e; rw [hlf] at this; cases this
      · have := hbyt f e; rw [hlf] at this; cases this)
    rw [hdd] at e1
    have hl' : qs'.length = (cutP n.data s).length := by rw [← e1]; simp
    have n4 : w4.heap[D]? = some (.cells (ndC { n with data := cutP n.data s } m a' c').toArray 63 (0, 0)) := by
      rw [e2, hl']; rfl
    obtain ⟨w5, hw5⟩ : ∃ w5, w5 = w4.setCell ⟨f, 3, none⟩ (.int .i64 (us - ((S0 : Int) - (S1 : Int)))) := ⟨_, rfl⟩
    have o5 : w5.heap[f]? = some (.cells (fsC mb { T with clock := T.clock + 1, used := us - ((S0 : Int) - (S1 : Int)) }).toArray 66 (0, 0)) := by rw [hw5]; exact obj_set o4 3 _
    have n5 : w5.heap[D]? = some (.cells (ndC { n with data := cutP n.data s } m a' c').toArray 63 (0, 0)) := by rw [hw5, Below.heap_setCell _ _ _ _ hfD]; exact n4
    have k5 : Kept (OneB f) w4 w5 := by rw [hw5]; exact kept_one _ _ _ _
    have f8 : w5.cell? ⟨D, 8, none⟩ = some (.int .i64 n.v.size) := by rw [obj_cell n5]; rfl
    have g8 := obj_free n5 8
    obtain ⟨w6, hw6⟩ : ∃ w6, w6 = w5.setCell ⟨D, 8, none⟩ (.int .i64 s) := ⟨_, rfl⟩
    have o6 : w6.heap[f]? = some (.cells (fsC mb { T with clock := T.clock + 1, used := us - ((S0 : Int) - (S1 : Int)) }).toArray 66 (0, 0)) := by rw [hw6, Below.heap_setCell _ _ _ _ hfD.symm]; exact o5
    have n6 : w6.heap[D]? = some (.cells (ndC { n with data := cutP n.data s, v := { n.v with size := s } } m a' c').toArray 63 (0, 0)) := by rw [hw6]; exact obj_set n5 8 _
    have k6 : Kept (OneB D) w5 w6 := by rw [hw6]; exact kept_one _ _ _ _
    obtain ⟨cl, hcl⟩ : ∃ cl, cl = T.clock + 1 := ⟨_, rfl⟩
    have f4 : w6.cell? ⟨f, 4, none⟩ = some (.int .i64 cl) := by rw [obj_cell o6, hcl]; rfl
    have g10 := obj_free n6 10
    have f10 : w6.cell? ⟨D, 10, none⟩ = some (.int .i64 n.v.change) := by rw [obj_cell n6]; rfl
    obtain ⟨w7, hw7⟩ : ∃ w7, w7 = w6.setCell ⟨D, 10, none⟩ (.int .i64 cl) := ⟨_, rfl⟩
    have o7 : w7.heap[f]? = some (.cells (fsC mb { T with clock := T.clock + 1, used := us - ((S0 : Int) - (S1 : Int)) }).toArray 66 (0, 0)) := by rw [hw7, Below.heap_setCell _ _ _ _ hfD.symm]; exact o6
    have n7 : w7.heap[D]? = some (.cells (ndC { n with data := cutP n.data s, v := { n.v with size := s, change := cl } } m a' c').toArray 63 (0, 0)) := by rw [hw7]; exact obj_set n6 10 _
    have k7 : Kept (OneB D) w6 w7 := by rw [hw7]; exact kept_one _ _ _ _
    have hfin : Hid (FsSt (Grow S w w7) w7 f (growT T i n s) ∧ Kept S w w7) := Lib.hid (by
      obtain ⟨h, hN, hB, hn, h1⟩ := HA.out
      have hk03 : Kept (OneB f) w w3 := HKw.out.dom.trans k3'
      have sw : w.heap.size ≤ w3.heap.size := hk03.size
      have hlt : f < w.heap.size ∧ D < w.heap.size := ⟨(hSl f _ hlf (by simp)).2, (hSl D _ hlD (by simp)).2⟩
      have k47 : Kept (fun j => j = f ∨ j = D) w4 w7 := ((k5.mono (fun j _ e => .inl e)).trans (k6.mono (fun j _ e => .inr e))).trans (k7.mono (fun j _ e => .inr e))
      have e6' : Kept (fun j => j = D ∨ (Value.slice a qs.length c).ownBlock = some j ∨ BytB qs j) w3 w4 := (Kept.refl _ w3).drew.trans e6
      have k07 : Kept (fun j => j = f ∨ j = D ∨ (Value.slice a qs.length c).ownBlock = some j ∨ BytB qs j) w w7 :=
        ((hk03.mono (fun j _ e => .inl e)).trans (e6'.mono (fun j _ e => .inr e))).trans (k47.mono (fun j _ e => by rcases e with e | e; exact .inl e; exact .inr (.inl e)))
      have hrow2 : ∀ j, (Value.slice a' qs'.length c').ownBlock = some j → L j = .row i ∨ w.heap.size ≤ j := fun j hj => by
        rcases e4 j hj with e | e
        · exact .inl (hrow j e)
        · right
          have e : w3.heap.size ≤ j := e
          omega
      have hbyt2 : ∀ j, BytB qs' j → L j = .byt i ∨ w.heap.size ≤ j := fun j hj => by
        rcases e5 j hj with e | e
        · exact .inl (hbyt j e)
        · right
          have e : w3.heap.size ≤ j := e
          omega
      have hrow4 : ∀ j, (Value.slice a' qs'.length c').ownBlock = some j → ¬ (j = f ∨ j = D) := fun j hj e => by
        rcases hrow2 j hj with h2 | h2
        · rcases e with e | e
          · rw [e, hlf] at h2; cases h2
          · rw [e, hlD] at h2; cases h2
        · omega
      have hbyt4 : ∀ j, BytB qs' j → ¬ (j = f ∨ j = D) := fun j hj e => by
        rcases hbyt2 j hj with h2 | h2
        · rcases e with e | e
          · rw [e, hlf] at h2; cases h2
          · rw [e, hlD] at h2; cases h2
        · omega
      have hok := growT_ok h.ok hn h1 s hs0
      refine data_done (n' := grN n (T.clock + 1) s) h hB hN hok rfl rfl rfl rfl k07 (fun j hj _ => ?_) ?_ ?_ ⟨k47.row e3.own hrow4, fun q hq => k47.row (e3.each q hq) (fun j hj => hbyt4 j ⟨q, hq, hj⟩), e3.apart⟩ e1 hrow2 hbyt2
      · rcases hj with e | e | e | e
        · exact .inl e
        · exact .inr (.inl e)
        · exact .inr (.inr (.inl (hrow j e)))
        · exact .inr (.inr (.inr (hbyt j e)))
      · rw [huse, hS0, hS1] at o7; exact o7
      · rw [hcl] at n7; exact n7)
    have HW5 := Lib.hid hw5; have HW6 := Lib.hid hw6; have HW7 := Lib.hid hw7
    have HCl2 := Lib.hid hcl
    clear hw5 hw6 hw7 o4 o5 o6 o7 n4 n5 n6 n7 k5 k6 k7 hcl hfD e1 e2 e3 e4 e5 e6 hl' hlf hlD N3 hSl hlen hdat hbyt hrow hdd k3' o3' huse hS0 hS1 c4 g4 hf3
    rw [show IntKind.i64.wrap (us - ((S0 : Int) - (S1 : Int))) = us - ((S0 : Int) - (S1 : Int)) by rw [IntKind.wrap_i64]; omega]
    rw [← HW5.out]
    go_upto_region 9 with fail
    rw [← HW6.out]
    clear f8 g8
    go_upto_region 10 with fail
    rw [← HW7.out]
    clear f4 g10 f10
    go_wp2
    go_ret
    exact ⟨rfl, hfin.out⟩
end Go.Proofs.YtgbakogihkdddaaGreatDoor

namespace Go.Proofs.YtgbakogihkdddaaGreatDoor
open Go.RowKit
set_option linter.unusedVariables false
set_option linter.unusedSimpArgs false
set_option maxRecDepth 20000

theorem linkP_none {T : FsP} {dir ino : Int} {part : List UInt8} (h : T.nd ino = none) : linkP T dir part ino = (T, 10) := by unfold linkP; rw [h]
theorem linkP_place {T : FsP} {dir ino : Int} {part : List UInt8} {m : NdP} (hm : T.nd ino = some m) (h : placeE T dir part ≠ 0) : linkP T dir part ino = (T, placeE T dir part) := by
  unfold linkP placeE at *
  rw [hm]
  simp only
  cases hn : T.nd dir with
  | none => rfl
  | some d =>
    rw [hn] at h
    simp only at h ⊢
    by_cases h6 : d.v.kind = 6
    · rw [if_pos h6] at h ⊢
      rw [if_pos h6]
      by_cases ho : okN (strB part) = true
      · rw [if_pos ho] at h; exact absurd rfl h
      · rw [if_neg ho, if_neg ho]
    · rw [if_neg h6, if_neg h6]
theorem linkP_yes {T : FsP} {dir ino : Int} {part : List UInt8} {m d : NdP} (hm : T.nd ino = some m) (hd : T.nd dir = some d) (h6 : d.v.kind = 6) (ho : okN (strB part) = true) :
    linkP T dir part ino = if m.v.kind = 6 then (T, 13) else if (getK d.names part).isSome then (T, 11) else (linkT T dir d part ino m, 0) := by
  unfold linkP
  rw [hm]
  simp only [hd]
  rw [if_pos h6, if_pos ho]

set_option maxHeartbeats 4000000 in
theorem link_any {S : Nat → Prop} {w : World} {f : Nat} {T : FsP} (h : FsSt S w f T) (dir : Int) (hdir : -9223372036854775808 ≤ dir ∧ dir ≤ 9223372036854775807) (part : List UInt8) (hs : part.length < 4294967281) (ino : Int) (hino : -9223372036854775808 ≤ ino ∧ ino ≤ 9223372036854775807)
    (hclk : T.clock + 1 ≤ 4611686018427387904) :
    Calls Tryz.prog 12 #[.pointer (some ⟨f, 0, none⟩), .int .i64 dir, .string (strB part), .int .i64 ino] w fun e w' =>
      e = .returned (.int .i64 (linkP T dir part ino).2) ∧ FsSt (Grow S w w') w' f (linkP T dir part ino).1 ∧ Kept S w w' := by
  obtain ⟨L, B, mb, h⟩ := h
  have HP := Lib.hid (place_in h dir hdir part hs)
  have same : ∀ w', Kept NoB w w' → FsSt (Grow S w w') w' f T ∧ Kept S w w' := fun w' hk => ⟨⟨L, B, mb, (h.keptNo hk).mono (fun k e => .inl e)⟩, hk.mono (fun k _ e => e.elim)⟩
  obtain ⟨c0, c1, c2, c3, c4⟩ := h.cells
  have HT := Lib.hid h.tab
  cases hm : T.nd ino with
  | none =>
    have hB := h.gone hm
    rw [linkP_none hm]
    have HSm := Lib.hid same
    clear h HP same hm
    go_enter Tryz.func12, Tryz.ntmps12
    go_wp2_with (at_lookup; refine wpList_nodes_ok rfl _ _ rfl HT.out rfl rfl hino ?_; rw [hB, ptrV_none])
    go_ret
    exact ⟨rfl, HSm.out _ (Kept.refl _ _)⟩
  | some m =>
    obtain ⟨M, m1, a1, q1, qs1, hBM, hNM⟩ := h.at hm
    have HT2 : Hid (B ino = some M) := Lib.hid hBM
    by_cases hp : placeE T dir part = 0
    rotate_left
    · rw [if_neg hp, ptrV_none] at HP
      rw [linkP_place hm hp]
      obtain ⟨z, hz⟩ : ∃ z, z = placeE T dir part := ⟨_, rfl⟩
      rw [← hz] at hp HP ⊢
      have hz2 : (z == 0) = false := by simpa using hp
      have HSm := Lib.hid same
      clear hz h hp same hm hNM
      go_enter Tryz.func12, Tryz.ntmps12
      go_wp2_with (at_lookup; refine wpList_nodes_ok rfl _ _ rfl HT.out rfl rfl hino ?_; rw [HT2.out, ptrV_some])
      refine HP.out.mono ?_
      rintro e w2 ⟨rfl, hk2⟩
      go_wp2
      go_ret
      exact ⟨rfl, HSm.out _ hk2⟩
    obtain ⟨d, hd, h6, ho⟩ := placeE_dir hp
    rw [linkP_yes hm hd h6 ho]
    rw [if_pos hp, hp] at HP
    obtain ⟨D, m2, a2, q2, qs2, hBD, hND⟩ := h.at hd
    obtain ⟨mb2, rfl, hl2, hM⟩ := hND.dir h6
    rw [hBD, ptrV_some] at HP
    have hs2 : part.length ≤ maxLen := by unfold maxLen; omega
    have k0 := hNM.cell 0
    simp [ndC, nvC] at k0
    have k11 : w.cell? ⟨D, 11, none⟩ = some (.map (some mb2)) := by rw [hND.cell 11]; rfl
    have HM := Lib.hid hM
    obtain ⟨kd, hkd⟩ : ∃ kd, kd = m.v.kind := ⟨_, rfl⟩
    rw [← hkd] at k0 ⊢
    have HKd := Lib.hid hkd
    by_cases hm6 : kd = 6
    · rw [if_pos hm6]
      have HSm := Lib.hid same
      subst hm6
      clear h hp same hm hNM hND hkd hM
      go_enter Tryz.func12, Tryz.ntmps12
      go_wp2_with (at_lookup; refine wpList_nodes_ok rfl _ _ rfl HT.out rfl rfl hino ?_; rw [HT2.out, ptrV_some])
      refine HP.out.mono ?_
      rintro e w2 ⟨rfl, hk2⟩
      have l0 := hk2.cell k0
      go_wp2
      go_ret
      exact ⟨rfl, HSm.out _ hk2⟩
    rw [if_neg hm6]
    have hm6' : (kd == 6) = false := by simpa using hm6
    by_cases hg : (getK d.names part).isSome = true
    · rw [if_pos hg]
      obtain ⟨j, hj⟩ := Option.isSome_iff_exists.1 hg
      have HG := Lib.hid hj
      have HSm := Lib.hid same
      clear h hp same hm hNM hND hkd hM hg hj
      go_enter Tryz.func12, Tryz.ntmps12
      go_wp2_with (at_lookup; refine wpList_nodes_ok rfl _ _ rfl HT.out rfl rfl hino ?_; rw [HT2.out, ptrV_some])
      refine HP.out.mono ?_
      rintro e w2 ⟨rfl, hk2⟩
      have l0 := hk2.cell k0
      have l11 := hk2.cell k11
      have HK2 := Lib.hid hk2
      clear hk2
      go_wp2_with (first | (at_lookup; refine wpList_names_ok rfl _ _ rfl (MapF.kept HM.out HK2.out id) rfl rfl hs2 ?_; rw [HG.out]) | fail)
      go_ret
      exact ⟨rfl, HSm.out _ HK2.out⟩
    rw [if_neg hg]
    have hgn : getK d.names part = none := by simpa using hg
    have HG := Lib.hid hgn
    have HA := Lib.hid (⟨h, hm, hNM, hd, h6, ho, hND, hl2, hBD⟩ : _ ∧ _ ∧ _ ∧ _ ∧ _ ∧ _ ∧ _ ∧ _ ∧ _)
    clear h hp same hm hNM hND hkd hM hg hgn hd h6 ho hl2 hBD hBM
    go_enter Tryz.func12, Tryz.ntmps12
    go_wp2_with (at_lookup; refine wpList_nodes_ok rfl _ _ rfl HT.out rfl rfl hino ?_; rw [HT2.out, ptrV_some])
    refine HP.out.mono ?_
    rintro e w3 ⟨rfl, hk3⟩
    have l0 := hk3.cell k0
    have l11 := hk3.cell k11
    have HK3 := Lib.hid hk3
    clear hk3 k0 k11
    go_upto_region 12 with (first | (at_lookup; refine wpList_names_ok rfl _ _ rfl (MapF.kept HM.out HK3.out id) rfl rfl hs2 ?_; rw [HG.out]) | fail)
    have h := HA.out.1
    have hw3 : Kept NoB w w3 := HK3.out
    have h3 : FsIn L B mb S w3 f T := h.keptNo hw3
    obtain ⟨w4, hw4⟩ : ∃ w4, w4 = w3.alloc (.cells #[.pointer (some ⟨D, 0, none⟩)] 59) := ⟨_, rfl⟩
    have hk4 : Kept NoB w3 w4 := by rw [hw4]; exact (Kept.refl NoB w3).alloc _
    have h4 := h3.keptNo hk4
    have k34 : Kept NoB w w4 := hw3.trans hk4
    have n4 := k34.obj HA.out.2.2.2.2.2.2.1.obj id
    have r4 : w4.cell? ⟨w3.heap.size, 0, none⟩ = some (.pointer (some ⟨D, 0, none⟩)) := by rw [hw4]; exact cell_new 0 rfl
    have hb3 : D < w3.heap.size := Nat.lt_of_lt_of_le HA.out.2.2.2.2.2.2.1.lt hw3.size
    have hf3 : f < w3.heap.size := obj_lt h3.obj
    have hok := h.ok
    have HTk := Lib.hid (tick_any (w := w4) (f := f) (fc := (fsC mb T).toArray) (c := T.clock) [D] (fun _ => (ndC d (some mb2) a2 q2).toArray) (some ⟨w3.heap.size, 0, none⟩) 1 h4.obj rfl ⟨hok.clock, by omega⟩
      (fun i hi => ⟨w3.heap.size, 0, rfl, by omega, fun x hx => by simp at hx; omega, by
        have : i = 0 := by simpa using hi
        subst this; exact r4⟩)
      (fun x hx => by simp at hx; subst hx; exact ⟨n4, by simp [ndC, nvC]⟩) (by simp))
    have HW4 := Lib.hid hw4; have HK4 := Lib.hid k34
    clear hw4 hk4 h4 n4 r4 hok h3 hw3 h k34
    go_wp2_with fail
    rw [← HW4.out]
    refine HTk.out.mono ?_
    rintro e w5 ⟨rfl, o5, n5, k5, s5⟩
    have nb5 := n5 D (by simp)
    rw [tchA_nd] at nb5
    have o5' : w5.heap[f]? = some (.cells (fsC mb { T with clock := T.clock + 1 }).toArray 66 (0, 0)) := o5
    obtain ⟨h, hm, hNM, hd, h6, ho, hND, hl2, hBD⟩ := HA.out
    have hlf := h.labf
    have hlm := h.labm
    have hlD := hND.lab
    have hlM := hNM.lab
    have hdi : dir ≠ ino := fun e => by
      rw [e, hm] at hd
      cases hd
      rw [HKd.out] at hm6
      exact hm6 h6
    have hDM : M ≠ D := fun e => by rw [e, hlD] at hlM; injection hlM with e2; exact hdi e2
    have hMf : M ≠ f := fun e => by rw [e, hlf] at hlM; cases hlM
    have k05 : Kept (fun k => k = f ∨ k = D) w w5 := HK4.out.dom.trans (k5.mono (fun k _ e => by
      rcases e with e | e
      · exact .inl e
      · exact .inr (by simpa using e)))
    have od := h.ok.node dir d hd
    have om := h.ok.node ino m hm
    have nm5 : NamesAt w5 mb2 d.names := MapF.kept HM.out k05 (fun e => by
      rcases e with e | e
      · rw [e, hlf] at hl2; cases hl2
      · rw [e, hlD] at hl2; cases hl2)
    have hfew := od.few
    obtain ⟨w6, hr6, t6, k6, s6⟩ := names_put nm5 od.sorted part hs2 ino hino HG.out (by unfold maxLen; omega)
    have hfm2 : f ≠ mb2 := fun e => by rw [← e, hlf] at hl2; cases hl2
    have hDm2 : D ≠ mb2 := fun e => by rw [← e, hlD] at hl2; cases hl2
    have hMm2 : M ≠ mb2 := fun e => by rw [← e, hlM] at hl2; cases hl2
    have o6 := k6.obj (R := f) o5' (fun e => hfm2 e)
    have nb6 := k6.obj (R := D) nb5 (fun e => hDm2 e)
    have m5 := k05.obj (R := M) hNM.obj (fun e => by rcases e with e | e; exact hMf e; exact hDM e)
    have m6 := k6.obj (R := M) m5 (fun e => hMm2 e)
    obtain ⟨lk, hlk⟩ : ∃ lk, lk = m.v.links := ⟨_, rfl⟩
    have hlk2 : 0 ≤ lk ∧ lk ≤ 4611686018427387904 := by
      rw [hlk]
      have := om.links
      have := om.most
      omega
    have f9 : w6.cell? ⟨M, 9, none⟩ = some (.int .i64 lk) := by rw [obj_cell m6, hlk]; rfl
    have g9 := obj_free m6 9
    have f11 : w5.cell? ⟨D, 11, none⟩ = some (.map (some mb2)) := by rw [obj_cell nb5]; rfl
    obtain ⟨w7, hw7⟩ : ∃ w7, w7 = w6.setCell ⟨M, 9, none⟩ (.int .i64 (lk + 1)) := ⟨_, rfl⟩
    have o7 : w7.heap[f]? = some (.cells (fsC mb { T with clock := T.clock + 1 }).toArray 66 (0, 0)) := by rw [hw7, Below.heap_setCell _ _ _ _ hMf.symm]; exact o6
    have nb7 : w7.heap[D]? = some (.cells (ndC (touch (T.clock + 1) d) (some mb2) a2 q2).toArray 63 (0, 0)) := by rw [hw7, Below.heap_setCell _ _ _ _ hDM.symm]; exact nb6
    have m7 : w7.heap[M]? = some (.cells (ndC { m with v := { m.v with links := lk + 1 } } m1 a1 q1).toArray 63 (0, 0)) := by rw [hw7]; exact obj_set m6 9 _
    have k7 : Kept (OneB M) w6 w7 := by rw [hw7]; exact kept_one _ _ _ _
    obtain ⟨cl, hcl⟩ : ∃ cl, cl = T.clock + 1 := ⟨_, rfl⟩
    have f4 : w7.cell? ⟨f, 4, none⟩ = some (.int .i64 cl) := by rw [obj_cell o7, hcl]; rfl
    have f10 : w7.cell? ⟨M, 10, none⟩ = some (.int .i64 m.v.change) := by rw [obj_cell m7]; rfl
    have g10 := obj_free m7 10
    obtain ⟨w8, hw8⟩ : ∃ w8, w8 = w7.setCell ⟨M, 10, none⟩ (.int .i64 cl) := ⟨_, rfl⟩
    have o8 : w8.heap[f]? = some (.cells (fsC mb { T with clock := T.clock + 1 }).toArray 66 (0, 0)) := by rw [hw8, Below.heap_setCell _ _ _ _ hMf.symm]; exact o7
    have nb8 : w8.heap[D]? = some (.cells (ndC (touch (T.clock + 1) d) (some mb2) a2 q2).toArray 63 (0, 0)) := by rw [hw8, Below.heap_setCell _ _ _ _ hDM.symm]; exact nb7
    have m8 : w8.heap[M]? = some (.cells (ndC { m with v := { m.v with links := lk + 1, change := cl } } m1 a1 q1).toArray 63 (0, 0)) := by rw [hw8]; exact obj_set m7 10 _
    have k8 : Kept (OneB M) w7 w8 := by rw [hw8]; exact kept_one _ _ _ _
    have hfin : Hid (FsSt (Grow S w w8) w8 f (linkT T dir d part ino m) ∧ Kept S w w8) := Lib.hid (by
      have k08 : Kept (fun k => k = f ∨ k = D ∨ k = mb2 ∨ k = M) w w8 := (((k05.mono (fun k _ e => by rcases e with e | e; exact .inl e; exact .inr (.inl e))).trans (k6.mono (fun k _ e => .inr (.inr (.inl e))))).trans (k7.mono (fun k _ e => .inr (.inr (.inr e))))).trans (k8.mono (fun k _ e => .inr (.inr (.inr e))))
      have k58 : Kept (fun k => k = mb2 ∨ k = M) w5 w8 := ((k6.mono (fun k _ e => .inl e)).trans (k7.mono (fun k _ e => .inr e))).trans (k8.mono (fun k _ e => .inr e))
      have hmm : mb ≠ f ∧ mb ≠ D ∧ mb ≠ mb2 ∧ mb ≠ M := ⟨fun e => (by rw [e, hlf] at hlm; cases hlm), fun e => (by rw [e, hlD] at hlm; cases hlm), fun e => (by rw [e, hl2] at hlm; cases hlm), fun e => (by rw [e, hlM] at hlm; cases hlm)⟩
      have hnd : (linkT T dir d part ino m).nd = updN (updN T.nd dir (some (named (T.clock + 1) d (putK d.names part ino)))) ino (some (linked (T.clock + 1) 1 m)) := rfl
      refine nodes_done h (B' := B) (linkT_ok h.ok hd h6 ho hm (by rw [← HKd.out]; exact hm6) HG.out (by omega)) k08 (fun j hj _ => ?_) o8 ?_ (fun i => ?_) (fun i b e => e) (fun i b n' hb hn' => ?_)
      · rcases hj with e | e | e | e
        · rw [e, hlf]; simp
        · rw [e, hlD]; simp
        · rw [e, hl2]; simp
        · rw [e, hlM]; simp
      · exact MapF.kept h.tab k08 (fun e => by rcases e with e | e | e | e; exact hmm.1 e; exact hmm.2.1 e; exact hmm.2.2.1 e; exact hmm.2.2.2 e)
      · rw [hnd, h.dom]
        by_cases e1 : i = ino
        · rw [e1, updN_same, hm]; rfl
        · rw [updN_other _ _ e1]
          by_cases e2 : i = dir
          · rw [e2, updN_same, hd]; rfl
          · rw [updN_other _ _ e2]
      · rw [hnd] at hn'
        by_cases e1 : i = ino
        · rw [e1, updN_same] at hn'
          cases hn'
          rw [e1] at hb ⊢
          have hbM : b = M := by rw [HT2.out] at hb; exact (Option.some.inj hb).symm
          refine ⟨m, hm, .inr ⟨rfl, rfl, fun m3 a3 c3 he => ?_⟩⟩
          rw [hbM, hNM.obj] at he
          have he2 := Option.some.inj he
          injection he2 with he3 _ _
          have he4 : ndC m m1 a1 q1 = ndC m m3 a3 c3 := by
            have := congrArg Array.toList he3
            simpa using this
          unfold ndC at he4
          simp [nvC] at he4
          obtain ⟨e5, e6, e7⟩ := he4
          subst e5 e6 e7
          refine ⟨by rw [hbM, m8, hlk, hcl]; rfl, fun h6m => absurd h6m (by rw [← HKd.out]; exact hm6)⟩
        · rw [updN_other _ _ e1] at hn'
          by_cases e2 : i = dir
          · rw [e2, updN_same] at hn'
            cases hn'
            rw [e2] at hb ⊢
            have hbD : b = D := by rw [hBD] at hb; exact (Option.some.inj hb).symm
            refine ⟨d, hd, .inr ⟨rfl, rfl, fun m3 a3 c3 he => ?_⟩⟩
            rw [hbD, hND.obj] at he
            have he2 := Option.some.inj he
            injection he2 with he3 _ _
            have he4 : ndC d (some mb2) a2 q2 = ndC d m3 a3 c3 := by
              have := congrArg Array.toList he3
              simpa using this
            unfold ndC at he4
            simp [nvC] at he4
            obtain ⟨e5, e6, e7⟩ := he4
            subst e5 e6 e7
            refine ⟨by rw [hbD, nb8]; rfl, fun _ mb3 e8 _ _ => ?_⟩
            cases e8
            exact MapF.kept t6 ((k7.mono (fun k _ e => e)).trans k8) (fun e => hMm2 e.symm)
          · rw [updN_other _ _ e2] at hn'
            refine ⟨n', hn', .inl ⟨rfl, fun j hj _ => ?_⟩⟩
            have e1' : ino ≠ i := fun q => e1 q.symm
            have e2' : dir ≠ i := fun q => e2 q.symm
            rcases hj with e | e | e | e
            · rw [e, hlf]; simp
            · rw [e, hlD]; simp [e2']
            · rw [e, hl2]; simp [e2']
            · rw [e, hlM]; simp [e1'])
    have HW7 := Lib.hid hw7; have HW8 := Lib.hid hw8
    clear o5 n5 k5 s5 nb5 o5' h hm hNM hd h6 ho hND hl2 hBD hlf hlm hlD hlM hdi hDM hMf k05 od om nm5 hfew t6 k6 s6 hfm2 hDm2 hMm2 o6 nb6 m5 m6 hlk o7 nb7 m7 k7 hcl o8 nb8 m8 k8 hw7 hw8 HTk
    go_upto_region 14 with fail
    clear f11 hr6
    go_upto_region 15 with fail
    rw [← HW7.out]
    clear f9 g9
    go_wp2_with fail
    go_ret
    rw [← HW8.out]
    exact ⟨rfl, hfin.out⟩
end Go.Proofs.YtgbakogihkdddaaGreatDoor
