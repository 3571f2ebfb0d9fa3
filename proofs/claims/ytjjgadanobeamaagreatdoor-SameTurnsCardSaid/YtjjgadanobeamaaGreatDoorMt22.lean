/-
  A tree of files in memory: a file's size.
  What was written of a file, in memory: copied; a file's pieces.
  What was written of a file: read, on paper; copy onto an own row.
  A tree of files on paper: what the document fixes.
  A tree of files that a call has made for itself; what the document fixes (awake).
-/
import Derived.Test.YtjjgadanobeamaaGreatDoorMt21
import Derived.Lib.SlBytesConst
namespace Go.Proofs.YtjjgadanobeamaaGreatDoor
open Go.RowKit
set_option linter.unusedVariables false
set_option linter.unusedSimpArgs false
set_option maxRecDepth 20000

theorem cut_inside {l : List Fp} (h : OkD l) (s : Int) : ∀ p ∈ cutP l s, endP p ≤ s := by
  intro p hp
  unfold cutP at hp
  rcases List.mem_append.1 hp with h1 | h1
  · have := mem_tw h1; simpa using this
  · split at h1
    · rename_i q t _
      split at h1
      · rename_i hq
        rw [List.mem_singleton] at h1
        subst h1
        unfold endP
        simp only [List.length_take]
        omega
      · cases h1
    · cases h1
theorem cut_size (l : List Fp) (s : Int) : sizeD (cutP l s) ≤ sizeD l := by
  have h1 : l = l.takeWhile (fun p => decide (endP p ≤ s)) ++ l.dropWhile (fun p => decide (endP p ≤ s)) := (List.takeWhile_append_dropWhile).symm
  have h2 := congrArg sizeD h1
  rw [sizeD_append] at h2
  unfold cutP
  rw [sizeD_append]
  cases hq : l.dropWhile (fun p => decide (endP p ≤ s)) with
  | nil => rw [hq] at h2; simp only; omega
  | cons q t =>
    rw [hq, sizeD_cons] at h2
    simp only
    split
    · rw [sizeD_cons]
      simp only [List.length_take]
      have : sizeD [] = 0 := rfl
      omega
    · have : sizeD [] = 0 := rfl
      omega
def grN (n : NdP) (c s : Int) : NdP := { n with data := cutP n.data s, v := { n.v with size := s, change := c } }
def growT (T : FsP) (i : Int) (n : NdP) (s : Int) : FsP :=
  { T with clock := T.clock + 1, used := T.used - ((sizeD n.data : Int) - (sizeD (cutP n.data s) : Int)), nd := updN T.nd i (some (grN n (T.clock + 1) s)) }
def growP (T : FsP) (i s : Int) : FsP × Int :=
  match T.nd i with
  | none => (T, 10)
  | some n => if n.v.kind = 1 then (if s < 0 ∨ 1099511627776 < s then (T, 1) else (growT T i n s, 0)) else (T, 13)
theorem growT_ok {T : FsP} (h : OkT T) {i : Int} {n : NdP} (hn : T.nd i = some n) (h1 : n.v.kind = 1) (s : Int) (hs : 0 ≤ s ∧ s ≤ 1099511627776) : OkT (growT T i n s) := by
  have on := h.node i n hn
  have hc := cut_size n.data s
  refine same_ok h hn rfl rfl rfl rfl (cut_ok on.data s hs.1) (fun e => absurd h1 e) (cut_inside on.data s) hs rfl on.mode on.user on.group on.time ⟨rfl, rfl, rfl⟩ ?_ ?_
  · show T.used - ((sizeD n.data : Int) - (sizeD (cutP n.data s) : Int)) + (sizeD n.data : Nat) = T.used + (sizeD (cutP n.data s) : Nat)
    omega
  · have := h.room
    omega
theorem growP_no {T : FsP} {i s : Int} (h : fileE T i ≠ 0) : growP T i s = (T, fileE T i) := by
  unfold growP fileE at *
  cases hn : T.nd i with
  | none => rfl
  | some n =>
    rw [hn] at h
    simp only at h ⊢
    by_cases h1 : n.v.kind = 1
    · rw [if_pos h1] at h; exact absurd rfl h
    · rw [if_neg h1, if_neg h1]
theorem growP_yes {T : FsP} {i s : Int} {n : NdP} (hn : T.nd i = some n) (h1 : n.v.kind = 1) : growP T i s = if s < 0 ∨ 1099511627776 < s then (T, 1) else (growT T i n s, 0) := by
  unfold growP
  rw [hn]
  simp only
  rw [if_pos h1]

set_option maxHeartbeats 4000000 in
theorem grow_any {S : Nat → Prop} {w : World} {f : Nat} {T : FsP} (h : FsSt S w f T) (i : Int) (hi : -9223372036854775808 ≤ i ∧ i ≤ 9223372036854775807) (s : Int) (hs : -9223372036854775808 ≤ s ∧ s ≤ 9223372036854775807) (hclk : T.clock + 1 ≤ 4611686018427387904) (hquo : T.quota ≤ 4611686018427387904) :
    Calls Tryz.prog 7 #[.pointer (some ⟨f, 0, none⟩), .int .i64 i, .int .i64 s] w fun e w' =>
      e = .returned (.int .i64 (growP T i s).2) ∧ FsSt (Grow S w w') w' f (growP T i s).1 ∧ Kept S w w' := by
  obtain ⟨L, B, mb, h⟩ := h
  have HP := Lib.hid (file_in h i hi)
  have same : ∀ w', Kept NoB w w' → FsSt (Grow S w w') w' f T ∧ Kept S w w' := fun w' hk => ⟨⟨L, B, mb, (h.keptNo hk).mono (fun k e => .inl e)⟩, hk.mono (fun k _ e => e.elim)⟩
  by_cases hp : fileE T i = 0
  rotate_left
  · rw [if_neg hp, ptrV_none] at HP
    rw [growP_no hp]
    obtain ⟨z, hz⟩ : ∃ z, z = fileE T i := ⟨_, rfl⟩
    rw [← hz] at hp HP ⊢
    have hz2 : (z == 0) = false := by simpa using hp
    have HSm := Lib.hid same
    clear hz h hp same
    go_enter Tryz.func7, Tryz.ntmps7
    go_wp2_with fail
    refine HP.out.mono ?_
    rintro e w2 ⟨rfl, hk2⟩
    go_wp2
    go_ret
    exact ⟨rfl, HSm.out _ hk2⟩
  obtain ⟨n, hn, h1⟩ := fileE_file hp
  rw [growP_yes hn h1]
  rw [if_pos hp, hp] at HP
  obtain ⟨D, m, a, c, qs, hB, hN⟩ := h.at hn
  rw [hB, ptrV_some] at HP
  by_cases hbad : s < 0 ∨ 1099511627776 < s
  · rw [if_pos hbad]
    have HSm := Lib.hid same
    clear h hp same hN hB
    go_enter Tryz.func7, Tryz.ntmps7
    by_cases hb1 : s < 0
    · go_wp2_with fail
      refine HP.out.mono ?_
      rintro e w2 ⟨rfl, hk2⟩
      go_wp2
      go_ret
      exact ⟨rfl, HSm.out _ hk2⟩
    · have hb2 : 1099511627776 < s := by omega
      go_wp2_with fail
      refine HP.out.mono ?_
      rintro e w2 ⟨rfl, hk2⟩
      go_wp2
      go_ret
      exact ⟨rfl, HSm.out _ hk2⟩
  rw [if_neg hbad]
  have hs0 : 0 ≤ s ∧ s ≤ 1099511627776 := by omega
  have HA := Lib.hid (⟨h, hN, hB, hn, h1⟩ : _ ∧ _ ∧ _ ∧ _ ∧ _)
  have HCk := Lib.hid h.ok.clock
  have HU := Lib.hid (⟨h.ok.used, h.ok.room, h.ok.quota⟩ : _ ∧ _ ∧ _)
  have HOn := Lib.hid (h.ok.node i n hn)
  have hl1 : s < 0 ↔ False := by simp; omega
  clear h hp same hN hB hn hbad h1 hl1
  go_enter Tryz.func7, Tryz.ntmps7
  have hb1 : ¬ s < 0 := by omega
  have hb2 : ¬ 1099511627776 < s := by omega
  go_wp2_with fail
  refine HP.out.mono ?_
  rintro e wn ⟨rfl, hkw⟩
  have HKw := Lib.hid hkw
  clear hkw HP
  go_upto_region 6 with fail
  -- the clock
  have hn3 : FsIn L B mb S wn f T := HA.out.1.keptNo HKw.out
  have hN3 : NdSt L i wn D n m a c qs := HA.out.2.1.kept HKw.out (fun _ _ e => e) (fun _ _ e => e) (fun _ _ e => e) (fun _ _ e => e)
  have HTk := Lib.hid (tick_any (w := wn) (f := f) (fc := (fsC mb T).toArray) (c := T.clock) [] (fun _ => #[]) none 0 hn3.obj rfl ⟨HCk.out, by omega⟩ (fun i hi => absurd hi (by simp)) (fun x hx => by simp at hx) (by simp))
  have HI3 := Lib.hid hn3; have HN3 := Lib.hid hN3
  clear hn3 hN3
  go_wp2_with fail
  refine HTk.out.mono ?_
  rintro e w3 ⟨rfl, o3, _, k3, s3⟩
  have o3' : w3.heap[f]? = some (.cells (fsC mb { T with clock := T.clock + 1 }).toArray 51 (0, 0)) := o3
  have k3' : Kept (OneB f) wn w3 := k3.mono (fun j _ e => by rcases e with e | e; exact e; simp at e)
  have hlf := HI3.out.labf
  have N3 : NdSt L i w3 D n m a c qs := HN3.out.kept k3' (fun j e hj => by rw [hj, hlf] at e; cases e) (fun j e hj => by rw [hj, hlf] at e; cases e) (fun j e hj => by rw [hj, hlf] at e; cases e) (fun j e hj => by rw [hj, hlf] at e; cases e)
  have hSl : ∀ j x, L j = x → x ≠ .no → S j ∧ j < w.heap.size := fun j x => HA.out.1.low
  have hlen : n.data.length = qs.length := N3.dat.len
  have hdat : DatO w3 a c qs := ⟨by have := N3.dat.own; rw [hlen] at this; exact this, N3.dat.each, N3.dat.apart⟩
  have hbyt : ∀ j, BytB qs j → L j = .byt i := fun j ⟨q, hq, hj⟩ => N3.dat.labs q hq j hj
  have hrow : ∀ j, (Value.slice a qs.length c).ownBlock = some j → L j = .row i := fun j hj => N3.dat.lab j (by rw [hlen]; exact hj)
  have hlD := N3.lab
  have HCut : Hid (∀ W, Kept NoB w3 W → Calls Tryz.prog 20 #[.pointer (some ⟨D, 13, none⟩), .int .i64 s] W (CutR W D (ndC n m a c).toArray a c qs s)) := Lib.hid (fun W hW =>
    cut_any D (ndC n m a c).toArray a c qs s W (hW.obj N3.obj id) (by simp [ndC, nvC, hlen]) ⟨hW.row hdat.own (fun _ _ e => e), fun q hq => hW.row (hdat.each q hq) (fun _ _ e => e), hdat.apart⟩ (by rw [N3.data]; exact HOn.out.data)
      (fun j hj e => by have h9 := hbyt j hj; rw [e, hlD] at h9; cases h9) hs0)
  obtain ⟨us, huse⟩ : ∃ us, us = T.used := ⟨_, rfl⟩
  obtain ⟨S0, hS0⟩ : ∃ S0, S0 = sizeD n.data := ⟨_, rfl⟩
  obtain ⟨S1, hS1⟩ : ∃ S1, S1 = sizeD (cutP n.data s) := ⟨_, rfl⟩
  have hdd := N3.data
  have HSb : 0 ≤ us ∧ us ≤ 4611686018427387904 ∧ S0 ≤ 1099511627776 ∧ S1 ≤ S0 := by
    have h1 := (ok_len HOn.out.data).2
    have h2 := cut_size n.data s
    have h3 := HU.out.1
    have h4 := HU.out.2.1
    omega
  have hfD : D ≠ f := fun e => by rw [e, hlf] at hlD; cases hlD
  have f3 : ∀ W, Kept NoB w3 W → W.cell? ⟨f, 3, none⟩ = some (.int .i64 us) := fun W hW => by rw [obj_cell (hW.obj o3' id), huse]; rfl
  have HQ := Lib.hid (⟨N3, hSl, hlen, hdat, hbyt, hrow, hlD, hdd, hfD, k3', o3', huse, hS0, hS1⟩ : _ ∧ _ ∧ _ ∧ _ ∧ _ ∧ _ ∧ _ ∧ _ ∧ _ ∧ _ ∧ _ ∧ _ ∧ _ ∧ _)
  have hf3 := f3 w3 (Kept.refl _ _)
  clear o3 k3 s3 o3' k3' N3 hSl hlen hdat hbyt hrow hlD hdd HTk hlf huse hS0 hS1
  go_upto_region 7 with fail
  have HCut := Lib.hid (HCut.out w3.drew (Kept.refl _ _).drew)
  have HF4 : Hid (∀ W e, CutR w3.drew D (ndC n m a c).toArray a c qs s e W → e = .returned (.int .i64 ((S0 : Int) - (S1 : Int))) ∧ W.cell? ⟨f, 3, none⟩ = some (.int .i64 us) ∧ W.frozen? ⟨f, 3, none⟩ = false) := Lib.hid (fun W e hc => by
    obtain ⟨N3, hSl, hlen, hdat, hbyt, hrow, hlD, hdd, hfD, k3', o3', huse, hS0, hS1⟩ := HQ.out
    obtain ⟨he, a', c', qs', e1, e2, e3, e4, e5, e6⟩ := hc
    have hlf := HI3.out.labf
    have o4 : W.heap[f]? = some (.cells (fsC mb { T with clock := T.clock + 1 }).toArray 51 (0, 0)) := e6.obj (show w3.drew.heap[f]? = _ from o3') (fun e => by
      rcases e with e | e | e
      · exact hfD e.symm
      · have := hrow f e; rw [hlf] at this; cases this
      · have := hbyt f e; rw [hlf] at this; cases this)
    refine ⟨by rw [he, hdd, hS0, hS1], by rw [obj_cell o4, huse]; rfl, obj_free o4 3⟩)
  go_region_law (first
    | (go_simp; go_at_call 20; (with_reducible refine HCut.out.mono ?_); rintro e w4 hc4; have hq4 := HF4.out w4 e hc4; obtain ⟨rfl, c4, g4⟩ := hq4))
  all_goals go_simp
  all_goals
    obtain ⟨he4, a', c', qs', e1, e2, e3, e4, e5, e6⟩ := hc4
    obtain ⟨N3, hSl, hlen, hdat, hbyt, hrow, hlD, hdd, hfD, k3', o3', huse, hS0, hS1⟩ := HQ.out
    clear he4
    have hlf := HI3.out.labf
    have o4 : w4.heap[f]? = some (.cells (fsC mb { T with clock := T.clock + 1 }).toArray 51 (0, 0)) := e6.obj (show w3.drew.heap[f]? = _ from o3') (fun e => by
      rcases e with e | e | e
      · exact hfD e.symm
      · have := hrow f e; rw [hlf] at this; cases this
      · have := hbyt f e; rw [hlf] at this; cases this)
    rw [hdd] at e1
    have hl' : qs'.length = (cutP n.data s).length := by rw [← e1]; simp
    have n4 : w4.heap[D]? = some (.cells (ndC { n with data := cutP n.data s } m a' c').toArray 48 (0, 0)) := by
      rw [e2, hl']; rfl
    obtain ⟨w5, hw5⟩ : ∃ w5, w5 = w4.setCell ⟨f, 3, none⟩ (.int .i64 (us - ((S0 : Int) - (S1 : Int)))) := ⟨_, rfl⟩
    have o5 : w5.heap[f]? = some (.cells (fsC mb { T with clock := T.clock + 1, used := us - ((S0 : Int) - (S1 : Int)) }).toArray 51 (0, 0)) := by rw [hw5]; exact obj_set o4 3 _
    have n5 : w5.heap[D]? = some (.cells (ndC { n with data := cutP n.data s } m a' c').toArray 48 (0, 0)) := by rw [hw5, Below.heap_setCell _ _ _ _ hfD]; exact n4
    have k5 : Kept (OneB f) w4 w5 := by rw [hw5]; exact kept_one _ _ _ _
    have f8 : w5.cell? ⟨D, 8, none⟩ = some (.int .i64 n.v.size) := by rw [obj_cell n5]; rfl
    have g8 := obj_free n5 8
    obtain ⟨w6, hw6⟩ : ∃ w6, w6 = w5.setCell ⟨D, 8, none⟩ (.int .i64 s) := ⟨_, rfl⟩
    have o6 : w6.heap[f]? = some (.cells (fsC mb { T with clock := T.clock + 1, used := us - ((S0 : Int) - (S1 : Int)) }).toArray 51 (0, 0)) := by rw [hw6, Below.heap_setCell _ _ _ _ hfD.symm]; exact o5
    have n6 : w6.heap[D]? = some (.cells (ndC { n with data := cutP n.data s, v := { n.v with size := s } } m a' c').toArray 48 (0, 0)) := by rw [hw6]; exact obj_set n5 8 _
    have k6 : Kept (OneB D) w5 w6 := by rw [hw6]; exact kept_one _ _ _ _
    obtain ⟨cl, hcl⟩ : ∃ cl, cl = T.clock + 1 := ⟨_, rfl⟩
    have f4 : w6.cell? ⟨f, 4, none⟩ = some (.int .i64 cl) := by rw [obj_cell o6, hcl]; rfl
    have g10 := obj_free n6 10
    have f10 : w6.cell? ⟨D, 10, none⟩ = some (.int .i64 n.v.change) := by rw [obj_cell n6]; rfl
    obtain ⟨w7, hw7⟩ : ∃ w7, w7 = w6.setCell ⟨D, 10, none⟩ (.int .i64 cl) := ⟨_, rfl⟩
    have o7 : w7.heap[f]? = some (.cells (fsC mb { T with clock := T.clock + 1, used := us - ((S0 : Int) - (S1 : Int)) }).toArray 51 (0, 0)) := by rw [hw7, Below.heap_setCell _ _ _ _ hfD.symm]; exact o6
    have n7 : w7.heap[D]? = some (.cells (ndC { n with data := cutP n.data s, v := { n.v with size := s, change := cl } } m a' c').toArray 48 (0, 0)) := by rw [hw7]; exact obj_set n6 10 _
    have k7 : Kept (OneB D) w6 w7 := by rw [hw7]; exact kept_one _ _ _ _
    have hfin : Hid (FsSt (Grow S w w7) w7 f (growT T i n s) ∧ Kept S w w7) := Lib.hid (by
      obtain ⟨h, hN, hB, hn, h1⟩ := HA.out
      have hk03 : Kept (OneB f) w w3 := HKw.out.dom.trans k3'
      have sw : w.heap.size ≤ w3.heap.size := hk03.size
      have hlt : f < w.heap.size ∧ D < w.heap.size := ⟨(hSl f _ hlf (by simp)).2, (hSl D _ hlD (by simp)).2⟩
      have k47 : Kept (fun j => j = f ∨ j = D) w4 w7 := ((k5.mono (fun j _ e => .inl e)).trans (k6.mono (fun j _ e => .inr e))).trans (k7.mono (fun j _ e => .inr e))
      have e6' : Kept (fun j => j = D ∨ (Value.slice a qs.length c).ownBlock = some j ∨ BytB qs j) w3 w4 := (Kept.refl _ w3).drew.trans e6
      have k07 : Kept (fun j => j = f ∨ j = D ∨ (Value.slice a qs.length c).ownBlock = some j ∨ BytB qs j) w w7 :=
        ((hk03.mono (fun j _ e => .inl e)).trans (e6'.mono (fun j _ e => .inr e))).trans (k47.mono (fun j _ e => by rcases e with e | e; exact .inl e; exact .inr (.inl e)))
      have hrow2 : ∀ j, (Value.slice a' qs'.length c').ownBlock = some j → L j = .row i ∨ w.heap.size ≤ j := fun j hj => by
        rcases e4 j hj with e | e
        · exact .inl (hrow j e)
        · right
          have e : w3.heap.size ≤ j := e
          omega
      have hbyt2 : ∀ j, BytB qs' j → L j = .byt i ∨ w.heap.size ≤ j := fun j hj => by
        rcases e5 j hj with e | e
        · exact .inl (hbyt j e)
        · right
          have e : w3.heap.size ≤ j := e
          omega
      have hrow4 : ∀ j, (Value.slice a' qs'.length c').ownBlock = some j → ¬ (j = f ∨ j = D) := fun j hj e => by
        rcases hrow2 j hj with h2 | h2
        · rcases e with e | e
          · rw [e, hlf] at h2; cases h2
          · rw [e, hlD] at h2; cases h2
        · omega
      have hbyt4 : ∀ j, BytB qs' j → ¬ (j = f ∨ j = D) := fun j hj e => by
        rcases hbyt2 j hj with h2 | h2
        · rcases e with e | e
          · rw [e, hlf] at h2; cases h2
          · rw [e, hlD] at h2; cases h2
        · omega
      have hok := growT_ok h.ok hn h1 s hs0
      refine data_done (n' := grN n (T.clock + 1) s) h hB hN hok rfl rfl rfl rfl k07 (fun j hj _ => ?_) ?_ ?_ ⟨k47.row e3.own hrow4, fun q hq => k47.row (e3.each q hq) (fun j hj => hbyt4 j ⟨q, hq, hj⟩), e3.apart⟩ e1 hrow2 hbyt2
      · rcases hj with e | e | e | e
        · exact .inl e
        · exact .inr (.inl e)
        · exact .inr (.inr (.inl (hrow j e)))
        · exact .inr (.inr (.inr (hbyt j e)))
      · rw [huse, hS0, hS1] at o7; exact o7
      · rw [hcl] at n7; exact n7)
    have HW5 := Lib.hid hw5; have HW6 := Lib.hid hw6; have HW7 := Lib.hid hw7
    have HCl2 := Lib.hid hcl
    clear hw5 hw6 hw7 o4 o5 o6 o7 n4 n5 n6 n7 k5 k6 k7 hcl hfD e1 e2 e3 e4 e5 e6 hl' hlf hlD N3 hSl hlen hdat hbyt hrow hdd k3' o3' huse hS0 hS1 c4 g4 hf3
    rw [show IntKind.i64.wrap (us - ((S0 : Int) - (S1 : Int))) = us - ((S0 : Int) - (S1 : Int)) by rw [IntKind.wrap_i64]; omega]
    rw [← HW5.out]
    go_upto_region 9 with fail
    rw [← HW6.out]
    clear f8 g8
    go_upto_region 10 with fail
    rw [← HW7.out]
    clear f4 g10 f10
    go_wp2
    go_ret
    exact ⟨rfl, hfin.out⟩
end Go.Proofs.YtjjgadanobeamaaGreatDoor

namespace Go.Proofs.YtjjgadanobeamaaGreatDoor
open Go.RowKit
set_option linter.unusedVariables false
set_option linter.unusedSimpArgs false
set_option maxRecDepth 20000

structure CpS (w0 w : World) (a : Option Addr) (l c : Nat) (qs : List FpQ) : Prop where
  len : l = qs.length
  own : w.ownsRow 0 69 2 (.slice a l c) l (fcells qs)
  fresh : ∀ k, (Value.slice a l c).ownBlock = some k → w0.heap.size ≤ k
  each : ∀ q ∈ qs, w.ownsRow 0 5 1 (.slice q.2.1 q.1.2.length q.2.2) q.1.2.length (bc q.1.2)
  bfresh : ∀ q ∈ qs, ∀ j, pcB q = some j → w0.heap.size ≤ j
  kept : Kept NoB w0 w
theorem CpS.start {w0 w : World} (hk : Kept NoB w0 w) : CpS w0 w none 0 0 [] := ⟨rfl, World.ownsRow_nil _ _ _ _, (fun k hk => by simp [Value.ownBlock] at hk), (fun q hq => by cases hq), (fun q hq => by cases hq), hk⟩
theorem CpS.on {w0 w w' : World} {a : Option Addr} {l c : Nat} {qs : List FpQ} (h : CpS w0 w a l c qs) (hk : Kept NoB w w') : CpS w0 w' a l c qs :=
  ⟨h.len, hk.row h.own (fun _ _ e => e), h.fresh, fun q hq => hk.row (h.each q hq) (fun _ _ e => e), h.bfresh, h.kept.trans hk⟩
theorem CpS.apart {w0 w : World} {a : Option Addr} {l c : Nat} {qs : List FpQ} (h : CpS w0 w a l c qs) : ∀ q ∈ qs, ∀ j, pcB q = some j → (Value.slice a l c).ownBlock ≠ some j := fun q hq j hj e => by
  rcases h.own.2 with ⟨q1, q2⟩ | ⟨g, cc, cur, q1, _, q2, _⟩
  · rw [q1] at e; cases e
  · rw [q1] at e
    have e2 : g = j := by injection e
    exact row2_ne (h.each q hq) (by rw [e2] at q2; exact q2) (by decide) j hj rfl
end Go.Proofs.YtjjgadanobeamaaGreatDoor

namespace Go.Proofs.YtjjgadanobeamaaGreatDoor
open Go.RowKit
set_option linter.unusedVariables false
set_option linter.unusedSimpArgs false
set_option maxRecDepth 20000

def byteAt (l : List Fp) (x : Int) : UInt8 := match l.find? (fun p => decide (p.1 ≤ x) && decide (x < endP p)) with
  | some p => p.2.getD (x - p.1).toNat 0
  | none => 0
def readD (l : List Fp) (k : Int) (n : Nat) : List UInt8 := (List.range n).map (fun t : Nat => byteAt l (k + t))
theorem readD_len (l : List Fp) (k : Int) (n : Nat) : (readD l k n).length = n := by simp [readD]
theorem readD_at (l : List Fp) (k : Int) (n t : Nat) (h : t < n) : (readD l k n)[t]? = some (byteAt l (k + t)) := by simp [readD, h]
theorem byteAt_append (a b : List Fp) (x : Int) (h : ∀ p ∈ a, ¬ (p.1 ≤ x ∧ x < endP p)) : byteAt (a ++ b) x = byteAt b x := by
  unfold byteAt
  rw [List.find?_append]
  have : a.find? (fun p => decide (p.1 ≤ x) && decide (x < endP p)) = none := by
    rw [List.find?_eq_none]
    intro p hp
    have := h p hp
    simp
    intro h1
    omega
  rw [this]; rfl
theorem byteAt_prefix (a b : List Fp) (x : Int) (h : ∀ p ∈ b, ¬ (p.1 ≤ x ∧ x < endP p)) : byteAt (a ++ b) x = byteAt a x := by
  unfold byteAt
  rw [List.find?_append]
  have : b.find? (fun p => decide (p.1 ≤ x) && decide (x < endP p)) = none := by
    rw [List.find?_eq_none]
    intro p hp
    have := h p hp
    simp
    intro h1
    omega
  rw [this]
  cases a.find? (fun p => decide (p.1 ≤ x) && decide (x < endP p)) <;> rfl
theorem byteAt_one (p : Fp) (x : Int) (h : p.1 ≤ x ∧ x < endP p) : byteAt [p] x = p.2.getD (x - p.1).toNat 0 := by
  unfold byteAt
  rw [List.find?_cons]
  simp [h.1, h.2]
theorem read_step {a : List Fp} {p : Fp} (hok : OkD (a ++ [p])) (k : Int) (n P m d : Nat) (hP : k + (P : Int) = max k p.1) (hd : (d : Int) = max k p.1 - p.1) (hm : m = min (p.2.length - d) (n - P)) (hPn : P ≤ n) (he : k < endP p) :
    readD (a ++ [p]) k n = (readD a k n).take P ++ (p.2.drop d).take m ++ (readD a k n).drop (P + m) := by
  have hel : endP p = p.1 + p.2.length := rfl
  have hap : ∀ q ∈ a, endP q < p.1 := fun q hq => by
    have := hok.apart
    rw [List.pairwise_append] at this
    exact this.2.2 q hq p (by simp)
  have hsl : ((p.2.drop d).take m).length = m := by rw [List.length_take, List.length_drop]; omega
  apply List.ext_getElem?
  intro t
  rcases Nat.lt_or_ge t n with ht | ht
  · rw [readD_at _ _ _ _ ht]
    rcases Nat.lt_or_ge t P with h1 | h1
    · rw [List.append_assoc, List.getElem?_append_left (by rw [List.length_take, readD_len]; omega), List.getElem?_take, if_pos h1, readD_at _ _ _ _ ht]
      rw [byteAt_prefix _ _ _ (fun q hq => by rw [List.mem_singleton] at hq; subst hq; omega)]
    · rcases Nat.lt_or_ge t (P + m) with h2 | h2
      · rw [List.append_assoc, List.getElem?_append_right (by rw [List.length_take, readD_len]; omega), List.getElem?_append_left (by rw [hsl, List.length_take, readD_len]; omega), List.length_take, readD_len, Nat.min_eq_left hPn, List.getElem?_take, if_pos (by omega), List.getElem?_drop]
        have hin : p.1 ≤ k + (t : Int) ∧ k + (t : Int) < endP p := by rw [hel]; omega
        rw [byteAt_append _ _ _ (fun q hq => by have := hap q hq; omega), byteAt_one p _ hin]
        have e1 : (k + (t : Int) - p.1).toNat = d + (t - P) := by omega
        rw [e1, List.getD_eq_getElem?_getD]
        have hlt : d + (t - P) < p.2.length := by omega
        rw [List.getElem?_eq_getElem hlt]; rfl
      · have hnin : ¬ (p.1 ≤ k + (t : Int) ∧ k + (t : Int) < endP p) := by rw [hel]; omega
        rw [byteAt_prefix _ _ _ (fun q hq => by rw [List.mem_singleton] at hq; subst hq; exact hnin)]
        rw [List.getElem?_append_right (by simp only [List.length_append, hsl, List.length_take, readD_len]; omega), List.getElem?_drop]
        simp only [List.length_append, hsl, List.length_take, readD_len]
        rw [Nat.min_eq_left hPn, show P + m + (t - (P + m)) = t by omega, readD_at _ _ _ _ ht]
  · rw [List.getElem?_eq_none (by rw [readD_len]; exact ht), List.getElem?_eq_none]
    simp only [List.length_append, hsl, List.length_take, List.length_drop, readD_len]
    omega
theorem run_copy_by2 (w : World) (gf fn fc P : Nat) (x : List UInt8) (hx : fn = x.length) (hown : w.ownsRow 0 5 1 (.slice (some ⟨gf, 0, none⟩) fn fc) fn (bc x)) (y : Addr) (bs : List UInt8) (cb dc : Nat) (hc : ∀ j v, (bc bs)[j]? = some v → w.cell? (y.add j) = some v) (hP : P ≤ fn) (m : Nat) (hm : m = min bs.length (fn - P)) :
    ∃ w', (Builtin.copy_ #[26, 26] 3 #[.slice (some ⟨gf, P, none⟩) (fn - P) dc, .slice (some y) bs.length cb]).run Tryz.prog w = .ok (goInt m) w' ∧ w'.ownsRow 0 5 1 (.slice (some ⟨gf, 0, none⟩) fn fc) fn (bc (x.take P ++ bs.take m ++ x.drop (P + m))) ∧ Kept (OneB gf) w w' := by
  rcases hown.2 with ⟨h1, h2⟩ | ⟨g', cc, cur, h1, hb0, hg, hnc, hcm, hcs, htk⟩
  · cases h1
  · simp only [Value.slice.injEq, Option.some.injEq, Addr.mk.injEq, and_true, true_and] at h1
    obtain ⟨rfl, rfl⟩ := h1
    have htl : (bs.take m).length = m := by rw [List.length_take]; omega
    have hc' : ∀ j v, (bc (bs.take m))[j]? = some v → w.cell? (y.add j) = some v := fun j v hj => by
      refine hc j v ?_
      have e : bc (bs.take m) = (bc bs).take m := by simp [bc, List.map_take]
      rw [e, List.getElem?_take] at hj
      split at hj
      · exact hj
      · cases hj
    have := run_copy_row (P := Tryz.prog) w 26 26 3 5 gf P (fn - P) dc y bs.length cb cur 5 (bc (bs.take m)) Tryz.underlying26 (by kernel_rfl) hg (by rw [bc_len, htl, hm]) hc' (by rw [bc_len, hcs, htl]; omega) (bc_one _)
    rw [bc_len, htl] at this
    have hxl : (x.take P ++ bs.take m ++ x.drop (P + m)).length = fn := by simp only [List.length_append, List.length_take, List.length_drop]; omega
    refine ⟨_, this, ⟨by rw [bc_len, hxl]; omega, .inr ⟨gf, fc, _, rfl, Nat.zero_le _, setRow_heap _ _ _ _ _ _ hg, hnc, hcm, ?_, ?_⟩⟩, Kept.setRow (S := OneB gf) (Kept.refl _ w) (.inl rfl) _⟩
    · simp only [List.size_toArray, List.length_append, List.length_take, List.length_drop, Array.length_toList, bc_len, hcs, htl]; omega
    · have htk' : cur.toList.take fn = bc x := by rw [Nat.mul_one] at htk; exact htk
      have e1 : cur.toList.take P = bc (x.take P) := by
        have := congrArg (List.take P) htk'
        rw [List.take_take, Nat.min_eq_left (by omega)] at this
        rw [this]; simp [bc, List.map_take]
      have e2 : (cur.toList.drop (P + m)).take (fn - (P + m)) = bc (x.drop (P + m)) := by
        have := congrArg (List.drop (P + m)) htk'
        rw [List.drop_take] at this
        rw [this]; simp [bc, List.map_drop]
      rw [List.toList_toArray, Nat.mul_one, bc_app, bc_app, ← e1, ← e2]
      have hl : (cur.toList.take P ++ bc (bs.take m)).length = P + m := by rw [List.length_append, List.length_take, bc_len, Array.length_toList, hcs, htl]; omega
      rw [List.take_append, List.take_of_length_le (by omega), hl]
end Go.Proofs.YtjjgadanobeamaaGreatDoor

namespace Go.Proofs.YtjjgadanobeamaaGreatDoor
set_option linter.unusedVariables false
set_option linter.unusedSimpArgs false
set_option maxRecDepth 20000

end Go.Proofs.YtjjgadanobeamaaGreatDoor

namespace Go.Proofs.YtjjgadanobeamaaGreatDoor
open Go.RowKit
set_option linter.unusedVariables false
set_option linter.unusedSimpArgs false
set_option maxRecDepth 20000

theorem keep_on {S : Nat → Prop} {a b c : World} (h : Kept NoB a b) (k : Kept S b c) (hs : ∀ i, i < a.heap.size → S i → False) : Kept NoB a c :=
  ⟨k.os.trans h.os, k.tape.trans h.tape, k.output.trans h.output, Nat.le_trans h.size k.size, fun i hi _ => (k.block i (Nat.lt_of_lt_of_le hi h.size) (hs i hi)).trans (h.block i hi id)⟩
def NewB (w W : World) : Nat → Prop := fun k => w.heap.size ≤ k ∧ k < W.heap.size
structure FsOwn (w W : World) (f : Nat) (T : FsP) : Prop where
  st : FsSt (NewB w W) W f T
  keep : Kept NoB w W
theorem FsOwn.made {w W : World} {f : Nat} {T : FsP} (h : FsSt (Grow NoB w W) W f T) (hk : Kept NoB w W) : FsOwn w W f T :=
  ⟨h.mono (fun k e => by rcases e with e | e; exact e.elim; exact e), hk⟩
theorem FsOwn.kept {w W W' : World} {f : Nat} {T : FsP} (h : FsOwn w W f T) (hk : Kept NoB W W') : FsOwn w W' f T :=
  ⟨(h.st.keptNo hk).mono (fun k e => ⟨e.1, Nat.lt_of_lt_of_le e.2 hk.size⟩), h.keep.trans hk⟩
theorem FsOwn.step {w W W' : World} {f : Nat} {T T' : FsP} (h : FsOwn w W f T) (hs : FsSt (Grow (NewB w W) W W') W' f T') (hk : Kept (NewB w W) W W') : FsOwn w W' f T' :=
  ⟨hs.mono (fun k e => by
    have h1 := hk.size
    have h2 := h.keep.size
    rcases e with e | e
    · exact ⟨e.1, Nat.lt_of_lt_of_le e.2 h1⟩
    · exact ⟨by omega, e.2⟩), keep_on h.keep hk (fun i hi e => by have := e.1; omega)⟩
theorem FsOwn.lt {w W : World} {f : Nat} {T : FsP} (h : FsOwn w W f T) : f < W.heap.size := by
  obtain ⟨L, B, mb, h1⟩ := h.st
  exact obj_lt h1.obj
theorem wpList_make_bytes (w : World) {ops : Array Oper} {rest : List Oper} {o : Oper} {a : Act} {Q : Exit → Act → World → Prop}
    (hg : o.guard = none) (l c : Operand) (hop : o.op = Op.makeSlice 26 l c) (n : Nat) (hl : a.eval l = .int .i64 (n : Int)) (hc : a.eval c = .int .i64 (n : Int)) (hm : n ≤ 1048576)
    (hK : ∀ w', w'.heap[w.heap.size]? = some (.cells (bc (List.replicate n 0)).toArray 5 (0, 0)) → Kept NoB w w' → wpList Tryz.prog ops Q rest (a.put o.dst (.slice (some ⟨w.heap.size, 0, none⟩) n n)) w') :
    wpList Tryz.prog ops Q (o :: rest) a w := by
  obtain ⟨i0, hi, hz0, hz1, hz2⟩ := info_parts info5
  refine wpList_plain hg fun K hK' => ?_
  have hr := run_make (P := Tryz.prog) w 26 5 i0 (.int .u8 0) Tryz.underlying26 hi hz0 .i64 .i64 n n (by omega) (by omega) (by rw [hz2]; omega) (by omega)
  simp only [Int.toNat_natCast] at hr
  unfold Oper.wp
  simp only [execOp, hop, hl, hc, hr, Sem.run_bind, Sem.run_pure, Result.andThen_ok]
  refine hK' _ _ (hK _ ?_ ((Kept.refl _ _).alloc _))
  refine (heap_alloc_new _ _).trans (congrArg (fun c => some (Obj.cells c 5 (0, 0))) ?_)
  apply Array.ext'
  rw [hz1, bc, List.map_replicate, List.toArray_replicate]
  have e : (madeCells #[Value.int .u8 0] (n * 1)).toList = List.replicate n (.int .u8 0) := by
    rw [List.eq_replicate_iff]
    refine ⟨by simp [madeCells], ?_⟩
    intro x hx
    simp only [madeCells, Array.toList_map, List.mem_map] at hx
    obtain ⟨i, _, rfl⟩ := hx
    rw [show i % (#[Value.int .u8 0] : Array Value).size = 0 from Nat.mod_one i]
    rfl
  exact e
end Go.Proofs.YtjjgadanobeamaaGreatDoor
