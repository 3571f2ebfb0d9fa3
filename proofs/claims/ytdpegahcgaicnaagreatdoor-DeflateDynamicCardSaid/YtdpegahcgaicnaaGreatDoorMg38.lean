/-
  The document's Least.
  fits: lengths such as the document asks for.
  The document's HeadOk.
-/
import Derived.Test.YtdpegahcgaicnaaGreatDoorMg37
namespace Go.Proofs.YtdpegahcgaicnaaGreatDoor
open Go.RowKit
set_option linter.unusedVariables false
set_option linter.unusedSimpArgs false

theorem IntSt.trans {w0 w1 w2 : World} {a : Option Addr} {l c : Nat} {zs : List Int} (h : IntSt w1 w2 a l c zs) (k : Kept NoB w0 w1) : IntSt w0 w2 a l c zs :=
  ⟨h.len, h.own, k.trans h.kept, fun b e => by have := h.fresh b e; have := k.size; omega⟩
theorem IntSt.on {w0 w1 w2 : World} {a : Option Addr} {l c : Nat} {zs : List Int} (h : IntSt w0 w1 a l c zs) (k : Kept NoB w1 w2) : IntSt w0 w2 a l c zs :=
  ⟨h.len, k.row h.own (fun _ _ h => h), h.kept.trans k, h.fresh⟩
theorem IntSt.place {w0 w : World} {a : Option Addr} {l c : Nat} {zs : List Int} (h : IntSt w0 w a l c zs) : ∀ ad, a = some ad → ∃ g off, ad = ⟨g, off, none⟩ := by
  intro ad e
  subst e
  rcases h.own.2 with ⟨hv, _⟩ | ⟨g, cc, cur, hv, _⟩
  · simp at hv
  · simp at hv; exact ⟨g, 0, hv.1⟩
theorem ints_mem {Z : List Int} {p : Nat} (h : p < Z.length) : Z.getD p 0 ∈ Z := by simp [List.getD, h]
theorem vals_len (T : List It) : (vals T).length = T.length := by simp [vals]
theorem vals_row0 (zs : List Int) : vals (rowS zs 0) = zs := by
  rw [row_zero]; unfold vals mrg; rw [List.map_map]; simp [Function.comp_def]
theorem vals_small {m : Int} {T : List It} (h : SmallIt m T) : ∀ u ∈ vals T, 0 ≤ u ∧ u ≤ m := by
  intro u hu
  obtain ⟨p, hp, rfl⟩ := List.mem_map.1 hu
  exact h p hp
/-- Numbers appended to an own row, in a region in its own order. -/
theorem wpList_ints {ops : Array Oper} {rest : List Oper} {o : Oper} {a : Act} {w : World} {Q : Exit → Act → World → Prop} (hgd : o.guard = none) (s x : Operand)
    (ho : o.op = .call { callee := .builtin .append, args := #[s, x], argTypes := #[23, 23] })
    {w0 : World} {a1 : Option Addr} {l1 c1 : Nat} {zs : List Int} (hS : IntSt w0 w a1 l1 c1 zs) (hs : a.eval s = .slice a1 l1 c1)
    (ad : Addr) (m c : Nat) (news : List Int) (hx : a.eval x = .slice (some ad) m c) (hl : news.length = m) (hnews : ∀ j u, (news.map (Value.int .i64))[j]? = some u → w.cell? (ad.add j) = some u) (h63 : l1 + m ≤ 100000)
    (h : ∀ a2 c2 w', IntSt w0 w' a2 (l1 + m) c2 (zs ++ news) → wpList Tryz.prog ops Q rest (a.put o.dst (.slice a2 (l1 + m) c2)) w') : wpList Tryz.prog ops Q (o :: rest) a w := by
  obtain ⟨i0, hi, hz0, hz1, hz2⟩ := info_parts infoI
  refine wpList_app w hgd s x 23 ho 3 i0 (.int .i64 0) 1 8 (by kernel_rfl) hi hz0 hz1 hz2 rfl (by decide) _ l1 (zs.map (.int .i64)) hs hS.own ad m c (news.map (.int .i64)) hx (by rw [List.length_map, hl, Nat.mul_one]) hnews (fun u hu => by obtain ⟨y, _, rfl⟩ := List.mem_map.1 hu; rfl) (by unfold maxLen; omega) (by omega) ?_
  intro v' w' h2 h3 h4
  obtain ⟨a2, c2, rfl⟩ := own_shape2 h2
  refine h _ _ _ ⟨by rw [List.length_append, hS.len, hl], by rw [List.map_append]; exact h2, hS.kept.grown h3 (fun k hk e => by have := hS.fresh k e; omega), ?_⟩
  intro k hk
  rcases h4 k hk with h | h
  · exact hS.fresh k h
  · have := hS.kept.size; omega
theorem merge_leaf {P ls D R : List Int} {a b : Nat} (ha : a < ls.length) (hc : P.length ≤ b ∨ ls.getD a 0 ≤ P.getD b 0) (h : D ++ vals (mrg (P.drop b) (ls.drop a)) = R) : (D ++ [ls.getD a 0]) ++ vals (mrg (P.drop b) (ls.drop (a + 1))) = R := by
  rw [mrg_step_leaf (P.drop b) (ls.drop a) (by intro e; have := congrArg List.length e; simp at this; omega) (by rw [drop_getD0, drop_getD0]; rcases hc with h | h; exact .inl (List.drop_of_length_le h); exact .inr h), drop_getD0, List.tail_drop] at h
  rw [← h]; simp
theorem merge_pair {P ls D R : List Int} {a b : Nat} (hb : b < P.length) (hc : ls.length ≤ a ∨ ¬ ls.getD a 0 ≤ P.getD b 0) (h : D ++ vals (mrg (P.drop b) (ls.drop a)) = R) : (D ++ [P.getD b 0]) ++ vals (mrg (P.drop (b + 1)) (ls.drop a)) = R := by
  rw [mrg_step_pair (P.drop b) (ls.drop a) (by intro e; have := congrArg List.length e; simp at this; omega) (by rw [drop_getD0, drop_getD0]; rcases hc with h | h; exact .inl (List.drop_of_length_le h); exact .inr h), drop_getD0, List.tail_drop] at h
  rw [← h]; simp
/-- A rising row of the weights that there are among the first j. -/
structure UpSt (w wr : World) (a : Option Addr) (l c : Nat) (zs ws : List Int) (j : Nat) : Prop where
  st : IntSt w wr a l c zs
  srd : Srd zs
  perm : zs.Perm (posL (ws.take j))
theorem UpSt.room {w wr : World} {a : Option Addr} {l c : Nat} {zs ws : List Int} {j : Nat} (h : UpSt w wr a l c zs ws j) : l ≤ j := by
  rw [h.st.len, h.perm.length_eq]; exact pos_len ws j
theorem UpSt.skip {w wr : World} {a : Option Addr} {l c : Nat} {zs ws : List Int} {j : Nat} (h : UpSt w wr a l c zs ws j) (hj : j < ws.length) (hz : ¬ 0 < ws.getD j 0) : UpSt w wr a l c zs ws (j + 1) :=
  ⟨h.st, h.srd, by rw [pos_step ws j hj, if_neg hz]; exact h.perm⟩
theorem UpSt.add {w wr w' : World} {a a' : Option Addr} {l c c' k : Nat} {zs ws : List Int} {j : Nat} (h : UpSt w wr a l c zs ws j) (hj : j < ws.length) (hz : 0 < ws.getD j 0)
    (hp : LPutP zs (ws.getD j 0) k) (hs : IntSt wr w' a' (l + 1) c' (zs.take k ++ ws.getD j 0 :: zs.drop k)) : UpSt w w' a' (l + 1) c' (zs.take k ++ ws.getD j 0 :: zs.drop k) ws (j + 1) :=
  ⟨hs.trans h.st.kept, put_srd h.srd hp, by
    rw [pos_step ws j hj, if_pos hz]
    exact put_perm.trans ((List.Perm.cons _ h.perm).trans (List.perm_append_comm (l₁ := [ws.getD j 0]) (l₂ := posL (ws.take j))))⟩

set_option maxRecDepth 20000 in
set_option maxHeartbeats 4000000 in
theorem least_calls (ao : Option Addr) (ca B : Nat) (ws : List Int) (k : Nat) (w : World) (hr : RdI w B ao ws) (hok : LensOkP ws (k : Int)) :
    Calls Tryz.prog 32 #[.slice ao ws.length ca, .int .i64 (k : Int)] w fun e w' => ∃ ls, Srd ls ∧ ls.Perm (posL ws) ∧ e = .returned (.int .i64 (leastL ls k)) ∧ Kept NoB w w' := by
  have HR := Lib.hid hr; have HOk := Lib.hid hok
  have hk1 : 1 ≤ k ∧ k ≤ 15 := by have := hok.lim; omega
  obtain ⟨n, hn⟩ : ∃ n, n = ws.length := ⟨_, rfl⟩
  have hn3 : n ≤ 320 := by rw [hn]; exact hok.len
  have HN := Lib.hid hn
  rw [← hn]
  clear hr hn hok
  go_enter Tryz.func32, Tryz.ntmps32
  go_wp2
  go_loopw [6, 5] (fun v6 v5 wr => ∃ (j l5 : Nat) (a5 : Option Addr) (c5 : Nat), v6 = .int .i64 (j : Int) ∧ v5 = .slice a5 l5 c5 ∧ j ≤ n ∧ Hid (∃ zs, UpSt w wr a5 l5 c5 zs ws j)) (fun v6 _ _ => n - (intOf v6).toNat)
  case atStart => exact ⟨0, 0, none, 0, rfl, rfl, by omega, Lib.hid ⟨[], ⟨IntSt.nil w, List.Pairwise.nil, by simp [posL]⟩⟩⟩
  case round =>
    obtain ⟨j, l5, a5, c5, rfl, rfl, hj, HU⟩ := hrel
    obtain ⟨zs, hu⟩ := HU.out
    have hlj := hu.room
    have HU := Lib.hid hu
    clear hu
    by_cases hlt : (j : Int) < n
    · obtain ⟨g, off, rfl, _, hc0⟩ := HR.out j (by have := HN.out; omega)
      have hc := HU.out.st.kept.cell hc0
      clear hc0
      by_cases hz : 0 < ws.getD j 0
      · have hput := put_calls a5 c5 _ zs (ws.getD j 0) wr HU.out.st.reads (by have := HU.out.st.len; omega) (by have := (own_cap HU.out.st.own).1; have := HU.out.st.len; omega) (by have := (own_cap HU.out.st.own).2; unfold maxLen at this; omega) (own_nil HU.out.st.own) HU.out.st.place
        have hadd := fun a' c' k w' hp hs => HU.out.add (a' := a') (c' := c') (k := k) (w' := w') (by have := HN.out; omega) hz hp hs
        rw [← HU.out.st.len] at hput
        obtain ⟨z, hze⟩ : ∃ z, z = ws.getD j 0 := ⟨_, rfl⟩
        rw [← hze] at hc hz hput hadd
        have HPut := Lib.hid hput; have HAdd := Lib.hid hadd
        clear hze hput hadd
        go_wp2_with fail
        refine HPut.out.mono ?_
        rintro e w1 ⟨a6, c6, q, hp, rfl, hs⟩
        have HU2 := Lib.hid (HAdd.out _ _ _ _ hp hs)
        clear hp hs
        go_wp2
        go_roundw
        case rel => exact ⟨j + 1, l5 + 1, a6, c6, by go_num, rfl, by omega, Lib.hid ⟨_, HU2.out⟩⟩
        case measure => simp [intOf]; omega
      · have HU2 := Lib.hid (HU.out.skip (by have := HN.out; omega) hz)
        obtain ⟨z, hze⟩ : ∃ z, z = ws.getD j 0 := ⟨_, rfl⟩
        rw [← hze] at hc hz
        clear hze
        go_wp2
        go_roundw
        case rel => exact ⟨j + 1, l5, a5, c5, by go_num, rfl, by omega, Lib.hid ⟨_, HU2.out⟩⟩
        case measure => simp [intOf]; omega
    · obtain rfl : n = j := by omega
      have hu := HU.out
      have hsm : ∀ z ∈ zs, 0 ≤ z ∧ z ≤ 1048576 := by
        intro z hz
        have h1 := hu.perm.mem_iff.1 hz
        have h2 : z ∈ ws.take n := (List.mem_filter.1 h1).1
        have := HOk.out.small z (List.mem_of_mem_take h2)
        omega
      have hpm : zs.Perm (posL ws) := by have := hu.perm; rwa [List.take_of_length_le (by have := HN.out; omega)] at this
      have HSm := Lib.hid hsm; have HPm := Lib.hid hpm; have HSr := Lib.hid hu.srd; have HS := Lib.hid hu.st
      clear hu hsm hpm HU
      by_cases h2 : (l5 : Int) < 2
      · go_wp2
        go_loopw [8, 7] (fun v8 v7 w3 => ∃ (i : Nat) (s : Int), v8 = .int .i64 (i : Int) ∧ v7 = .int .i64 s ∧ i ≤ l5 ∧ (0 ≤ s ∧ s ≤ 1048576 * (i : Int)) ∧ Hid (s = (zs.take i).sum) ∧ wr = w3) (fun v8 _ _ => l5 - (intOf v8).toNat)
        case atStart => exact ⟨0, 0, rfl, rfl, by omega, by omega, Lib.hid (by simp), rfl⟩
        case round =>
          obtain ⟨i, s, rfl, rfl, hi, hs, HSu, rfl⟩ := hrel
          by_cases hlt2 : (i : Int) < l5
          · obtain ⟨g, off, rfl, _, hc⟩ := HS.out.reads i (by have := HS.out.len; omega)
            have hil : i < zs.length := by have := HS.out.len; omega
            have hb := HSm.out (zs.getD i 0) (by simp [List.getD, hil])
            have hst : s + zs.getD i 0 = (zs.take (i + 1)).sum := by
              rw [List.take_succ_eq_append_getElem hil, List.sum_append, ← HSu.out]; simp [List.getD, hil]
            obtain ⟨z, hze⟩ : ∃ z, z = zs.getD i 0 := ⟨_, rfl⟩
            rw [← hze] at hb hst hc
            have HSt := Lib.hid hst
            have e1 : wrap64 (s + z) = s + z := IntWalk.wrap64_in _ (by omega)
            clear hze hst hil
            go_wp2
            go_roundw
            case rel => exact ⟨i + 1, s + z, by go_num, by first | rfl | rw [e1], by omega, by omega, HSt, by first | trivial | rfl⟩
            case measure => simp [intOf]; omega
          · obtain rfl : l5 = i := by omega
            have hfin : s = leastL zs k := by
              have := HSu.out
              rw [List.take_of_length_le (by have := HS.out.len; omega)] at this
              unfold leastL
              rw [if_pos (by have := HS.out.len; omega)]; exact this
            have HFin := Lib.hid hfin
            clear hfin
            go_wp2
            go_ret
            exact ⟨zs, HSr.out, HPm.out, by rw [HFin.out]; rfl, HS.out.kept⟩
      · have hz1 := vals_row0 zs
        have HS1 := Lib.hid (show IntSt w wr a5 l5 c5 (vals (rowS zs 0)) by rw [hz1]; exact HS.out)
        clear hz1
        obtain ⟨i0, hi, hz0, hz1, hz2⟩ := info_parts infoI
        have hll : l5 ≤ 320 := by have h1 := HPm.out.length_eq; have h2 := pos_len ws n; rw [List.take_of_length_le (by have := HN.out; omega)] at h2; have := HS.out.len; omega
        go_wp2
        go_loopw [10, 9, 11, 12, 13, 14, 15] (fun v10 v9 _v11 _v12 _v13 _v14 _v15 w3 => ∃ (m q l9 : Nat) (a9 : Option Addr) (c9 : Nat), v10 = .int .i64 (m : Int) ∧ v9 = .slice a9 l9 c9 ∧ m ≤ k ∧ Hid (m = q + 1) ∧ Hid (Kept NoB wr w3) ∧ Hid (IntSt w w3 a9 l9 c9 (vals (rowS zs q)))) (fun v10 _ _ _ _ _ _ _ => k - (intOf v10).toNat)
        case atStart => exact ⟨1, 0, l5, a5, c5, rfl, rfl, by omega, Lib.hid rfl, Lib.hid (Kept.refl _ _), HS1⟩
        case round =>
          obtain ⟨m, q, l9, a9, c9, rfl, rfl, hm, HM, HK, H9⟩ := hrel
          have hq := HM.out
          have h9l := H9.out.len
          have h9r := rowS_le zs q
          rw [vals_len] at h9l
          have h9b : l9 ≤ 640 := by have := HS.out.len; omega
          have h9v : ∀ u ∈ vals (rowS zs q), 0 ≤ u ∧ u ≤ 1125899906842624 := vals_small (small_row50 zs HSm.out q (by omega))
          have H9l := Lib.hid h9l; have H9v := Lib.hid h9v
          clear h9r h9v h9l
          have hq15 : q < 15 := by omega
          clear hq
          by_cases hlt3 : (m : Int) < k
          · go_wp2
            go_loopw [12, 11] (fun v12 v11 w4 => ∃ (i c11 : Nat) (a11 : Option Addr), v12 = .int .i64 ((2 * i : Nat) : Int) ∧ v11 = .slice a11 i c11 ∧ 2 * i ≤ l9 ∧ Hid (IntSt wr w4 a11 i c11 ((pairsL (rowS zs q)).take i))) (fun v12 _ _ => l9 - (intOf v12).toNat)
            case atStart => exact ⟨0, 0, none, rfl, rfl, by omega, Lib.hid (by simpa using IntSt.nil _)⟩
            case round =>
              obtain ⟨i, c11, a11, rfl, rfl, hi2, H11⟩ := hrel
              by_cases hlt4 : ((2 * i : Nat) : Int) + 1 < l9
              · have hps := pairs_step (rowS zs q) i (by have := H9l.out; omega)
                obtain ⟨g, off, rfl, _, hc0⟩ := H9.out.reads (2 * i) (by rw [vals_len]; have := H9l.out; omega)
                have hc1 := ((H9.out.reads) (2 * i + 1) (by rw [vals_len]; have := H9l.out; omega))
                obtain ⟨g', off', he, _, hc1⟩ := hc1
                cases he
                have hcA := H11.out.kept.cell hc0
                have hcB := H11.out.kept.cell hc1
                have hxv := H9v.out ((vals (rowS zs q)).getD (2 * i) 0) (ints_mem (by rw [vals_len]; have := H9l.out; omega))
                have hyv := H9v.out ((vals (rowS zs q)).getD (2 * i + 1) 0) (ints_mem (by rw [vals_len]; have := H9l.out; omega))
                obtain ⟨x, hx⟩ : ∃ x, x = (vals (rowS zs q)).getD (2 * i) 0 := ⟨_, rfl⟩
                obtain ⟨y, hy⟩ : ∃ y, y = (vals (rowS zs q)).getD (2 * i + 1) 0 := ⟨_, rfl⟩
                rw [← hx] at hcA hxv hps
                rw [← hy] at hcB hyv hps
                clear hx hy hc0 hc1
                obtain ⟨p, hp⟩ : ∃ p : Nat, p = 2 * i := ⟨_, rfl⟩
                have hpi : i < 1000 := by omega
                obtain ⟨r, hr⟩ : ∃ r : Nat, r = 2 * i + 1 := ⟨_, rfl⟩
                rw [← hr] at hcB
                rw [← hp] at hcA hlt4 hi2 ⊢
                have er : IntKind.i64.wrap ((p : Int) + 1) = (r : Int) := by rw [IntWalk.i64_in _ (by omega)]; omega
                have hr0 : (0 : Int) ≤ (r : Int) := by omega
                have hr1 : (r : Int) < l9 := by omega
                clear hr
                have HPs := Lib.hid hps; have HP := Lib.hid hp
                clear hps hp
                have e2 : IntKind.i64.wrap (x + y) = x + y := by rw [IntWalk.i64_in _ (by omega)]
                have hpp : (0 : Int) ≤ (p : Int) := by omega
                have hp1 : (p : Int) < l9 := by omega
                go_wp2_with fail
                go_region_law (first
                  | (refine step_ints rfl (.tmp 64) (.tmp 75) rfl ((H11.out.on ((Kept.refl NoB wr).drew)).alloc (.cells #[.int .i64 (x + y)] 3)) rfl _ _ _ [x + y] rfl rfl (one_on (S := NoB) (Kept.refl _ _) (fun h => h) (cell_new (w := wr.drew) (cs := #[.int .i64 (x + y)]) (t := 3) (k := wr.heap.size) 0 rfl)) (by omega) ?_; intro a2 c2 w2 hs2 hk2))
                all_goals
                  rw [← HPs.out] at hs2
                  have HS2 := Lib.hid hs2
                  clear hs2 hk2
                  go_wp2
                  go_roundw
                  case rel => exact ⟨i + 1, c2, a2, by have := HP.out; go_num, rfl, by have := HP.out; omega, HS2⟩
                  case measure => simp [intOf]; omega
              · have hPl : (pairsL (rowS zs q)).length = i := by rw [pairs_len, ← H9l.out]; omega
                have hst := H11.out
                rw [List.take_of_length_le (by omega)] at hst
                have HSt := Lib.hid hst; have HKa := Lib.hid (HK.out.trans hst.kept)
                have hrow := row_succ zs q
                obtain ⟨P, hP⟩ : ∃ P, P = pairsL (rowS zs q) := ⟨_, rfl⟩
                rw [← hP] at hPl HSt hrow
                have HPl := Lib.hid hPl; have HRow := Lib.hid hrow; have HP11 := Lib.hid HSt.out.reads
                have HS5 := Lib.hid ((HS.out.reads).keptNo HKa.out)
                have hil : i ≤ 320 := by omega
                obtain ⟨p, hp⟩ : ∃ p : Nat, p = 2 * i := ⟨_, rfl⟩
                rw [← hp] at hlt4 hi2 ⊢
                have HZl := Lib.hid HS.out.len
                clear hst hP hPl hrow hp H11
                go_wp2
                go_loopw [14, 15, 13] (fun v14 v15 v13 w5 => ∃ (a b l13 c13 : Nat) (a13 : Option Addr), v14 = .int .i64 (a : Int) ∧ v15 = .int .i64 (b : Int) ∧ v13 = .slice a13 l13 c13 ∧ a ≤ l5 ∧ b ≤ i ∧ Hid (l13 = a + b) ∧ Hid (∃ D, IntSt wr w5 a13 l13 c13 D ∧ D ++ vals (mrg (P.drop b) (zs.drop a)) = vals (mrg P zs))) (fun v14 v15 _ _ => (l5 + i) - ((intOf v14).toNat + (intOf v15).toNat))
                case atStart => exact ⟨0, 0, 0, 0, none, rfl, rfl, rfl, by omega, by omega, Lib.hid rfl, Lib.hid ⟨[], IntSt.nil _, by simp⟩⟩
                case round =>
                  obtain ⟨a, b, l13, c13, a13, rfl, rfl, rfl, ha, hb, HL13, HM13⟩ := hrel
                  obtain ⟨D, hD, hE⟩ := HM13.out
                  have HD := Lib.hid hD; have HE := Lib.hid hE
                  have h13 : l13 ≤ 640 := by have := HL13.out; omega
                  clear hD hE HM13
                  by_cases ha2 : (a : Int) < l5
                  · obtain ⟨g, off, rfl, _, hc0⟩ := HS5.out a (by have := HZl.out; omega)
                    have hcA := HD.out.kept.cell hc0
                    clear hc0
                    by_cases hb2 : (b : Int) < i
                    · obtain ⟨g', off', rfl, _, hc1⟩ := HP11.out b (by have := HPl.out; omega)
                      have hcB := HD.out.kept.cell hc1
                      have hbp : ((b : Int) == (i : Int)) = false := by simp; omega
                      clear hc1
                      by_cases hxy : zs.getD a 0 ≤ P.getD b 0
                      · have HE2 := Lib.hid (merge_leaf (a := a) (b := b) (by have := HZl.out; omega) (.inr hxy) HE.out)
                        obtain ⟨x, hx⟩ : ∃ x, x = zs.getD a 0 := ⟨_, rfl⟩
                        obtain ⟨y, hy⟩ : ∃ y, y = P.getD b 0 := ⟨_, rfl⟩
                        rw [← hx] at hcA HE2 hxy
                        rw [← hy] at hcB hxy
                        clear hx hy
                        go_upto_region 26 with fail
                        go_quiet (fail)
                        have HDn := Lib.hid (HD.out.drewN nq)
                        go_wp2_with (at_builtin; refine wpList_ints rfl (.tmp 108) (.tmp 113) rfl (HDn.out.alloc (.cells #[.int .i64 x] 3)) rfl _ _ _ [x] rfl rfl (one_on (S := NoB) (Kept.refl _ _) (fun h => h) (cell_new (w := wr.drewN nq) (cs := #[.int .i64 x]) (t := 3) (k := wr.heap.size) 0 rfl)) (by omega) ?_)
                        intro a2 c2 w2 hs2
                        have H113 := Lib.hid hs2
                        clear hs2
                        go_wp2
                        go_roundw
                        case rel => exact ⟨a + 1, b, l13 + 1, c2, a2, by go_num, rfl, rfl, by omega, by omega, Lib.hid (by have := HL13.out; omega), Lib.hid ⟨_, H113.out, HE2.out⟩⟩
                        case measure => simp [intOf]; omega
                      · have HE2 := Lib.hid (merge_pair (a := a) (b := b) (by have := HPl.out; omega) (.inr hxy) HE.out)
                        obtain ⟨x, hx⟩ : ∃ x, x = zs.getD a 0 := ⟨_, rfl⟩
                        obtain ⟨y, hy⟩ : ∃ y, y = P.getD b 0 := ⟨_, rfl⟩
                        rw [← hx] at hcA hxy
                        rw [← hy] at hcB hxy HE2
                        clear hx hy
                        go_upto_region 26 with fail
                        go_quiet (fail)
                        have HDn := Lib.hid (HD.out.drewN nq)
                        go_wp2_with (at_builtin; refine wpList_ints rfl (.tmp 117) (.tmp 122) rfl (HDn.out.alloc (.cells #[.int .i64 y] 3)) rfl _ _ _ [y] rfl rfl (one_on (S := NoB) (Kept.refl _ _) (fun h => h) (cell_new (w := wr.drewN nq) (cs := #[.int .i64 y]) (t := 3) (k := wr.heap.size) 0 rfl)) (by omega) ?_)
                        intro a2 c2 w2 hs2
                        have H122 := Lib.hid hs2
                        clear hs2
                        go_wp2
                        go_roundw
                        case rel => exact ⟨a, b + 1, l13 + 1, c2, a2, rfl, by go_num, rfl, by omega, by omega, Lib.hid (by have := HL13.out; omega), Lib.hid ⟨_, H122.out, HE2.out⟩⟩
                        case measure => simp [intOf]; omega
                    · have hbp : ((b : Int) == (i : Int)) = true := by simp; omega
                      have HE2 := Lib.hid (merge_leaf (a := a) (b := b) (by have := HZl.out; omega) (.inl (by have := HPl.out; omega)) HE.out)
                      obtain ⟨x, hx⟩ : ∃ x, x = zs.getD a 0 := ⟨_, rfl⟩
                      rw [← hx] at hcA HE2
                      clear hx
                      go_upto_region 26 with fail
                      go_quiet (fail)
                      have HDn := Lib.hid (HD.out.drewN nq)
                      go_wp2_with (at_builtin; refine wpList_ints rfl (.tmp 108) (.tmp 113) rfl (HDn.out.alloc (.cells #[.int .i64 x] 3)) rfl _ _ _ [x] rfl rfl (one_on (S := NoB) (Kept.refl _ _) (fun h => h) (cell_new (w := wr.drewN nq) (cs := #[.int .i64 x]) (t := 3) (k := wr.heap.size) 0 rfl)) (by omega) ?_)
                      intro a2 c2 w2 hs2
                      have HS2 := Lib.hid hs2
                      clear hs2
                      go_wp2
                      go_roundw
                      case rel => exact ⟨a + 1, b, l13 + 1, c2, a2, by go_num, rfl, rfl, by omega, by omega, Lib.hid (by have := HL13.out; omega), Lib.hid ⟨_, HS2.out, HE2.out⟩⟩
                      case measure => simp [intOf]; omega
                  · by_cases hb2 : (b : Int) < i
                    · obtain ⟨g', off', rfl, _, hc1⟩ := HP11.out b (by have := HPl.out; omega)
                      have hcB := HD.out.kept.cell hc1
                      have hbp : ((b : Int) == (i : Int)) = false := by simp; omega
                      have HE2 := Lib.hid (merge_pair (a := a) (b := b) (by have := HPl.out; omega) (.inl (by have := HZl.out; omega)) HE.out)
                      obtain ⟨y, hy⟩ : ∃ y, y = P.getD b 0 := ⟨_, rfl⟩
                      rw [← hy] at hcB HE2
                      clear hy hc1
                      go_upto_region 26 with fail
                      go_quiet (fail)
                      have HDn := Lib.hid (HD.out.drewN nq)
                      go_wp2_with (at_builtin; refine wpList_ints rfl (.tmp 117) (.tmp 122) rfl (HDn.out.alloc (.cells #[.int .i64 y] 3)) rfl _ _ _ [y] rfl rfl (one_on (S := NoB) (Kept.refl _ _) (fun h => h) (cell_new (w := wr.drewN nq) (cs := #[.int .i64 y]) (t := 3) (k := wr.heap.size) 0 rfl)) (by omega) ?_)
                      intro a2 c2 w2 hs2
                      have H122 := Lib.hid hs2
                      clear hs2
                      go_wp2
                      go_roundw
                      case rel => exact ⟨a, b + 1, l13 + 1, c2, a2, rfl, by go_num, rfl, by omega, by omega, Lib.hid (by have := HL13.out; omega), Lib.hid ⟨_, H122.out, HE2.out⟩⟩
                      case measure => simp [intOf]; omega
                    · have hfin := HE.out
                      rw [List.drop_of_length_le (by have := HPl.out; omega), List.drop_of_length_le (by have := HZl.out; omega), ← HRow.out] at hfin
                      have hd : D = vals (rowS zs (q + 1)) := by rw [← hfin]; simp [mrg, vals]
                      have h9 := HD.out.trans (HS.out.kept.trans HKa.out)
                      rw [hd] at h9
                      have H9' := Lib.hid h9; have HK' := Lib.hid (HKa.out.trans HD.out.kept)
                      clear hfin hd h9
                      go_wp2
                      go_roundw
                      case rel => exact ⟨m + 1, q + 1, l13, a13, c13, by go_num, rfl, by omega, Lib.hid (by have := HM.out; omega), HK', H9'⟩
                      case measure => simp [intOf]; omega
          · have hmk : m = k := by omega
            have hN : 2 * zs.length - 2 ≤ (rowS zs q).length := by
              have h1 := rowS_room zs k hk1.1 (by have h2 := HOk.out.few; rw [Int.toNat_natCast, ← List.length_map (f := (·.2)), pos_leaves, ← HPm.out.length_eq] at h2; exact h2)
              have := HM.out
              rwa [show k - 1 = q by omega] at h1
            have hN2 : 2 * l5 - 2 ≤ l9 := by have := HS.out.len; have := H9l.out; omega
            have hl52 : 2 ≤ l5 := by omega
            have hfin : sumW ((rowS zs q).take (2 * l5 - 2)) = leastL zs k := by
              unfold leastL
              rw [if_neg (by have := HS.out.len; omega), show k - 1 = q by have := HM.out; omega, HS.out.len]
            have HFin := Lib.hid hfin
            clear hN hfin
            go_wp2
            go_loopw [17, 16] (fun v17 v16 w6 => ∃ (j : Nat) (s : Int), v17 = .int .i64 (j : Int) ∧ v16 = .int .i64 s ∧ j ≤ 2 * l5 - 2 ∧ (0 ≤ s ∧ s ≤ 1125899906842624 * (j : Int)) ∧ Hid (s = ((vals (rowS zs q)).take j).sum) ∧ wr = w6) (fun v17 _ _ => 2 * l5 - (intOf v17).toNat)
            case atStart => exact ⟨0, 0, rfl, rfl, by omega, by omega, Lib.hid (by simp), rfl⟩
            case round =>
              obtain ⟨j, s, rfl, rfl, hj, hs, HSu, rfl⟩ := hrel
              by_cases hlt6 : (j : Int) < 2 * (l5 : Int) - 2
              · obtain ⟨g, off, rfl, _, hc⟩ := H9.out.reads j (by rw [vals_len, ← H9l.out]; omega)
                have hjl : j < (vals (rowS zs q)).length := by rw [vals_len, ← H9l.out]; omega
                have hb := H9v.out _ (ints_mem hjl)
                have hst : s + (vals (rowS zs q)).getD j 0 = ((vals (rowS zs q)).take (j + 1)).sum := by
                  rw [List.take_succ_eq_append_getElem hjl, List.sum_append, ← HSu.out]; simp [List.getD, hjl]
                obtain ⟨z, hze⟩ : ∃ z, z = (vals (rowS zs q)).getD j 0 := ⟨_, rfl⟩
                rw [← hze] at hb hst hc
                have HSt := Lib.hid hst
                have e1 : wrap64 (s + z) = s + z := IntWalk.wrap64_in _ (by omega)
                have hj9 : j < l9 := by omega
                clear hze hst hjl
                go_wp2
                go_roundw
                case rel => exact ⟨j + 1, s + z, by go_num, by first | rfl | rw [e1], by omega, by omega, HSt, by first | trivial | rfl⟩
                case measure => simp [intOf]; omega
              · have hjj : j = 2 * l5 - 2 := by omega
                have hfin : s = leastL zs k := by
                  have := HSu.out
                  rw [hjj] at this
                  rw [this, ← HFin.out]
                  unfold vals sumW
                  rw [List.map_take]
                have HFi := Lib.hid hfin; have HKz := Lib.hid (HS.out.kept.trans HK.out)
                clear hfin hjj
                go_wp2
                go_ret
                exact ⟨zs, HSr.out, HPm.out, by rw [HFi.out]; rfl, HKz.out⟩
end Go.Proofs.YtdpegahcgaicnaaGreatDoor

namespace Go.Proofs.YtdpegahcgaicnaaGreatDoor
open Go.RowKit
set_option linter.unusedVariables false
set_option linter.unusedSimpArgs false

end Go.Proofs.YtdpegahcgaicnaaGreatDoor

namespace Go.Proofs.YtdpegahcgaicnaaGreatDoor
open Go.RowKit
set_option linter.unusedVariables false
set_option linter.unusedSimpArgs false

theorem small_at {ls : List Int} (h : MayL ls) (i : Nat) : 0 ≤ ls.getD i 0 := by
  by_cases hi : i < ls.length
  · have : ls.getD i 0 = ls[i] := by simp [List.getD, hi]
    rw [this]
    exact (h.small _ (List.getElem_mem hi)).1
  · have : ls.getD i 0 = 0 := by simp [List.getD, List.getElem?_eq_none (Nat.le_of_not_lt hi)]
    omega
set_option maxRecDepth 20000 in
set_option maxHeartbeats 8000000 in
theorem headok_any (a : Option Addr) (c B : Nat) (lit : List Int) (b : Option Addr) (d C : Nat) (dist : List Int) (w : World) (hr : RdI w B a lit) (hall : AllI lit) (hr2 : RdI w C b dist) (hall2 : AllI dist) (hl1 : lit.length ≤ 1000000) (hl2 : dist.length ≤ 1000000) :
    Calls Tryz.prog 64 #[.slice a lit.length c, .slice b dist.length d] w fun e w' => e = .returned (.bool (headB lit dist)) ∧ Kept NoB w w' := by
  have keep : ∀ {W : World} {B : Nat} {a : Option Addr} {zs : List Int}, RdI w B a zs → Kept NoB w W → RdI W B a zs := fun h hk i hi => by
    obtain ⟨g, o, h1, h2, h3⟩ := h i hi
    exact ⟨g, o, h1, h2, hk.cell h3⟩
  have HK1 := Lib.hid (rkind_any a c B lit w hr hall hl1)
  have HK2 : Hid (∀ W, Kept NoB w W → Calls Tryz.prog 61 #[.slice b dist.length d] W fun e w' => e = .returned (.int .i64 (kindA dist)) ∧ Kept NoB W w') := Lib.hid (fun W hk => rkind_any b d C dist W (keep hr2 hk) hall2 hl2)
  have hsm : 257 ≤ lit.length → lit.getD 256 0 ≠ 0 → headB lit dist = (decide (lit.length ≤ 286 ∧ 1 ≤ dist.length ∧ dist.length ≤ 30) && decide (kindA lit = 3 ∨ kindA lit = 2) && (decide (kindA dist = 3 ∨ kindA dist = 2) || decide (kindA dist = 1))) := fun h h2 => by
    unfold headB mayB
    by_cases hf : fullB lit = true
    · have := small_at (full_may hf) 256
      rw [decide_eq_true (show 0 < lit.getD 256 0 by omega), hf]
      have e : decide (kindA lit = 3 ∨ kindA lit = 2) = true := hf
      rw [e]
      simp [h, fullB]
    · have hf0 : fullB lit = false := by simpa using hf
      have e : decide (kindA lit = 3 ∨ kindA lit = 2) = false := hf0
      rw [hf0, e]
      simp
  have hz : lit.getD 256 0 = 0 → headB lit dist = false := fun h => by unfold headB mayB; rw [h]; simp
  have hout : ¬ (257 ≤ lit.length ∧ lit.length ≤ 286 ∧ 1 ≤ dist.length ∧ dist.length ≤ 30) → headB lit dist = false := fun h => by unfold headB; rw [decide_eq_false h]; rfl
  have hc : 257 ≤ lit.length → ∃ g o, a = some ⟨g, o, none⟩ ∧ w.cell? ⟨g, o + 256, none⟩ = some (.int .i64 (lit.getD 256 0)) := fun h => by
    obtain ⟨g, o, h1, _, h3⟩ := hr 256 (by omega)
    exact ⟨g, o, h1, h3⟩
  obtain ⟨n, hn⟩ : ∃ n, n = lit.length := ⟨_, rfl⟩
  obtain ⟨m, hm⟩ : ∃ m, m = dist.length := ⟨_, rfl⟩
  rw [← hn] at HK1 hsm hout hc ⊢
  rw [← hm] at HK2 hsm hout ⊢
  have hk1 := kindA_of lit
  have hk2 := kindA_of dist
  generalize kindA lit = k1 at HK1 hsm hk1
  generalize kindA dist = k2 at HK2 hsm hk2
  generalize lit.getD 256 0 = x at hc hsm hz
  generalize headB lit dist = r at hsm hz hout ⊢
  clear hr hall hr2 hall2 hn hm keep hl1 hl2
  by_cases hA : n < 257
  · rw [hout (by omega)]
    have g1 : (n : Int) < 257 := by omega
    clear hsm hz hout hc hk1 hk2
    go_enter Tryz.func64, Tryz.ntmps64
    go_wp2
    go_ret
    exact ⟨rfl, Kept.refl _ _⟩
  · have g1 : ¬ (n : Int) < 257 := by omega
    by_cases hB : 286 < n ∨ m < 1 ∨ 30 < m
    · rw [hout (by omega)]
      have hex : (286 : Int) < (n : Int) ∨ (¬ (286 : Int) < (n : Int) ∧ (m : Int) < 1) ∨ (¬ (286 : Int) < (n : Int) ∧ ¬ (m : Int) < 1 ∧ (30 : Int) < (m : Int)) := by omega
      clear hsm hz hout hc hk1 hk2 hB
      rcases hex with g2 | ⟨g2, g3⟩ | ⟨g2, g3, g4⟩
      all_goals
        go_enter Tryz.func64, Tryz.ntmps64
        go_wp2
        go_ret
        exact ⟨rfl, Kept.refl _ _⟩
    · have g2 : ¬ (286 : Int) < (n : Int) := by omega
      have g3 : ¬ (m : Int) < 1 := by omega
      have g4 : ¬ (30 : Int) < (m : Int) := by omega
      obtain ⟨g, o, rfl, hcell⟩ := hc (by omega)
      have hl : (256 : Int) < (n : Int) := by omega
      by_cases hx : x = 0
      · rw [hz hx]
        have g5 : (x == 0) = true := by rw [hx]; rfl
        clear hsm hz hout hc hk1 hk2 hB hx
        go_enter Tryz.func64, Tryz.ntmps64
        go_wp2
        go_ret
        exact ⟨rfl, Kept.refl _ _⟩
      · rw [hsm (by omega) hx]
        have g5 : (x == 0) = false := by simp [hx]
        have hd : decide (n ≤ 286 ∧ 1 ≤ m ∧ m ≤ 30) = true := decide_eq_true (by omega)
        rw [hd]
        clear hsm hz hout hc hB hx hd
        go_enter Tryz.func64, Tryz.ntmps64
        go_wp2_with fail
        with_reducible refine HK1.out.mono ?_
        rintro e w1 ⟨rfl, hw1⟩
        have HC := Lib.hid (HK2.out w1 hw1)
        have HW1 := Lib.hid hw1
        clear hw1 HK1
        go_wp2_with fail
        with_reducible refine HC.out.mono ?_
        rintro e w2 ⟨rfl, hw2⟩
        have HW2 := Lib.hid (HW1.out.trans hw2)
        clear hw2 HC HK2
        rcases hk1 with rfl | rfl | rfl | rfl | rfl | rfl <;> rcases hk2 with rfl | rfl | rfl | rfl | rfl | rfl
        all_goals
          go_wp2
          go_ret
          exact ⟨rfl, HW2.out⟩
end Go.Proofs.YtdpegahcgaicnaaGreatDoor
