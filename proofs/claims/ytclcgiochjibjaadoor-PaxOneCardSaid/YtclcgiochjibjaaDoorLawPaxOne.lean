/-
  PaxOne: one record has just as many bytes as it says; joined to others it is the same.
-/
import Derived.Test.YtclcgiochjibjaaDoorLawPaxBack
import Derived.Test.YtclcgiochjibjaaDoorTextP
import Derived.Test.YtclcgiochjibjaaDoorZeros
namespace Go.Proofs.YtclcgiochjibjaaDoor
open Go.RowKit
set_option linter.unusedVariables false
set_option linter.unusedSimpArgs false

theorem by_cell {w0 w : World} {g l c : Nat} {L : List UInt8} (h : BySt w0 w (some ⟨g, 0, none⟩) l c L) (i : Nat) (hi : i < L.length) : w.cell? ⟨g, i, none⟩ = some (.int .u8 ((L.getD i 0).toNat : Int)) := by
  have hl := h.len
  rw [h.own.cellAt i (by omega)]
  simp [bc, List.getD, hi]
/-- A record that is small: what PaxOne looks at. -/
theorem one_rec (r : KVb) (h : r.1.length ≤ 300 ∧ r.2.length ≤ 300) :
    ∃ (D : List UInt8), recB r = D ++ 32 :: (r.1 ++ 61 :: (r.2 ++ [10])) ∧ D.all isD = true ∧ 1 ≤ D.length ∧ D.length ≤ 3 ∧ digV D = (recB r).length ∧ (recB r).length = D.length + r.1.length + r.2.length + 3 := by
  have h1 := restB_len r
  have h2 := recB_len r (by omega)
  have h3 := rec_small r h
  refine ⟨Lib.decDigits (recL r), rfl, dec_all _, ?_, decDigits_len 3 _ (by decide) (by omega), ?_, ?_⟩
  · have := decDigits_ne (recL r)
    cases hd : Lib.decDigits (recL r) with
    | nil => exact absurd hd this
    | cons _ _ => simp
  · rw [h2]; exact digV_dec _ _ (Nat.le_refl _)
  · rw [recB, List.length_append]; omega
theorem dig_lt4 (D : List UInt8) (k : Nat) (ha : D.all isD = true) (hk : k ≤ 3) : digV (D.take k) ≤ 1000 := by
  have h1 : (D.take k).all isD = true := by
    rw [List.all_eq_true] at ha ⊢
    exact fun x hx => ha x (List.mem_of_mem_take hx)
  have h2 := digV_lt _ h1
  have h3 : 10 ^ (D.take k).length ≤ 10 ^ 3 := Nat.pow_le_pow_right (by decide) (by rw [List.length_take]; omega)
  omega

set_option maxRecDepth 20000 in
set_option maxHeartbeats 8000000 in
theorem paxOne_law (v0 : Value) (w : World) (r0 : Arg w 22 v0) (htab : Pow10 w) (herr : ErrVars w) :
    Calls Tryd.prog 3 #[v0] w fun e w' => e = .returned (.bool true) ∧ Below w.heap.size w w' := by
  obtain ⟨ao, cap, rs, rfl, hrd, hlc, hcm, hnil, hml⟩ := kvs_open r0
  have HT := Lib.hid htab; have HE := Lib.hid herr
  have HSm := Lib.hid (small_any ao rs.length cap rs w rfl hrd hlc hcm)
  have HR := Lib.hid hrd
  have hcm2 : rs.length ≤ 9223372036854775807 := by unfold maxLen at hcm; omega
  obtain ⟨n, hn⟩ : ∃ n, n = rs.length := ⟨_, rfl⟩
  rw [← hn] at HSm hcm2 hlc ⊢
  have HN := Lib.hid hn
  have HA := Lib.hid (fun W (h : Kept NoB w W) => awake18 W (HT.out.keptNo h) (HE.out.keptNo h))
  clear htab herr hrd hn hml
  go_enter Tryd.func3, Tryd.ntmps3
  go_wp2_with fail
  refine HSm.out.mono ?_
  rintro e w1 ⟨⟨b, rfl, hb⟩, hw1⟩
  rw [← hw1]
  clear hw1
  cases b with
  | false =>
    go_wp2_with fail
    refine (HA.out _ (Kept.refl _ _)).mono ?_
    rintro e w6 ⟨rfl, hk⟩
    have HK := Lib.hid hk
    clear hk
    go_wp2
    go_ret
    exact ⟨rfl, HK.out.belowNo (Below.refl _ _)⟩
  | true =>
    obtain ⟨h15, h300⟩ := hb rfl
    have H300 := Lib.hid h300
    have hn15 : n ≤ 15 := by have := HN.out; omega
    clear hb h15 h300
    go_wp2
    go_loopw [3, 4, 5, 6, 7, 8, 9, 10] (fun v3 v4 v5 v6 v7 v8 v9 v10 wr => ∃ (a : Option Addr) (m c i : Nat), v3 = .slice a m c ∧ v4 = .int .i64 (i : Int) ∧ i ≤ n ∧ m ≤ i * 609 ∧ Hid (BySt w wr a m c (recsB ((rs.take i).filter okR)) ∧ ((rs.take i).filter okR).length ≤ i)) (fun _ v4 _ _ _ _ _ _ _ => n - (intOf v4).toNat)
    case atStart => exact ⟨none, 0, 0, 0, rfl, rfl, by omega, by omega, Lib.hid ⟨BySt.nil w, by simp⟩⟩
    case round =>
      obtain ⟨a, m, c, i, rfl, rfl, hi, hmi, HS⟩ := hrel
      by_cases hlt : (i : Int) < (n : Int)
      · have hin : i < n := by omega
        have hin2 : i < rs.length := by have := HN.out; omega
        obtain ⟨b, off, rfl, hb, c0, c1⟩ := HR.out i hin2
        have d0 := HS.out.1.kept.cell c0
        have d1 := HS.out.1.kept.cell c1
        have e1 := filter_step rs i hin2
        have e2 := H300.out (rs.getD i ([], [])) (by simp [List.getD, hin2])
        obtain ⟨r, hr⟩ : ∃ r, r = rs.getD i ([], []) := ⟨_, rfl⟩
        rw [← hr] at d0 d1 e1 e2 c0 c1
        rw [show off + (i * 2 + 1) = off + i * 2 + 1 by omega] at d1 c1
        have HC01 := Lib.hid (⟨c0, c1⟩ : _ ∧ _)
        obtain ⟨acc, hacc⟩ : ∃ acc, acc = (rs.take i).filter okR := ⟨_, rfl⟩
        rw [← hacc] at HS e1
        have E1 := Lib.hid e1
        have HAo : Hid (∀ p ∈ acc, okR p = true) := Lib.hid (fun p hp => by rw [hacc] at hp; exact (List.mem_filter.1 hp).2)
        have hen := enc_small [r] (by simp) (by intro p hp; simp at hp; subst hp; exact e2)
        have HEn := Lib.hid hen
        have E2 := Lib.hid e2
        clear c0 c1 hr e1 hen hacc
        have hz1 := strB_size r.1
        have hz2 := strB_size r.2
        have hcat1 : strB r.1 ++ ⟨#[61]⟩ = strB (r.1 ++ [61]) := strB_app r.1 [61]
        have hcat2 : strB (r.1 ++ [61]) ++ strB r.2 = strB (r.1 ++ [61] ++ r.2) := strB_app _ _
        have hcat3 : strB (r.1 ++ [61] ++ r.2) ++ ⟨#[10]⟩ = strB (r.1 ++ 61 :: (r.2 ++ [10])) := by
          have := strB_app (r.1 ++ [61] ++ r.2) [10]
          rw [show strB [10] = (⟨#[10]⟩ : ByteArray) from rfl] at this
          rw [this]; congr 1; simp
        have hz3 : (strB (r.1 ++ [61])).size = r.1.length + 1 := by rw [strB_size]; simp
        have hz4 : (strB (r.1 ++ [61] ++ r.2)).size = r.1.length + 1 + r.2.length := by rw [strB_size]; simp; omega
        obtain ⟨l1, hl1⟩ : ∃ l1, l1 = r.1.length := ⟨_, rfl⟩
        obtain ⟨l2, hl2⟩ : ∃ l2, l2 = r.2.length := ⟨_, rfl⟩
        rw [← hl1] at hz1 hz3 hz4 e2
        rw [← hl2] at hz2 hz4 e2
        have HL12 : Hid (l1 = r.1.length ∧ l2 = r.2.length) := Lib.hid ⟨hl1, hl2⟩
        clear hl1 hl2
        have hkv := kv_eq r r
        rw [decide_eq_true rfl] at hkv
        have hne := fun W => kv_neq W (strB r.1) (strB r.2) (strB r.1) (strB r.2)
        rw [hkv] at hne
        obtain ⟨A, hA⟩ : ∃ A, A = strB r.1 := ⟨_, rfl⟩
        obtain ⟨B, hB⟩ : ∃ B, B = strB r.2 := ⟨_, rfl⟩
        rw [← hA] at d0 hz1 hcat1 hne
        rw [← hB] at d1 hz2 hcat2 hne
        have HAB : Hid (A = strB r.1 ∧ B = strB r.2) := Lib.hid ⟨hA, hB⟩
        obtain ⟨T3, hT3⟩ : ∃ T, T = strB (r.1 ++ 61 :: (r.2 ++ [10])) := ⟨_, rfl⟩
        rw [← hT3] at hcat3
        have HT3 := Lib.hid hT3
        generalize strB (r.1 ++ [61] ++ r.2) = T2 at *
        generalize strB (r.1 ++ [61]) = T1 at *
        have HNe := Lib.hid hne
        have HCat := Lib.hid (⟨hcat1, hcat2, hcat3⟩ : _ ∧ _ ∧ _)
        clear hA hB hT3 hkv hne hcat1 hcat2 hcat3
        go_wp2_with fail
        obtain ⟨w2, hw2⟩ : ∃ w2, w2 = wr.alloc (.cells #[.string A, .string B] 29) := ⟨_, rfl⟩
        have hk2 : Kept NoB wr w2 := by rw [hw2]; exact (Kept.refl _ _).alloc _
        have hc0 : w2.cell? ⟨wr.heap.size, 0, none⟩ = some (.string (strB r.1)) := by rw [hw2, ← HAB.out.1]; exact cell_new 0 rfl
        have hc1 : w2.cell? ⟨wr.heap.size, 1, none⟩ = some (.string (strB r.2)) := by rw [hw2, ← HAB.out.2]; exact cell_new 1 rfl
        rw [← hw2]
        have hr0 : RdK w2 w2.heap.size (some ⟨wr.heap.size, 0, none⟩) [r] := rdk_one _ (World.block_lt_of_cell? w2 _ hc0) hc0 hc1
        have hEc := encode_any (some ⟨wr.heap.size, 0, none⟩) 1 1 [r] w2 rfl hr0 (by intro p hp; simp at hp; subst hp; have := E2.out; omega) (by decide) (by decide) (HT.out.keptNo (HS.out.1.kept.trans hk2))
        have HEc := Lib.hid hEc; have HK2 := Lib.hid hk2
        clear hEc hr0 hc0 hc1 hk2 hw2
        refine HEc.out.mono ?_
        have hall : ([r] : List KVb).all okR = okR r := by simp
        rintro e w3 (⟨hn, rfl, hk3⟩ | ⟨a3, c3, hs3, rfl, hb3⟩)
        · have hnk : okR r = false := by
            have := HEn.out
            rw [hn, hall] at this
            cases hk : okR r with
            | false => rfl
            | true => rw [hk] at this; cases this
          have HF : Hid (BySt w w3 (a) m c (recsB ((rs.take (i + 1)).filter okR)) ∧ ((rs.take (i + 1)).filter okR).length ≤ i + 1) := Lib.hid (by
            rw [E1.out, hnk, if_neg (by decide), List.append_nil]
            exact ⟨HS.out.1.on (HK2.out.trans hk3), by have := HS.out.2; omega⟩)
          clear hn hk3 hnk hall d0 d1 hz1 hz2 hz3 hz4
          go_wp2
          go_roundw
          case rel => exact ⟨a, m, c, i + 1, rfl, by go_num, by omega, by omega, HF⟩
          case measure => simp [intOf]; omega
        · have hok : okR r = true := by
            have := HEn.out
            rw [hs3, hall] at this
            cases hk : okR r with
            | true => rfl
            | false => rw [hk] at this; cases this
          have hk3 := HK2.out.trans hb3.kept
          have HS3 := Lib.hid (HS.out.1.on hk3)
          have d0' := hk3.cell d0
          have d1' := hk3.cell d1
          have HD01 : Hid (w3.cell? ⟨b, off + i * 2, none⟩ = some (.string A) ∧ w3.cell? ⟨b, off + i * 2 + 1, none⟩ = some (.string B)) := Lib.hid ⟨d0', d1'⟩
          have HOk := Lib.hid hok
          have hrr : recsB [r] = recB r := by simp [recsB]
          rw [hrr] at hb3 ⊢
          obtain ⟨D, hD1, hD2, hD3, hD4, hD5, hD6⟩ := one_rec r E2.out
          obtain ⟨g3, hg3⟩ := hb3.some (recB_ne r)
          subst hg3
          obtain ⟨L, hL⟩ : ∃ L, L = (recB r).length := ⟨_, rfl⟩
          obtain ⟨dl, hdl⟩ : ∃ dl, dl = D.length := ⟨_, rfl⟩
          rw [← hL] at hb3 hD5 hD6 ⊢
          rw [← hdl] at hD3 hD4 hD6
          have hLd : L = dl + l1 + l2 + 3 := by rw [HL12.out.1, HL12.out.2]; exact hD6
          have hbyte : ∀ k, k < L → w3.cell? ⟨g3, k, none⟩ = some (.int .u8 (((recB r).getD k 0).toNat : Int)) := fun k hk => by_cell hb3 k (by omega)
          have hdig : ∀ k, k < dl → (recB r).getD k 0 = D.getD k 0 ∧ 48 ≤ (D.getD k 0).toNat ∧ (D.getD k 0).toNat ≤ 57 ∧ digV (D.take (k + 1)) = 10 * digV (D.take k) + ((D.getD k 0).toNat - 48) ∧ digV (D.take k) ≤ 1000 := fun k hk => by
            have hk2 : k < D.length := by omega
            have hmem : D.getD k 0 ∈ D := by simp [List.getD, hk2]
            have := (isD_iff _).1 (List.all_eq_true.1 hD2 _ hmem)
            refine ⟨by rw [hD1]; simp [List.getD, List.getElem?_append_left, hk2], this.1, this.2, dig_step D k hk2, dig_lt4 D k hD2 (by omega)⟩
          have hspace : (recB r).getD dl 0 = 32 := by rw [hD1, hdl]; simp [List.getD]
          have hdone : digV (D.take dl) = L := by rw [hdl, List.take_length]; exact hD5
          have hcp3 := hb3.cap
          have hrest : ∀ W, Kept NoB w3 W → (convert 25 9 (.slice (some ⟨g3, dl + 1, none⟩) (L - (dl + 1)) (c3 - (dl + 1)))).run Tryd.prog W = .ok (.string T3) W := fun W hkW => by
            have hrd : Reads W (some ⟨g3, dl + 1, none⟩) (nb (r.1 ++ 61 :: (r.2 ++ [10]))) := by
              refine ⟨(fun e => by cases e), (fun a e i hi => ?_)⟩
              cases e
              rw [addr_add]
              have hi2 : i < (r.1 ++ 61 :: (r.2 ++ [10])).length := by rw [nb_len] at hi; exact hi
              have hlt : dl + 1 + i < L := by rw [hLd, HL12.out.1, HL12.out.2]; simp at hi2; omega
              rw [hkW.cell (hbyte (dl + 1 + i) hlt)]
              congr 2
              have e3 : (recB r).getD (dl + 1 + i) 0 = (r.1 ++ 61 :: (r.2 ++ [10])).getD i 0 := by
                rw [hD1, hdl, List.getD, List.getD, List.getElem?_append_right (by omega), show D.length + 1 + i - D.length = i + 1 by omega, List.getElem?_cons_succ]
              rw [e3]
              have hX : ∀ X : List UInt8, i < X.length → (((X.getD i 0).toNat : Nat) : Int) = (nb X).getD i 0 := fun X hX => by simp [nb, List.getD, hX]
              exact hX _ hi2
            have := conv_reads hrd (n := L - (dl + 1)) (cap := c3 - (dl + 1)) (by rw [nb_len, hLd, HL12.out.1, HL12.out.2]; simp; omega) (fun h => by cases h)
            rw [nb_str, ← HT3.out] at this
            exact this
          have hL1 : dl + 3 ≤ L := by omega
          have hL0 : dl < L := by omega
          have hL2 : L ≤ 609 := by omega
          have HLd := Lib.hid hLd
          have HB3 := Lib.hid hb3; have HBy := Lib.hid hbyte; have HDg := Lib.hid hdig; have HSp := Lib.hid hspace; have HDn := Lib.hid hdone; have HRest := Lib.hid hrest
          clear hLd hs3 hb3 hall d0 d1 d0' d1' hok hk3 hrr hD1 hD2 hD5 hD6 hL hdl hbyte hdig hspace hdone hrest
          go_wp2
          go_loopw [7, 8] (fun v7 v8 wq => ∃ k : Nat, v8 = .int .i64 (k : Int) ∧ v7 = .int .i64 ((digV (D.take k) : Nat) : Int) ∧ k ≤ dl ∧ w3 = wq) (fun _ v8 _ => dl - (intOf v8).toNat)
          case atStart => exact ⟨0, rfl, by simp [digV], by omega, rfl⟩
          case round =>
            obtain ⟨k, rfl, rfl, hk, rfl⟩ := hrel
            by_cases hkd : k < dl
            · obtain ⟨f1, f2, f3, f4, f5⟩ := HDg.out k hkd
              have hcell := HBy.out k (by omega)
              rw [f1] at hcell
              have hkL : (k : Int) < (L : Int) := by omega
              obtain ⟨z, hz⟩ : ∃ z, z = (D.getD k 0).toNat := ⟨_, rfl⟩
              rw [← hz] at hcell f2 f3 f4
              have hw8 : IntKind.u8.wrap ((z : Int) - 48) = ((z - 48 : Nat) : Int) := by rw [IntKind.wrap_u8]; omega
              have F4 := Lib.hid f4
              obtain ⟨V, hV⟩ : ∃ V, V = digV (D.take k) := ⟨_, rfl⟩
              rw [← hV] at F4 f5 ⊢
              have q1 : (48 : Int) ≤ (z : Int) := by omega
              have q2 : (z : Int) ≤ 57 := by omega
              obtain ⟨y, hy⟩ : ∃ y, y = z - 48 := ⟨_, rfl⟩
              rw [← hy] at hw8 F4
              have hy9 : y ≤ 9 := by omega
              clear f1 f4 hV hy hz
              go_wp2
              go_roundw
              case rel => exact ⟨k + 1, by go_num, by rw [F4.out]; go_num, by omega, trivial⟩
              case measure => simp [intOf]; omega
            · have hkk : k = dl := by omega
              subst hkk
              have hcell := HBy.out k (by omega)
              rw [HSp.out] at hcell
              rw [HDn.out]
              have hcell2 : w3.cell? ⟨g3, k, none⟩ = some (.int .u8 32) := hcell
              have hkL : (k : Int) < (L : Int) := by omega
              obtain ⟨d0, d1⟩ := HD01.out
              obtain ⟨hcat1, hcat2, hcat3⟩ := HCat.out
              have hrq := fun q => HRest.out (w3.drewN q) ((Kept.refl NoB w3).drewN q)
              have hk0 : ((k : Int) == 0) = false := by simp; omega
              have hLL : ((L : Int) == (L : Int)) = true := by simp
              have hge : decide (L ≤ k) = false := decide_eq_false (by omega)
              have hself : (T3.toList == T3.toList) = true := by simp
              obtain ⟨k1, hk1⟩ : ∃ k1, k1 = k + 1 := ⟨_, rfl⟩
              rw [← hk1] at hrq
              have s1 : (k : Int) + 1 = (k1 : Int) := by omega
              have s2 : (k1 : Int) ≤ (L : Int) := by omega
              have s3 : (L : Int) ≤ (c3 : Int) := by omega
              have s4 : (0 : Int) ≤ (k1 : Int) := by omega
              have s5 : k1 ≤ L := by omega
              have s6 : L ≤ c3 := by omega
              have s7 : k1 < c3 := by omega
              have s8 : ¬ c3 = k1 := by omega
              clear hk1
              clear hcell
              go_wp2_with fail
              go_quiet (fail)
              obtain ⟨w4, hw4⟩ : ∃ w4, w4 = w3.drewN nq := ⟨_, rfl⟩
              have hk4 : Kept NoB w3 w4 := by rw [hw4]; exact (Kept.refl _ _).drewN _
              rw [← hw4]
              have HS4 := Lib.hid (HS3.out.on hk4)
              have HR4 := Lib.hid (HB3.out.reads.keptNo hk4)
              have HD4 : Hid (w4.cell? ⟨b, off + i * 2, none⟩ = some (.string A) ∧ w4.cell? ⟨b, off + i * 2 + 1, none⟩ = some (.string B)) := Lib.hid ⟨hk4.cell d0, hk4.cell d1⟩
              clear hw4 hk4 d0 d1 hcat1 hcat2 hcat3 hrq hself s1 s2 s3 s4 s5 s6 s7 s8 hge hcell2 hz1 hz2 hz3 hz4
              have hmL : m + L ≤ 10000 := by omega
              go_wp2_with (at_builtin; refine wpList_by_row rfl (.tmp 103) (.tmp 104) rfl HS4.out rfl ⟨g3, 0, none⟩ c3 L (recB r) HB3.out.len rfl HR4.out (by omega) ?_)
              intro a5 c5 w5 h5
              rw [← recsB_snoc] at h5
              have hgood : Good (recsB (acc ++ [r])) (acc ++ [r]) := ⟨rfl, by
                intro p hp
                rcases List.mem_append.1 hp with h | h
                · exact HAo.out p h
                · simp at h; subst h; exact HOk.out⟩
              have hcp5 := h5.cap
              have hl5 := h5.len
              have hD := decode_any a5 (m + L) c5 (recsB (acc ++ [r])) w5 hl5 h5.reads (fun h => hcp5.2.2 h) (by unfold maxLen; omega) (HT.out.keptNo h5.kept) (HE.out.keptNo h5.kept)
              have HD := Lib.hid hD; have H5 := Lib.hid h5; have HGd := Lib.hid hgood
              have hk45 : Kept NoB w4 w5 ∨ True := .inr trivial
              have HL5 := Lib.hid hl5
              clear hD h5 hgood hcp5 hl5 hk45
              go_wp2_with fail
              refine HD.out.mono ?_
              rintro e w6 (⟨qs, a6, c6, hg, _, rfl, hs6⟩ | ⟨hno, _⟩)
              rotate_left
              · rcases hno with h | h
                · have := HL5.out; omega
                · exact absurd HGd.out (h _)
              have hqs := (HGd.out.unique hg (by have := HL5.out; omega)).symm
              subst hqs
              obtain ⟨P, hP⟩ : ∃ P, P = acc.length := ⟨_, rfl⟩
              have hql : (acc ++ [r]).length = P + 1 := by rw [List.length_append, hP]; rfl
              have hPi : P ≤ i := by rw [hP]; exact HS.out.2
              obtain ⟨b6, off6, ha6, _, c0, c1⟩ := hs6.reads P (by omega)
              subst ha6
              have hgd : (acc ++ [r]).getD P ([], []) = r := by rw [hP]; simp [List.getD]
              rw [hgd, ← HAB.out.1] at c0
              rw [hgd, ← HAB.out.2, show off6 + (P * 2 + 1) = off6 + P * 2 + 1 by omega] at c1
              have HK6 := Lib.hid hs6.kept
              rw [hql]
              have H6 := Lib.hid (H5.out.on hs6.kept)
              have HKd := Lib.hid H5.out.kept
              clear hs6 hg hgd hql hP
              have hkw6 := HKd.out.trans HK6.out
              have hd0 : w6.cell? ⟨b, off + i * 2, none⟩ = some (.string A) := by rw [HAB.out.1]; exact hkw6.cell HC01.out.1
              have hd1 : w6.cell? ⟨b, off + i * 2 + 1, none⟩ = some (.string B) := by rw [HAB.out.2]; exact hkw6.cell HC01.out.2
              have hne := HNe.out
              obtain ⟨q, hq⟩ : ∃ q, q = P + 1 := ⟨_, rfl⟩
              rw [← hq]
              have hq0 : ((q : Int) == 0) = false := by simp; omega
              have hq1 : (q : Int) - 1 = (P : Int) := by omega
              have hq2 : P < q := by omega
              have hq3 : ¬ q = 0 := by omega
              clear hq hkw6
              go_wp2_with fail
              go_quiet (fail)
              have HF : Hid (BySt w (w6.drewN nq) a5 (m + L) c5 (recsB ((rs.take (i + 1)).filter okR)) ∧ ((rs.take (i + 1)).filter okR).length ≤ i + 1) := Lib.hid (by
                rw [E1.out, HOk.out, if_pos rfl]
                refine ⟨H6.out.on ((Kept.refl _ _).drewN _), ?_⟩
                rw [List.length_append]
                have := HS.out.2
                simp; omega)
              go_wp2
              go_roundw
              case rel => exact ⟨a5, m + L, c5, i + 1, rfl, by go_num, by omega, by omega, HF⟩
              case measure => simp [intOf]; omega
      · have HK := Lib.hid HS.out.1.kept
        go_wp2_with fail
        refine (HA.out _ HK.out).mono ?_
        rintro e w6 ⟨rfl, hk⟩
        have HK2 := Lib.hid (HK.out.trans hk)
        clear hk
        go_wp2
        go_ret
        exact ⟨rfl, HK2.out.belowNo (Below.refl _ _)⟩
end Go.Proofs.YtclcgiochjibjaaDoor
