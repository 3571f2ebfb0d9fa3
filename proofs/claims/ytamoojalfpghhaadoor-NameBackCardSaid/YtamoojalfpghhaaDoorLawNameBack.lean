/-
  The law NameBack: unfinished (region 12 and what is behind it).
-/
import Derived.Test.YtamoojalfpghhaaDoorBackA
import Derived.Deep.CutBlock
import Derived.Test.YtamoojalfpghhaaDoorMask
namespace Go.Proofs.YtamoojalfpghhaaDoor
open Go.RowKit Go.Shelf
set_option linter.unusedVariables false
set_option linter.unusedSimpArgs false

theorem parts_no {l : List UInt8} (W : World) (h : partsOf l = none) (hl : l.length ≤ 1000000) : Calls Tryd.prog 6 #[.string (strB l)] W fun e w' => e = .returned (.tuple #[.slice none 0 0, .int .i64 9]) ∧ Below W.heap.size W w' := by
  refine (parts_calls l W hl).mono ?_
  rintro e w' (⟨_, rfl, hb⟩ | ⟨ps, ao, cap, hs, _⟩)
  · exact ⟨rfl, hb⟩
  · rw [h] at hs; cases hs
set_option maxRecDepth 20000 in
set_option maxHeartbeats 4000000 in
theorem nameBack_start (ao : Option Addr) (cap n : Nat) (ps : List (List UInt8)) (b0 : Int) (w : World) (hr : RdS w w.heap.size ao ps) (hn : n = ps.length) (hm : n ≤ 9223372036854775807) (hb0 : -9223372036854775808 ≤ b0 ∧ b0 ≤ 9223372036854775807) :
    Calls Tryd.prog 5 #[.slice ao n cap, .int .i64 b0] w fun e w' => e = .returned (.bool true) ∧ Below w.heap.size w w' := by
  have HR := Lib.hid hr; have HN := Lib.hid hn
  clear hr hn
  go_enter Tryd.func5, Tryd.ntmps5
  go_upto_block 0 with fail
  go_cut [5] from 6 to 38 (fun v5 wx => ∃ (a : Option Addr) (c m : Nat) (D : List (List UInt8)), v5 = .slice a m c ∧ m ≤ 12 ∧ Hid (StrSt w wx a m c D) ∧ Hid (D.all okP = true))
  case first =>
    go_wp2_with fail
    go_loopw [5, 6] (fun v5 v6 wr => ∃ (a : Option Addr) (c m i : Nat) (D : List (List UInt8)), v5 = .slice a m c ∧ v6 = .int .i64 (i : Int) ∧ i ≤ n ∧ i ≤ 12 ∧ m ≤ i ∧ Hid (StrSt w wr a m c D) ∧ Hid (D.all okP = true)) (fun _ v6 _ => 12 - (intOf v6).toNat)
    case atStart => exact ⟨none, 0, 0, 0, [], rfl, rfl, by omega, by omega, by omega, Lib.hid (StrSt.nil _), Lib.hid rfl⟩
    case round =>
      obtain ⟨a, c, m, i, D, rfl, rfl, hi, hi2, hmi, HS, HD⟩ := hrel
      by_cases hlt : (i : Int) < (n : Int)
      · by_cases hlt2 : (i : Int) < 12
        · obtain ⟨g, off, rfl, hg, hc⟩ := (HR.out.keptNo HS.out.kept) i (by have := HN.out; omega)
          obtain ⟨p, hp⟩ : ∃ p, p = ps.getD i [] := ⟨_, rfl⟩
          rw [← hp] at hc
          obtain ⟨X, hX⟩ : ∃ X, X = strB p := ⟨_, rfl⟩
          rw [← hX] at hc
          have HX := Lib.hid hX
          have HO := Lib.hid (fun W => ok_every X W)
          obtain ⟨o, ho⟩ : ∃ o, o = okN X := ⟨_, rfl⟩
          rw [← ho] at HO
          have HOk := Lib.hid ho
          clear hp hX ho hg
          go_wp2_with fail
          refine (HO.out _).mono ?_
          rintro e w2 ⟨rfl, hb2⟩
          have HS2 := Lib.hid (HS.out.on (Below.k hb2))
          have hc2 := (Below.k hb2).cell hc
          clear hb2 hc
          cases o with
          | false =>
            go_wp2
            go_roundw
            case rel => exact ⟨a, c, m, i + 1, D, rfl, by go_num, by omega, by omega, by omega, HS2, HD⟩
            case measure => simp [intOf]; omega
          | true =>
            have HD2 : Hid ((D ++ [p]).all okP = true) := Lib.hid (by
              rw [List.all_append, HD.out]
              have : okP p = true := by rw [okP, ← HX.out]; exact HOk.out.symm
              simp [this])
            go_wp2_with (at_builtin; refine wpList_str1 rfl (.tmp 32) (.tmp 37) rfl (HS2.out.alloc (.cells #[.string X] 9)) rfl ⟨w2.heap.size, 0, none⟩ _ p rfl (by rw [cell_new 0 rfl, HX.out]; rfl) (by omega) ?_)
            intro a2 c2 w3 hs3
            have HS3 := Lib.hid hs3
            clear hs3
            go_wp2
            go_roundw
            case rel => exact ⟨a2, c2, m + 1, i + 1, D ++ [p], rfl, by go_num, by omega, by omega, by omega, HS3, HD2⟩
            case measure => simp [intOf]; omega
        · go_wp2
          go_meet
          exact ⟨a, c, m, D, rfl, by omega, HS, HD⟩
      · go_wp2
        go_meet
        exact ⟨a, c, m, D, rfl, by omega, HS, HD⟩
  case rest =>
  obtain ⟨a, c, m, D, rfl, hm12, HS, HD⟩ := hcut
  by_cases h0 : m = 0
  · subst h0
    go_wp2_with fail
    refine (awake_any _).mono ?_
    rintro e w2 ⟨rfl, hb2⟩
    have HB2 := Lib.hid (HS.out.kept.trans (Below.k hb2))
    clear hb2
    go_wp2
    go_ret
    exact ⟨rfl, HB2.out.b⟩
  · have hz : ((m : Int) == 0) = false := by simp; omega
    have hDl : D.length = m := HS.out.len.symm
    have hDne : D ≠ [] := by rintro rfl; simp at hDl; omega
    have hjl : (joinB D).length ≤ 3072 := by
      have := join_len D 255 (fun p hp => (ok_len (List.all_eq_true.1 HD.out p hp)).2)
      omega
    have hmc := (own_cap HS.out.own).1
    obtain ⟨g0, rfl⟩ : ∃ g0, a = some ⟨g0, 0, none⟩ := by
      rcases HS.out.own.2 with ⟨_, hz0⟩ | ⟨g, cc, cur, hv, _⟩
      · omega
      · simp at hv; exact ⟨g, hv.1⟩
    have HCell : Hid (∀ j, j < D.length → wc.cell? ⟨g0, j, none⟩ = some (.string (strB (D.getD j [])))) := Lib.hid (fun j hj => by
      obtain ⟨g, off, he, _, hc⟩ := HS.out.reads j hj
      have h2 := HS.out.own.cellAt j (by omega)
      rw [h2]; simp [List.getD, hj, strV])
    have HRow := Lib.hid (fun W (hk : Kept NoB wc W) => (HS.out.reads.keptNo hk).room)
    have HJn := Lib.hid (fun W (hk : Kept NoB wc W) => njoin_any (some ⟨g0, 0, none⟩) c _ D W (HRow.out W hk) (by omega) (by omega) (by omega))
    rw [hDl] at HJn
    have HP1 := Lib.hid (fun W => parts_calls (joinB D) W (by omega))
    have hq1 := back_plain D hDne HD.out (by omega)
    have hq2 := back_points D hDne HD.out (by omega)
    have hpc : ∀ p ∈ D, Pc p := fun p hp => pc_of_ok (List.all_eq_true.1 HD.out p hp)
    obtain ⟨L, hL⟩ : ∃ L, L = joinB D := ⟨_, rfl⟩
    have hLl : L.length ≤ 3072 := by rw [hL]; exact hjl
    rw [← hL] at HJn HP1 hq1 hq2
    obtain ⟨J, hJ⟩ : ∃ J, J = strB L := ⟨_, rfl⟩
    rw [← hJ] at HJn HP1
    have hJs : J.size ≤ 3072 := by rw [hJ, strB_size]; exact hLl
    have had1 := fun W => run_string_add_sum (P := Tryd.prog) W ⟨#[46, 47]⟩ J (by show 2 + J.size ≤ _; omega)
    obtain ⟨J1, hJ1⟩ : ∃ J1, J1 = (⟨#[46, 47]⟩ : ByteArray) ++ J := ⟨_, rfl⟩
    have hJ1s : J1.size = 2 + J.size := by rw [hJ1, ByteArray.size_append]; rfl
    have had2 := fun W => run_string_add_sum (P := Tryd.prog) W J1 ⟨#[47, 47, 46]⟩ (by show J1.size + 3 ≤ _; omega)
    obtain ⟨J2, hJ2⟩ : ∃ J2, J2 = J1 ++ (⟨#[47, 47, 46]⟩ : ByteArray) := ⟨_, rfl⟩
    have had3 := fun W => run_string_add_sum (P := Tryd.prog) W ⟨#[47]⟩ J (by show 1 + J.size ≤ _; omega)
    obtain ⟨J3, hJ3⟩ : ∃ J3, J3 = (⟨#[47]⟩ : ByteArray) ++ J := ⟨_, rfl⟩
    have hJ2e : J2 = strB (46 :: 47 :: (L ++ [47, 47, 46])) := by
      rw [hJ2, hJ1, hJ]
      show (ByteArray.mk [46, 47].toArray ++ ByteArray.mk L.toArray) ++ ByteArray.mk [47, 47, 46].toArray = _
      rw [ByteArray.mk_append_mk, ByteArray.mk_append_mk, strB]; simp
    have hJ3e : J3 = strB (47 :: L) := by
      rw [hJ3, hJ]
      show ByteArray.mk [47].toArray ++ ByteArray.mk L.toArray = _
      rw [ByteArray.mk_append_mk, strB]; simp
    rw [← hJ1] at had1
    rw [← hJ2] at had2
    rw [← hJ3] at had3
    have HP2 := Lib.hid (fun W => parts_calls (46 :: 47 :: (L ++ [47, 47, 46])) W (by simp; omega))
    have HP3 := Lib.hid (fun W => parts_calls (47 :: L) W (by simp; omega))
    rw [← hJ2e] at HP2
    rw [← hJ3e] at HP3
    have HQ1 := Lib.hid hq1; have HQ2 := Lib.hid hq2; have HPc := Lib.hid hpc; have HDl := Lib.hid hDl; have HDne := Lib.hid hDne
    have HJ3e := Lib.hid hJ3e; have HLl := Lib.hid hLl
    clear hq1 hq2 hpc hDl hDne hJ1 hJ2 hJ3 hJ2e hJ3e hJ1s hJs hJ hL hLl hjl
    go_wp2_with fail
    refine (HJn.out _ (Kept.refl _ _)).mono ?_
    rintro e w2 ⟨rfl, hb2⟩
    have HK2 := Lib.hid (Below.k hb2)
    clear hb2
    go_wp2_with fail
    refine (HP1.out _).mono ?_
    rintro e w3 (⟨hn, _⟩ | ⟨K, a1, c1, hK, rfl, ho, hb3⟩)
    · rw [HQ1.out] at hn; cases hn
    obtain rfl : D = K := Option.some.inj (HQ1.out.symm.trans hK)
    have HR3 := Lib.hid (own_readsS ho rfl); have HK3 := Lib.hid (HK2.out.trans (Below.k hb3))
    rw [HDl.out]
    clear ho hb3 hK
    go_wp2_with fail
    refine (HJn.out _ HK3.out).mono ?_
    rintro e w4 ⟨rfl, hb4⟩
    have HK4 := Lib.hid (HK3.out.trans (Below.k hb4)); have HR4 := Lib.hid (HR3.out.keptNo (Below.k hb4))
    clear hb4
    go_wp2_with fail
    refine (HP2.out _).mono ?_
    rintro e w5 (⟨hn, _⟩ | ⟨K, a2, c2, hK, rfl, ho, hb5⟩)
    · rw [HQ2.out] at hn; cases hn
    obtain rfl : D = K := Option.some.inj (HQ2.out.symm.trans hK)
    have HR5 := Lib.hid (own_readsS ho rfl); have HK5 := Lib.hid (HK4.out.trans (Below.k hb5)); have HR6 := Lib.hid (HR4.out.keptNo (Below.k hb5))
    rw [HDl.out]
    clear ho hb5 hK
    have hmask : bits .and .i64 b0 255 = b0 % 256 := i64_mask b0 8 (by decide)
    obtain ⟨x, hx⟩ : ∃ x : Nat, (x : Int) = b0 % 256 := ⟨(b0 % 256).toNat, by omega⟩
    rw [← hx] at hmask
    obtain ⟨k, hk⟩ : ∃ k : Nat, k = x % (m + 1) := ⟨_, rfl⟩
    have hkm : k ≤ m := by have := Nat.mod_lt x (show 0 < m + 1 by omega); omega
    have hmod : (x : Int) % ((m : Int) + 1) = (k : Int) := by rw [hk]; push_cast; rfl
    have HKd := Lib.hid hk
    clear hk hx
    have htl : (D.take k).length = k := by rw [List.length_take]; have := HDl.out; omega
    have hdl : (D.drop k).length = m - k := by rw [List.length_drop]; have := HDl.out; omega
    have HROW := Lib.hid (HRow.out w5 HK5.out)
    have htk : ∀ W, Kept NoB w5 W → ∀ j u, ((D.take k).map strV)[j]? = some u → W.cell? ((⟨g0, 0, none⟩ : Addr).add j) = some u := by
      intro W hk j u hu
      have hj : j < k ∧ j < D.length := by have := (List.getElem?_eq_some_iff.1 hu).1; simp at this; omega
      have hc := HCell.out j hj.2
      rw [addr_add, Nat.zero_add, hk.cell (HK5.out.cell hc), ← hu]
      simp [List.getD, hj.2, List.getElem?_take, hj.1, strV]
    have hdr : ∀ W, Kept NoB w5 W → ∀ j u, ((D.drop k).map strV)[j]? = some u → W.cell? ((⟨g0, k, none⟩ : Addr).add j) = some u := by
      intro W hk j u hu
      have hj : k + j < D.length := by have := (List.getElem?_eq_some_iff.1 hu).1; simp at this; omega
      have hc := HCell.out (k + j) hj
      rw [addr_add, hk.cell (HK5.out.cell hc), ← hu]
      simp [List.getD, hj, List.getElem?_drop, strV]
    have HTk := Lib.hid htk; have HDr := Lib.hid hdr; have HTl := Lib.hid htl; have HDl2 := Lib.hid hdl
    clear htk hdr htl hdl
    obtain ⟨UP, hUP⟩ : ∃ UP, UP = ((([] ++ D.take k) ++ [[46, 46]]) ++ D.drop k) := ⟨_, rfl⟩
    have hUl : UP.length = k + 1 + (m - k) := by
      rw [hUP]; simp only [List.length_append, List.length_nil, HTl.out, HDl2.out, List.length_cons]; omega
    have hUm : ∀ p ∈ UP, p ∈ D ∨ p = [46, 46] := by
      intro p hp
      rw [hUP] at hp
      simp only [List.nil_append, List.mem_append, List.mem_singleton] at hp
      rcases hp with (h | h) | h
      · exact .inl (List.mem_of_mem_take h)
      · exact .inr h
      · exact .inl (List.mem_of_mem_drop h)
    have hUj : (joinB UP).length ≤ 3500 := by
      have := join_len UP 255 (fun p hp => by
        rcases hUm p hp with h | rfl
        · exact (ok_len (List.all_eq_true.1 HD.out p h)).2
        · decide)
      omega
    have hUn := back_up UP (fun p hp => by
      rcases hUm p hp with h | rfl
      · exact HPc.out p h
      · exact pc_up) (by rw [hUP]; simp)
    have HJU := Lib.hid (fun (W : World) (b : Option Addr) (d : Nat) (h : StrSt w5 W b (k + 1 + (m - k)) d UP) => njoin_any b d _ UP W h.reads (by have := (own_cap h.own).1; omega) (by omega) (by omega))
    rw [hUl] at HJU
    obtain ⟨XU, hXU⟩ : ∃ XU, XU = strB (joinB UP) := ⟨_, rfl⟩
    have HPU := Lib.hid (fun W => parts_no W hUn (by omega))
    have HPR := Lib.hid (fun W => parts_no W (back_root L) (by rw [List.length_cons]; have := HLl.out; omega))
    rw [← HJ3e.out] at HPR
    rw [← hXU] at HJU HPU
    have HSm : Hid (∀ (W : World) (b : Option Addr) (d : Nat), RdS W W.heap.size b D → Kept NoB wc W → Calls Tryd.prog 11 #[.slice b m d, .slice (some ⟨g0, 0, none⟩) m c] W fun e w' => e = .returned (.bool true) ∧ Kept NoB W w') := Lib.hid (fun W b d h hk => by
      have := sameT_any b d D (some ⟨g0, 0, none⟩) c D _ _ W h (HRow.out W hk) (by have := HDl.out; omega)
      rw [HDl.out, show decide (D = D) = true from decide_eq_true rfl] at this
      exact this)
    have HUP := Lib.hid hUP
    clear hUP hUl hUm hUj hUn hXU
    have k0 : (0 : Int) ≤ (k : Int) := by omega
    have k1 : (k : Int) ≤ (c : Int) := by omega
    have k2 : (k : Int) ≤ (m : Int) := by omega
    go_upto_region 12 with fail
    by_cases hne : c = k
    · have HDm : Hid (∀ (W : World) (ad : Addr) (j : Nat) (u : Value), ((D.drop k).map strV)[j]? = some u → W.cell? (ad.add j) = some u) := Lib.hid (fun W ad j u hu => by
        rw [List.drop_of_length_le (by have := HDl.out; omega)] at hu
        simp at hu)
      have hne2 : k = c := hne.symm
      subst hne2
      have hmk : k = m := by omega
      subst hmk
      rw [Nat.sub_self] at HDl2 HJU
      rw [Nat.add_zero] at HJU
      go_region_law (first
        | (refine step_strs rfl (.tmp 63) (.tmp 66) rfl (emp_strs (w0 := w5) (w := w5.drew) ((Kept.refl NoB w5).drew) w5.heap.size rfl) rfl _ _ _ (D.take k) rfl HTl.out (HTk.out _ (((Kept.refl NoB w5).drew).alloc (.cells #[] 9))) (by omega) ?_; intro b2 d2 x2 hs2 hk2; have hs2 := hs2.re (Nat.zero_add _) rfl)
        | (refine step_strs rfl (.tmp 63) (.tmp 66) rfl ((emp_strs (w0 := w5) (w := w5.drew) ((Kept.refl NoB w5).drew) w5.heap.size rfl).alloc (.cells #[.string ⟨#[46, 46]⟩] 9)) rfl _ _ _ (D.take k) rfl HTl.out (HTk.out _ ((((Kept.refl NoB w5).drew).alloc (.cells #[] 9)).alloc (.cells #[.string ⟨#[46, 46]⟩] 9))) (by omega) ?_; intro b2 d2 x2 hs2 hk2; have hs2 := hs2.re (Nat.zero_add _) rfl; have hx2 := one_on (g := w5.heap.size + 1) hk2 (by intro h; simp [OwnB, Value.ownBlock] at h) (cell_new (w := w5.drew.alloc (.cells #[] 9)) (cs := #[(.string ⟨#[46, 46]⟩)]) (t := 9) (k := w5.heap.size + 1) 0 (by simp)))
        | (refine step_strs rfl (.tmp 63) (.tmp 66) rfl (emp_strs (w0 := w5) (w := w5.drew.alloc (.cells #[.string ⟨#[46, 46]⟩] 9)) (((Kept.refl NoB w5).drew).alloc (.cells #[.string ⟨#[46, 46]⟩] 9)) (w5.heap.size + 1) (by simp)) rfl _ _ _ (D.take k) rfl HTl.out (HTk.out _ ((((Kept.refl NoB w5).drew).alloc (.cells #[.string ⟨#[46, 46]⟩] 9)).alloc (.cells #[] 9))) (by omega) ?_; intro b2 d2 x2 hs2 hk2; have hs2 := hs2.re (Nat.zero_add _) rfl; have hx2 := one_on (g := w5.heap.size) hk2 (by intro h; simp [OwnB, Value.ownBlock] at h) (((Kept.refl NoB (w5.drew.alloc (.cells #[.string ⟨#[46, 46]⟩] 9))).alloc (.cells #[] 9)).cell (cell_new (w := w5.drew) (cs := #[(.string ⟨#[46, 46]⟩)]) (t := 9) (k := w5.heap.size) 0 rfl)))
        | (refine step_strs rfl (.tmp 67) (.tmp 68) rfl hs2 rfl _ _ _ [[46, 46]] rfl rfl hx2 (by omega) ?_; intro b3 d3 x3 hs3 hk3)
        | (refine step_strs rfl (.tmp 67) (.tmp 68) rfl (hs2.alloc (.cells #[.string ⟨#[46, 46]⟩] 9)) rfl _ _ _ [[46, 46]] rfl rfl (cell_one_new x2 (.string ⟨#[46, 46]⟩) 9) (by omega) ?_; intro b3 d3 x3 hs3 hk3)
        | (refine step_strs rfl (.tmp 69) (.tmp 72) rfl hs3 rfl _ _ _ (D.drop k) rfl HDl2.out (HDm.out _ _) (by omega) ?_; intro b4 d4 x4 hs4 hk4))
      all_goals
        have HS4 := Lib.hid (hs4.re (l' := k + 1) (by omega) HUP.out.symm)
        clear hs4 hs3 hs2 hk2 hk3 hk4
        go_wp2_with fail
        refine (HJU.out _ _ _ HS4.out).mono ?_
        rintro e w6 ⟨rfl, hb6⟩
        have HL6 := Lib.hid (HS4.out.kept.trans (Below.k hb6))
        clear hb6
        go_wp2_with fail
        refine (HPU.out _).mono ?_
        rintro e w7 ⟨rfl, hb7⟩
        have HL7 := Lib.hid (HL6.out.trans (Below.k hb7))
        clear hb7
        go_wp2_with fail
        refine (HJn.out _ (HK5.out.trans HL7.out)).mono ?_
        rintro e w8 ⟨rfl, hb8⟩
        have HL8 := Lib.hid (HL7.out.trans (Below.k hb8))
        clear hb8
        go_wp2_with fail
        refine (HPR.out _).mono ?_
        rintro e w9 ⟨rfl, hb9⟩
        have HL9 := Lib.hid (HL8.out.trans (Below.k hb9))
        clear hb9
        go_wp2_with fail
        refine (HSm.out _ _ _ (HR6.out.keptNo HL9.out).room (HK5.out.trans HL9.out)).mono ?_
        rintro e w10 ⟨rfl, hk10⟩
        have HL10 := Lib.hid (HL9.out.trans hk10)
        clear hk10
        go_wp2_with fail
        refine (HSm.out _ _ _ (HR5.out.keptNo HL10.out).room (HK5.out.trans HL10.out)).mono ?_
        rintro e w11 ⟨rfl, hk11⟩
        have HL11 := Lib.hid (HL10.out.trans hk11)
        clear hk11
        go_wp2_with fail
        refine (awake_any _).mono ?_
        rintro e w12 ⟨rfl, hb12⟩
        have HL12 := Lib.hid (HL11.out.trans (Below.k hb12))
        clear hb12
        go_wp2
        go_ret
        exact ⟨rfl, (HS.out.kept.trans (HK5.out.trans HL12.out)).b⟩
    · go_region_law (first
        | (refine step_strs rfl (.tmp 63) (.tmp 66) rfl (emp_strs (w0 := w5) (w := w5.drew) ((Kept.refl NoB w5).drew) w5.heap.size rfl) rfl _ _ _ (D.take k) rfl HTl.out (HTk.out _ (((Kept.refl NoB w5).drew).alloc (.cells #[] 9))) (by omega) ?_; intro b2 d2 x2 hs2 hk2; have hs2 := hs2.re (Nat.zero_add _) rfl)
        | (refine step_strs rfl (.tmp 63) (.tmp 66) rfl ((emp_strs (w0 := w5) (w := w5.drew) ((Kept.refl NoB w5).drew) w5.heap.size rfl).alloc (.cells #[.string ⟨#[46, 46]⟩] 9)) rfl _ _ _ (D.take k) rfl HTl.out (HTk.out _ ((((Kept.refl NoB w5).drew).alloc (.cells #[] 9)).alloc (.cells #[.string ⟨#[46, 46]⟩] 9))) (by omega) ?_; intro b2 d2 x2 hs2 hk2; have hs2 := hs2.re (Nat.zero_add _) rfl; have hx2 := one_on (g := w5.heap.size + 1) hk2 (by intro h; simp [OwnB, Value.ownBlock] at h) (cell_new (w := w5.drew.alloc (.cells #[] 9)) (cs := #[(.string ⟨#[46, 46]⟩)]) (t := 9) (k := w5.heap.size + 1) 0 (by simp)))
        | (refine step_strs rfl (.tmp 63) (.tmp 66) rfl (emp_strs (w0 := w5) (w := w5.drew.alloc (.cells #[.string ⟨#[46, 46]⟩] 9)) (((Kept.refl NoB w5).drew).alloc (.cells #[.string ⟨#[46, 46]⟩] 9)) (w5.heap.size + 1) (by simp)) rfl _ _ _ (D.take k) rfl HTl.out (HTk.out _ ((((Kept.refl NoB w5).drew).alloc (.cells #[.string ⟨#[46, 46]⟩] 9)).alloc (.cells #[] 9))) (by omega) ?_; intro b2 d2 x2 hs2 hk2; have hs2 := hs2.re (Nat.zero_add _) rfl; have hx2 := one_on (g := w5.heap.size) hk2 (by intro h; simp [OwnB, Value.ownBlock] at h) (((Kept.refl NoB (w5.drew.alloc (.cells #[.string ⟨#[46, 46]⟩] 9))).alloc (.cells #[] 9)).cell (cell_new (w := w5.drew) (cs := #[(.string ⟨#[46, 46]⟩)]) (t := 9) (k := w5.heap.size) 0 rfl)))
        | (refine step_strs rfl (.tmp 67) (.tmp 68) rfl hs2 rfl _ _ _ [[46, 46]] rfl rfl hx2 (by omega) ?_; intro b3 d3 x3 hs3 hk3)
        | (refine step_strs rfl (.tmp 67) (.tmp 68) rfl (hs2.alloc (.cells #[.string ⟨#[46, 46]⟩] 9)) rfl _ _ _ [[46, 46]] rfl rfl (cell_one_new x2 (.string ⟨#[46, 46]⟩) 9) (by omega) ?_; intro b3 d3 x3 hs3 hk3)
        | (refine step_strs rfl (.tmp 69) (.tmp 72) rfl hs3 rfl _ _ _ (D.drop k) rfl HDl2.out (HDr.out _ hs3.kept) (by omega) ?_; intro b4 d4 x4 hs4 hk4))
      all_goals
        have HS4 := Lib.hid (hs4.re (l' := k + 1 + (m - k)) (by omega) HUP.out.symm)
        clear hs4 hs3 hs2 hk2 hk3 hk4
        go_wp2_with fail
        refine (HJU.out _ _ _ HS4.out).mono ?_
        rintro e w6 ⟨rfl, hb6⟩
        have HL6 := Lib.hid (HS4.out.kept.trans (Below.k hb6))
        clear hb6
        go_wp2_with fail
        refine (HPU.out _).mono ?_
        rintro e w7 ⟨rfl, hb7⟩
        have HL7 := Lib.hid (HL6.out.trans (Below.k hb7))
        clear hb7
        go_wp2_with fail
        refine (HJn.out _ (HK5.out.trans HL7.out)).mono ?_
        rintro e w8 ⟨rfl, hb8⟩
        have HL8 := Lib.hid (HL7.out.trans (Below.k hb8))
        clear hb8
        go_wp2_with fail
        refine (HPR.out _).mono ?_
        rintro e w9 ⟨rfl, hb9⟩
        have HL9 := Lib.hid (HL8.out.trans (Below.k hb9))
        clear hb9
        go_wp2_with fail
        refine (HSm.out _ _ _ (HR6.out.keptNo HL9.out).room (HK5.out.trans HL9.out)).mono ?_
        rintro e w10 ⟨rfl, hk10⟩
        have HL10 := Lib.hid (HL9.out.trans hk10)
        clear hk10
        go_wp2_with fail
        refine (HSm.out _ _ _ (HR5.out.keptNo HL10.out).room (HK5.out.trans HL10.out)).mono ?_
        rintro e w11 ⟨rfl, hk11⟩
        have HL11 := Lib.hid (HL10.out.trans hk11)
        clear hk11
        go_wp2_with fail
        refine (awake_any _).mono ?_
        rintro e w12 ⟨rfl, hb12⟩
        have HL12 := Lib.hid (HL11.out.trans (Below.k hb12))
        clear hb12
        go_wp2
        go_ret
        exact ⟨rfl, (HS.out.kept.trans (HK5.out.trans HL12.out)).b⟩
theorem nameBack_law (v0 v1 : Value) (w : World) (r0 : Arg w 23 v0) (r1 : Arg w 3 v1) :
    Calls Tryd.prog 5 #[v0, v1] w fun e w' => e = .returned (.bool true) ∧ Below w.heap.size w w' := by
  obtain ⟨ao, cap, ps, rfl, hpc, hcm, hrd, _, _⟩ := r0.strs
  obtain ⟨b0, rfl, hb0⟩ := r1.int Tryd.underlying3
  exact nameBack_start ao cap ps.length ps b0 w hrd rfl (by unfold maxLen at hcm; omega) (i64_bd hb0)
