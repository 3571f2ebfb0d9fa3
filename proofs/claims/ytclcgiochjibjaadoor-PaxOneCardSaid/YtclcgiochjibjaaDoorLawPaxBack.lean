/-
  PaxBack: what is written is read as it was; the last value of a key holds, and an empty one is none.
-/
import Derived.Test.YtclcgiochjibjaaDoorSmallX
import Derived.Test.YtclcgiochjibjaaDoorGetKv
namespace Go.Proofs.YtclcgiochjibjaaDoor
open Go.RowKit
set_option linter.unusedVariables false
set_option linter.unusedSimpArgs false

theorem rec_small (r : KVb) (h : r.1.length ≤ 300 ∧ r.2.length ≤ 300) : (recB r).length ≤ 609 := by
  have h1 := restB_len r
  have h2 := recB_len r (by omega)
  have h3 := recD_le (restB r).length
  rw [h2, recL]; omega
theorem recs_small : ∀ F : List KVb, (∀ p ∈ F, p.1.length ≤ 300 ∧ p.2.length ≤ 300) → (recsB F).length ≤ F.length * 609
  | [], _ => by simp [recsB]
  | r :: F, h => by
    have ih := recs_small F (fun p hp => h p (List.mem_cons_of_mem _ hp))
    have := rec_small r (h r List.mem_cons_self)
    rw [recsB_cons, List.length_append, List.length_cons]; omega
theorem enc_small (F : List KVb) (hl : F.length ≤ 100) (h : ∀ p ∈ F, p.1.length ≤ 300 ∧ p.2.length ≤ 300) : encS F = if F.all okR then some (recsB F) else none := by
  have := recs_small F h
  unfold encS
  by_cases ha : F.all okR = true
  · rw [if_pos ⟨ha, by omega⟩, if_pos ha]
  · rw [if_neg (fun x => ha x.1), if_neg ha]
theorem filter_step (rs : List KVb) (i : Nat) (h : i < rs.length) : (rs.take (i + 1)).filter okR = (rs.take i).filter okR ++ (if okR (rs.getD i ([], [])) then [rs.getD i ([], [])] else []) := by
  rw [take_snoc rs i h, List.filter_append]
  congr 1
  by_cases hk : okR (rs.getD i ([], [])) = true
  · rw [if_pos hk, List.filter_cons_of_pos hk]; rfl
  · rw [if_neg hk, List.filter_cons_of_neg hk]; rfl
theorem kv_cap {w : World} {a : Option Addr} {l c : Nat} {xs : List Value} (h : w.ownsRow 0 29 2 (.slice a l c) l xs) : l ≤ c ∧ c ≤ maxLen := by
  rcases h.2 with ⟨hv, hz⟩ | ⟨g, cc, cur, hv, _, _, h1, h2, _⟩
  · simp at hv
    obtain ⟨_, rfl, rfl⟩ := hv
    exact ⟨Nat.le_refl _, Nat.zero_le _⟩
  · simp at hv
    obtain ⟨_, rfl⟩ := hv
    exact ⟨h1, h2⟩
theorem str_empty (l : List UInt8) : ((strB l).toList = []) = (l = []) ∧ (strB l).toList.isEmpty = l.isEmpty := by rw [strB_list]; exact ⟨rfl, rfl⟩

set_option maxRecDepth 20000 in
set_option maxHeartbeats 8000000 in
theorem paxBack_law (v0 v1 : Value) (w : World) (r0 : Arg w 22 v0) (r1 : Arg w 9 v1) (htab : Pow10 w) (herr : ErrVars w) :
    Calls Tryd.prog 5 #[v0, v1] w fun e w' => e = .returned (.bool true) ∧ Below w.heap.size w w' := by
  obtain ⟨ao, cap, rs, rfl, hrd, hlc, hcm, hnil, hml⟩ := kvs_open r0
  obtain ⟨key, rfl, hkey⟩ := r1.string Tryd.underlying9
  have HT := Lib.hid htab; have HE := Lib.hid herr
  have HSm := Lib.hid (small_any ao rs.length cap rs w rfl hrd hlc hcm)
  have HR := Lib.hid hrd
  have hcm2 : rs.length ≤ 9223372036854775807 := by unfold maxLen at hcm; omega
  obtain ⟨n, hn⟩ : ∃ n, n = rs.length := ⟨_, rfl⟩
  rw [← hn] at HSm hcm2 hlc ⊢
  have HN := Lib.hid hn
  have HA := Lib.hid (fun W (h : Kept NoB w W) => awake18 W (HT.out.keptNo h) (HE.out.keptNo h))
  clear htab herr hrd hn hml
  go_enter Tryd.func5, Tryd.ntmps5
  go_wp2_with fail
  refine HSm.out.mono ?_
  rintro e w1 ⟨⟨b, rfl, hb⟩, hw1⟩
  rw [← hw1]
  clear hw1
  cases b with
  | false =>
    go_wp2_with fail
    refine (HA.out _ (Kept.refl _ _)).mono ?_
    rintro e w6 ⟨rfl, hk⟩
    have HK := Lib.hid hk
    clear hk
    go_wp2
    go_ret
    exact ⟨rfl, HK.out.belowNo (Below.refl _ _)⟩
  | true =>
    obtain ⟨h15, h300⟩ := hb rfl
    have H300 := Lib.hid h300
    have hn15 : n ≤ 15 := by have := HN.out; omega
    clear hb h15 h300
    by_cases h100 : (100 : Int) < (key.size : Int)
    · go_wp2_with fail
      refine (HA.out _ (Kept.refl _ _)).mono ?_
      rintro e w6 ⟨rfl, hk⟩
      have HK := Lib.hid hk
      clear hk
      go_wp2
      go_ret
      exact ⟨rfl, HK.out.belowNo (Below.refl _ _)⟩
    · go_wp2
      go_loopw [5, 6, 7, 8] (fun v5 v6 v7 v8 wr => ∃ (a : Option Addr) (m c i : Nat), v5 = .slice a m c ∧ v6 = .int .i64 (i : Int) ∧ i ≤ n ∧ m ≤ i ∧ Hid (KvSt w wr a m c ((rs.take i).filter okR))) (fun _ v6 _ _ _ => n - (intOf v6).toNat)
      case atStart => exact ⟨none, 0, 0, 0, rfl, rfl, by omega, by omega, Lib.hid (KvSt.nil w)⟩
      case round =>
        obtain ⟨a, m, c, i, rfl, rfl, hi, hmi, HS⟩ := hrel
        by_cases hlt : (i : Int) < (n : Int)
        · have hin : i < n := by omega
          have hin2 : i < rs.length := by have := HN.out; omega
          obtain ⟨b, off, rfl, hb, c0, c1⟩ := HR.out i hin2
          have d0 := HS.out.kept.cell c0
          have d1 := HS.out.kept.cell c1
          have e1 := filter_step rs i hin2
          have e2 := H300.out (rs.getD i ([], [])) (by simp [List.getD, hin2])
          obtain ⟨r, hr⟩ : ∃ r, r = rs.getD i ([], []) := ⟨_, rfl⟩
          rw [← hr] at d0 d1 e1 e2
          rw [show off + (i * 2 + 1) = off + i * 2 + 1 by omega] at d1
          have E1 := Lib.hid e1
          have hen := enc_small [r] (by simp) (by intro p hp; simp at hp; subst hp; exact e2)
          have HEn := Lib.hid hen
          have E2 := Lib.hid e2
          clear c0 c1 hr e1 hen e2
          obtain ⟨A, hA⟩ : ∃ A, A = strB r.1 := ⟨_, rfl⟩
          obtain ⟨B, hB⟩ : ∃ B, B = strB r.2 := ⟨_, rfl⟩
          rw [← hA] at d0
          rw [← hB] at d1
          have HAB : Hid (A = strB r.1 ∧ B = strB r.2) := Lib.hid ⟨hA, hB⟩
          clear hA hB
          go_wp2_with fail
          obtain ⟨w2, hw2⟩ : ∃ w2, w2 = wr.alloc (.cells #[.string A, .string B] 29) := ⟨_, rfl⟩
          have hk2 : Kept NoB wr w2 := by rw [hw2]; exact (Kept.refl _ _).alloc _
          have hc0 : w2.cell? ⟨wr.heap.size, 0, none⟩ = some (.string (strB r.1)) := by rw [hw2, ← HAB.out.1]; exact cell_new 0 rfl
          have hc1 : w2.cell? ⟨wr.heap.size, 1, none⟩ = some (.string (strB r.2)) := by rw [hw2, ← HAB.out.2]; exact cell_new 1 rfl
          rw [← hw2]
          have hr0 : RdK w2 w2.heap.size (some ⟨wr.heap.size, 0, none⟩) [r] := rdk_one _ (World.block_lt_of_cell? w2 _ hc0) hc0 hc1
          have hEc := encode_any (some ⟨wr.heap.size, 0, none⟩) 1 1 [r] w2 rfl hr0 (by intro p hp; simp at hp; subst hp; have := E2.out; omega) (by decide) (by decide) (HT.out.keptNo (HS.out.kept.trans hk2))
          have HEc := Lib.hid hEc; have HK2 := Lib.hid hk2
          clear hEc hr0 hc0 hc1 hk2 hw2
          refine HEc.out.mono ?_
          have hall : ([r] : List KVb).all okR = okR r := by simp
          rintro e w3 (⟨hn, rfl, hk3⟩ | ⟨a3, c3, hs3, rfl, hb3⟩)
          · have hnk : okR r = false := by
              have := HEn.out
              rw [hn, hall] at this
              cases hk : okR r with
              | false => rfl
              | true => rw [hk] at this; cases this
            have HF : Hid (KvSt w w3 a m c ((rs.take (i + 1)).filter okR)) := Lib.hid (by
              rw [E1.out, hnk, if_neg (by decide), List.append_nil]
              exact HS.out.on (HK2.out.trans hk3))
            clear hn hk3 hnk hall d0 d1
            go_wp2
            go_roundw
            case rel => exact ⟨a, m, c, i + 1, rfl, by go_num, by omega, by omega, HF⟩
            case measure => simp [intOf]; omega
          · have hok : okR r = true := by
              have := HEn.out
              rw [hs3, hall] at this
              cases hk : okR r with
              | true => rfl
              | false => rw [hk] at this; cases this
            have hk3 := HK2.out.trans hb3.kept
            have HS3 := Lib.hid (HS.out.on hk3)
            have d0' := hk3.cell d0
            have d1' := hk3.cell d1
            have HOk := Lib.hid hok
            clear hs3 hb3 hall d0 d1 hok hk3
            go_wp2_with (at_builtin; refine wpList_kv1 rfl (.tmp 45) (.tmp 50) rfl (HS3.out.on ((Kept.refl NoB w3).alloc _)) rfl w3.heap.size 1 r rfl (by rw [cell_new 0 rfl, ← HAB.out.1]; rfl) (by rw [cell_new 1 rfl, ← HAB.out.2]; rfl) (by omega) ?_)
            intro a4 c4 w4 h4
            have HF : Hid (KvSt w w4 a4 (m + 1) c4 ((rs.take (i + 1)).filter okR)) := Lib.hid (by
              rw [E1.out, HOk.out, if_pos rfl]; exact h4)
            clear h4 d0' d1'
            go_wp2
            go_roundw
            case rel => exact ⟨a4, m + 1, c4, i + 1, rfl, by go_num, by omega, by omega, HF⟩
            case measure => simp [intOf]; omega
        · have hie : i = n := by omega
          subst hie
          obtain ⟨F, hF⟩ : ∃ F, F = rs.filter okR := ⟨_, rfl⟩
          have hSF : KvSt w wr a m c F := by
            have := HS.out
            rwa [HN.out, List.take_length, ← hF] at this
          have hF3 : ∀ p ∈ F, p.1.length ≤ 300 ∧ p.2.length ≤ 300 := fun p hp => by
            rw [hF] at hp; exact H300.out p (List.mem_filter.1 hp).1
          have hFo : ∀ p ∈ F, okR p = true := fun p hp => by
            rw [hF] at hp; exact (List.mem_filter.1 hp).2
          have hmF : m = F.length := hSF.len
          have hFs := recs_small F hF3
          have hFe : encS F = some (recsB F) := by
            rw [enc_small F (by omega) hF3, if_pos (List.all_eq_true.2 hFo)]
          have hgood : Good (recsB F) F := ⟨rfl, hFo⟩
          have HSF := Lib.hid hSF; have HFe := Lib.hid hFe; have HGd := Lib.hid hgood; have HmF := Lib.hid hmF
          obtain ⟨L, hL⟩ : ∃ L, L = (recsB F).length := ⟨_, rfl⟩
          have hLb : L ≤ 10000 := by omega
          have HL := Lib.hid hL
          have hca := kv_cap hSF.own
          have hEn := encode_any a m c F wr hmF hSF.reads (by intro p hp; have := hF3 p hp; omega) hca.1 hca.2 (HT.out.keptNo hSF.kept)
          have HEn := Lib.hid hEn
          clear hSF hF3 hFo hmF hFs hFe hgood hL hca hEn HS hF
          go_wp2_with fail
          refine HEn.out.mono ?_
          rintro e w2 (⟨hn, _⟩ | ⟨a2, c2, _, rfl, hb2⟩)
          · rw [HFe.out] at hn; cases hn
          have hcp := hb2.cap
          have hS2 := HSF.out.on hb2.kept
          have hD := decode_any a2 (recsB F).length c2 (recsB F) w2 rfl hb2.reads (fun h => hcp.2.2 h) (by have := HL.out; unfold maxLen; omega) (HT.out.keptNo hS2.kept) (HE.out.keptNo hS2.kept)
          rw [← HL.out] at hD ⊢
          have HD := Lib.hid hD; have HS2 := Lib.hid hS2
          clear hcp hb2 hS2 hD
          go_wp2_with fail
          refine HD.out.mono ?_
          rintro e w3 (⟨qs, a3, c3, hg, _, rfl, hs3⟩ | ⟨hno, _⟩)
          rotate_left
          · rcases hno with h | h
            · have := HL.out; omega
            · exact absurd HGd.out (h _)
          have hqs := (HGd.out.unique hg (by have := HL.out; omega)).symm
          subst hqs
          rw [← HmF.out] at hs3 ⊢
          have hS3 := HS2.out.on hs3.kept
          have hR3 := hs3.reads
          have hR3o := hS3.reads
          have hSame := same_any a3 m c3 F a m c F w3 HmF.out HmF.out hR3 hR3o (by omega) (by omega)
          rw [show decide (F = F) = true from decide_eq_true rfl] at hSame
          have HSame := Lib.hid hSame; have HS3 := Lib.hid hS3; have HR3 := Lib.hid hR3; have HR3o := Lib.hid hR3o
          have hca3 := kv_cap hs3.own
          have HC3 := Lib.hid hca3
          clear hg hs3 hS3 hR3 hR3o hSame hca3
          go_wp2_with fail
          refine HSame.out.mono ?_
          rintro e w4 ⟨rfl, hk4⟩
          have HK4 := Lib.hid hk4
          have HR4 : Hid (RdK w4 w4.heap.size a F) := Lib.hid ((HR3o.out.kept hk4).room hk4.size)
          have HR4m : Hid (RdK w4 w4.heap.size a3 F) := Lib.hid ((HR3.out.kept hk4).room hk4.size)
          have HKw4 := Lib.hid (HS3.out.kept.trans hk4)
          clear hk4
          obtain ⟨kl, hkl⟩ : ∃ kl, kl = key.data.toList := ⟨_, rfl⟩
          have hks : key = strB kl := by rw [hkl, strB_of]
          have HKs := Lib.hid hks
          have HTk := Lib.hid (fun j (hj : j < m) => getS_take F kl j (by have := HmF.out; omega))
          have HEq := Lib.hid (fun x => strB_eq x kl)
          rw [← HKs.out] at HEq
          have HG0 : Hid (getS (F.take 0) kl = []) := Lib.hid (by rw [List.take_zero]; rfl)
          clear hkl hks
          go_wp2
          go_loopw [13, 14, 15] (fun v13 v14 v15 wr => ∃ (j : Nat) (V : ByteArray) (b : Bool), v13 = .string V ∧ v14 = .bool b ∧ v15 = .int .i64 (j : Int) ∧ j ≤ m ∧ Hid (V = strB (getS (F.take j) kl) ∧ b = !(getS (F.take j) kl).isEmpty ∧ Kept NoB w4 wr)) (fun _ _ v15 _ => m - (intOf v15).toNat)
          case atStart => exact ⟨0, ⟨#[]⟩, false, rfl, rfl, rfl, by omega, Lib.hid ⟨by rw [HG0.out]; rfl, by rw [HG0.out]; rfl, Kept.refl _ _⟩⟩
          case round =>
            obtain ⟨j, V, bb, rfl, rfl, rfl, hj, HS⟩ := hrel
            by_cases hlt2 : (j : Int) < (m : Int)
            · have hjm : j < m := by omega
              obtain ⟨b5, off5, rfl, hb5, c0, c1⟩ := HR4.out j (by have := HmF.out; omega)
              have d0 := HS.out.2.2.cell c0
              have d1 := HS.out.2.2.cell c1
              have e1 := HTk.out j hjm
              obtain ⟨r, hr⟩ : ∃ r, r = F.getD j ([], []) := ⟨_, rfl⟩
              rw [← hr] at d0 d1 e1
              rw [show off5 + (j * 2 + 1) = off5 + j * 2 + 1 by omega] at d1
              have hq := HEq.out r.1
              have E1 := Lib.hid e1
              have hse := str_empty r.2
              clear c0 c1 hr e1
              obtain ⟨A, hA⟩ : ∃ A, A = strB r.1 := ⟨_, rfl⟩
              obtain ⟨B, hB⟩ : ∃ B, B = strB r.2 := ⟨_, rfl⟩
              rw [← hA] at d0 hq
              rw [← hB] at d1 hse
              have HB := Lib.hid hB
              clear hA hB
              by_cases heq : r.1 = kl
              · rw [decide_eq_true heq] at hq
                have HE2 : Hid (getS (F.take (j + 1)) kl = r.2) := Lib.hid (by rw [E1.out, if_pos heq])
                clear heq
                by_cases hr2 : r.2 = []
                · have hb1 : B.toList = [] := by rw [hse.1]; exact hr2
                  have hb2 : B.toList.isEmpty = true := by rw [hb1]; rfl
                  have HF2 : Hid (B = strB (getS (F.take (j + 1)) kl) ∧ false = !(getS (F.take (j + 1)) kl).isEmpty) := Lib.hid ⟨by rw [HE2.out]; exact HB.out, by rw [HE2.out, hr2]; rfl⟩
                  clear hse hr2 hb1
                  go_wp2
                  go_quiet (fail)
                  go_wp2
                  go_roundw
                  case rel => exact ⟨j + 1, B, false, rfl, rfl, by go_num, by omega, Lib.hid ⟨HF2.out.1, HF2.out.2, HS.out.2.2.drewN _⟩⟩
                  case measure => simp [intOf]; omega
                · have hb1 : ¬ B.toList = [] := by rw [hse.1]; exact hr2
                  have hb2 : B.toList.isEmpty = false := by simpa using hb1
                  have HF2 : Hid (B = strB (getS (F.take (j + 1)) kl) ∧ true = !(getS (F.take (j + 1)) kl).isEmpty) := Lib.hid ⟨by rw [HE2.out]; exact HB.out, by
                    rw [HE2.out]
                    cases hrr : r.2 with
                    | nil => exact absurd hrr hr2
                    | cons _ _ => rfl⟩
                  clear hse hr2
                  go_wp2
                  go_quiet (fail)
                  go_wp2
                  go_roundw
                  case rel => exact ⟨j + 1, B, true, rfl, rfl, by go_num, by omega, Lib.hid ⟨HF2.out.1, HF2.out.2, HS.out.2.2.drewN _⟩⟩
                  case measure => simp [intOf]; omega
              · rw [decide_eq_false heq] at hq
                have HE2 : Hid (getS (F.take (j + 1)) kl = getS (F.take j) kl) := Lib.hid (by rw [E1.out, if_neg heq])
                have HF2 : Hid (V = strB (getS (F.take (j + 1)) kl) ∧ bb = !(getS (F.take (j + 1)) kl).isEmpty) := Lib.hid (by rw [HE2.out]; exact ⟨HS.out.1, HS.out.2.1⟩)
                clear heq hse
                go_wp2
                go_roundw
                case rel => exact ⟨j + 1, V, bb, rfl, rfl, by go_num, by omega, Lib.hid ⟨HF2.out.1, HF2.out.2, HS.out.2.2⟩⟩
                case measure => simp [intOf]; omega
            · have hjm : j = m := by omega
              subst hjm
              have hV : V = strB (getS F kl) := by
                have := HS.out.1
                rwa [HmF.out, List.take_length] at this
              have hbb : bb = !(getS F kl).isEmpty := by
                have := HS.out.2.1
                rwa [HmF.out, List.take_length] at this
              have HKr := Lib.hid HS.out.2.2
              have hGet := get_any a3 j c3 F kl wr HmF.out ((HR4m.out.kept HKr.out).room HKr.out.size) HC3.out.1 HC3.out.2
              rw [← HKs.out, ← hV, ← hbb] at hGet
              have HGet := Lib.hid hGet
              have hvl : V.toList = getS F kl := by rw [hV, strB_list]
              have HVL := Lib.hid hvl; have HBB := Lib.hid hbb
              clear hGet hV hbb hvl hlt2
              go_wp2_with fail
              refine HGet.out.mono ?_
              rintro e w5 ⟨rfl, hk5⟩
              have HK5 := Lib.hid (HKw4.out.trans (HKr.out.trans hk5))
              clear hk5
              go_wp2_with fail
              obtain ⟨w6, hw6⟩ : ∃ w6, w6 = w5.alloc (.cells #[.string ⟨#[]⟩, .string ⟨#[120]⟩] 29) := ⟨_, rfl⟩
              have hk6 : Kept NoB w5 w6 := by rw [hw6]; exact (Kept.refl _ _).alloc _
              have hc0 : w6.cell? ⟨w5.heap.size, 0, none⟩ = some (.string (strB [])) := by rw [hw6]; exact cell_new 0 rfl
              have hc1 : w6.cell? ⟨w5.heap.size, 1, none⟩ = some (.string (strB [120])) := by rw [hw6]; exact cell_new 1 rfl
              rw [← hw6]
              have hr0 : RdK w6 w6.heap.size (some ⟨w5.heap.size, 0, none⟩) [([], [120])] := rdk_one _ (World.block_lt_of_cell? w6 _ hc0) hc0 hc1
              have hK6 := HK5.out.trans hk6
              have hEc := encode_any (some ⟨w5.heap.size, 0, none⟩) 1 1 [([], [120])] w6 rfl hr0 (by intro p hp; simp at hp; subst hp; decide) (by decide) (by decide) (HT.out.keptNo hK6)
              have HEc := Lib.hid hEc; have HK6 := Lib.hid hK6
              clear hEc hr0 hc0 hc1 hk6 hw6 hK6
              refine HEc.out.mono ?_
              rintro e w7 (⟨_, rfl, hk7⟩ | ⟨_, _, hs7, _⟩)
              rotate_left
              · exact absurd hs7 (by rw [show encS [([], [120])] = none from by decide +kernel]; exact fun h => by cases h)
              have HK7 := Lib.hid (HK6.out.trans hk7)
              clear hk7
              cases bb with
              | false =>
                have hvl : V.toList = [] := by
                  rw [HVL.out]
                  have := HBB.out
                  cases hg : getS F kl with
                  | nil => rfl
                  | cons _ _ => rw [hg] at this; cases this
                have hvl2 : V.toList.isEmpty = true := by rw [hvl]; rfl
                go_wp2_with fail
                refine (HA.out _ HK7.out).mono ?_
                rintro e w8 ⟨rfl, hk8⟩
                have HK8 := Lib.hid (HK7.out.trans hk8)
                clear hk8
                go_wp2
                go_ret
                exact ⟨rfl, HK8.out.belowNo (Below.refl _ _)⟩
              | true =>
                have hself : (V.toList == V.toList) = true := by simp
                go_wp2_with fail
                refine (HA.out _ HK7.out).mono ?_
                rintro e w8 ⟨rfl, hk8⟩
                have HK8 := Lib.hid (HK7.out.trans hk8)
                clear hk8
                go_wp2
                go_ret
                exact ⟨rfl, HK8.out.belowNo (Below.refl _ _)⟩
end Go.Proofs.YtclcgiochjibjaaDoor
