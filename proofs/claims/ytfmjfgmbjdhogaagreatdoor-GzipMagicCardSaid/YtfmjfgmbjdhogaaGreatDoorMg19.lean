/-
  readBytes: as many bytes of a stored block as are there and fit.
  Inflater.put: a copy.
-/
import Derived.Test.YtfmjfgmbjdhogaaGreatDoorMg18
namespace Go.Proofs.YtfmjfgmbjdhogaaGreatDoor
open Go.RowKit
set_option linter.unusedVariables false
set_option linter.unusedSimpArgs false

theorem bytes_k {bs : List Int} (hall : AllB bs) {most : Nat} {last : Bool} : ∀ (k q n : Nat) (out : List Int), k ≤ n → 1 ≤ n → q + k ≤ bs.length → out.length + k ≤ most →
    Steps bs most (8 * q) (.bytes n) last out (8 * (q + k)) (if k = n then endM last else .bytes (n - k)) last (out ++ (bs.drop q).take k)
  | 0, q, n, out, h1, h2, h3, h4 => by
    rw [if_neg (by omega)]
    simpa using Steps.refl
  | k + 1, q, n, out, h1, h2, h3, h4 => by
    obtain ⟨x, r, hr⟩ : ∃ x r, bs.drop q = x :: r := by
      cases e : bs.drop q with
      | nil => have := congrArg List.length e; simp at this; omega
      | cons x r => exact ⟨x, r, rfl⟩
    have hx : 0 ≤ x ∧ x < 256 := hall x (List.mem_of_mem_drop (by rw [hr]; simp))
    have hb := bits_drop hall (k := 8) (show bs.drop q = [x] ++ r by simpa using hr) (by simp)
    have hn : num [x] % 2 ^ 8 = x.toNat := by simp only [num]; omega
    rw [hn] at hb
    have hd := drop_more (show bs.drop q = [x] ++ r by simpa using hr)
    have hi : ItemR bs most (8 * q) (.bytes n) last out 0 (8 * (q + 1)) (if n ≤ 1 then endM last else .bytes (n - 1)) last (out ++ [x]) := by
      unfold ItemR
      dsimp only
      rw [if_neg (by omega), if_neg (by omega), hb]
      exact ⟨rfl, by omega, rfl, rfl, by rw [Int.toNat_of_nonneg hx.1]⟩
    have ex : (bs.drop q).take (k + 1) = x :: (bs.drop (q + 1)).take k := by
      rw [hr, List.take_succ_cons]
      have : bs.drop (q + 1) = r := by simpa using hd
      rw [this]
    by_cases hk : k = 0
    · subst hk
      refine Steps.to (Steps.one ?_) rfl rfl
      rw [ex]
      simp only [List.take_zero]
      by_cases h1' : n = 1
      · subst h1'
        simpa using hi
      · rw [if_neg (by omega)]
        rw [if_neg (by omega)] at hi
        exact hi
    · rw [if_neg (by omega)] at hi
      have ih := bytes_k hall (most := most) (last := last) k (q + 1) (n - 1) (out ++ [x]) (by omega) (by omega) (by omega) (by rw [List.length_append, List.length_singleton]; omega)
      have e1 : q + (k + 1) = q + 1 + k := by omega
      have e2 : n - (k + 1) = n - 1 - k := by omega
      have e3 : (k + 1 = n) = (k = n - 1) := by apply propext; omega
      rw [ex, e1, e2]
      simp only [e3]
      refine .step hi ?_
      simpa using ih
def Al (m : Md) (p : Nat) : Prop := ∀ n, m = .bytes n → p % 8 = 0
theorem endM_al (l : Bool) (p : Nat) : Al (endM l) p := by cases l <;> (intro n e; cases e)
theorem ItemR.al {bs : List Int} {most p : Nat} {m : Md} {last : Bool} {out : List Int} {p1 : Nat} {m1 : Md} {l1 : Bool} {o1 : List Int} (hm : Al m p) (h : ItemR bs most p m last out 0 p1 m1 l1 o1) : Al m1 p1 := by
  cases m with
  | fin => exact h.elim
  | block =>
    unfold ItemR at h
    simp only at h
    split at h
    · exact absurd h (by decide)
    · split at h
      · obtain ⟨_, rfl, rfl, _⟩ := h; intro n e; cases e
      · split at h
        · obtain ⟨_, rfl, rfl, _⟩ := h; intro n e; cases e
        · split at h
          · obtain ⟨_, rfl, rfl, _⟩ := h; intro n e; cases e
          · exact absurd h (by decide)
  | stored =>
    unfold ItemR at h
    simp only at h
    split at h
    · exact absurd h (by decide)
    · split at h
      · exact absurd h (by decide)
      · obtain ⟨_, rfl, rfl, _⟩ := h
        split
        · exact endM_al _ _
        · intro n e; unfold up8; omega
  | bytes n =>
    unfold ItemR at h
    simp only at h
    split at h
    · exact absurd h (by decide)
    · split at h
      · exact absurd h (by decide)
      · obtain ⟨_, rfl, rfl, _⟩ := h
        split
        · exact endM_al _ _
        · intro k e; have := hm n rfl; omega
  | head =>
    unfold ItemR at h
    simp only at h
    obtain ⟨lit, dist, f, q, hh, h⟩ := h
    split at h
    · obtain ⟨_, rfl, rfl, _⟩ := h
      intro n e; cases e
    · rename_i hf
      exact absurd h.symm hf
  | sym lit dist =>
    unfold ItemR at h
    simp only at h
    obtain ⟨s, f, q, hh, h⟩ := h
    split at h
    · rename_i hf
      exact absurd h.symm hf
    · split at h
      · split at h
        · obtain ⟨_, rfl, rfl, _⟩ := h; intro n e; cases e
        · exact absurd h (by decide)
      · split at h
        · obtain ⟨_, rfl, rfl, _⟩ := h; exact endM_al _ _
        · split at h
          · exact absurd h (by decide)
          · split at h
            · exact absurd h (by decide)
            · obtain ⟨d, g, r, hd, h⟩ := h
              split at h
              · rename_i hg
                exact absurd h.symm hg
              · split at h
                · exact absurd h (by decide)
                · split at h
                  · exact absurd h (by decide)
                  · split at h
                    · exact absurd h (by decide)
                    · split at h
                      · exact absurd h (by decide)
                      · obtain ⟨_, rfl, rfl, _⟩ := h; intro n e; cases e
theorem Steps.al {bs : List Int} {most p p1 : Nat} {m m1 : Md} {l l1 : Bool} {o o1 : List Int} (h : Steps bs most p m l o p1 m1 l1 o1) (hm : Al m p) : Al m1 p1 := by
  induction h with
  | refl => exact hm
  | step a _ ih => exact ih (a.al hm)
set_option maxHeartbeats 1000000 in
theorem left_q (w : World) (R : Nat) (ao : Option Addr) (cap : Nat) (bs : List Int) (p U : Nat) (h : Rdr w R ao cap bs p) (hU : (U : Int) = 8 * bs.length - p) :
    Calls Tryz.prog 125 #[.pointer (some ⟨R, 0, none⟩)] w fun e w' => e = .returned (.int .i64 (U : Int)) ∧ ∃ k, w' = w.drewN k := by
  rw [hU]
  obtain ⟨ho, hr, hl, ha, hb⟩ := h
  have c0 : w.cell? ⟨R, 0, none⟩ = some (.slice ao bs.length cap) := by simpa using obj_cell ho 0
  have c1 : w.cell? ⟨R, 1, none⟩ = some (.int .i64 p) := by simpa using obj_cell ho 1
  clear ho hr hb hU
  go_enter Tryz.func125, Tryz.ntmps125
  go_wp2
  go_quiet (fail)
  go_wp2
  go_ret
  exact ⟨rfl, _, rfl⟩
set_option maxRecDepth 20000 in
set_option maxHeartbeats 8000000 in
theorem readBytes_any {lo : Nat} {w : World} {D : Nat} {v : IV} {n : Nat} {out bs : List Int} {S : Nat → Prop} {R : Nat} {ao : Option Addr} {cap p : Nat} (h : InfS lo w D v (.bytes n) out bs S R ao cap p) (hlo : lo ≤ w.heap.size) (hal : p % 8 = 0) (hsm : out.length ≤ 900000) (hbl : bs.length ≤ 1000000) :
    Calls Tryz.prog 129 #[.pointer (some ⟨D, 0, none⟩), .pointer (some ⟨R, 0, none⟩)] w fun e w' => ∃ er, e = .returned (.int .i64 er) ∧ ItemW lo w D v (.bytes n) out bs R ao cap p er w' := by
  obtain ⟨i0, hi, hz0, hz1, hz2⟩ := info_parts info5
  obtain ⟨hlf, hn1, hn2⟩ := h.mode
  have hpl := h.rd.2.2.2.1
  have c8 := h.obj.c8
  rw [hlf] at c8
  obtain ⟨U, hU⟩ : ∃ U : Nat, (U : Int) = 8 * bs.length - p := ⟨8 * bs.length - p, by omega⟩
  have HL := Lib.hid (fun k => left_q (w.drewN k) R ao cap bs p U (h.rd.keptNo ((Kept.refl NoB w).drewN k)) hU)
  obtain ⟨qb, hqb⟩ : ∃ qb, p = 8 * qb := ⟨p / 8, by omega⟩
  obtain ⟨J, hJ⟩ : ∃ J, J = bs.length - qb := ⟨_, rfl⟩
  have hUJ : (U : Int) / 8 = (J : Int) := by omega
  have hUb : (U : Int) ≤ 8000000 := by omega
  obtain ⟨T, hT⟩ : ∃ T, T = min n J := ⟨_, rfl⟩
  have hmin : (if (J : Int) < (n : Int) then (J : Int) else (n : Int)) = (T : Int) := by
    rw [hT]; split <;> omega
  have hU8 : ¬ (U : Int) < 0 := by omega
  have H := Lib.hid h
  have HJ := Lib.hid hJ; have HT := Lib.hid hT; have HQ := Lib.hid hqb; have HLf := Lib.hid hlf; have HU := Lib.hid hU
  clear h hJ hT hqb hlf hU
  go_enter Tryz.func129, Tryz.ntmps129
  go_upto_region 1 with fail
  go_cut [5] from 9 to 16 (fun s wx => s = .int .i64 (T : Int) ∧ ∃ k, wx = w.drewN k)
  case first =>
    go_quiet ((go_at_call 125; with_reducible exact Calls.quiet_of (HL.out _)))
    go_wp2
    all_goals go_meet
    all_goals exact ⟨by have := HT.out; congr 1; omega, _, rfl⟩
  case rest =>
    obtain ⟨rfl, k0, hw⟩ := hcut
    have hkc : Kept NoB w wc := by rw [hw]; exact (Kept.refl _ _).drewN _
    have HKc := Lib.hid hkc
    clear hmin hUJ hUb hU8 c8 hw hkc
    by_cases h0 : T = 0
    · subst h0
      go_wp2
      go_ret
      refine ⟨2, rfl, H.out.fails hlo HKc.out (fun _ e => e.elim) (H.out.rd.keptNo HKc.out) 2 (by decide) ⟨0, .fin, false, [], ?_⟩⟩
      unfold ItemR
      dsimp only
      rw [if_pos (by have := HT.out; have := HJ.out; have := HQ.out; omega)]
    · have g0 : ((T : Int) == 0) = false := by simpa using h0
      have ho := H.out.obj.kept HKc.out (fun e => e)
      have c0 := ho.c0
      have c1 := ho.c1
      obtain ⟨ka, kc, hsk⟩ := own_shape H.out.sink.own
      rw [hsk] at c0
      have hfit := H.out.fit
      have hbig := H.out.big
      obtain ⟨q, hq⟩ : ∃ q : Nat, (q : Int) = (v.most : Int) - out.length := ⟨v.most - out.length, by omega⟩
      have HSl := Lib.hid (sleft_q wc D ka out.length kc v.most q c0 c1 hbig hfit hq)
      have HO := Lib.hid ho
      clear ho c0 c1
      obtain ⟨K, hK⟩ : ∃ K, K = min T q := ⟨_, rfl⟩
      have hmn : (if (q : Int) < (T : Int) then (q : Int) else (T : Int)) = (K : Int) := by rw [hK]; split <;> omega
      have HK := Lib.hid hK; have HQq := Lib.hid hq
      clear hK hq
      go_upto_region 4 with fail
      go_cut [6] from 19 to 24 (fun s wx => s = .int .i64 (K : Int) ∧ ∃ k, wx = wc.drewN k)
      case first =>
        go_wp2_with fail
        refine HSl.out.mono ?_
        rintro e w2 ⟨rfl, k2, rfl⟩
        go_wp2
        all_goals go_meet
        all_goals exact ⟨by have := HK.out; congr 1; omega, _, rfl⟩
      case rest =>
        obtain ⟨rfl, k2, hw2⟩ := hcut
        have hkd : Kept NoB w wc := by rw [hw2]; exact HKc.out.drewN _
        have HKd := Lib.hid hkd
        clear hw2 hkd hmn
        by_cases hK0 : K = 0
        · subst hK0
          go_wp2
          go_ret
          refine ⟨5, rfl, H.out.fails hlo HKd.out (fun _ e => e.elim) (H.out.rd.keptNo HKd.out) 5 (by decide) ⟨0, .fin, false, [], ?_⟩⟩
          unfold ItemR
          dsimp only
          have h1 := HT.out; have h2 := HJ.out; have h3 := HQ.out; have h4 := HK.out; have h5 := HQq.out
          rw [if_neg (by omega), if_pos (by omega)]
        · have gK : ((K : Int) == 0) = false := by simpa using hK0
          have h1 := HT.out; have h2 := HJ.out; have h3 := HQ.out; have h4 := HK.out; have h5 := HQq.out
          have hrdD := H.out.rd.keptNo HKd.out
          have hup : up8 p = p := by unfold up8; omega
          have HBy := Lib.hid (bytes_yes wc R ao cap bs p K hrdD (by omega) (by rw [hup]; omega))
          rw [hup] at HBy
          obtain ⟨xs, hxs⟩ : ∃ xs, xs = (bs.drop (p / 8)).take K := ⟨_, rfl⟩
          have hxl : xs.length = K := by rw [hxs, List.length_take, List.length_drop]; omega
          have hxa : AllB xs := by rw [hxs]; exact AllB.take (AllB.drop H.out.rd.2.2.2.2 _) _
          have HXs := Lib.hid hxs; have HXl := Lib.hid hxl; have HXa := Lib.hid hxa
          rw [← hxs] at HBy
          have hKb : K ≤ 65535 := by omega
          have hJb : K ≤ n := by omega
          have HAll := Lib.hid (show p = 8 * qb ∧ qb + K ≤ bs.length ∧ out.length + K ≤ v.most from by omega)
          clear h1 h2 h3 h4 h5 hrdD hup hxs hxl hxa
          go_wp2_with fail
          refine HBy.out.mono ?_
          rintro e w2 ⟨ba, bc, rfl, _, hrx, _, hr2, hk2⟩
          have HRx := Lib.hid hrx; have HR2 := Lib.hid hr2; have HK2 := Lib.hid hk2
          clear hrx hr2 hk2 HBy
          rw [HXl.out]
          have HI2 := Lib.hid ((H.out.moved hlo HKd.out (fun _ e => e.elim) (H.out.rd.keptNo HKd.out)).moved (Nat.le_trans hlo HKd.out.size) HK2.out (fun _ e => e) HR2.out)
          have hlo2 : lo ≤ w2.heap.size := by have := HKd.out.size; have := HK2.out.size; omega
          obtain ⟨wnd, hwn, hsx, hwl⟩ := HI2.out.win
          obtain ⟨wa, wk, hwv⟩ := own_shape hwn.own
          have d2 := HI2.out.obj.c2
          rw [hwv] at d2
          have HO2 : Hid (w2.ownsRow 0 5 1 (.slice wa wnd.length wk) wnd.length (wnd.map (.int .u8))) := by
            have := hwn.own
            rw [hwv] at this; exact this
          obtain ⟨M, hM⟩ : ∃ M, M = wnd.length := ⟨_, rfl⟩
          have HWn := Lib.hid hwn; have HSx := Lib.hid hsx; have HWv := Lib.hid hwv; have HM := Lib.hid hM
          rw [← hM] at d2 HO2 hwl
          obtain ⟨ad, rfl⟩ : ∃ ad, ba = some ad := by
            cases ba with
            | none => have := HRx.out.1 rfl; have := HXl.out; rw [HRx.out.1 rfl] at this; simp at this; omega
            | some ad => exact ⟨ad, rfl⟩
          have HNw := Lib.hid (reads_news HRx.out)
          clear hwn hsx hwv hM
          go_wp2_with (at_builtin; refine wpList_app _ rfl _ _ 22 rfl 5 i0 (.int .u8 0) 1 1 Tryz.underlying22 hi hz0 hz1 hz2 rfl (by decide) _ M (wnd.map (.int .u8)) rfl HO2.out ad K bc (xs.map (.int .u8)) rfl (by rw [List.length_map, HXl.out]; omega) HNw.out ?d2 ?d3 ?d4 ?_)
          case d2 => exact news_one xs
          case d3 => unfold maxLen; omega
          case d4 => omega
          intro v' w3 hown' hgrow hnew
          obtain ⟨ao', cap', rfl⟩ := own_shape hown'
          have HK3 : Hid (Kept (OwnB v.wn) w2 w3) := by
            rw [HWv.out, ← HM.out]
            exact (Kept.refl _ w2).grown hgrow (fun k _ h => h)
          obtain ⟨g, rfl⟩ : ∃ g, ao' = some ⟨g, 0, none⟩ := by
            rcases hown'.2 with ⟨_, hz⟩ | ⟨g, c, cur, hv, _⟩
            · omega
            · simp at hv; exact ⟨g, hv.1⟩
          have HPo := Lib.hid (HI2.out.putCalls (k := K) hlo2 HK3.out HWn.out HSx.out (by rw [← HM.out]; exact hwl) (x := xs) (g := g) (n := M + K) (c := cap') (by rw [List.map_append]; exact hown')
            (by rcases hnew g rfl with e | e
                · left; rw [HWv.out, ← HM.out]; exact e
                · right; omega) (by rw [HXl.out, ← HM.out]) HXl.out (K : Int) rfl (by omega) HXa.out HAll.out.2.2 (by omega) (by omega))
          clear hown' hgrow hnew d2
          go_wp2_with fail
          refine HPo.out.mono ?_
          rintro e w4 ⟨rfl, hk4, sk', wn', hI4⟩
          have d8 := hI4.obj.c8
          have f8 := hI4.obj.free 8
          simp only [HLf.out] at d8
          have ho5 := hI4.obj.setLf (((n - K : Nat) : Int))
          obtain ⟨w5, hw5⟩ : ∃ w5, w5 = w4.setCell ⟨D, 8, none⟩ (.int .i64 ((n - K : Nat) : Int)) := ⟨_, rfl⟩
          have hk5 : Kept (OneB D) w4 w5 := by rw [hw5]; exact Kept.setCell (S := OneB D) (p := ⟨D, 8, none⟩) (Kept.refl _ w4) (.inl rfl) _
          rw [← hw5] at ho5
          have d8' := ho5.c8
          simp only at d8'
          have HI4 := Lib.hid hI4; have HK4 := Lib.hid hk4; have HO5 := Lib.hid ho5; have HW5 := Lib.hid hw5; have HK5 := Lib.hid hk5
          have hlo4 : lo ≤ w4.heap.size := by have := hk4.size; omega
          have hnk : (n : Int) - (K : Int) = ((n - K : Nat) : Int) := by omega
          clear hI4 hk4 ho5 hw5 hk5 HPo
          have HAllK : Hid (Kept (LoB lo) w w4) := Lib.hid (((HKd.out.mono (fun _ _ e => e.elim)).trans (HK2.out.mono (fun k _ e => by unfold OneB at e; subst e; exact H.out.lowR))).trans HK4.out)
          obtain ⟨z, hz⟩ : ∃ z, z = n - K := ⟨_, rfl⟩
          rw [← hz] at hnk d8' HW5 HO5
          have HZ := Lib.hid hz
          clear hz
          go_upto_region 10 with fail
          rw [← HW5.out]
          have hst : Steps bs v.most p (.bytes n) v.la out (p + 8 * K) (if K = n then endM v.la else .bytes (n - K)) v.la (out ++ xs) := by
            obtain ⟨b1, b2, b3⟩ := HAll.out
            have := bytes_k (most := v.most) (last := v.la) (out := out) H.out.rd.2.2.2.2 K qb n hJb hn1 b2 b3
            have e1 : p / 8 = qb := by omega
            rw [HXs.out, e1]
            exact this.to (by omega) (by omega)
          have HSt := Lib.hid hst
          have hpk : p < p + 8 * K := by omega
          have hKr : Kept (OneB R) w4 w4 := Kept.refl _ _
          clear hst
          by_cases hz0 : z = 0
          · subst hz0
            have HE := Lib.hid (endBlock_any w5 D _ HO5.out)
            go_wp2_with fail
            refine HE.out.mono ?_
            rintro e w6 ⟨rfl, ho6, hk6⟩
            have HO6 := Lib.hid ho6; have HK6 := Lib.hid hk6
            clear ho6 hk6 HE
            go_wp2
            go_ret
            have hT := HI4.out.turn hlo4 hKr HI4.out.rd (HK5.out.trans HK6.out) HO6.out rfl rfl rfl rfl (m' := endM v.la) (endM_nx _).symm HI4.out.er (fun _ e => e) (fun _ e => .inl e) (by cases hla : v.la <;> trivial) (HI4.out.fixAt hKr (HK5.out.trans HK6.out) rfl rfl)
            refine ⟨0, rfl, HAllK.out.trans hT.2, _, _, _, _, _, hT.1, rfl, rfl, rfl, ⟨rfl, rfl, rfl⟩, ?_⟩
            rw [if_pos rfl]
            have hst := HSt.out
            rw [if_pos (by have := HZ.out; omega)] at hst
            exact ⟨hst, hpk⟩
          · have e8 : ((z : Int) == 0) = false := by simpa using hz0
            go_wp2
            go_ret
            have hz1 := HZ.out
            have hT := HI4.out.turn hlo4 hKr HI4.out.rd HK5.out HO5.out rfl rfl rfl rfl (m' := .bytes z) HI4.out.nx HI4.out.er (fun _ e => e) (fun _ e => .inl e) ⟨rfl, by omega, by omega⟩ (HI4.out.fixAt hKr HK5.out rfl rfl)
            refine ⟨0, rfl, HAllK.out.trans hT.2, _, _, _, _, _, hT.1, rfl, rfl, rfl, ⟨rfl, rfl, rfl⟩, ?_⟩
            rw [if_pos rfl]
            have hst := HSt.out
            rw [if_neg (by omega), ← hz1] at hst
            exact ⟨hst, hpk⟩
end Go.Proofs.YtfmjfgmbjdhogaaGreatDoor

namespace Go.Proofs.YtfmjfgmbjdhogaaGreatDoor
open Go.RowKit
set_option linter.unusedVariables false
set_option linter.unusedSimpArgs false

set_option maxRecDepth 20000 in
set_option maxHeartbeats 8000000 in
theorem put_copy {lo : Nat} {w : World} {D : Nat} {v : IV} {m : Md} {out bs : List Int} {S : Nat → Prop} {R : Nat} {ao : Option Addr} {cap p : Nat} (h : InfS lo w D v m out bs S R ao cap p) (hlo : lo ≤ w.heap.size) (L Dd : Nat) (hL : 3 ≤ L ∧ L ≤ 258) (hDd : 1 ≤ Dd ∧ Dd ≤ 32768) (hsm : out.length ≤ 900000) :
    Calls Tryz.prog 160 #[.pointer (some ⟨D, 0, none⟩), .agg #[.int .i64 (L : Int), .int .i64 (Dd : Int), .int .u8 0]] w fun e w' => ∃ er, e = .returned (.int .i64 er) ∧ PtR lo w D v m out bs S R ao cap p ⟨(L : Int), (Dd : Int), 0⟩ er w' := by
  obtain ⟨i0, hi, hz0, hz1, hz2⟩ := info_parts info5
  have hk : Kept NoB w (w.alloc (.cells #[.int .i64 (L : Int), .int .i64 (Dd : Int), .int .u8 0] 101)) := (Kept.refl _ _).alloc _
  have hload : ∀ W : World, W.heap[w.heap.size]? = some (.cells #[.int .i64 (L : Int), .int .i64 (Dd : Int), .int .u8 0] 101 (0, 0)) → W.cell? ⟨w.heap.size, 0, none⟩ = some (.int .i64 (L : Int)) ∧ W.cell? ⟨w.heap.size, 1, none⟩ = some (.int .i64 (Dd : Int)) ∧ W.cell? ⟨w.heap.size, 2, none⟩ = some (.int .u8 0) := fun W hk =>
    ⟨by rw [obj_cell hk 0]; rfl, by rw [obj_cell hk 1]; rfl, by rw [obj_cell hk 2]; rfl⟩
  obtain ⟨a0, a1, a2⟩ := hload _ (heap_alloc_new w _)
  have HLoad := Lib.hid hload; clear hload
  obtain ⟨wnd, hwn, hsx, hwl⟩ := h.win
  obtain ⟨ka, kc, hsk⟩ := own_shape h.sink.own
  obtain ⟨wa, wc, hwv⟩ := own_shape hwn.own
  obtain ⟨W, hW⟩ : ∃ W, W = w.alloc (.cells #[.int .i64 (L : Int), .int .i64 (Dd : Int), .int .u8 0] 101) := ⟨_, rfl⟩
  rw [← hW] at hk a0 a1 a2
  have ho := h.obj.kept hk (fun e => e)
  have c0 := ho.c0
  have c1 := ho.c1
  have c2 := ho.c2
  rw [hsk] at c0
  rw [hwv] at c2
  obtain ⟨q, hq⟩ : ∃ q : Nat, (q : Int) = (v.most : Int) - out.length := ⟨v.most - out.length, by have := h.fit; omega⟩
  have HLen := Lib.hid (fun n => slen_q (W.drewN n) D ka out.length kc c0)
  have HLeft := Lib.hid (fun n => sleft_q (W.drewN n) D ka out.length kc v.most q c0 c1 h.big h.fit hq)
  have hfit := h.fit
  have hbig := h.big
  obtain ⟨N, hN⟩ : ∃ N, N = out.length := ⟨_, rfl⟩
  obtain ⟨Mx, hMx⟩ : ∃ Mx, Mx = v.most := ⟨_, rfl⟩
  have H := Lib.hid h; have HK := Lib.hid hk; have HWn := Lib.hid hwn; have HSx := Lib.hid hsx; have HSk := Lib.hid hsk; have HWv := Lib.hid hwv
  rw [← hN] at hsm hfit hq HLen c0
  rw [← hMx] at hfit hbig hq c1
  clear h hk hwn hsx hsk hwv ho
  have HN := Lib.hid hN; have HMx := Lib.hid hMx
  obtain ⟨hL1, hL2⟩ := hL
  obtain ⟨hD1, hD2⟩ := hDd
  have hpl : (Tk.put ⟨(L : Int), (Dd : Int), 0⟩ out).length = N + L := by
    rw [put_len, hN]
    simp only
    rw [if_neg (by omega)]; simp
  have HPl := Lib.hid hpl
  clear hN hMx hpl
  go_enter Tryz.func160, Tryz.ntmps160
  have hmx : (if (L : Int) < 1 then (1 : Int) else (L : Int)) = (L : Int) := by rw [if_neg (by omega)]
  have hL0 : ¬ (L : Int) < 1 := by omega
  by_cases hdd : N < Dd
  · have hdd' : (N : Int) < (Dd : Int) := by omega
    go_upto_region 2 with fail
    rw [← hW]
    have HW := Lib.hid hW; clear hW
    go_quiet ((go_at_call 178; with_reducible exact Calls.quiet_of (HLen.out _)))
    go_wp2
    go_ret
    refine ⟨4, rfl, ?_⟩
    unfold PtR
    rw [if_pos (by rw [← HN.out]; simpa using hdd)]
    exact ⟨rfl, HK.out.drewN _⟩
  · have hdd' : ¬ (N : Int) < (Dd : Int) := by omega
    go_upto_region 2 with fail
    rw [← hW]
    have HW := Lib.hid hW; clear hW
    go_quiet ((go_at_call 178; with_reducible exact Calls.quiet_of (HLen.out _)))
    go_wp2_with fail
    refine (HLeft.out _).mono ?_
    rintro e w2 ⟨rfl, k2, rfl⟩
    by_cases hq0 : q < L
    · have hq0' : (q : Int) < (L : Int) := by omega
      go_wp2
      go_ret
      refine ⟨5, rfl, ?_⟩
      unfold PtR
      rw [if_neg (by rw [← HN.out]; simpa using hdd), if_pos (by rw [HPl.out, ← HMx.out]; omega)]
      exact ⟨rfl, HK.out.drewN _⟩
    · have hq1 : ¬ (q : Int) < (L : Int) := by omega
      obtain ⟨W2, hW2⟩ : ∃ W2, W2 = (W.drewN nq).drewN k2 := ⟨_, rfl⟩
      have HK2 : Hid (Kept NoB w W2) := by rw [hW2]; exact (HK.out.drewN _).drewN _
      have HBx : Hid (W2.heap[w.heap.size]? = some (.cells #[.int .i64 (L : Int), .int .i64 (Dd : Int), .int .u8 0] 101 (0, 0))) := by rw [hW2]; show W.heap[w.heap.size]? = _; rw [HW.out]; exact heap_alloc_new _ _
      have b0 : W2.cell? ⟨w.heap.size, 0, none⟩ = some (.int .i64 (L : Int)) := by rw [hW2]; exact a0
      have d2 : W2.cell? ⟨D, 2, none⟩ = some (.slice wa wnd.length wc) := by rw [hW2]; exact c2
      rw [← hW2]
      clear a0 a1 a2 c0 c1 c2 hW2
      have HO2 : Hid (W2.ownsRow 0 5 1 (.slice wa wnd.length wc) wnd.length (wnd.map (.int .u8))) := by
        have := HK2.out.row HWn.out.own (fun _ _ h => h)
        rw [HWv.out] at this; exact this
      have hdw : Dd ≤ wnd.length := by
        rcases HSx.out.2 with e | e
        · rw [e, ← HN.out]; omega
        · omega
      have hLz : ((L : Int) == 0) = false := by simp; omega
      have hlnF := Lib.hid (fun j => copyN_len Dd j wnd)
      obtain ⟨Wl, hWl⟩ : ∃ Wl, Wl = wnd.length := ⟨_, rfl⟩
      have hwl2 : Wl < 98304 := by rw [hWl]; exact hwl
      have hdw2 : Dd ≤ Wl := by rw [hWl]; exact hdw
      have HWl := Lib.hid hWl; have HHwl := Lib.hid hwl
      clear hwl hdw
      rw [← hWl] at d2
      clear hWl
      go_wp2_with fail
      go_loopw [6, 39] (fun u i wr => ∃ (j : Nat) (ao' : Option Addr) (cap' : Nat), j ≤ L ∧ i = .int .i64 j ∧ u = .slice ao' (Wl + j) cap' ∧ Hid (wr.ownsRow 0 5 1 (.slice ao' (Wl + j) cap') (Wl + j) ((copyN Dd j wnd).map (.int .u8))) ∧
        Hid (Kept (OwnB v.wn) W2 wr) ∧ Hid (∀ k, (Value.slice ao' (Wl + j) cap').ownBlock = some k → v.wn.ownBlock = some k ∨ W2.heap.size ≤ k)) (fun _ i _ => L - (intOf i).toNat)
      case atStart => exact ⟨0, wa, wc, by omega, rfl, rfl, by rw [HWl.out]; exact HO2.out, Kept.refl _ _, fun k hk => .inl (by rw [HWv.out, ← HWl.out]; exact hk)⟩
      case round =>
        obtain ⟨j, ao', cap', hj, rfl, rfl, HOwn, HKr, HNw⟩ := hrel
        by_cases hlt : (j : Int) < L
        · obtain ⟨g, rfl⟩ : ∃ g, ao' = some ⟨g, 0, none⟩ := by
            rcases HOwn.out.2 with ⟨_, hz⟩ | ⟨g, c, cur, hv, _⟩
            · omega
            · simp at hv; exact ⟨g, hv.1⟩
          obtain ⟨xs, hxs⟩ : ∃ xs, xs = copyN Dd j wnd := ⟨_, rfl⟩
          have hlen : xs.length = Wl + j := by rw [hxs, hlnF.out, HWl.out]
          obtain ⟨q', hq'⟩ : ∃ q', q' = Wl + j - Dd := ⟨_, rfl⟩
          have hsub : ((Wl + j : Nat) : Int) - (Dd : Int) = (q' : Int) := by omega
          have hsub2 : (Wl : Int) + (j : Int) - (Dd : Int) = (q' : Int) := by omega
          have hql : q' < Wl + j := by omega
          have hqw : IntKind.i64.wrap (q' : Int) = q' := IntWalk.i64_in _ (by omega)
          have hcz : wr.cell? ⟨g, q', none⟩ = some (.int .u8 (xs.getD q' 0)) := by
            have := HOwn.out.cellAt q' (by omega)
            rw [this, ← hxs]; simp [List.getD, show q' < xs.length by omega]
          have hsucc : copyN Dd (j + 1) wnd = xs ++ [xs.getD q' 0] := by rw [hxs]; show _ ++ [_] = _; rw [← hxs, hlen, hq']
          have hbx : wr.heap[w.heap.size]? = _ := HKr.out.obj HBx.out (fun e => by have := own_lt HWn.out.own _ e; omega)
          obtain ⟨a0', a1', a2'⟩ := HLoad.out wr hbx
          have HS := Lib.hid hsucc
          rw [← hxs] at HOwn
          generalize hz : xs.getD q' 0 = z at hcz HS
          have HHl := Lib.hid hlen
          clear hz hq' hsucc hxs hbx b0 hlen
          have hwj : Wl + j ≤ 100000 := by omega
          obtain ⟨n, hn'⟩ : ∃ n, n = Wl + j := ⟨_, rfl⟩
          rw [← hn'] at hsub hql hwj HOwn HNw ⊢
          have hsub3 : (n : Int) - (Dd : Int) = (q' : Int) := by omega
          have HN' := Lib.hid hn'
          clear hn' hsub hsub2
          go_wp2_with (at_builtin; refine wpList_app _ rfl _ _ 22 rfl 5 i0 (.int .u8 0) 1 1 Tryz.underlying22 hi hz0 hz1 hz2 rfl (by decide) _ n (xs.map (.int .u8)) rfl (HOwn.out.alloc _) ⟨wr.heap.size, 0, none⟩ 1 1 [.int .u8 z] rfl rfl (cell_one_new _ _ _) ?d2 ?d3 ?d4 ?_)
          case d2 => first | rfl | (intro u hu; simp at hu; subst hu; rfl)
          case d3 => unfold maxLen; omega
          case d4 => omega
          intro v' w3 hown' hgrow hnew
          obtain ⟨ao2, cap2, rfl⟩ := own_shape hown'
          have HG := Lib.hid hgrow; have HNew := Lib.hid hnew; have HOwn2 := Lib.hid hown'
          clear hgrow hnew hown'
          go_wp2
          go_roundw
          case rel =>
            have e : Wl + (j + 1) = n + 1 := by rw [HN'.out]; omega
            refine ⟨j + 1, ao2, cap2, by omega, by go_num, by rw [e], ?_, ?_, ?_⟩
            · rw [e, HS.out, List.map_append]; exact HOwn2.out
            · exact ((HKr.out).alloc _).grown HG.out (fun k hk e2 => by
                rcases HNw.out k e2 with e3 | e3
                · exact e3
                · omega)
            · rw [e]
              intro k hk
              rcases HNew.out k hk with e2 | e2
              · exact HNw.out k e2
              · right
                have h2 := HKr.out.size
                omega
          case measure => simp [intOf]; omega
        · have hjl : j = L := by omega
          subst hjl
          obtain ⟨x, hx, hxl⟩ := copyN_ex Dd j wnd
          have hcp : copyN Dd j out = out ++ x := by
            obtain ⟨⟨pre, e⟩, _⟩ := HSx.out
            rw [e, copyN_app Dd j pre wnd hD1 (by rw [← HWl.out]; exact hdw2), hx, List.append_assoc]
          have hput : Tk.put ⟨(j : Int), (Dd : Int), 0⟩ out = out ++ x := by
            unfold Tk.put
            rw [if_neg (by simp only; omega)]
            simpa using hcp
          obtain ⟨g, rfl⟩ : ∃ g, ao' = some ⟨g, 0, none⟩ := by
            rcases HOwn.out.2 with ⟨_, hz⟩ | ⟨g, c, cur, hv, _⟩
            · omega
            · simp at hv; exact ⟨g, hv.1⟩
          have hxa : AllB x := by
            have h0 := copyN_all Dd j out H.out.all
            rw [hcp] at h0
            exact fun b hb => h0 b (List.mem_append_right _ hb)
          have HP := Lib.hid (H.out.putCalls (k := j) hlo ((HK2.out.mono (fun _ _ e => e.elim)).trans HKr.out) HWn.out HSx.out HHwl.out (x := x) (g := g) (n := Wl + j) (c := cap') (by rw [← hx]; exact HOwn.out)
            (by rcases HNw.out g rfl with e | e
                · exact .inl e
                · right; have := HK2.out.size; omega) (by rw [hxl, HWl.out]) hxl (j : Int) rfl (by omega) hxa (by rw [← HN.out, ← HMx.out]; omega) (by rw [← HN.out]; omega) (by omega))
          have HPt := Lib.hid hput
          clear hx hxl hcp hput hxa
          go_wp2_with fail
          refine HP.out.mono ?_
          rintro e w4 ⟨rfl, hk4, sk', wn', hI⟩
          have HI := Lib.hid hI; have HK4 := Lib.hid hk4
          clear hI hk4
          go_wp2
          go_ret
          refine ⟨0, rfl, ?_⟩
          unfold PtR
          rw [if_neg (by rw [← HN.out]; simpa using hdd), if_neg (by rw [HPl.out, ← HMx.out]; omega), HPt.out]
          exact ⟨rfl, HK4.out, sk', wn', HI.out⟩
end Go.Proofs.YtfmjfgmbjdhogaaGreatDoor
