/-
  huff.Lengths at any weights.
  Package-merge on paper: how many leaves of each row are chosen; the lengths that come of it are a whole code's.
-/
import Derived.Test.YtdpegahcgaicnaaGreatDoorMf8
namespace Go.Proofs.YtdpegahcgaicnaaGreatDoor
open Go.RowKit
set_option linter.unusedVariables false
set_option linter.unusedSimpArgs false

set_option maxRecDepth 20000 in
set_option maxHeartbeats 1000000 in
theorem leaves_bad (a : Option Addr) (c B : Nat) (ws : List Int) (w : World) (hr : RdI w B a ws) (hb : ¬ Small 1000000 ws) (hl : ws.length ≤ 320) :
    Calls Tryz.prog 96 #[.slice a ws.length c] w fun e w' => e = .returned (.tuple #[.slice none 0 0, .bool false]) ∧ Kept NoB w w' := by
  have HR := Lib.hid hr; have HB := Lib.hid hb; have HI := Lib.hid True.intro
  obtain ⟨i0, hi, hz0, hz1, hz2⟩ := info_parts infoLf
  obtain ⟨R, hR⟩ : ∃ R, R = leavesL 0 ws := ⟨_, rfl⟩
  have HRe := Lib.hid hR
  obtain ⟨n, hn⟩ : ∃ n, n = ws.length := ⟨_, rfl⟩
  have HN := Lib.hid hn
  rw [← hn] at hl ⊢
  clear hr hb hR hn
  go_enter Tryz.func96, Tryz.ntmps96
  go_wp2
  go_loopw [9, 4, 5, 6] (fun v9 v4 _v5 _v6 wr => ∃ (j : Nat) (rs : List (Int × Int)) (a4 : Option Addr) (l4 c4 : Nat), v9 = .int .i64 (j : Int) ∧ v4 = .slice a4 l4 c4 ∧ j ≤ n ∧ l4 ≤ j ∧ Hid (l4 = rs.length) ∧ Hid (LfSt w wr a4 c4 rs) ∧ Hid (∀ t, t < j → 0 ≤ ws.getD t 0 ∧ ws.getD t 0 ≤ 1000000)) (fun v9 _ _ _ _ => n - (intOf v9).toNat)
  case atStart => exact ⟨0, [], none, 0, 0, rfl, rfl, by omega, by omega, Lib.hid rfl, Lib.hid ⟨World.ownsRow_nil _ _ _ _, Kept.refl _ _, fun k hk => by simp [Value.ownBlock] at hk⟩, Lib.hid (fun t ht => by omega)⟩
  case round =>
    obtain ⟨j, rs, a4, l4, c4, rfl, rfl, hj, hl4, HL4, HS, HX⟩ := hrel
    by_cases hlt : (j : Int) < n
    · obtain ⟨g, off, rfl, _, hc0⟩ := HR.out j (by have := HN.out; omega)
      have hc := HS.out.kept.cell hc0
      obtain ⟨z, hz⟩ : ∃ z, z = ws.getD j 0 := ⟨_, rfl⟩
      rw [← hz] at hc
      have HZ := Lib.hid hz
      clear hz hc0
      have hcs : z < 0 ∨ (¬ z < 0 ∧ 1000000 < z) ∨ (¬ z < 0 ∧ ¬ 1000000 < z) := by omega
      rcases hcs with h1 | ⟨h1, h2⟩ | ⟨h1, h2⟩
      · go_wp2
        go_ret2
        exact ⟨rfl, HS.out.kept⟩
      · go_wp2
        go_ret2
        exact ⟨rfl, HS.out.kept⟩
      have hx2 : ∀ t, t < j + 1 → 0 ≤ ws.getD t 0 ∧ ws.getD t 0 ≤ 1000000 := by
        intro t ht
        by_cases e : t = j
        · subst e; rw [← HZ.out]; omega
        · exact HX.out t (by omega)
      have HX2 := Lib.hid hx2
      clear hx2
      by_cases hz0' : 0 < z
      · have hrow := HS.out.own
        unfold OwnL at hrow
        rw [← HL4.out] at hrow
        have HRow := Lib.hid (hrow.alloc (.cells #[.int .i64 (j : Int), .int .i64 z] 148)); have HNw := Lib.hid (news_lf wr (j : Int) z)
        clear hrow
        go_wp2_with (at_builtin; refine wpList_app _ rfl _ _ 144 rfl 148 i0 (.agg #[.int .i64 0, .int .i64 0]) 2 16 Tryz.underlying144 hi hz0 hz1 hz2 rfl (by decide) _ l4 (lcells rs) rfl HRow.out ⟨wr.heap.size, 0, none⟩ 1 1 [.int .i64 (j : Int), .int .i64 z] rfl rfl HNw.out ?d2 ?d3 ?d4 ?_)
        case d2 => first | rfl | (intro u hu; simp at hu; rcases hu with rfl | rfl <;> rfl) | (simp [Value.oneCell'])
        case d3 => unfold maxLen; omega
        case d4 => omega
        intro v' w2 hown' hgrow hnew
        obtain ⟨a2, c2, rfl⟩ := own_shape2 hown'
        have HSt := Lib.hid (HS.out.app HL4.out hown' hgrow hnew)
        clear hown' hgrow hnew
        go_wp2
        go_roundw
        case rel => exact ⟨j + 1, rs ++ [((j : Int), z)], a2, l4 + 1, c2, by go_num, rfl, by omega, by omega, Lib.hid (by rw [HL4.out]; simp), HSt, HX2⟩
        case measure => simp [intOf]; omega
      · go_wp2
        go_roundw
        case rel => exact ⟨j + 1, rs, a4, l4, c4, by go_num, rfl, by omega, by omega, HL4, HS, HX2⟩
        case measure => simp [intOf]; omega
    · refine (HB.out ?_).elim
      intro z hz
      obtain ⟨t, ht, rfl⟩ := List.mem_iff_getElem.1 hz
      have := HX.out t (by have := HN.out; omega)
      simpa [List.getD, ht] using this

/-- The lengths of a row of n weights whose leaves in order are lv. -/
def lensOf (lv : List Lf) (n limit : Nat) : List Int :=
  if lv.length = 0 then List.replicate n 0 else if lv.length = 1 then (List.replicate n 0).set (lv.getD 0 (0, 0)).1.toNat 1 else addL (lv.map (·.2)) (placesN lv) limit (2 * lv.length - 2) (List.replicate n 0)

set_option maxRecDepth 20000 in
set_option maxHeartbeats 1000000 in
theorem lens_over (a : Option Addr) (c B : Nat) (ws : List Int) (limit M : Nat) (w : World) (hr : RdI w B a ws) (hb : Small 1000000 ws) (hl : ws.length ≤ 320) (hlim : 1 ≤ limit ∧ limit ≤ 15)
    (hM : wrap64 ((2 : Int) ^ limit) = (M : Int)) (h : M < (leavesL 0 ws).length) :
    Calls Tryz.prog 71 #[.slice a ws.length c, .int .i64 (limit : Int)] w fun e w' => e = .returned (.tuple #[.slice none 0 0, .int .i64 1]) ∧ Kept NoB w w' := by
  have HV := Lib.hid (leaves_any a c B ws w hr hb hl)
  obtain ⟨n, hn⟩ : ∃ n, n = ws.length := ⟨_, rfl⟩
  obtain ⟨L, hL⟩ : ∃ L, L = (leavesL 0 ws).length := ⟨_, rfl⟩
  obtain ⟨h1, h2⟩ := hlim
  rw [← hn] at hl HV ⊢
  have HLe := Lib.hid hL
  rw [← hL] at h
  clear hL
  clear hr hb hn
  go_enter Tryz.func71, Tryz.ntmps71
  go_wp2_with fail
  refine HV.out.mono ?_
  rintro e w1 ⟨a1, c1, S, rfl, hsp, hst⟩
  have HK := Lib.hid hst.kept
  have hsl := hsp.len
  rw [← HLe.out] at hsl
  rw [hsl]
  clear hst HV hsp hsl
  go_wp2
  go_ret2
  exact ⟨rfl, HK.out⟩

set_option maxRecDepth 20000 in
set_option maxHeartbeats 1000000 in
theorem lens_many (a : Option Addr) (c B : Nat) (ws : List Int) (limit M : Nat) (w : World) (hr : RdI w B a ws) (hb : Small 1000000 ws) (hl : ws.length ≤ 320) (hlim : 1 ≤ limit ∧ limit ≤ 15)
    (hM : wrap64 ((2 : Int) ^ limit) = (M : Int)) (hM2 : M = 2 ^ limit) (h : (leavesL 0 ws).length ≤ M) (h2 : 2 ≤ (leavesL 0 ws).length) :
    Calls Tryz.prog 71 #[.slice a ws.length c, .int .i64 (limit : Int)] w fun e w' => ∃ lv, SrtP lv (leavesL 0 ws) ∧ LensP w (lensOf lv ws.length limit) e w' := by
  have HV := Lib.hid (leaves_any a c B ws w hr hb hl)
  have hok := leaves_ok ws 0 hb
  have hlen := leaves_len ws 0
  obtain ⟨lv0, hlv0⟩ : ∃ lv0, lv0 = leavesL 0 ws := ⟨_, rfl⟩
  rw [← hlv0] at HV hok h h2 hlen ⊢
  obtain ⟨n, hn⟩ : ∃ n, n = ws.length := ⟨_, rfl⟩
  rw [← hn] at hl HV hlen hok ⊢
  have HOk0 := Lib.hid hok
  obtain ⟨L, hL⟩ : ∃ L, L = lv0.length := ⟨_, rfl⟩
  rw [← hL] at h h2 hlen
  have HL0 := Lib.hid hL
  obtain ⟨h3, h4⟩ := hlim
  have HM2 := Lib.hid hM2
  obtain ⟨i0, hi, hz0, hz1, hz2⟩ := info_parts infoI
  have q1 : ((L : Int) == 0) = false := by simp; omega
  have q2 : ((L : Int) == 1) = false := by simp; omega
  have q3 : ¬ L = 0 := by omega
  have q4 : ¬ L = 1 := by omega
  clear hr hb hn hL hok hlv0 hM2
  go_enter Tryz.func71, Tryz.ntmps71
  go_wp2_with fail
  refine HV.out.mono ?_
  rintro e w1 ⟨a1, c1, lv, rfl, hsp, hst⟩
  have hLl : L = lv.length := by rw [HL0.out, hsp.len]
  have hok2 : ∀ p ∈ lv, (0 ≤ p.2 ∧ p.2 ≤ 1048576) ∧ ∃ q : Nat, p.1 = (q : Int) ∧ q < 0 + n := fun p hp => HOk0.out p (hsp.perm.mem_iff.1 hp)
  rw [← hLl]
  have HL := Lib.hid hLl; have HOk := Lib.hid hok2; have HSp := Lib.hid hsp
  have HS := Lib.hid hst
  obtain ⟨Z, hZ⟩ : ∃ Z, Z = lensOf lv n limit := ⟨_, rfl⟩
  have hmn : lensOf lv n limit = addL (lv.map (·.2)) (placesN lv) limit (2 * L - 2) (List.replicate n 0) := by
    unfold lensOf
    rw [if_neg (by omega), if_neg (by omega), hLl]
  rw [← hZ] at hmn
  have HMn := Lib.hid hmn; have HZe := Lib.hid hZ
  clear hst HV hLl hok2 hsp hmn hZ
  go_wp2_with (at_make; refine wpList_make_full _ rfl _ _ _ rfl 0 3 i0 (.int .i64 0) 1 Tryz.underlying23 hi hz0 hz1 .i64 .i64 _ _ n rfl rfl rfl rfl (by rw [hz2]; omega) (by unfold maxLen; omega) (Nat.zero_le _) ?_)
  intro w2 hown hgrow
  rw [toList_madeCells_one] at hown
  have hk12 : Kept NoB w1 w2 := (Kept.refl _ _).grown hgrow (fun k _ e => by cases e)
  have hz : w2.ownsRow 0 3 1 (.slice (some ⟨w1.heap.size, 0, none⟩) (List.replicate n (0 : Int)).length (List.replicate n (0 : Int)).length) (List.replicate n (0 : Int)).length ((List.replicate n (0 : Int)).map (.int .i64)) := by
    rw [List.length_replicate, List.map_replicate]; exact hown
  have hps : lv.map (·.1) = (placesN lv).map (fun p : Nat => (p : Int)) := by
    unfold placesN
    rw [List.map_map]
    apply List.map_congr_left
    intro p hp
    obtain ⟨_, q, hq, _⟩ := HOk.out p hp
    simp only [Function.comp]
    omega
  have hcap := own_cap2 HS.out.own
  have hadd := addL_calls a1 c1 w1.heap.size w1.heap.size (List.replicate n 0) lv (lv.map (·.2)) (placesN lv) limit w2 rfl hps hz (HS.out.own.reads.kept hk12) (Nat.le_refl _) (fun p hp => (HOk.out p hp).1)
    (by rw [← HL.out]; exact h2) (by rw [← HL.out]; omega) (by rw [← HL.out, ← HM2.out]; exact h) ⟨h3, h4⟩ hcap
    (fun p hp => by
      obtain ⟨x, hx, rfl⟩ := List.mem_map.1 hp
      obtain ⟨_, q, hq, hq2⟩ := HOk.out x hx
      rw [List.length_replicate]
      omega)
    (fun z hz => by have := List.eq_of_mem_replicate hz; omega)
  rw [← HL.out, ← HMn.out, List.length_replicate] at hadd
  have HAdd := Lib.hid hadd
  have hzl : Z.length = n := by rw [HMn.out, addL_len, List.length_replicate]
  have HZl := Lib.hid hzl
  have HK2 := Lib.hid (HS.out.kept.trans hk12)
  have hw1 := HS.out.kept.size
  have HW1 := Lib.hid hw1
  obtain ⟨G, hG⟩ : ∃ G, G = w1.heap.size := ⟨_, rfl⟩
  rw [← hG] at HAdd HW1 ⊢
  clear hadd hzl hown hgrow hk12 hz hps hcap hw1 hG
  go_wp2_with fail
  refine HAdd.out.mono ?_
  rintro e w3 ⟨rfl, ho, hk⟩
  have HO := Lib.hid ho; have HK := Lib.hid hk
  clear ho hk HAdd
  go_wp2
  go_ret2
  refine ⟨lv, HSp.out, ?_⟩
  rw [← HZe.out]
  exact ⟨some ⟨G, 0, none⟩, n, by rw [HZl.out]; rfl, by rw [HZl.out]; exact HO.out, HK2.out.trans' HK.out (fun k hk e => by have := HW1.out; omega)⟩

set_option maxRecDepth 20000 in
set_option maxHeartbeats 1000000 in
theorem lens_one (a : Option Addr) (c B : Nat) (ws : List Int) (limit M p : Nat) (x : Int) (w : World) (hr : RdI w B a ws) (hb : Small 1000000 ws) (hl : ws.length ≤ 320) (hlim : 1 ≤ limit ∧ limit ≤ 15)
    (hM : wrap64 ((2 : Int) ^ limit) = (M : Int)) (hM2 : 1 ≤ M) (h : leavesL 0 ws = [((p : Int), x)]) (hp : p < ws.length) :
    Calls Tryz.prog 71 #[.slice a ws.length c, .int .i64 (limit : Int)] w (LensP w ((List.replicate ws.length 0).set p 1)) := by
  have hv := leaves_any a c B ws w hr hb hl
  rw [h] at hv
  have hv2 := hv.mono (R' := fun e w' => ∃ a' c', e = .returned (.tuple #[.slice a' 1 c', .bool true]) ∧ LfSt w w' a' c' [((p : Int), x)]) (by
    rintro e w' ⟨a', c', S, rfl, hsp, hst⟩
    have hS : S = [((p : Int), x)] := List.perm_singleton.1 hsp.perm
    subst hS
    exact ⟨a', c', rfl, hst⟩)
  have HV := Lib.hid hv2
  clear hv hv2
  obtain ⟨n, hn⟩ : ∃ n, n = ws.length := ⟨_, rfl⟩
  rw [← hn] at hl HV hp ⊢
  obtain ⟨h3, h4⟩ := hlim
  obtain ⟨i0, hi, hz0, hz1, hz2⟩ := info_parts infoI
  clear hr hb hn h
  go_enter Tryz.func71, Tryz.ntmps71
  go_wp2_with fail
  refine HV.out.mono ?_
  rintro e w1 ⟨a1, c1, rfl, hst⟩
  have HS := Lib.hid hst
  clear hst HV
  go_wp2_with (at_make; refine wpList_make_full _ rfl _ _ _ rfl 0 3 i0 (.int .i64 0) 1 Tryz.underlying23 hi hz0 hz1 .i64 .i64 _ _ n rfl rfl rfl rfl (by rw [hz2]; omega) (by unfold maxLen; omega) (Nat.zero_le _) ?_)
  intro w2 hown hgrow
  rw [toList_madeCells_one] at hown
  have hk12 : Kept NoB w1 w2 := (Kept.refl _ _).grown hgrow (fun k _ e => by cases e)
  obtain ⟨g, off, rfl, hgB, hc0, _⟩ := HS.out.own.reads 0 (by simp)
  have hc1 := hk12.cell hc0
  simp only [Nat.zero_mul, Nat.add_zero, List.getD_cons_zero] at hc1
  have hcell : w2.cell? ⟨w1.heap.size, p, none⟩ = some (.int .i64 0) := by
    rw [hown.cellAt p (by omega)]; simp [hp]
  have hfz := hown.frozenAt p
  obtain ⟨s1, s2⟩ := hown.stored p (.int .i64 1)
  have hset : (List.replicate n (Value.int .i64 0)).set p (.int .i64 1) = ((List.replicate n (0 : Int)).set p 1).map (Value.int .i64) := by
    rw [List.map_set, List.map_replicate]
  rw [hset] at s1
  have HK2 := Lib.hid (HS.out.kept.trans hk12)
  have hk2 := (Kept.refl (fun k => k = w1.heap.size) w2).grown s2 (fun k _ e => (Option.some.inj e).symm)
  have HK3 := Lib.hid (HK2.out.trans' hk2 (fun k hk e => by have := HS.out.kept.size; omega))
  have HO := Lib.hid s1
  have hpn : (p : Int) < (n : Int) := by omega
  clear hset s1 s2 hk2 hk12 hown hgrow hc0 hgB
  obtain ⟨G, hG⟩ : ∃ G, G = w1.heap.size := ⟨_, rfl⟩
  rw [← hG] at hcell hfz HK3 HO ⊢
  clear hG
  go_wp2
  go_ret2
  exact ⟨some ⟨G, 0, none⟩, n, by simp, by simpa using HO.out, HK3.out⟩

set_option maxRecDepth 20000 in
set_option maxHeartbeats 1000000 in
theorem lens_none (a : Option Addr) (c B : Nat) (ws : List Int) (limit M : Nat) (w : World) (hr : RdI w B a ws) (hb : Small 1000000 ws) (hl : ws.length ≤ 320) (hlim : 1 ≤ limit ∧ limit ≤ 15)
    (hM : wrap64 ((2 : Int) ^ limit) = (M : Int)) (hM2 : 1 ≤ M) (h : leavesL 0 ws = []) :
    Calls Tryz.prog 71 #[.slice a ws.length c, .int .i64 (limit : Int)] w (LensP w (List.replicate ws.length 0)) := by
  have hv := leaves_any a c B ws w hr hb hl
  rw [h] at hv
  have hv2 := hv.mono (R' := fun e w' => ∃ a' c', e = .returned (.tuple #[.slice a' 0 c', .bool true]) ∧ LfSt w w' a' c' []) (by
    rintro e w' ⟨a', c', S, rfl, hsp, hst⟩
    have hS : S = [] := List.perm_nil.1 hsp.perm
    subst hS
    exact ⟨a', c', rfl, hst⟩)
  have HV := Lib.hid hv2
  clear hv hv2
  obtain ⟨n, hn⟩ : ∃ n, n = ws.length := ⟨_, rfl⟩
  rw [← hn] at hl HV ⊢
  obtain ⟨h3, h4⟩ := hlim
  obtain ⟨i0, hi, hz0, hz1, hz2⟩ := info_parts infoI
  clear hr hb hn h
  go_enter Tryz.func71, Tryz.ntmps71
  go_wp2_with fail
  refine HV.out.mono ?_
  rintro e w1 ⟨a1, c1, rfl, hst⟩
  have HS := Lib.hid hst
  clear hst HV
  go_wp2_with (at_make; refine wpList_make_full _ rfl _ _ _ rfl 0 3 i0 (.int .i64 0) 1 Tryz.underlying23 hi hz0 hz1 .i64 .i64 _ _ n rfl rfl rfl rfl (by rw [hz2]; omega) (by unfold maxLen; omega) (Nat.zero_le _) ?_)
  intro w2 hown hgrow
  rw [toList_madeCells_one] at hown
  have hk12 : Kept NoB w1 w2 := (Kept.refl _ _).grown hgrow (fun k _ e => by cases e)
  have HO := Lib.hid hown
  have HK2 := Lib.hid (HS.out.kept.trans hk12)
  clear hk12 hown hgrow
  obtain ⟨G, hG⟩ : ∃ G, G = w1.heap.size := ⟨_, rfl⟩
  rw [← hG] at HO ⊢
  clear hG
  go_wp2
  go_ret2
  exact ⟨some ⟨G, 0, none⟩, n, by simp, by simpa using HO.out, HK2.out⟩

set_option maxRecDepth 20000 in
set_option maxHeartbeats 1000000 in
theorem lens_bad (a : Option Addr) (c B : Nat) (ws : List Int) (limit : Nat) (w : World) (hr : RdI w B a ws) (hb : ¬ Small 1000000 ws) (hl : ws.length ≤ 320) (hlim : 1 ≤ limit ∧ limit ≤ 15) :
    Calls Tryz.prog 71 #[.slice a ws.length c, .int .i64 (limit : Int)] w fun e w' => e = .returned (.tuple #[.slice none 0 0, .int .i64 1]) ∧ Kept NoB w w' := by
  have HV := Lib.hid (leaves_bad a c B ws w hr hb hl)
  obtain ⟨n, hn⟩ : ∃ n, n = ws.length := ⟨_, rfl⟩
  obtain ⟨h1, h2⟩ := hlim
  rw [← hn] at hl HV ⊢
  clear hr hb hn
  go_enter Tryz.func71, Tryz.ntmps71
  go_wp2_with fail
  refine HV.out.mono ?_
  rintro e w1 ⟨rfl, hk⟩
  have HK := Lib.hid hk
  clear hk HV
  go_wp2
  go_ret2
  exact ⟨rfl, HK.out⟩
theorem lens_out (a : Option Addr) (c n : Nat) (limit : Int) (w : World) (h : 320 < n ∨ (¬ 320 < n ∧ limit < 1) ∨ (¬ 320 < n ∧ ¬ limit < 1 ∧ 15 < limit)) :
    Calls Tryz.prog 71 #[.slice a n c, .int .i64 limit] w fun e w' => e = .returned (.tuple #[.slice none 0 0, .int .i64 1]) ∧ Kept NoB w w' := by
  rcases h with h | ⟨h, h1⟩ | ⟨h, h1, h2⟩
  all_goals
    go_enter Tryz.func71, Tryz.ntmps71
    go_wp2
    go_ret2
    exact ⟨rfl, Kept.refl _ _⟩

/-- The weights that Lengths takes. -/
structure LensOkP (ws : List Int) (limit : Int) : Prop where
  len : ws.length ≤ 320
  lim : 1 ≤ limit ∧ limit ≤ 15
  small : Small 1000000 ws
  few : (leavesL 0 ws).length ≤ 2 ^ limit.toNat
theorem wrap_pow15 (k : Nat) (h : k ≤ 15) : wrap64 ((2 : Int) ^ k) = ((2 ^ k : Nat) : Int) := by
  rw [Int.natCast_pow]
  have h2 : 2 ^ k ≤ 2 ^ 15 := Nat.pow_le_pow_right (by decide) h
  have h3 : ((2 ^ k : Nat) : Int) ≤ ((32768 : Nat) : Int) := Int.ofNat_le.2 h2
  have h4 : (0 : Int) ≤ ((2 ^ k : Nat) : Int) := Int.natCast_nonneg _
  rw [Int.natCast_pow] at h3 h4
  exact IntWalk.wrap64_in _ (by simp at h3 h4 ⊢; omega)
theorem lens_no (a : Option Addr) (c B : Nat) (ws : List Int) (limit : Int) (w : World) (hr : RdI w B a ws) (h : ¬ LensOkP ws limit) :
    Calls Tryz.prog 71 #[.slice a ws.length c, .int .i64 limit] w fun e w' => e = .returned (.tuple #[.slice none 0 0, .int .i64 1]) ∧ Kept NoB w w' := by
  by_cases h1 : 320 < ws.length
  · exact lens_out a c _ limit w (.inl h1)
  · by_cases h2 : limit < 1
    · exact lens_out a c _ limit w (.inr (.inl ⟨h1, h2⟩))
    · by_cases h3 : 15 < limit
      · exact lens_out a c _ limit w (.inr (.inr ⟨h1, h2, h3⟩))
      · obtain ⟨k, rfl⟩ : ∃ k : Nat, limit = (k : Int) := ⟨limit.toNat, by omega⟩
        by_cases h4 : Small 1000000 ws
        · exact lens_over a c B ws k (2 ^ k) w hr h4 (by omega) (by omega) (wrap_pow15 k (by omega)) (by
            refine Nat.lt_of_not_le (fun h5 => h ⟨by omega, by omega, h4, by simpa using h5⟩))
        · exact lens_bad a c B ws k w hr h4 (by omega) (by omega)
theorem leaf_place {ws : List Int} {lv : List Lf} (h : Small 1000000 ws) (hs : SrtP lv (leavesL 0 ws)) : ∀ p ∈ lv, (0 ≤ p.2 ∧ p.2 ≤ 1048576) ∧ ∃ q : Nat, p.1 = (q : Int) ∧ q < ws.length := by
  intro p hp
  have := leaves_ok ws 0 h p (hs.perm.mem_iff.1 hp)
  simpa using this
theorem lens_yes (a : Option Addr) (c B : Nat) (ws : List Int) (limit : Int) (w : World) (hr : RdI w B a ws) (h : LensOkP ws limit) :
    Calls Tryz.prog 71 #[.slice a ws.length c, .int .i64 limit] w fun e w' => ∃ lv, SrtP lv (leavesL 0 ws) ∧ LensP w (lensOf lv ws.length limit.toNat) e w' := by
  obtain ⟨h1, h2, h3, h4⟩ := h
  obtain ⟨k, rfl⟩ : ∃ k : Nat, limit = (k : Int) := ⟨limit.toNat, by omega⟩
  simp only [Int.toNat_natCast] at h4 ⊢
  have hM := wrap_pow15 k (by omega)
  by_cases h5 : 2 ≤ (leavesL 0 ws).length
  · exact lens_many a c B ws k (2 ^ k) w hr h3 h1 (by omega) hM rfl h4 h5
  · by_cases h6 : (leavesL 0 ws).length = 0
    · have h7 := List.eq_nil_of_length_eq_zero h6
      refine (lens_none a c B ws k (2 ^ k) w hr h3 h1 (by omega) hM Nat.one_le_two_pow h7).mono ?_
      intro e w' hh
      refine ⟨[], ⟨by rw [h7], List.Pairwise.nil⟩, ?_⟩
      unfold lensOf
      rw [if_pos (by simp)]
      exact hh
    · obtain ⟨p, h7⟩ := List.length_eq_one_iff.1 (show (leavesL 0 ws).length = 1 by omega)
      obtain ⟨_, q, hq, hql⟩ := leaves_ok ws 0 h3 p (by rw [h7]; exact List.mem_singleton.2 rfl)
      refine (lens_one a c B ws k (2 ^ k) q p.2 w hr h3 h1 (by omega) hM Nat.one_le_two_pow (by rw [h7, ← hq]) (by omega)).mono ?_
      intro e w' hh
      refine ⟨[p], ⟨by rw [h7], by simp⟩, ?_⟩
      unfold lensOf
      rw [if_neg (by simp), if_pos (by simp)]
      have : (([p] : List Lf).getD 0 (0, 0)).1.toNat = q := by simp [hq]
      rw [this]
      exact hh
end Go.Proofs.YtdpegahcgaicnaaGreatDoor

namespace Go.Proofs.YtdpegahcgaicnaaGreatDoor
open Go.RowKit
set_option linter.unusedVariables false
set_option linter.unusedSimpArgs false

/-- How many leaves of row r are chosen, if k of row i are. -/
def cnt (ls : List Int) : Nat → Nat → Nat → Nat
  | 0, k, r => if r = 0 then k - packedN ((rowS ls 0).take k) else 0
  | i + 1, k, r => if r = i + 1 then k - packedN ((rowS ls (i + 1)).take k) else cnt ls i (2 * packedN ((rowS ls (i + 1)).take k)) r
def bumps (ps : List Nat) (x : Nat → Nat) : Nat → List Int → List Int
  | 0, zs => zs
  | i + 1, zs => bumps ps x i (bump zs (ps.take (x i)))
theorem bumps_congr (ps : List Nat) : ∀ (i : Nat) (x y : Nat → Nat) (zs : List Int), (∀ r, r < i → x r = y r) → bumps ps x i zs = bumps ps y i zs
  | 0, x, y, zs, _ => rfl
  | i + 1, x, y, zs, h => by
    unfold bumps
    rw [h i (Nat.lt_succ_self i)]
    exact bumps_congr ps i x y _ (fun r hr => h r (by omega))
theorem wN_congr : ∀ (i : Nat) (x y : Nat → Nat), (∀ r, r < i → x r = y r) → wN x i = wN y i
  | 0, x, y, _ => rfl
  | i + 1, x, y, h => by unfold wN; rw [wN_congr i x y (fun r hr => h r (by omega)), h i (Nat.lt_succ_self i)]
theorem cN_congr (ls : List Int) : ∀ (i : Nat) (x y : Nat → Nat), (∀ r, r < i → x r = y r) → cN ls x i = cN ls y i
  | 0, x, y, _ => rfl
  | i + 1, x, y, h => by unfold cN; rw [cN_congr ls i x y (fun r hr => h r (by omega)), h i (Nat.lt_succ_self i)]
theorem cnt_top (ls : List Int) : ∀ (i k : Nat), cnt ls i k i = k - packedN ((rowS ls i).take k)
  | 0, k => by simp [cnt]
  | i + 1, k => by simp [cnt]
theorem cnt_low (ls : List Int) (i k r : Nat) (h : r ≤ i) : cnt ls (i + 1) k r = cnt ls i (2 * packedN ((rowS ls (i + 1)).take k)) r := by
  show (if r = i + 1 then _ else _) = _
  rw [if_neg (by omega)]
theorem addL_bumps (ls : List Int) (ps : List Nat) : ∀ (i k : Nat) (zs : List Int), addL ls ps (i + 1) k zs = bumps ps (cnt ls i k) (i + 1) zs
  | 0, k, zs => by simp [addL, bumps, cnt]
  | i + 1, k, zs => by
    unfold addL
    rw [addL_bumps ls ps i]
    show bumps ps _ (i + 1) _ = bumps ps (cnt ls (i + 1) k) (i + 1) (bump zs (ps.take (cnt ls (i + 1) k (i + 1))))
    rw [cnt_top]
    exact bumps_congr ps (i + 1) _ _ _ (fun r hr => (cnt_low ls i k r (by omega)).symm)
/-- What is chosen, counted. -/
theorem cnt_facts (ls : List Int) : ∀ (i k : Nat), k ≤ (rowS ls i).length →
    (∀ r, r ≤ i → cnt ls i k r ≤ ls.length) ∧ wN (cnt ls i k) (i + 1) = k * 2 ^ i ∧ sumW ((rowS ls i).take k) = cN ls (cnt ls i k) (i + 1)
  | 0, k, hk => by
    obtain ⟨h1, h2, h3, _⟩ := chosen_ok ls 0 k hk
    have h4 := h3 rfl
    have h5 : cnt ls 0 k 0 = k := by rw [cnt_top, h4]; omega
    have hl : leafN ((rowS ls 0).take k) = k := by
      have := packed_leaf ((rowS ls 0).take k)
      rw [List.length_take, h4] at this; omega
    refine ⟨fun r hr => ?_, ?_, ?_⟩
    · have : r = 0 := by omega
      subst this
      rw [h5]; omega
    · simp [wN, h5]
    · rw [row_zero] at hl ⊢
      rw [mrg_sum, hl, tk_nil]
      simp [cN, h5]
  | i + 1, k, hk => by
    obtain ⟨h1, h2, _, h4⟩ := chosen_ok ls (i + 1) k hk
    have h5 := h4 i rfl
    obtain ⟨p, hp⟩ : ∃ p, p = packedN ((rowS ls (i + 1)).take k) := ⟨_, rfl⟩
    rw [← hp] at h1 h2 h5
    obtain ⟨g1, g2, g3⟩ := cnt_facts ls i (2 * p) h5
    have ht : cnt ls (i + 1) k (i + 1) = k - p := by rw [cnt_top, ← hp]
    have hlow : ∀ r, r < i + 1 → cnt ls (i + 1) k r = cnt ls i (2 * p) r := fun r hr => by rw [cnt_low ls i k r (by omega), ← hp]
    refine ⟨fun r hr => ?_, ?_, ?_⟩
    · by_cases e : r = i + 1
      · subst e; rw [ht]; exact h1
      · rw [hlow r (by omega)]; exact g1 r (by omega)
    · show wN (cnt ls (i + 1) k) (i + 1) + cnt ls (i + 1) k (i + 1) * 2 ^ (i + 1) = _
      rw [wN_congr (i + 1) _ _ hlow, g2, ht]
      obtain ⟨c, hc⟩ : ∃ c, k = p + c := ⟨k - p, by omega⟩
      rw [hc, Nat.add_sub_cancel_left, Nat.add_mul, Nat.pow_succ, Nat.mul_comm 2 p, Nat.mul_assoc, Nat.mul_comm 2]
    · have hl : leafN ((rowS ls (i + 1)).take k) = k - p := by
        have := packed_leaf ((rowS ls (i + 1)).take k)
        rw [List.length_take, ← hp] at this; omega
      show _ = cN ls (cnt ls (i + 1) k) (i + 1) + tk ls (cnt ls (i + 1) k (i + 1))
      rw [cN_congr ls (i + 1) _ _ hlow, ← g3, ht, pairs_sum _ _ h5]
      rw [row_succ] at hl hp ⊢
      rw [mrg_sum, hl, ← hp]; omega
/-- A leaf that is not taken is heavier than each pair that is. -/
theorem mrg_wait : ∀ (P ls : List Int), Srd ls → ∀ (k t : Nat), leafN ((mrg P ls).take k) < ls.length → t < packedN ((mrg P ls).take k) → P.getD t 0 < ls.getD (leafN ((mrg P ls).take k)) 0 := by
  intro P
  induction P with
  | nil =>
    intro ls _ k t hc ht
    have : packedN ((mrg [] ls).take k) = 0 := by
      have h1 := packed_take (mrg [] ls) k
      have h2 : packedN (mrg [] ls) = 0 := by have := packed_mergeS [] ls; rw [mergeS_mrg] at this; simpa [pairsL] using this
      omega
    omega
  | cons w P ihP =>
    intro ls
    induction ls with
    | nil => intro _ k t hc ht; simp at hc
    | cons z r ih =>
      intro hs k t hc ht
      cases k with
      | zero => simp [packedN] at ht
      | succ k =>
        by_cases h : z ≤ w
        · rw [mrg_le _ _ _ _ h, List.take_succ_cons, leafN_cons] at hc ⊢
          rw [mrg_le _ _ _ _ h, List.take_succ_cons, packedN_cons] at ht
          simp only [Bool.false_eq_true, if_false, List.length_cons] at hc ht ⊢
          rw [List.getD_cons_succ]
          exact ih (List.pairwise_cons.1 hs).2 k t (by omega) ht
        · rw [mrg_gt _ _ _ _ h, List.take_succ_cons, leafN_cons] at hc ⊢
          rw [mrg_gt _ _ _ _ h, List.take_succ_cons, packedN_cons] at ht
          simp only [if_true, Nat.add_zero] at hc ht ⊢
          cases t with
          | zero =>
            rw [List.getD_cons_zero]
            have hm : ∀ j, j < (z :: r).length → z ≤ (z :: r).getD j 0 := by
              intro j hj
              cases j with
              | zero => simp
              | succ j =>
                have hj2 : j < r.length := by simpa using hj
                rw [List.getD_cons_succ]
                have e : r.getD j 0 = r[j] := by simp [List.getD, hj2]
                rw [e]
                exact (List.pairwise_cons.1 hs).1 _ (List.getElem_mem hj2)
            have := hm _ hc
            omega
          | succ t =>
            rw [List.getD_cons_succ]
            exact ihP (z :: r) hs k t hc (by omega)
/-- Each leaf that is taken stands in the row. -/
theorem mrg_leaf : ∀ (P ls : List Int) (k j : Nat), j < leafN ((mrg P ls).take k) → ∃ s, s < k ∧ s < (mrg P ls).length ∧ ((mrg P ls).getD s (0, false)).1 = ls.getD j 0 := by
  intro P
  induction P with
  | nil =>
    intro ls
    induction ls with
    | nil => intro k j h; simp [mrg, leafN] at h
    | cons z r ih =>
      intro k j h
      cases k with
      | zero => simp [leafN] at h
      | succ k =>
        rw [mrg_nil_cons, List.take_succ_cons, leafN_cons] at h
        cases j with
        | zero => exact ⟨0, by omega, by rw [mrg_nil_cons]; simp, by rw [mrg_nil_cons]; rfl⟩
        | succ j =>
          simp only [Bool.false_eq_true, if_false] at h
          obtain ⟨s, h1, h2, h3⟩ := ih k j (by omega)
          exact ⟨s + 1, by omega, by rw [mrg_nil_cons]; simpa using h2, by rw [mrg_nil_cons, List.getD_cons_succ, List.getD_cons_succ]; exact h3⟩
  | cons w P ihP =>
    intro ls
    induction ls with
    | nil =>
      intro k j h
      cases k with
      | zero => simp [leafN] at h
      | succ k =>
        rw [mrg_cons_nil, List.take_succ_cons, leafN_cons] at h
        simp only [if_true, Nat.add_zero] at h
        obtain ⟨s, h1, h2, h3⟩ := ihP [] k j h
        exact ⟨s + 1, by omega, by rw [mrg_cons_nil]; simpa using h2, by rw [mrg_cons_nil, List.getD_cons_succ]; exact h3⟩
    | cons z r ih =>
      intro k j h
      cases k with
      | zero => simp [leafN] at h
      | succ k =>
        by_cases hz : z ≤ w
        · rw [mrg_le _ _ _ _ hz, List.take_succ_cons, leafN_cons] at h
          cases j with
          | zero => exact ⟨0, by omega, by rw [mrg_le _ _ _ _ hz]; simp, by rw [mrg_le _ _ _ _ hz]; rfl⟩
          | succ j =>
            simp only [Bool.false_eq_true, if_false] at h
            obtain ⟨s, h1, h2, h3⟩ := ih k j (by omega)
            exact ⟨s + 1, by omega, by rw [mrg_le _ _ _ _ hz]; simpa using h2, by rw [mrg_le _ _ _ _ hz, List.getD_cons_succ, List.getD_cons_succ]; exact h3⟩
        · rw [mrg_gt _ _ _ _ hz, List.take_succ_cons, leafN_cons] at h
          simp only [if_true, Nat.add_zero] at h
          obtain ⟨s, h1, h2, h3⟩ := ihP (z :: r) k j h
          exact ⟨s + 1, by omega, by rw [mrg_gt _ _ _ _ hz]; simpa using h2, by rw [mrg_gt _ _ _ _ hz, List.getD_cons_succ]; exact h3⟩
theorem pairs_get : ∀ (r : List It) (t s : Nat), 2 * t + 1 < r.length → s = 2 * t ∨ s = 2 * t + 1 → (∀ u ∈ r, 0 ≤ u.1) → (r.getD s (0, false)).1 ≤ (pairsL r).getD t 0
  | [], t, s, h, _, _ => by simp at h
  | [a], t, s, h, _, _ => by simp at h
  | a :: b :: r, 0, s, h, hs, h0 => by
    have h1 := h0 a List.mem_cons_self
    have h2 := h0 b (List.mem_cons_of_mem _ List.mem_cons_self)
    rcases hs with rfl | rfl <;> simp [pairsL] <;> omega
  | a :: b :: r, t + 1, s, h, hs, h0 => by
    have := pairs_get r t (s - 2) (by simp only [List.length_cons] at h; omega) (by omega) (fun u hu => h0 u (List.mem_cons_of_mem _ (List.mem_cons_of_mem _ hu)))
    obtain ⟨s', rfl⟩ : ∃ s', s = s' + 1 + 1 := ⟨s - 2, by omega⟩
    rw [List.getD_cons_succ, List.getD_cons_succ]
    simpa [pairsL] using this
theorem row_nonneg (ls : List Int) (h0 : ∀ z ∈ ls, 0 ≤ z ∧ z ≤ 1048576) (i : Nat) : ∀ u ∈ rowS ls i, 0 ≤ u.1 := fun u hu => (small_row ls h0 i u hu).1
/-- No more leaves of a row are chosen than of the next one. -/
theorem cnt_step (ls : List Int) (hs : Srd ls) (h0 : ∀ z ∈ ls, 0 ≤ z ∧ z ≤ 1048576) (i k : Nat) (hk : k ≤ (rowS ls (i + 1)).length) (p : Nat) (hp : p = packedN ((rowS ls (i + 1)).take k)) :
    2 * p - packedN ((rowS ls i).take (2 * p)) ≤ k - p := by
  obtain ⟨h1, h2, _, h4⟩ := chosen_ok ls (i + 1) k hk
  have h5 := h4 i rfl
  rw [← hp] at h1 h2 h5
  have hl : leafN ((rowS ls (i + 1)).take k) = k - p := by
    have := packed_leaf ((rowS ls (i + 1)).take k)
    rw [List.length_take, ← hp] at this; omega
  have hl2 : leafN ((rowS ls i).take (2 * p)) = 2 * p - packedN ((rowS ls i).take (2 * p)) := by
    have := packed_leaf ((rowS ls i).take (2 * p))
    rw [List.length_take] at this; omega
  rw [← hl2]
  refine Nat.le_of_not_lt (fun hlt => ?_)
  have hm := leaf_take (rowS ls i) (2 * p)
  rw [leafs_row] at hm
  obtain ⟨P, hP⟩ : ∃ P, rowS ls i = mrg P ls := by
    cases i with
    | zero => exact ⟨_, row_zero ls⟩
    | succ i => exact ⟨_, row_succ ls i⟩
  have hlf : ∃ s, s < 2 * p ∧ s < (rowS ls i).length ∧ ((rowS ls i).getD s (0, false)).1 = ls.getD (k - p) 0 := by
    rw [hP] at hlt ⊢
    exact mrg_leaf P ls (2 * p) (k - p) hlt
  obtain ⟨s, s1, s2, s3⟩ := hlf
  have hw := mrg_wait (pairsL (rowS ls i)) ls hs k (s / 2) (by rw [← row_succ, hl]; omega) (by rw [← row_succ, ← hp]; omega)
  rw [← row_succ, hl] at hw
  have hg := pairs_get (rowS ls i) (s / 2) s (by omega) (by omega) (row_nonneg ls h0 i)
  omega
theorem cnt_mono (ls : List Int) (hs : Srd ls) (h0 : ∀ z ∈ ls, 0 ≤ z ∧ z ≤ 1048576) : ∀ (i k : Nat), k ≤ (rowS ls i).length → ∀ r, r < i → cnt ls i k r ≤ cnt ls i k (r + 1)
  | 0, k, _, r, hr => by omega
  | i + 1, k, hk, r, hr => by
    obtain ⟨h1, h2, _, h4⟩ := chosen_ok ls (i + 1) k hk
    have h5 := h4 i rfl
    rw [cnt_low ls i k r (by omega)]
    by_cases e : r = i
    · subst e
      rw [cnt_top, cnt_top]
      exact cnt_step ls hs h0 r k hk _ rfl
    · rw [cnt_low ls i k (r + 1) (by omega)]
      exact cnt_mono ls hs h0 i _ h5 r (by omega)
end Go.Proofs.YtdpegahcgaicnaaGreatDoor
