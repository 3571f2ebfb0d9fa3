/-
  huff.Lengths where the weights do not fall.
-/
import Derived.Test.YtokdlmpnokmniaaHuffT
namespace Go.Proofs.Ytokdlmpnokmniaa
open Go.RowKit
set_option linter.unusedVariables false
set_option linter.unusedSimpArgs false

theorem infoI : (Try.prog.info? 3).map (fun i => (i.zero, i.size, i.bytes)) = some (some (.int .i64 0), 1, 8) := by kernel_rfl
theorem leaves_ok : ∀ (ws : List Int) (i : Nat), Small 1000000 ws → ∀ p ∈ leavesL i ws, (0 ≤ p.2 ∧ p.2 ≤ 1048576) ∧ ∃ q : Nat, p.1 = (q : Int) ∧ q < i + ws.length
  | [], i, _, p, hp => by cases hp
  | z :: r, i, h, p, hp => by
    have hr : Small 1000000 r := fun y hy => h y (List.mem_cons_of_mem _ hy)
    have hz := h z List.mem_cons_self
    unfold leavesL at hp
    split at hp
    · rcases List.mem_cons.1 hp with rfl | hp
      · exact ⟨⟨hz.1, by have := hz.2; simp only; omega⟩, i, rfl, by simp⟩
      · obtain ⟨h1, q, h2, h3⟩ := leaves_ok r (i + 1) hr p hp
        exact ⟨h1, q, h2, by simp only [List.length_cons]; omega⟩
    · obtain ⟨h1, q, h2, h3⟩ := leaves_ok r (i + 1) hr p hp
      exact ⟨h1, q, h2, by simp only [List.length_cons]; omega⟩
theorem leaves_len : ∀ (ws : List Int) (i : Nat), (leavesL i ws).length ≤ ws.length
  | [], i => by simp [leavesL]
  | z :: r, i => by
    have := leaves_len r (i + 1)
    unfold leavesL
    split
    · simp only [List.length_cons]; omega
    · simp only [List.length_cons]; omega
def placesN (lv : List (Int × Int)) : List Nat := lv.map fun p => p.1.toNat
/-- What Lengths tells where there are two leaves or more. -/
def manyL (ws : List Int) (limit : Nat) : List Int :=
  addL ((leavesL 0 ws).map (·.2)) (placesN (leavesL 0 ws)) limit (2 * (leavesL 0 ws).length - 2) (List.replicate ws.length 0)
/-- A row of numbers told. -/
def LensP (w : World) (zs : List Int) (e : Ending) (w' : World) : Prop :=
  ∃ a c, e = .returned (.tuple #[.slice a zs.length c, .int .i64 0]) ∧ w'.ownsRow 0 3 1 (.slice a zs.length c) zs.length (zs.map (.int .i64)) ∧ Kept NoB w w'
theorem addL_len (ls : List Int) (ps : List Nat) : ∀ (i k : Nat) (zs : List Int), (addL ls ps i k zs).length = zs.length
  | 0, k, zs => rfl
  | i + 1, k, zs => by unfold addL; rw [addL_len ls ps i, bump_len]

set_option maxRecDepth 20000 in
set_option maxHeartbeats 1000000 in
theorem lengths_over (a : Option Addr) (c B : Nat) (ws : List Int) (limit M : Nat) (w : World) (hr : RdI w B a ws) (hb : Small 1000000 ws) (hl : ws.length < 20) (hu : Up (leavesL 0 ws)) (hlim : 1 ≤ limit ∧ limit ≤ 15)
    (hM : wrap64 ((2 : Int) ^ limit) = (M : Int)) (h : M < (leavesL 0 ws).length) :
    Calls Try.prog 25 #[.slice a ws.length c, .int .i64 (limit : Int)] w fun e w' => e = .returned (.tuple #[.slice none 0 0, .int .i64 1]) ∧ Kept NoB w w' := by
  have HV := Lib.hid (leaves_up a c B ws w hr hb hl hu)
  obtain ⟨n, hn⟩ : ∃ n, n = ws.length := ⟨_, rfl⟩
  obtain ⟨L, hL⟩ : ∃ L, L = (leavesL 0 ws).length := ⟨_, rfl⟩
  obtain ⟨h1, h2⟩ := hlim
  rw [← hn] at hl HV ⊢
  rw [← hL] at h HV
  clear hr hb hu hn hL
  go_enter Try.func25, Try.ntmps25
  go_wp2_with fail
  refine HV.out.mono ?_
  rintro e w1 ⟨a1, c1, rfl, hst⟩
  have HK := Lib.hid hst.kept
  clear hst HV
  go_wp2
  go_ret2
  exact ⟨rfl, HK.out⟩

set_option maxRecDepth 20000 in
set_option maxHeartbeats 1000000 in
theorem lengths_many (a : Option Addr) (c B : Nat) (ws : List Int) (limit M : Nat) (w : World) (hr : RdI w B a ws) (hb : Small 1000000 ws) (hl : ws.length < 20) (hu : Up (leavesL 0 ws)) (hlim : 1 ≤ limit ∧ limit ≤ 15)
    (hM : wrap64 ((2 : Int) ^ limit) = (M : Int)) (hM2 : M = 2 ^ limit) (h : (leavesL 0 ws).length ≤ M) (h2 : 2 ≤ (leavesL 0 ws).length) :
    Calls Try.prog 25 #[.slice a ws.length c, .int .i64 (limit : Int)] w (LensP w (manyL ws limit)) := by
  have HV := Lib.hid (leaves_up a c B ws w hr hb hl hu)
  have hok := leaves_ok ws 0 hb
  have hlen := leaves_len ws 0
  have HMn : Hid (manyL ws limit = addL ((leavesL 0 ws).map (·.2)) (placesN (leavesL 0 ws)) limit (2 * (leavesL 0 ws).length - 2) (List.replicate ws.length 0)) := Lib.hid rfl
  obtain ⟨Z, hZ⟩ : ∃ Z, Z = manyL ws limit := ⟨_, rfl⟩
  rw [← hZ] at HMn ⊢
  obtain ⟨lv, hlv⟩ : ∃ lv, lv = leavesL 0 ws := ⟨_, rfl⟩
  rw [← hlv] at HMn HV hok h h2 hlen
  obtain ⟨n, hn⟩ : ∃ n, n = ws.length := ⟨_, rfl⟩
  rw [← hn] at hl HV HMn hlen hok ⊢
  have HOk := Lib.hid hok
  obtain ⟨L, hL⟩ : ∃ L, L = lv.length := ⟨_, rfl⟩
  rw [← hL] at h h2 HV HMn hlen
  have HL := Lib.hid hL
  obtain ⟨h3, h4⟩ := hlim
  have HM2 := Lib.hid hM2
  obtain ⟨i0, hi, hz0, hz1, hz2⟩ := info_parts infoI
  have q1 : ((L : Int) == 0) = false := by simp; omega
  have q2 : ((L : Int) == 1) = false := by simp; omega
  have q3 : ¬ L = 0 := by omega
  have q4 : ¬ L = 1 := by omega
  clear hr hb hu hn hL hok hZ hlv hM2
  go_enter Try.func25, Try.ntmps25
  go_wp2_with fail
  refine HV.out.mono ?_
  rintro e w1 ⟨a1, c1, rfl, hst⟩
  have HS := Lib.hid hst
  clear hst HV
  go_wp2_with (at_make; refine wpList_make_full _ rfl _ _ _ rfl 0 3 i0 (.int .i64 0) 1 Try.underlying22 hi hz0 hz1 .i64 .i64 _ _ n rfl rfl rfl rfl (by rw [hz2]; omega) (by unfold maxLen; omega) (Nat.zero_le _) ?_)
  intro w2 hown hgrow
  rw [toList_madeCells_one] at hown
  have hk12 : Kept NoB w1 w2 := (Kept.refl _ _).grown hgrow (fun k _ e => by cases e)
  have hz : w2.ownsRow 0 3 1 (.slice (some ⟨w1.heap.size, 0, none⟩) (List.replicate n (0 : Int)).length (List.replicate n (0 : Int)).length) (List.replicate n (0 : Int)).length ((List.replicate n (0 : Int)).map (.int .i64)) := by
    rw [List.length_replicate, List.map_replicate]; exact hown
  have hps : lv.map (·.1) = (placesN lv).map (fun p : Nat => (p : Int)) := by
    unfold placesN
    rw [List.map_map]
    apply List.map_congr_left
    intro p hp
    obtain ⟨_, q, hq, _⟩ := HOk.out p hp
    simp only [Function.comp]
    omega
  have hcap := own_cap2 HS.out.own
  have hadd := addL_calls a1 c1 w1.heap.size w1.heap.size (List.replicate n 0) lv (lv.map (·.2)) (placesN lv) limit w2 rfl hps hz (HS.out.own.reads.kept hk12) (Nat.le_refl _) (fun p hp => (HOk.out p hp).1)
    (by rw [← HL.out]; exact h2) (by rw [← HL.out]; omega) (by rw [← HL.out, ← HM2.out]; exact h) ⟨h3, h4⟩ hcap
    (fun p hp => by
      obtain ⟨x, hx, rfl⟩ := List.mem_map.1 hp
      obtain ⟨_, q, hq, hq2⟩ := HOk.out x hx
      rw [List.length_replicate]
      omega)
    (fun z hz => by have := List.eq_of_mem_replicate hz; omega)
  rw [← HL.out, ← HMn.out, List.length_replicate] at hadd
  have HAdd := Lib.hid hadd
  have hzl : Z.length = n := by rw [HMn.out, addL_len, List.length_replicate]
  have HZl := Lib.hid hzl
  have HK2 := Lib.hid (HS.out.kept.trans hk12)
  have hw1 := HS.out.kept.size
  have HW1 := Lib.hid hw1
  obtain ⟨G, hG⟩ : ∃ G, G = w1.heap.size := ⟨_, rfl⟩
  rw [← hG] at HAdd HW1 ⊢
  clear hadd hzl hown hgrow hk12 hz hps hcap hw1 hG
  go_wp2_with fail
  refine HAdd.out.mono ?_
  rintro e w3 ⟨rfl, ho, hk⟩
  have HO := Lib.hid ho; have HK := Lib.hid hk
  clear ho hk HAdd
  go_wp2
  go_ret2
  exact ⟨some ⟨G, 0, none⟩, n, by rw [HZl.out]; rfl, by rw [HZl.out]; exact HO.out, HK2.out.trans' HK.out (fun k hk e => by have := HW1.out; omega)⟩

set_option maxRecDepth 20000 in
set_option maxHeartbeats 1000000 in
theorem lengths_one (a : Option Addr) (c B : Nat) (ws : List Int) (limit M p : Nat) (x : Int) (w : World) (hr : RdI w B a ws) (hb : Small 1000000 ws) (hl : ws.length < 20) (hu : Up (leavesL 0 ws)) (hlim : 1 ≤ limit ∧ limit ≤ 15)
    (hM : wrap64 ((2 : Int) ^ limit) = (M : Int)) (hM2 : 1 ≤ M) (h : leavesL 0 ws = [((p : Int), x)]) (hp : p < ws.length) :
    Calls Try.prog 25 #[.slice a ws.length c, .int .i64 (limit : Int)] w (LensP w ((List.replicate ws.length 0).set p 1)) := by
  have hv := leaves_up a c B ws w hr hb hl hu
  rw [h] at hv
  have HV := Lib.hid (show Calls Try.prog 37 #[.slice a ws.length c] w fun e w' => ∃ a' c', e = .returned (.tuple #[.slice a' 1 c', .bool true]) ∧ LfSt w w' a' c' [((p : Int), x)] from hv)
  clear hv
  obtain ⟨n, hn⟩ : ∃ n, n = ws.length := ⟨_, rfl⟩
  rw [← hn] at hl HV hp ⊢
  obtain ⟨h3, h4⟩ := hlim
  obtain ⟨i0, hi, hz0, hz1, hz2⟩ := info_parts infoI
  clear hr hb hu hn h
  go_enter Try.func25, Try.ntmps25
  go_wp2_with fail
  refine HV.out.mono ?_
  rintro e w1 ⟨a1, c1, rfl, hst⟩
  have HS := Lib.hid hst
  clear hst HV
  go_wp2_with (at_make; refine wpList_make_full _ rfl _ _ _ rfl 0 3 i0 (.int .i64 0) 1 Try.underlying22 hi hz0 hz1 .i64 .i64 _ _ n rfl rfl rfl rfl (by rw [hz2]; omega) (by unfold maxLen; omega) (Nat.zero_le _) ?_)
  intro w2 hown hgrow
  rw [toList_madeCells_one] at hown
  have hk12 : Kept NoB w1 w2 := (Kept.refl _ _).grown hgrow (fun k _ e => by cases e)
  obtain ⟨g, off, rfl, hgB, hc0, _⟩ := HS.out.own.reads 0 (by simp)
  have hc1 := hk12.cell hc0
  simp only [Nat.zero_mul, Nat.add_zero, List.getD_cons_zero] at hc1
  have hcell : w2.cell? ⟨w1.heap.size, p, none⟩ = some (.int .i64 0) := by
    rw [hown.cellAt p (by omega)]; simp [hp]
  have hfz := hown.frozenAt p
  obtain ⟨s1, s2⟩ := hown.stored p (.int .i64 1)
  have hset : (List.replicate n (Value.int .i64 0)).set p (.int .i64 1) = ((List.replicate n (0 : Int)).set p 1).map (Value.int .i64) := by
    rw [List.map_set, List.map_replicate]
  rw [hset] at s1
  have HK2 := Lib.hid (HS.out.kept.trans hk12)
  have hk2 := (Kept.refl (fun k => k = w1.heap.size) w2).grown s2 (fun k _ e => (Option.some.inj e).symm)
  have HK3 := Lib.hid (HK2.out.trans' hk2 (fun k hk e => by have := HS.out.kept.size; omega))
  have HO := Lib.hid s1
  have hpn : (p : Int) < (n : Int) := by omega
  clear hset s1 s2 hk2 hk12 hown hgrow hc0 hgB
  obtain ⟨G, hG⟩ : ∃ G, G = w1.heap.size := ⟨_, rfl⟩
  rw [← hG] at hcell hfz HK3 HO ⊢
  clear hG
  go_wp2
  go_ret2
  exact ⟨some ⟨G, 0, none⟩, n, by simp, by simpa using HO.out, HK3.out⟩

/-- What Lengths tells can be read. -/
theorem LensP.reads {w w' : World} {zs : List Int} {e : Ending} (h : LensP w zs e w') : ∃ a c, e = .returned (.tuple #[.slice a zs.length c, .int .i64 0]) ∧ RdI w' w'.heap.size a zs ∧ Kept NoB w w' := by
  obtain ⟨a, c, rfl, ho, hk⟩ := h
  refine ⟨a, c, rfl, ?_, hk⟩
  intro i hi
  rcases ho.2 with ⟨_, hz⟩ | ⟨g, cc, cur, hv, _⟩
  · omega
  · simp at hv
    obtain ⟨rfl, rfl⟩ := hv
    have hc : w'.cell? ⟨g, i, none⟩ = some (.int .i64 (zs.getD i 0)) := by
      rw [ho.cellAt i (by omega)]; simp [List.getD, hi]
    exact ⟨g, 0, rfl, World.block_lt_of_cell? w' _ hc, by rw [Nat.zero_add]; exact hc⟩
theorem three_leaves : leavesL 0 [1, 1, 2] = [(0, 1), (1, 1), (2, 2)] := by decide
theorem two_leaves : leavesL 0 [0, 7] = [(((1 : Nat) : Int), 7)] := by decide
theorem ones_leaves : (leavesL 0 [1, 1, 1]).length = 3 := by decide
theorem many_three : manyL [1, 1, 2] 15 = [2, 2, 1] := by decide +kernel
end Go.Proofs.Ytokdlmpnokmniaa
