/-
  Package-merge on paper: what the lengths are that Lengths tells.
-/
import Derived.Test.YtokdlmpnokmniaaPmC
namespace Go.Proofs.Ytokdlmpnokmniaa
open Go.RowKit
set_option linter.unusedVariables false
set_option linter.unusedSimpArgs false

theorem leaves_mem : ∀ (ws : List Int) (i : Nat) (p : Lf), p ∈ leavesL i ws ↔ ∃ q : Nat, q < ws.length ∧ p = (((i + q : Nat) : Int), ws.getD q 0) ∧ 0 < ws.getD q 0
  | [], i, p => by simp [leavesL]
  | z :: r, i, p => by
    have ih := leaves_mem r (i + 1) p
    have e : p ∈ leavesL i (z :: r) ↔ (0 < z ∧ p = ((i : Int), z)) ∨ p ∈ leavesL (i + 1) r := by
      by_cases hz : 0 < z
      · simp [leavesL, hz]
      · simp [leavesL, hz]
    rw [e, ih]
    constructor
    · rintro (⟨h1, h2⟩ | ⟨q, h1, h2, h3⟩)
      · exact ⟨0, by simp, by simpa using h2, by simpa using h1⟩
      · exact ⟨q + 1, by simpa using h1, by rw [h2, List.getD_cons_succ, show i + 1 + q = i + (q + 1) by omega], by rw [List.getD_cons_succ]; exact h3⟩
    · rintro ⟨q, h1, h2, h3⟩
      cases q with
      | zero => exact .inl ⟨by simpa using h3, by simpa using h2⟩
      | succ q => exact .inr ⟨q, by simpa using h1, by rw [h2, List.getD_cons_succ, show i + 1 + q = i + (q + 1) by omega], by rw [List.getD_cons_succ] at h3; exact h3⟩
theorem nodup_places (ws : List Int) (lv : List Lf) (h : SrtP lv (leavesL 0 ws)) : (placesN lv).Nodup := by
  have hp : (placesN lv).Perm (placesN (leavesL 0 ws)) := h.perm.map _
  rw [hp.nodup_iff]
  have hi := inc_leaves ws 0
  have hg := leaves_ge ws 0
  unfold placesN List.Nodup
  rw [List.pairwise_map]
  unfold Inc at hi
  refine List.Pairwise.imp_of_mem (fun {a b} ha hb hab => ?_) hi
  have h1 := hg a ha
  have h2 := hg b hb
  omega
theorem srd_of {lv : List Lf} (h : lv.Pairwise Bef) : Srd (lv.map (·.2)) := by
  unfold Srd
  rw [List.pairwise_map]
  exact h.imp (fun {a b} hab => by unfold Bef at hab; omega)
theorem srd_get {ls : List Int} (h : Srd ls) {i j : Nat} (hij : i ≤ j) (hj : j < ls.length) : ls.getD i 0 ≤ ls.getD j 0 := by
  by_cases e : i = j
  · subst e; omega
  · have h1 : ls.getD i 0 = ls[i] := by simp [List.getD, show i < ls.length by omega]
    have h2 : ls.getD j 0 = ls[j] := by simp [List.getD, hj]
    rw [h1, h2]
    exact List.pairwise_iff_getElem.1 h i j _ _ (by omega)
theorem get_of_mem {ps : List Nat} {p : Nat} (h : p ∈ ps) : ∃ j, j < ps.length ∧ ps.getD j 0 = p := by
  obtain ⟨j, hj, e⟩ := List.mem_iff_getElem.1 h
  exact ⟨j, hj, by simp [List.getD, hj, e]⟩
theorem mem_of_get (ps : List Nat) (j : Nat) (h : j < ps.length) : ps.getD j 0 ∈ ps := by
  have : ps.getD j 0 = ps[j] := by simp [List.getD, h]
  rw [this]; exact List.getElem_mem h
theorem sumN_two {f : Nat → Nat} : ∀ n i j, i < n → j < n → i ≠ j → f i + f j ≤ sumN f n
  | 0, i, j, h, _, _ => by omega
  | n + 1, i, j, hi, hj, hne => by
    unfold sumN
    by_cases e : i = n
    · subst e
      have := sumN_ge (f := f) i j (by omega); omega
    · by_cases e2 : j = n
      · subst e2
        have := sumN_ge (f := f) j i (by omega); omega
      · have := sumN_two (f := f) n i j (by omega) (by omega) hne; omega
theorem sumN_mul (f : Nat → Nat) (c : Nat) : ∀ n, sumN (fun j => c * f j) n = c * sumN f n
  | 0 => by simp [sumN]
  | n + 1 => by simp only [sumN, sumN_mul f c n, Nat.mul_add]

/-- The least cost of codes for weights in order, by package-merge. -/
def leastL (ls : List Int) (limit : Nat) : Int := if ls.length < 2 then ls.sum else sumW ((rowS ls (limit - 1)).take (2 * ls.length - 2))
/-- What Lengths tells of weights. -/
structure LensF (ws : List Int) (lv : List Lf) (limit : Nat) (Z : List Int) : Prop where
  len : Z.length = ws.length
  bd : ∀ p, p < ws.length → 0 ≤ Z.getD p 0 ∧ Z.getD p 0 ≤ limit
  pos : ∀ p, p < ws.length → (0 < ws.getD p 0 ↔ 0 < Z.getD p 0)
  anti : ∀ p q, p < ws.length → q < ws.length → 0 < ws.getD q 0 → ws.getD q 0 < ws.getD p 0 → Z.getD p 0 ≤ Z.getD q 0
  kraft : kraftL Z = if lv.length = 0 then 0 else if lv.length = 1 then 16384 else 32768
  cost : costL ws Z = leastL (lv.map (·.2)) limit
/-- The counts behind them. -/
structure CntF (ls : List Int) (limit : Nat) (x : Nat → Nat) : Prop where
  le : ∀ r, r < limit → x r ≤ ls.length
  mono : ∀ r, r + 1 < limit → x r ≤ x (r + 1)
  room : wN x limit + 2 ^ limit = ls.length * 2 ^ limit
  cost : leastL ls limit = cN ls x limit
  sum : sumN (fun j => 2 ^ (limit - lenJ x j limit)) ls.length = 2 ^ limit
  one : ∀ j, j < ls.length → 1 ≤ lenJ x j limit
theorem cntF (ls : List Int) (limit : Nat) (hs : Srd ls) (h0 : ∀ z ∈ ls, 0 ≤ z ∧ z ≤ 1048576) (h2 : 2 ≤ ls.length) (hl : 1 ≤ limit) (hf : ls.length ≤ 2 ^ limit) : CntF ls limit (cnt ls (limit - 1) (2 * ls.length - 2)) := by
  obtain ⟨L, rfl⟩ : ∃ L, limit = L + 1 := ⟨limit - 1, by omega⟩
  have hroom := rowS_room ls (L + 1) hl hf
  rw [Nat.add_sub_cancel] at hroom ⊢
  obtain ⟨c1, c2, c3⟩ := cnt_facts ls L (2 * ls.length - 2) hroom
  have c4 := cnt_mono ls hs h0 L (2 * ls.length - 2) hroom
  obtain ⟨x, hx⟩ : ∃ x, x = cnt ls L (2 * ls.length - 2) := ⟨_, rfl⟩
  rw [← hx] at c1 c2 c3 c4 ⊢
  obtain ⟨n, hn⟩ : ∃ n, ls.length = n + 2 := ⟨ls.length - 2, by omega⟩
  have hw : wN x (L + 1) + 2 ^ (L + 1) = ls.length * 2 ^ (L + 1) := by
    have e1 : (n + 1) * 2 * 2 ^ L = (n + 1) * 2 ^ (L + 1) := by rw [Nat.mul_assoc, Nat.mul_comm 2 (2 ^ L), ← Nat.pow_succ]
    rw [c2, hn, show 2 * (n + 2) - 2 = (n + 1) * 2 by omega, e1, show n + 2 = (n + 1) + 1 by omega, Nat.add_mul (n + 1) 1, Nat.one_mul]
  have hsum : sumN (fun j => 2 ^ (L + 1 - lenJ x j (L + 1))) ls.length = 2 ^ (L + 1) := by
    have := sum_len x ls.length (L + 1) (fun r hr => c1 r (by omega)) (fun r hr => c4 r (by omega))
    omega
  refine ⟨fun r hr => c1 r (by omega), fun r hr => c4 r (by omega), hw, ?_, hsum, ?_⟩
  · unfold leastL
    rw [if_neg (by omega), Nat.add_sub_cancel]
    exact c3
  · intro j hj
    refine Nat.pos_of_ne_zero (fun e => ?_)
    obtain ⟨i, hi, hne⟩ : ∃ i, i < ls.length ∧ i ≠ j := by
      by_cases hj0 : j = 0
      · exact ⟨1, by omega, by omega⟩
      · exact ⟨0, by omega, by omega⟩
    have := sumN_two (f := fun j => 2 ^ (L + 1 - lenJ x j (L + 1))) ls.length i j hi hj hne
    simp only [e, Nat.sub_zero] at this
    have h3 := Nat.two_pow_pos (L + 1 - lenJ x i (L + 1))
    omega
theorem getD_map2 (lv : List Lf) (j : Nat) (h : j < lv.length) : (lv.map (·.2)).getD j 0 = (lv.getD j (0, 0)).2 := by simp [List.getD, h]
theorem pow_split (l L : Nat) (h : l ≤ L) (hL : L ≤ 15) : 2 ^ (15 - l) = 2 ^ (15 - L) * 2 ^ (L - l) := by
  rw [← Nat.pow_add]; congr 1; omega
theorem lensF (ws : List Int) (limit : Int) (lv : List Lf) (hok : LensOkP ws limit) (hs : SrtP lv (leavesL 0 ws)) : LensF ws lv limit.toNat (lensOf lv ws.length limit.toNat) := by
  obtain ⟨h1, h2, h3, h4⟩ := hok
  obtain ⟨L, hL⟩ : ∃ L, L = limit.toNat := ⟨_, rfl⟩
  rw [← hL] at h4 ⊢
  have hL1 : 1 ≤ L ∧ L ≤ 15 := by omega
  rw [← hs.len] at h4
  have hmem : ∀ p ∈ lv, ∃ q : Nat, q < ws.length ∧ p = ((q : Int), ws.getD q 0) ∧ 0 < ws.getD q 0 := by
    intro p hp
    have := (leaves_mem ws 0 p).1 (hs.perm.mem_iff.1 hp)
    simpa using this
  have hmem2 : ∀ q : Nat, q < ws.length → 0 < ws.getD q 0 → ((q : Int), ws.getD q 0) ∈ lv := by
    intro q hq h0
    exact hs.perm.mem_iff.2 ((leaves_mem ws 0 _).2 ⟨q, hq, by simp, h0⟩)
  have hps : ∀ p ∈ placesN lv, p < ws.length ∧ 0 < ws.getD p 0 := by
    intro p hp
    obtain ⟨y, hy, rfl⟩ := List.mem_map.1 hp
    obtain ⟨q, hq, rfl, h0⟩ := hmem y hy
    simpa using ⟨hq, h0⟩
  have hps2 : ∀ p, p < ws.length → 0 < ws.getD p 0 → p ∈ placesN lv := by
    intro p hp h0
    exact List.mem_map.2 ⟨_, hmem2 p hp h0, by simp⟩
  have hws : (placesN lv).map (fun p => ws.getD p 0) = lv.map (·.2) := by
    unfold placesN
    rw [List.map_map]
    apply List.map_congr_left
    intro y hy
    obtain ⟨q, hq, rfl, h0⟩ := hmem y hy
    simp
  have hz : ∀ p, p < ws.length → ¬ 0 < ws.getD p 0 → ws.getD p 0 = 0 := by
    intro p hp h
    have := h3.getD p hp
    omega
  have hpl : (placesN lv).length = lv.length := by simp [placesN]
  by_cases n0 : lv.length = 0
  · have hnil := List.eq_nil_of_length_eq_zero n0
    subst hnil
    have hno : ∀ p, p < ws.length → ¬ 0 < ws.getD p 0 := fun p hp h => by have := hps2 p hp h; simp [placesN] at this
    have hg : ∀ p, p < ws.length → (List.replicate ws.length (0 : Int)).getD p 0 = 0 := fun p hp => by simp [List.getD, hp]
    unfold lensOf
    rw [if_pos (by simp)]
    refine ⟨by simp, fun p hp => by rw [hg p hp]; omega, fun p hp => ?_, fun p q hp hq h0 => absurd h0 (hno q hq), by rw [kraft_zero]; simp, by rw [cost_zero]; simp [leastL]⟩
    rw [hg p hp]
    exact ⟨fun h => absurd h (hno p hp), fun h => by omega⟩
  · by_cases n1 : lv.length = 1
    · obtain ⟨y, rfl⟩ := List.length_eq_one_iff.1 n1
      obtain ⟨q, hq, rfl, h0⟩ := hmem y (List.mem_singleton.2 rfl)
      have hon : ∀ p, p < ws.length → 0 < ws.getD p 0 → p = q := fun p hp h => by simpa [placesN] using hps2 p hp h
      have e : lensOf [((q : Int), ws.getD q 0)] ws.length L = (List.replicate ws.length 0).set q 1 := by
        unfold lensOf
        rw [if_neg (by simp), if_pos (by simp)]
        simp
      have hg : ∀ p, p < ws.length → ((List.replicate ws.length (0 : Int)).set q 1).getD p 0 = if q = p then 1 else 0 := by
        intro p hp
        by_cases e : q = p
        · subst e; rw [getD_set_eq _ _ _ (by simpa using hp), if_pos rfl]
        · rw [getD_set_ne _ _ _ _ e, if_neg e]; simp [List.getD, hp]
      rw [e]
      refine ⟨by simp, fun p hp => by rw [hg p hp]; split <;> omega, fun p hp => ?_, fun p r hp hr h0' hlt => ?_, ?_, ?_⟩
      · rw [hg p hp]
        by_cases e : q = p
        · subst e; rw [if_pos rfl]; exact ⟨fun _ => by omega, fun _ => h0⟩
        · rw [if_neg e]; exact ⟨fun h => absurd (hon p hp h).symm e, fun h => by omega⟩
      · have e1 := hon r hr h0'
        have e2 := hon p hp (by omega)
        subst e1; subst e2; omega
      · rw [kraft_at [q] _ (by simp) (by simpa using hq) (fun p hp hpq => by rw [hg p (by simpa using hp), if_neg (by intro e; exact hpq (by simp [e]))])]
        simp only [List.map_cons, List.map_nil, hg q hq, if_true, List.length_cons, List.length_nil]
        decide
      · have hc := cost_set ws (List.replicate ws.length 0) q (by simpa using hq) hq
        have h00 : (List.replicate ws.length (0 : Int)).getD q 0 = 0 := by simp [List.getD, hq]
        rw [h00, cost_zero] at hc
        simp only [Int.zero_add] at hc
        rw [hc]
        simp [leastL]
    · have h2l : 2 ≤ lv.length := by omega
      obtain ⟨ls, hls⟩ : ∃ ls, ls = lv.map (·.2) := ⟨_, rfl⟩
      have hll : ls.length = lv.length := by rw [hls]; simp
      have hsl : Srd ls := by rw [hls]; exact srd_of hs.srt
      have hsm : ∀ z ∈ ls, 0 ≤ z ∧ z ≤ 1048576 := by
        intro z hz
        rw [hls] at hz
        obtain ⟨y, hy, rfl⟩ := List.mem_map.1 hz
        exact (leaf_place h3 hs y hy).1
      have hC := cntF ls L hsl hsm (by omega) hL1.1 (by omega)
      obtain ⟨x, hx⟩ : ∃ x, x = cnt ls (L - 1) (2 * ls.length - 2) := ⟨_, rfl⟩
      rw [← hx] at hC
      obtain ⟨ps, hpse⟩ : ∃ ps, ps = placesN lv := ⟨_, rfl⟩
      have hnd : ps.Nodup := by rw [hpse]; exact nodup_places ws lv hs
      rw [← hpse] at hps hps2 hws hpl
      rw [← hls] at hws
      have e : lensOf lv ws.length L = bumps ps x L (List.replicate ws.length 0) := by
        unfold lensOf
        rw [if_neg n0, if_neg n1, ← hls, ← hpse, ← hll]
        obtain ⟨M, rfl⟩ : ∃ M, L = M + 1 := ⟨L - 1, by omega⟩
        rw [addL_bumps, hx, Nat.add_sub_cancel]
      rw [e]
      obtain ⟨Z, hZ⟩ : ∃ Z, Z = bumps ps x L (List.replicate ws.length 0) := ⟨_, rfl⟩
      rw [← hZ]
      have hZl : Z.length = ws.length := by
        rw [hZ, ← e]
        unfold lensOf
        rw [if_neg n0, if_neg n1, addL_len, List.length_replicate]
      have hZg : ∀ p, p < ws.length → Z.getD p 0 = ((cntP ps x p L : Nat) : Int) := by
        intro p hp
        rw [hZ, bumps_get _ _ _ _ _ (by simpa using hp)]
        simp [List.getD, hp]
      have hZj : ∀ j, j < ps.length → Z.getD (ps.getD j 0) 0 = ((lenJ x j L : Nat) : Int) := by
        intro j hj
        rw [hZg _ (hps _ (mem_of_get ps j hj)).1, cntP_len ps x j hnd hj]
      have hZ0 : ∀ p, p < ws.length → p ∉ ps → Z.getD p 0 = 0 := by
        intro p hp h
        rw [hZg p hp, cntP_zero ps x p h]; rfl
      have hwj : ∀ j, j < ps.length → ws.getD (ps.getD j 0) 0 = ls.getD j 0 := by
        intro j hj
        rw [← hws]; simp [List.getD, hj]
      refine ⟨hZl, ?_, ?_, ?_, ?_, ?_⟩
      · intro p hp
        by_cases hm : p ∈ ps
        · obtain ⟨j, hj, rfl⟩ := get_of_mem hm
          rw [hZj j hj]
          have := lenJ_le x j L; omega
        · rw [hZ0 p hp hm]; omega
      · intro p hp
        by_cases hm : p ∈ ps
        · have h5 := (hps p hm).2
          obtain ⟨j, hj, rfl⟩ := get_of_mem hm
          rw [hZj j hj]
          have := hC.one j (by omega)
          exact ⟨fun _ => by omega, fun _ => h5⟩
        · rw [hZ0 p hp hm]
          exact ⟨fun h => absurd (hps2 p hp h) hm, fun h => by omega⟩
      · intro p q hp hq hq0 hlt
        obtain ⟨j, hj, rfl⟩ := get_of_mem (hps2 p hp (by omega))
        obtain ⟨k, hk, rfl⟩ := get_of_mem (hps2 q hq hq0)
        rw [hZj j hj, hZj k hk]
        rw [hwj j hj, hwj k hk] at hlt
        have hkj : k ≤ j := by
          refine Nat.le_of_not_lt (fun h => ?_)
          have := srd_get hsl (show j ≤ k by omega) (by omega)
          omega
        have := lenJ_anti x hkj L
        omega
      · rw [if_neg n0, if_neg n1, kraft_at ps Z hnd (fun p hp => by rw [hZl]; exact (hps p hp).1) (fun p hp hm => hZ0 p (by rw [← hZl]; exact hp) hm)]
        rw [sum_map_get _ (fun j => 2 ^ (15 - L) * 2 ^ (L - lenJ x j L)) ps (fun j hj => by
          rw [hZj j hj]
          have h5 := lenJ_le x j L
          have h6 := hC.one j (by omega)
          unfold kpart
          rw [if_pos (by omega), Int.toNat_natCast, pow_split _ L h5 hL1.2])]
        rw [sumN_mul, show ps.length = ls.length by omega, hC.sum, ← Nat.pow_add, show 15 - L + L = 15 by omega]
        rfl
      · rw [hZ, cost_bumps ws ls ps x (fun p hp => (hps p hp).1) hws L _ (by simp), cost_zero, ← hls, hC.cost]
        omega
end Go.Proofs.Ytokdlmpnokmniaa
