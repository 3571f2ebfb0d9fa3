/-
  Codes on paper: Read tells one thing; which bits are a code's beginning.
-/
import Derived.Test.YtokdlmpnokmniaaDecR
import Derived.Test.YtokdlmpnokmniaaRevN
import Derived.Test.YtokdlmpnokmniaaKindB
namespace Go.Proofs.Ytokdlmpnokmniaa
open Go.RowKit
set_option linter.unusedVariables false
set_option linter.unusedSimpArgs false

theorem revN_code (v : Nat) : ∀ n, revN n v = codeN v n
  | 0 => rfl
  | n + 1 => by rw [revN, codeN, revN_code v n, Nat.mul_comm]
theorem codeN_pre (v m : Nat) : ∀ d, codeN v (m + d) / 2 ^ d = codeN v m
  | 0 => by simp
  | d + 1 => by
    have h := codeN_pre v m d
    have hb : v / 2 ^ (m + d) % 2 < 2 := Nat.mod_lt _ (by decide)
    rw [show m + (d + 1) = m + d + 1 from by omega, codeN, Nat.pow_succ, Nat.mul_comm (2 ^ d) 2, ← Nat.div_div_eq_div_mul]
    rw [show (codeN v (m + d) * 2 + v / 2 ^ (m + d) % 2) / 2 = codeN v (m + d) from by omega, h]
theorem codeN_pre_int (v m d : Nat) : ((codeN v (m + d) : Nat) : Int) / 2 ^ d = ((codeN v m : Nat) : Int) := by
  rw [← codeN_pre v m d]; push_cast; rfl
/-- Two places with one and the same code are one. -/
theorem code_one (ls : List Int) (hl : ls.length ≤ 320) (hs : Small 15 ls) (i k : Nat) (hi : i < ls.length) (hk : k < ls.length) (h0 : 0 < ls.getD i 0) (he : ls.getD i 0 = ls.getD k 0) (hc : codeAt ls i = codeAt ls k) : i = k := by
  by_cases e : i = k
  · exact e
  · have := (code_free ls hl hs i k hi hk e h0 0 (by simpa using he)).1
    simp at this
    exact absurd hc.symm this
theorem read_det (ls : List Int) (hl : ls.length ≤ 320) (hs : Small 15 ls) (T v p : Nat) (s f s' f' : Int) (q q' : Nat) (h : ReadS ls T v p s f q) (h' : ReadS ls T v p s' f' q') : s = s' ∧ f = f' ∧ q = q' := by
  rcases h with ⟨n, i, h1, h2, h3, h4, h5, h6, rfl, rfl, rfl⟩ | ⟨h1, rfl, rfl, rfl⟩
  · rcases h' with ⟨n', i', k1, k2, k3, k4, k5, k6, rfl, rfl, rfl⟩ | ⟨k1, rfl, rfl, rfl⟩
    · have e : n = n' := by
        rcases Nat.lt_trichotomy n n' with e | e | e
        · exact absurd h5 (k6 n h1 e i h3 h4)
        · exact e
        · exact absurd k5 (h6 n' k1 e i' k3 k4)
      subst e
      have := code_one ls hl hs i i' h3 k3 (by omega) (by rw [h4, k4]) (by rw [h5, k5])
      subst this
      exact ⟨rfl, rfl, rfl⟩
    · exact absurd h5 (k1 n h1 h2 i h3 h4)
  · rcases h' with ⟨n', i', k1, k2, k3, k4, k5, k6, rfl, rfl, rfl⟩ | ⟨k1, rfl, rfl, rfl⟩
    · exact absurd k5 (h1 n' k1 k2 i' k3 k4)
    · exact ⟨rfl, rfl, rfl⟩

/-- Kraft's sum, by where the codes of each length end. -/
theorem fC_kraft (ls : List Int) : ∀ n : Nat, n ≤ 14 → (fC (cntsL ls) (n + 1) + ((ls.count ((n + 1 : Nat) : Int) : Nat) : Int)) * ((2 ^ (14 - n) : Nat) : Int) = sumK ls (n + 1)
  | 0, _ => by
    simp [sumK, fC, kpart]
  | n + 1, h => by
    have ih := fC_kraft ls n (by omega)
    rw [fC_succ _ _ (by omega), cnts_get ls _ (by omega), sumK, ← ih]
    have hk : kpart ((n + 1 + 1 : Nat) : Int) = ((2 ^ (14 - (n + 1)) : Nat) : Int) := by
      unfold kpart
      rw [if_pos (by omega)]
      have : 15 - ((n + 1 + 1 : Nat) : Int).toNat = 14 - (n + 1) := by omega
      rw [this]
    rw [hk]
    have hp : ((2 ^ (14 - n) : Nat) : Int) = 2 * ((2 ^ (14 - (n + 1)) : Nat) : Int) := by
      have : 14 - n = (14 - (n + 1)) + 1 := by omega
      rw [this, Nat.pow_succ]; push_cast; omega
    rw [hp]
    generalize ((2 ^ (14 - (n + 1)) : Nat) : Int) = P
    generalize fC (cntsL ls) (n + 1) = A
    generalize ((ls.count ((n + 1 : Nat) : Int) : Nat) : Int) = B
    generalize ((ls.count ((n + 1 + 1 : Nat) : Int) : Nat) : Int) = C
    simp only [Int.add_mul, Int.mul_add]
    rw [Int.mul_assoc, Int.mul_assoc]
theorem kraft_few : ∀ ls : List Int, Small 15 ls → kraftL ls ≤ 16384 * ((ls.length : Int) - ((ls.count 0 : Nat) : Int))
  | [], _ => by simp [kraftL]
  | z :: r, h => by
    have ih := kraft_few r (fun y hy => h y (List.mem_cons_of_mem _ hy))
    have hz := h z (List.mem_cons_self ..)
    rw [kraftL, List.count_cons, List.length_cons]
    by_cases e : z = 0
    · subst e
      have : kpart 0 = 0 := by decide
      rw [this]; simp; omega
    · have e2 : (z == 0) = false := by simpa using e
      rw [e2]
      obtain ⟨k, hk⟩ : ∃ k : Nat, z = (k : Int) + 1 := ⟨(z - 1).toNat, by omega⟩
      have : kpart z ≤ 16384 := by
        unfold kpart
        rw [if_pos (by omega), hk]
        have h1 : 15 - ((k : Int) + 1).toNat ≤ 14 := by omega
        have := Nat.pow_le_pow_right (n := 2) (by decide) h1
        have h3 : (2 : Nat) ^ 14 = 16384 := by decide
        omega
      simp; omega
theorem kraft_ref (ls : List Int) (hs : Small 15 ls) (h : refS ls = 0) : kraftL ls ≤ 32768 := by
  have hf := kraft_few ls hs
  have hc := List.count_le_length (l := ls) (a := (0 : Int))
  by_cases h1 : ls.length = ls.count 0
  · omega
  · by_cases h2 : ls.length = ls.count 0 + 1 ∧ ls.count 1 = 1
    · omega
    · by_cases h3 : 32768 < kraftL ls
      · have : kindS ls = 4 := by unfold kindS; rw [if_neg h1, if_neg h2, if_pos h3]
        unfold refS at h
        rw [if_pos (.inl this)] at h
        omega
      · omega
/-- The codes of each length stay below what that many bits can tell. -/
theorem fC_end (ls : List Int) (hs : Small 15 ls) (hl : ls.length ≤ 320) (h : refS ls = 0) (n : Nat) (h1 : 1 ≤ n) (h15 : n ≤ 15) : fC (cntsL ls) n + ((ls.count (n : Int) : Nat) : Int) ≤ ((2 ^ n : Nat) : Int) := by
  have hk := kraft_ref ls hs h
  have h15e : fC (cntsL ls) 15 + ((ls.count ((15 : Nat) : Int) : Nat) : Int) ≤ 32768 := by
    have h2 := fC_kraft ls 14 (by omega)
    rw [show (14 - 14 : Nat) = 0 from rfl, sumK_all ls hs] at h2
    simp at h2 ⊢
    omega
  rcases Nat.lt_or_ge n 15 with hlt | hge
  · have hg := fC_grow ls hl n h1 h15 (14 - n) (by omega)
    rw [show n + 1 + (14 - n) = 15 from by omega, show 14 - n + 1 = 15 - n from by omega] at hg
    have hp : ((2 ^ n : Nat) : Int) * ((2 ^ (15 - n) : Nat) : Int) = 32768 := by
      rw [← Int.natCast_mul, ← Nat.pow_add, show n + (15 - n) = 15 from by omega]; rfl
    have hpos : (0 : Int) < ((2 ^ (15 - n) : Nat) : Int) := by have := Nat.two_pow_pos (15 - n); omega
    refine Int.le_of_mul_le_mul_right ?_ hpos
    rw [hp]
    omega
  · have : n = 15 := by omega
    subst this
    exact h15e
theorem code_lt (ls : List Int) (hs : Small 15 ls) (hl : ls.length ≤ 320) (h : refS ls = 0) (i n : Nat) (hi : i < ls.length) (hz : ls.getD i 0 = (n : Int)) (h1 : 1 ≤ n) : codeAt ls i < ((2 ^ n : Nat) : Int) := by
  have hb := hs.getD i hi
  have h2 := fC_end ls hs hl h n h1 (by omega)
  rw [codeAt_of ls n i h1 hz]
  have h3 := count_step ls i hi
  have h4 := count_all ls (n : Int) (i + 1)
  rw [hz] at h3
  omega
/-- Below the end of the codes of length n, each number has one. -/
theorem fC_hit (ls : List Int) (X : Int) (h0 : 0 ≤ X) : ∀ n : Nat, n ≤ 14 → X < (fC (cntsL ls) (n + 1) + ((ls.count ((n + 1 : Nat) : Int) : Nat) : Int)) * ((2 ^ (14 - n) : Nat) : Int) →
    ∃ m : Nat, 1 ≤ m ∧ m ≤ n + 1 ∧ fC (cntsL ls) m * ((2 ^ (15 - m) : Nat) : Int) ≤ X ∧ X < (fC (cntsL ls) m + ((ls.count (m : Int) : Nat) : Int)) * ((2 ^ (15 - m) : Nat) : Int)
  | 0, _, hx => ⟨1, by omega, by omega, by simpa [fC] using h0, hx⟩
  | n + 1, h, hx => by
    by_cases hc : fC (cntsL ls) (n + 1 + 1) * ((2 ^ (14 - (n + 1)) : Nat) : Int) ≤ X
    · exact ⟨n + 1 + 1, by omega, by omega, by rw [show 15 - (n + 1 + 1) = 14 - (n + 1) from by omega]; exact hc, by rw [show 15 - (n + 1 + 1) = 14 - (n + 1) from by omega]; exact hx⟩
    · have hp : ((2 ^ (14 - n) : Nat) : Int) = 2 * ((2 ^ (14 - (n + 1)) : Nat) : Int) := by
        have : 14 - n = (14 - (n + 1)) + 1 := by omega
        rw [this, Nat.pow_succ]; push_cast; omega
      have hx2 : X < (fC (cntsL ls) (n + 1) + ((ls.count ((n + 1 : Nat) : Int) : Nat) : Int)) * ((2 ^ (14 - n) : Nat) : Int) := by
        rw [fC_succ _ _ (by omega), cnts_get ls _ (by omega)] at hc
        rw [hp, ← Int.mul_assoc]
        omega
      obtain ⟨m, a, b, c, d⟩ := fC_hit ls X h0 n (by omega) hx2
      exact ⟨m, a, by omega, c, d⟩
theorem kind3_kraft (ls : List Int) (h : kindS ls = 3) : kraftL ls = 32768 := by
  unfold kindS at h
  split at h
  · omega
  · split at h
    · omega
    · split at h
      · omega
      · split at h <;> omega
/-- Of a whole code, each row of bits has one that begins it. -/
theorem full_hit (ls : List Int) (hs : Small 15 ls) (h : kindS ls = 3) (v : Nat) : ∃ m j : Nat, 1 ≤ m ∧ m ≤ 15 ∧ j < ls.length ∧ ls.getD j 0 = (m : Int) ∧ codeAt ls j = (codeN v m : Int) := by
  have hk := fC_kraft ls 14 (by omega)
  rw [sumK_all ls hs, kind3_kraft ls h] at hk
  have hv := codeN_lt v 15
  obtain ⟨m, h1, h2, h3, h4⟩ := fC_hit ls (codeN v 15 : Int) (by omega) 14 (by omega) (by rw [hk]; have : (2 : Nat) ^ 15 = 32768 := by decide
                                                                                          omega)
  have hpre := codeN_pre v m (15 - m)
  rw [show m + (15 - m) = 15 from by omega] at hpre
  have hpos := Nat.two_pow_pos (15 - m)
  obtain ⟨P, hP⟩ : ∃ P, P = 2 ^ (15 - m) := ⟨_, rfl⟩
  rw [← hP] at h3 h4 hpre hpos
  obtain ⟨X, hX⟩ : ∃ X, X = codeN v 15 := ⟨_, rfl⟩
  rw [← hX] at h3 h4 hpre
  have e1 : (codeN v m : Int) = (X : Int) / (P : Int) := by rw [← hpre]; push_cast; rfl
  have hP0 : (0 : Int) < (P : Int) := by omega
  have a1 : 0 ≤ (codeN v m : Int) - fC (cntsL ls) m := by
    rw [e1]
    have := Int.le_ediv_of_mul_le hP0 h3
    omega
  have a2 : (codeN v m : Int) - fC (cntsL ls) m < ((ls.count (m : Int) : Nat) : Int) := by
    rw [e1]
    have := Int.ediv_lt_of_lt_mul hP0 h4
    omega
  obtain ⟨j, b1, b2, b3, _⟩ := hit_at ls v m h1 a1 a2
  exact ⟨m, j, h1, by omega, b1, b2, b3⟩
/-- Some longer code begins with the T bits of v. -/
def OpenP (ls : List Int) (T v i : Nat) : Prop := (T : Int) < ls.getD i 0 ∧ codeAt ls i / 2 ^ ((ls.getD i 0).toNat - T) = (codeN v T : Int)
theorem zero_all (ls : List Int) (h : ls.length = ls.count 0) (i : Nat) (hi : i < ls.length) : ls.getD i 0 = 0 := by
  have h2 := List.count_eq_length.1 h.symm
  have : ls.getD i 0 ∈ ls := get_mem' hi
  exact (h2 _ this).symm
theorem sN_some (ls : List Int) : ∀ n, n ≤ 16 → 0 < sN (cnt0 ls) n → ∃ i m : Nat, i < ls.length ∧ 1 ≤ m ∧ m < n ∧ ls.getD i 0 = (m : Int)
  | 0, _, h => by simp [sN] at h
  | n + 1, hn, h => by
    rw [sN, cnt0_get ls n (by omega)] at h
    by_cases e : 0 < sN (cnt0 ls) n
    · obtain ⟨i, m, a, b, c, d⟩ := sN_some ls n (by omega) e
      exact ⟨i, m, a, b, by omega, d⟩
    · by_cases e0 : n = 0
      · subst e0; simp at h; omega
      · rw [if_neg e0] at h
        obtain ⟨j, h1, h2, _⟩ := rank_at ls (n : Int) 0 (by omega)
        exact ⟨j, n, h1, by omega, by omega, h2⟩
theorem lone_all : ∀ ls : List Int, ls.length = ls.count 0 + 1 → ls.count 1 = 1 → ∀ z ∈ ls, z = 0 ∨ z = 1
  | [], h, _, z, hz => by cases hz
  | y :: r, h, h1, z, hz => by
    rw [List.count_cons, List.length_cons] at h
    rw [List.count_cons] at h1
    by_cases e : y = 0
    · subst e
      simp at h h1
      rcases List.mem_cons.1 hz with rfl | hz
      · exact .inl rfl
      · exact lone_all r h h1 z hz
    · have e2 : (y == 0) = false := by simpa using e
      rw [e2] at h
      simp at h
      have hc : r.count 1 = 0 := by
        rw [List.count_eq_zero]
        intro hm
        have := (List.count_eq_length.1 h.symm) 1 hm
        omega
      rw [hc] at h1
      have ey : y = 1 := by
        by_cases e3 : y = 1
        · exact e3
        · have e4 : (y == 1) = false := by simpa using e3
          rw [e4] at h1; simp at h1
      rcases List.mem_cons.1 hz with rfl | hz
      · exact .inr ey
      · exact .inl ((List.count_eq_length.1 h.symm) z hz).symm
theorem open_iff (ls : List Int) (hs : Small 15 ls) (hl : ls.length ≤ 320) (h : refS ls = 0) (T v : Nat) (hno : ∀ m, 1 ≤ m → m ≤ T → NoAt ls v m) :
    (∃ i, i < ls.length ∧ OpenP ls T v i) ↔ (kindS ls = 3 ∨ (T = 0 ∧ 0 < sN (cnt0 ls) 16)) := by
  constructor
  · rintro ⟨i, hi, h1, h2⟩
    have hb := hs.getD i hi
    by_cases h3 : kindS ls = 3
    · exact .inl h3
    · refine .inr ?_
      obtain ⟨n, hn⟩ : ∃ n : Nat, ls.getD i 0 = (n : Int) := ⟨(ls.getD i 0).toNat, by omega⟩
      have hp := pos_in ls hl i n hi hn (by omega) (by omega)
      have hsb := sN_bd ls hl n
      refine ⟨?_, by omega⟩
      have hk : kindS ls = 1 ∨ kindS ls = 2 := by
        rcases kindS_of ls with k | k | k | k | k
        · exact .inl k
        · exact .inr k
        · exact absurd k h3
        · unfold refS at h; rw [if_pos (.inl k)] at h; omega
        · unfold refS at h; rw [if_pos (.inr k)] at h; omega
      unfold kindS at hk
      by_cases c1 : ls.length = ls.count 0
      · have := zero_all ls c1 i hi
        omega
      · rw [if_neg c1] at hk
        by_cases c2 : ls.length = ls.count 0 + 1 ∧ ls.count 1 = 1
        · have := lone_all ls c2.1 c2.2 (ls.getD i 0) (get_mem' hi)
          omega
        · rw [if_neg c2] at hk
          split at hk
          · omega
          · split at hk <;> omega
  · intro hk
    by_cases h3 : kindS ls = 3
    · obtain ⟨m, j, h1, h15, hj, hz, hc⟩ := full_hit ls hs h3 v
      have hT : T < m := by
        by_cases e : m ≤ T
        · exact absurd hc (hno m h1 e j hj hz)
        · omega
      refine ⟨j, hj, by omega, ?_⟩
      rw [hz, hc, Int.toNat_natCast]
      obtain ⟨d, rfl⟩ : ∃ d, m = T + d := ⟨m - T, by omega⟩
      rw [show T + d - T = d from by omega]
      exact codeN_pre_int v T d
    · rcases hk with hk | ⟨rfl, hk⟩
      · exact absurd hk h3
      · obtain ⟨i, m, hi, h1, h16, hz⟩ := sN_some ls 16 (by omega) hk
        refine ⟨i, hi, by omega, ?_⟩
        have hlt := code_lt ls hs hl h i m hi hz h1
        have h0 := (codeAt_bd ls hl hs i hi).1
        rw [hz, Int.toNat_natCast]
        have : codeAt ls i / 2 ^ (m - 0) = 0 := Int.ediv_eq_zero_of_lt h0 (by simpa using hlt)
        rw [this]; rfl
theorem codes_read2 {w w' : World} {zs : List Int} {e : Ending} (h : CodesP w zs e w') : ∃ a c, e = .returned (.tuple #[.slice a zs.length c, .int .i64 0]) ∧ w'.ownsRow 0 31 1 (.slice a zs.length c) zs.length (zs.map (.int .u32)) ∧ (∀ i, i < zs.length → ∃ g, a = some ⟨g, 0, none⟩ ∧ w'.cell? ⟨g, i, none⟩ = some (.int .u32 (zs.getD i 0))) ∧ Kept NoB w w' := by
  obtain ⟨a, c, rfl, ho, hk⟩ := h
  refine ⟨a, c, rfl, ho, ?_, hk⟩
  intro i hi
  rcases ho.2 with ⟨_, hz⟩ | ⟨g, cc, cur, hv, _⟩
  · omega
  · simp at hv
    obtain ⟨rfl, rfl⟩ := hv
    exact ⟨g, rfl, by rw [ho.cellAt i (by omega)]; simp [List.getD, hi]⟩
set_option maxHeartbeats 1000000 in
theorem at_same (w : World) (R : Nat) (ao : Option Addr) (cap : Nat) (bs : List Int) (p : Nat) (h : Rdr w R ao cap bs p) :
    Calls Try.prog 15 #[.pointer (some ⟨R, 0, none⟩)] w fun e w' => e = .returned (.int .i64 p) ∧ w = w' := by
  have c1 : w.cell? ⟨R, 1, none⟩ = some (.int .i64 p) := by simpa using obj_cell h.1 1
  clear h
  go_enter Try.func15, Try.ntmps15
  go_wp2
  go_ret
  exact ⟨rfl, rfl⟩
theorem min3_at (L p : Nat) (h : p ≤ L) : ∃ T : Nat, min3 15 ((L : Int) - p) = T ∧ T ≤ 15 ∧ p + T ≤ L ∧ (T = 0 → p = L) := by
  refine ⟨min 15 (L - p), ?_, by omega, by omega, by omega⟩
  unfold min3; omega
theorem ReadS.step {ls : List Int} {T v p : Nat} {s f : Int} {q : Nat} (h : ReadS ls T v p s f q) : (f = 0 ∧ p < q ∧ q ≤ p + T ∧ 0 < T) ∨ (f ≠ 0 ∧ q = p) := by
  rcases h with ⟨n, i, h1, h2, _, _, _, _, _, rfl, rfl⟩ | ⟨_, _, rfl, rfl⟩
  · exact .inl ⟨rfl, by omega, by omega, by omega⟩
  · refine .inr ⟨?_, rfl⟩
    split <;> omega
theorem own_reads_int {w : World} {a : Option Addr} {l c : Nat} {zs : List Int} (hl : l = zs.length) (h : w.ownsRow 0 3 1 (.slice a l c) l (zs.map (.int .i64))) : RdI w w.heap.size a zs := by
  intro i hi
  rcases h.2 with ⟨_, hz⟩ | ⟨g, cc, cur, hv, _⟩
  · omega
  · simp at hv
    obtain ⟨rfl, rfl⟩ := hv
    have hc : w.cell? ⟨g, i, none⟩ = some (.int .i64 (zs.getD i 0)) := by
      rw [h.cellAt i (by omega)]; simp [List.getD, hi]
    exact ⟨g, 0, rfl, World.block_lt_of_cell? w _ hc, by rw [Nat.zero_add]; exact hc⟩
end Go.Proofs.Ytokdlmpnokmniaa
