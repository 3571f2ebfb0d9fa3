/-
  Codes on paper: Read tells one thing; which bits are a code's beginning.
  bits.Rev: the lowest bits turned round.
  Bits put behind bits: what one round of the writer does to the number that its bytes make. No Go in sight.
  Writer.Put: the lowest n bits of a number, behind what is there.
-/
import Derived.Test.YtpdlkmacdmnamaaMb18
import Derived.Test.YtpdlkmacdmnamaaRows
import Derived.BigRegion
namespace Go.Proofs.Ytpdlkmacdmnamaa
open Go.RowKit
set_option linter.unusedVariables false
set_option linter.unusedSimpArgs false

theorem revN_code (v : Nat) : ∀ n, revN n v = codeN v n
  | 0 => rfl
  | n + 1 => by rw [revN, codeN, revN_code v n, Nat.mul_comm]
theorem codeN_pre (v m : Nat) : ∀ d, codeN v (m + d) / 2 ^ d = codeN v m
  | 0 => by simp
  | d + 1 => by
    have h := codeN_pre v m d
    have hb : v / 2 ^ (m + d) % 2 < 2 := Nat.mod_lt _ (by decide)
    rw [show m + (d + 1) = m + d + 1 from by omega, codeN, Nat.pow_succ, Nat.mul_comm (2 ^ d) 2, ← Nat.div_div_eq_div_mul]
    rw [show (codeN v (m + d) * 2 + v / 2 ^ (m + d) % 2) / 2 = codeN v (m + d) from by omega, h]
theorem codeN_pre_int (v m d : Nat) : ((codeN v (m + d) : Nat) : Int) / 2 ^ d = ((codeN v m : Nat) : Int) := by
  rw [← codeN_pre v m d]; push_cast; rfl
/-- Two places with one and the same code are one. -/
theorem code_one (ls : List Int) (hl : ls.length ≤ 320) (hs : Small 15 ls) (i k : Nat) (hi : i < ls.length) (hk : k < ls.length) (h0 : 0 < ls.getD i 0) (he : ls.getD i 0 = ls.getD k 0) (hc : codeAt ls i = codeAt ls k) : i = k := by
  by_cases e : i = k
  · exact e
  · have := (code_free ls hl hs i k hi hk e h0 0 (by simpa using he)).1
    simp at this
    exact absurd hc.symm this
theorem read_det (ls : List Int) (hl : ls.length ≤ 320) (hs : Small 15 ls) (T v p : Nat) (s f s' f' : Int) (q q' : Nat) (h : ReadS ls T v p s f q) (h' : ReadS ls T v p s' f' q') : s = s' ∧ f = f' ∧ q = q' := by
  rcases h with ⟨n, i, h1, h2, h3, h4, h5, h6, rfl, rfl, rfl⟩ | ⟨h1, rfl, rfl, rfl⟩
  · rcases h' with ⟨n', i', k1, k2, k3, k4, k5, k6, rfl, rfl, rfl⟩ | ⟨k1, rfl, rfl, rfl⟩
    · have e : n = n' := by
        rcases Nat.lt_trichotomy n n' with e | e | e
        · exact absurd h5 (k6 n h1 e i h3 h4)
        · exact e
        · exact absurd k5 (h6 n' k1 e i' k3 k4)
      subst e
      have := code_one ls hl hs i i' h3 k3 (by omega) (by rw [h4, k4]) (by rw [h5, k5])
      subst this
      exact ⟨rfl, rfl, rfl⟩
    · exact absurd h5 (k1 n h1 h2 i h3 h4)
  · rcases h' with ⟨n', i', k1, k2, k3, k4, k5, k6, rfl, rfl, rfl⟩ | ⟨k1, rfl, rfl, rfl⟩
    · exact absurd k5 (h1 n' k1 k2 i' k3 k4)
    · exact ⟨rfl, rfl, rfl⟩

/-- Kraft's sum, by where the codes of each length end. -/
theorem fC_kraft (ls : List Int) : ∀ n : Nat, n ≤ 14 → (fC (cntsL ls) (n + 1) + ((ls.count ((n + 1 : Nat) : Int) : Nat) : Int)) * ((2 ^ (14 - n) : Nat) : Int) = sumK ls (n + 1)
  | 0, _ => by
    simp [sumK, fC, kpart]
  | n + 1, h => by
    have ih := fC_kraft ls n (by omega)
    rw [fC_succ _ _ (by omega), cnts_get ls _ (by omega), sumK, ← ih]
    have hk : kpart ((n + 1 + 1 : Nat) : Int) = ((2 ^ (14 - (n + 1)) : Nat) : Int) := by
      unfold kpart
      rw [if_pos (by omega)]
      have : 15 - ((n + 1 + 1 : Nat) : Int).toNat = 14 - (n + 1) := by omega
      rw [this]
    rw [hk]
    have hp : ((2 ^ (14 - n) : Nat) : Int) = 2 * ((2 ^ (14 - (n + 1)) : Nat) : Int) := by
      have : 14 - n = (14 - (n + 1)) + 1 := by omega
      rw [this, Nat.pow_succ]; push_cast; omega
    rw [hp]
    generalize ((2 ^ (14 - (n + 1)) : Nat) : Int) = P
    generalize fC (cntsL ls) (n + 1) = A
    generalize ((ls.count ((n + 1 : Nat) : Int) : Nat) : Int) = B
    generalize ((ls.count ((n + 1 + 1 : Nat) : Int) : Nat) : Int) = C
    simp only [Int.add_mul, Int.mul_add]
    rw [Int.mul_assoc, Int.mul_assoc]
theorem kraft_few : ∀ ls : List Int, Small 15 ls → kraftL ls ≤ 16384 * ((ls.length : Int) - ((ls.count 0 : Nat) : Int))
  | [], _ => by simp [kraftL]
  | z :: r, h => by
    have ih := kraft_few r (fun y hy => h y (List.mem_cons_of_mem _ hy))
    have hz := h z (List.mem_cons_self ..)
    rw [kraftL, List.count_cons, List.length_cons]
    by_cases e : z = 0
    · subst e
      have : kpart 0 = 0 := by decide
      rw [this]; simp; omega
    · have e2 : (z == 0) = false := by simpa using e
      rw [e2]
      obtain ⟨k, hk⟩ : ∃ k : Nat, z = (k : Int) + 1 := ⟨(z - 1).toNat, by omega⟩
      have : kpart z ≤ 16384 := by
        unfold kpart
        rw [if_pos (by omega), hk]
        have h1 : 15 - ((k : Int) + 1).toNat ≤ 14 := by omega
        have := Nat.pow_le_pow_right (n := 2) (by decide) h1
        have h3 : (2 : Nat) ^ 14 = 16384 := by decide
        omega
      simp; omega
theorem kraft_ref (ls : List Int) (hs : Small 15 ls) (h : refS ls = 0) : kraftL ls ≤ 32768 := by
  have hf := kraft_few ls hs
  have hc := List.count_le_length (l := ls) (a := (0 : Int))
  by_cases h1 : ls.length = ls.count 0
  · omega
  · by_cases h2 : ls.length = ls.count 0 + 1 ∧ ls.count 1 = 1
    · omega
    · by_cases h3 : 32768 < kraftL ls
      · have : kindS ls = 4 := by unfold kindS; rw [if_neg h1, if_neg h2, if_pos h3]
        unfold refS at h
        rw [if_pos (.inl this)] at h
        omega
      · omega
/-- The codes of each length stay below what that many bits can tell. -/
theorem fC_end (ls : List Int) (hs : Small 15 ls) (hl : ls.length ≤ 320) (h : refS ls = 0) (n : Nat) (h1 : 1 ≤ n) (h15 : n ≤ 15) : fC (cntsL ls) n + ((ls.count (n : Int) : Nat) : Int) ≤ ((2 ^ n : Nat) : Int) := by
  have hk := kraft_ref ls hs h
  have h15e : fC (cntsL ls) 15 + ((ls.count ((15 : Nat) : Int) : Nat) : Int) ≤ 32768 := by
    have h2 := fC_kraft ls 14 (by omega)
    rw [show (14 - 14 : Nat) = 0 from rfl, sumK_all ls hs] at h2
    simp at h2 ⊢
    omega
  rcases Nat.lt_or_ge n 15 with hlt | hge
  · have hg := fC_grow ls hl n h1 h15 (14 - n) (by omega)
    rw [show n + 1 + (14 - n) = 15 from by omega, show 14 - n + 1 = 15 - n from by omega] at hg
    have hp : ((2 ^ n : Nat) : Int) * ((2 ^ (15 - n) : Nat) : Int) = 32768 := by
      rw [← Int.natCast_mul, ← Nat.pow_add, show n + (15 - n) = 15 from by omega]; rfl
    have hpos : (0 : Int) < ((2 ^ (15 - n) : Nat) : Int) := by have := Nat.two_pow_pos (15 - n); omega
    refine Int.le_of_mul_le_mul_right ?_ hpos
    rw [hp]
    omega
  · have : n = 15 := by omega
    subst this
    exact h15e
theorem code_lt (ls : List Int) (hs : Small 15 ls) (hl : ls.length ≤ 320) (h : refS ls = 0) (i n : Nat) (hi : i < ls.length) (hz : ls.getD i 0 = (n : Int)) (h1 : 1 ≤ n) : codeAt ls i < ((2 ^ n : Nat) : Int) := by
  have hb := hs.getD i hi
  have h2 := fC_end ls hs hl h n h1 (by omega)
  rw [codeAt_of ls n i h1 hz]
  have h3 := count_step ls i hi
  have h4 := count_all ls (n : Int) (i + 1)
  rw [hz] at h3
  omega
/-- Below the end of the codes of length n, each number has one. -/
theorem fC_hit (ls : List Int) (X : Int) (h0 : 0 ≤ X) : ∀ n : Nat, n ≤ 14 → X < (fC (cntsL ls) (n + 1) + ((ls.count ((n + 1 : Nat) : Int) : Nat) : Int)) * ((2 ^ (14 - n) : Nat) : Int) →
    ∃ m : Nat, 1 ≤ m ∧ m ≤ n + 1 ∧ fC (cntsL ls) m * ((2 ^ (15 - m) : Nat) : Int) ≤ X ∧ X < (fC (cntsL ls) m + ((ls.count (m : Int) : Nat) : Int)) * ((2 ^ (15 - m) : Nat) : Int)
  | 0, _, hx => ⟨1, by omega, by omega, by simpa [fC] using h0, hx⟩
  | n + 1, h, hx => by
    by_cases hc : fC (cntsL ls) (n + 1 + 1) * ((2 ^ (14 - (n + 1)) : Nat) : Int) ≤ X
    · exact ⟨n + 1 + 1, by omega, by omega, by rw [show 15 - (n + 1 + 1) = 14 - (n + 1) from by omega]; exact hc, by rw [show 15 - (n + 1 + 1) = 14 - (n + 1) from by omega]; exact hx⟩
    · have hp : ((2 ^ (14 - n) : Nat) : Int) = 2 * ((2 ^ (14 - (n + 1)) : Nat) : Int) := by
        have : 14 - n = (14 - (n + 1)) + 1 := by omega
        rw [this, Nat.pow_succ]; push_cast; omega
      have hx2 : X < (fC (cntsL ls) (n + 1) + ((ls.count ((n + 1 : Nat) : Int) : Nat) : Int)) * ((2 ^ (14 - n) : Nat) : Int) := by
        rw [fC_succ _ _ (by omega), cnts_get ls _ (by omega)] at hc
        rw [hp, ← Int.mul_assoc]
        omega
      obtain ⟨m, a, b, c, d⟩ := fC_hit ls X h0 n (by omega) hx2
      exact ⟨m, a, by omega, c, d⟩
theorem kind3_kraft (ls : List Int) (h : kindS ls = 3) : kraftL ls = 32768 := by
  unfold kindS at h
  split at h
  · omega
  · split at h
    · omega
    · split at h
      · omega
      · split at h <;> omega
/-- Of a whole code, each row of bits has one that begins it. -/
theorem full_hit (ls : List Int) (hs : Small 15 ls) (h : kindS ls = 3) (v : Nat) : ∃ m j : Nat, 1 ≤ m ∧ m ≤ 15 ∧ j < ls.length ∧ ls.getD j 0 = (m : Int) ∧ codeAt ls j = (codeN v m : Int) := by
  have hk := fC_kraft ls 14 (by omega)
  rw [sumK_all ls hs, kind3_kraft ls h] at hk
  have hv := codeN_lt v 15
  obtain ⟨m, h1, h2, h3, h4⟩ := fC_hit ls (codeN v 15 : Int) (by omega) 14 (by omega) (by rw [hk]; have : (2 : Nat) ^ 15 = 32768 := by decide
                                                                                          omega)
  have hpre := codeN_pre v m (15 - m)
  rw [show m + (15 - m) = 15 from by omega] at hpre
  have hpos := Nat.two_pow_pos (15 - m)
  obtain ⟨P, hP⟩ : ∃ P, P = 2 ^ (15 - m) := ⟨_, rfl⟩
  rw [← hP] at h3 h4 hpre hpos
  obtain ⟨X, hX⟩ : ∃ X, X = codeN v 15 := ⟨_, rfl⟩
  rw [← hX] at h3 h4 hpre
  have e1 : (codeN v m : Int) = (X : Int) / (P : Int) := by rw [← hpre]; push_cast; rfl
  have hP0 : (0 : Int) < (P : Int) := by omega
  have a1 : 0 ≤ (codeN v m : Int) - fC (cntsL ls) m := by
    rw [e1]
    have := Int.le_ediv_of_mul_le hP0 h3
    omega
  have a2 : (codeN v m : Int) - fC (cntsL ls) m < ((ls.count (m : Int) : Nat) : Int) := by
    rw [e1]
    have := Int.ediv_lt_of_lt_mul hP0 h4
    omega
  obtain ⟨j, b1, b2, b3, _⟩ := hit_at ls v m h1 a1 a2
  exact ⟨m, j, h1, by omega, b1, b2, b3⟩
/-- Some longer code begins with the T bits of v. -/
def OpenP (ls : List Int) (T v i : Nat) : Prop := (T : Int) < ls.getD i 0 ∧ codeAt ls i / 2 ^ ((ls.getD i 0).toNat - T) = (codeN v T : Int)
theorem zero_all (ls : List Int) (h : ls.length = ls.count 0) (i : Nat) (hi : i < ls.length) : ls.getD i 0 = 0 := by
  have h2 := List.count_eq_length.1 h.symm
  have : ls.getD i 0 ∈ ls := get_mem' hi
  exact (h2 _ this).symm
theorem sN_some (ls : List Int) : ∀ n, n ≤ 16 → 0 < sN (cnt0 ls) n → ∃ i m : Nat, i < ls.length ∧ 1 ≤ m ∧ m < n ∧ ls.getD i 0 = (m : Int)
  | 0, _, h => by simp [sN] at h
  | n + 1, hn, h => by
    rw [sN, cnt0_get ls n (by omega)] at h
    by_cases e : 0 < sN (cnt0 ls) n
    · obtain ⟨i, m, a, b, c, d⟩ := sN_some ls n (by omega) e
      exact ⟨i, m, a, b, by omega, d⟩
    · by_cases e0 : n = 0
      · subst e0; simp at h; omega
      · rw [if_neg e0] at h
        obtain ⟨j, h1, h2, _⟩ := rank_at ls (n : Int) 0 (by omega)
        exact ⟨j, n, h1, by omega, by omega, h2⟩
theorem lone_all : ∀ ls : List Int, ls.length = ls.count 0 + 1 → ls.count 1 = 1 → ∀ z ∈ ls, z = 0 ∨ z = 1
  | [], h, _, z, hz => by cases hz
  | y :: r, h, h1, z, hz => by
    rw [List.count_cons, List.length_cons] at h
    rw [List.count_cons] at h1
    by_cases e : y = 0
    · subst e
      simp at h h1
      rcases List.mem_cons.1 hz with rfl | hz
      · exact .inl rfl
      · exact lone_all r h h1 z hz
    · have e2 : (y == 0) = false := by simpa using e
      rw [e2] at h
      simp at h
      have hc : r.count 1 = 0 := by
        rw [List.count_eq_zero]
        intro hm
        have := (List.count_eq_length.1 h.symm) 1 hm
        omega
      rw [hc] at h1
      have ey : y = 1 := by
        by_cases e3 : y = 1
        · exact e3
        · have e4 : (y == 1) = false := by simpa using e3
          rw [e4] at h1; simp at h1
      rcases List.mem_cons.1 hz with rfl | hz
      · exact .inr ey
      · exact .inl ((List.count_eq_length.1 h.symm) z hz).symm
theorem open_iff (ls : List Int) (hs : Small 15 ls) (hl : ls.length ≤ 320) (h : refS ls = 0) (T v : Nat) (hno : ∀ m, 1 ≤ m → m ≤ T → NoAt ls v m) :
    (∃ i, i < ls.length ∧ OpenP ls T v i) ↔ (kindS ls = 3 ∨ (T = 0 ∧ 0 < sN (cnt0 ls) 16)) := by
  constructor
  · rintro ⟨i, hi, h1, h2⟩
    have hb := hs.getD i hi
    by_cases h3 : kindS ls = 3
    · exact .inl h3
    · refine .inr ?_
      obtain ⟨n, hn⟩ : ∃ n : Nat, ls.getD i 0 = (n : Int) := ⟨(ls.getD i 0).toNat, by omega⟩
      have hp := pos_in ls hl i n hi hn (by omega) (by omega)
      have hsb := sN_bd ls hl n
      refine ⟨?_, by omega⟩
      have hk : kindS ls = 1 ∨ kindS ls = 2 := by
        rcases kindS_of ls with k | k | k | k | k
        · exact .inl k
        · exact .inr k
        · exact absurd k h3
        · unfold refS at h; rw [if_pos (.inl k)] at h; omega
        · unfold refS at h; rw [if_pos (.inr k)] at h; omega
      unfold kindS at hk
      by_cases c1 : ls.length = ls.count 0
      · have := zero_all ls c1 i hi
        omega
      · rw [if_neg c1] at hk
        by_cases c2 : ls.length = ls.count 0 + 1 ∧ ls.count 1 = 1
        · have := lone_all ls c2.1 c2.2 (ls.getD i 0) (get_mem' hi)
          omega
        · rw [if_neg c2] at hk
          split at hk
          · omega
          · split at hk <;> omega
  · intro hk
    by_cases h3 : kindS ls = 3
    · obtain ⟨m, j, h1, h15, hj, hz, hc⟩ := full_hit ls hs h3 v
      have hT : T < m := by
        by_cases e : m ≤ T
        · exact absurd hc (hno m h1 e j hj hz)
        · omega
      refine ⟨j, hj, by omega, ?_⟩
      rw [hz, hc, Int.toNat_natCast]
      obtain ⟨d, rfl⟩ : ∃ d, m = T + d := ⟨m - T, by omega⟩
      rw [show T + d - T = d from by omega]
      exact codeN_pre_int v T d
    · rcases hk with hk | ⟨rfl, hk⟩
      · exact absurd hk h3
      · obtain ⟨i, m, hi, h1, h16, hz⟩ := sN_some ls 16 (by omega) hk
        refine ⟨i, hi, by omega, ?_⟩
        have hlt := code_lt ls hs hl h i m hi hz h1
        have h0 := (codeAt_bd ls hl hs i hi).1
        rw [hz, Int.toNat_natCast]
        have : codeAt ls i / 2 ^ (m - 0) = 0 := Int.ediv_eq_zero_of_lt h0 (by simpa using hlt)
        rw [this]; rfl
theorem codes_read2 {w w' : World} {zs : List Int} {e : Ending} (h : CodesP w zs e w') : ∃ a c, e = .returned (.tuple #[.slice a zs.length c, .int .i64 0]) ∧ w'.ownsRow 0 47 1 (.slice a zs.length c) zs.length (zs.map (.int .u32)) ∧ (∀ i, i < zs.length → ∃ g, a = some ⟨g, 0, none⟩ ∧ w'.cell? ⟨g, i, none⟩ = some (.int .u32 (zs.getD i 0))) ∧ Kept NoB w w' := by
  obtain ⟨a, c, rfl, ho, hk⟩ := h
  refine ⟨a, c, rfl, ho, ?_, hk⟩
  intro i hi
  rcases ho.2 with ⟨_, hz⟩ | ⟨g, cc, cur, hv, _⟩
  · omega
  · simp at hv
    obtain ⟨rfl, rfl⟩ := hv
    exact ⟨g, rfl, by rw [ho.cellAt i (by omega)]; simp [List.getD, hi]⟩
set_option maxHeartbeats 1000000 in
theorem at_same (w : World) (R : Nat) (ao : Option Addr) (cap : Nat) (bs : List Int) (p : Nat) (h : Rdr w R ao cap bs p) :
    Calls Try.prog 14 #[.pointer (some ⟨R, 0, none⟩)] w fun e w' => e = .returned (.int .i64 p) ∧ w = w' := by
  have c1 : w.cell? ⟨R, 1, none⟩ = some (.int .i64 p) := by simpa using obj_cell h.1 1
  clear h
  go_enter Try.func14, Try.ntmps14
  go_wp2
  go_ret
  exact ⟨rfl, rfl⟩
theorem min3_at (L p : Nat) (h : p ≤ L) : ∃ T : Nat, min3 15 ((L : Int) - p) = T ∧ T ≤ 15 ∧ p + T ≤ L ∧ (T = 0 → p = L) := by
  refine ⟨min 15 (L - p), ?_, by omega, by omega, by omega⟩
  unfold min3; omega
theorem ReadS.step {ls : List Int} {T v p : Nat} {s f : Int} {q : Nat} (h : ReadS ls T v p s f q) : (f = 0 ∧ p < q ∧ q ≤ p + T ∧ 0 < T) ∨ (f ≠ 0 ∧ q = p) := by
  rcases h with ⟨n, i, h1, h2, _, _, _, _, _, rfl, rfl⟩ | ⟨_, _, rfl, rfl⟩
  · exact .inl ⟨rfl, by omega, by omega, by omega⟩
  · refine .inr ⟨?_, rfl⟩
    split <;> omega
theorem own_reads_int {w : World} {a : Option Addr} {l c : Nat} {zs : List Int} (hl : l = zs.length) (h : w.ownsRow 0 3 1 (.slice a l c) l (zs.map (.int .i64))) : RdI w w.heap.size a zs := by
  intro i hi
  rcases h.2 with ⟨_, hz⟩ | ⟨g, cc, cur, hv, _⟩
  · omega
  · simp at hv
    obtain ⟨rfl, rfl⟩ := hv
    have hc : w.cell? ⟨g, i, none⟩ = some (.int .i64 (zs.getD i 0)) := by
      rw [h.cellAt i (by omega)]; simp [List.getD, hi]
    exact ⟨g, 0, rfl, World.block_lt_of_cell? w _ hc, by rw [Nat.zero_add]; exact hc⟩
end Go.Proofs.Ytpdlkmacdmnamaa

namespace Go.Proofs.Ytpdlkmacdmnamaa
open Go.RowKit
set_option linter.unusedVariables false

theorem or16_eq (a : Nat) (ha : a < 4294967296) : bits .or .u32 ((a : Int) / 65536) ((a : Int) * 65536 % 4294967296) = ((a / 65536 ||| a * 65536 % 4294967296 : Nat) : Int) := by
  have h1 : ((a : Int) / 65536) = ((a / 65536 : Nat) : Int) := (Int.natCast_ediv a 65536).symm
  have h3 : ((a : Int) * 65536 % 4294967296) = ((a * 65536 % 4294967296 : Nat) : Int) := by rw [Int.natCast_emod, Int.natCast_mul]; rfl
  rw [h1, h3, u32_or_nat _ _ (Nat.lt_of_le_of_lt (Nat.div_le_self _ _) ha) (Nat.mod_lt _ (by decide))]

set_option maxHeartbeats 1000000 in
theorem rb32 (v : Nat) (w : World) (hv : v < 4294967296) : Calls Try.prog 74 #[.int .u32 v] w fun e w' => e = .returned (.int .u32 (sw 8 16711935 v / 65536 ||| sw 8 16711935 v * 65536 % 4294967296 : Nat)) ∧ w = w' := by
  have e1 : bits .or .u32 (bits .and .u32 ((v : Int) / 256) 16711935) (bits .and .u32 (v : Int) 16711935 * 256 % 4294967296) = ((sw 8 16711935 v : Nat) : Int) := sw_eq 8 16711935 v hv (by decide)
  have e2 := or16_eq (sw 8 16711935 v) (sw_lt _ _ _ (by decide))
  go_enter Try.func74, Try.ntmps74
  go_wp2
  go_ret
  exact ⟨rfl, rfl⟩

set_option maxHeartbeats 1000000 in
theorem r32 (v : Nat) (w : World) (hv : v < 4294967296) : Calls Try.prog 69 #[.int .u32 v] w fun e w' => e = .returned (.int .u32 (net v : Nat)) ∧ w = w' := by
  have e1 : bits .or .u32 (bits .and .u32 ((v : Int) / 2) 1431655765) (bits .and .u32 (v : Int) 1431655765 * 2 % 4294967296) = ((sw 1 1431655765 v : Nat) : Int) := sw_eq 1 1431655765 v hv (by decide)
  have e2 : bits .or .u32 (bits .and .u32 ((sw 1 1431655765 v : Nat) / 4 : Int) 858993459) (bits .and .u32 ((sw 1 1431655765 v : Nat) : Int) 858993459 * 4 % 4294967296) = ((sw 2 858993459 (sw 1 1431655765 v) : Nat) : Int) :=
    sw_eq 2 858993459 _ (sw_lt _ _ _ (by decide)) (by decide)
  have e4 : bits .or .u32 (bits .and .u32 ((sw 2 858993459 (sw 1 1431655765 v) : Nat) / 16 : Int) 252645135) (bits .and .u32 ((sw 2 858993459 (sw 1 1431655765 v) : Nat) : Int) 252645135 * 16 % 4294967296) =
      ((sw 4 252645135 (sw 2 858993459 (sw 1 1431655765 v)) : Nat) : Int) :=
    sw_eq 4 252645135 _ (sw_lt _ _ _ (by decide)) (by decide)
  go_enter Try.func69, Try.ntmps69
  go_wp2_with (go_at_call 74; refine (rb32 _ _ (sw_lt _ _ _ (by decide))).mono ?_; rintro e w' ⟨rfl, rfl⟩)
  go_ret
  exact ⟨rfl, rfl⟩

theorem net_div (v n : Nat) (hn : n ≤ 32) : ((net v : Nat) : Int) / 2 ^ (32 - n) = ((revN n v : Nat) : Int) := by
  rw [← net_rev v n hn]; push_cast; rfl

set_option maxHeartbeats 1000000 in
theorem rev_any (v n : Nat) (w : World) (hv : v < 4294967296) (hn : n ≤ 32) (h1 : 1 ≤ n) : Calls Try.prog 65 #[.int .u32 v, .int .i64 n] w fun e w' => e = .returned (.int .u32 (revN n v : Nat)) ∧ w = w' := by
  go_enter Try.func65, Try.ntmps65
  go_wp2_with (go_at_call 69; refine (r32 _ _ hv).mono ?_; rintro e w' ⟨rfl, rfl⟩)
  go_ret
  refine ⟨?_, rfl⟩
  rw [← net_div v n hn]
  rfl
set_option maxHeartbeats 1000000 in
theorem rev_no (v n : Int) (w : World) (h1 : n < 1 ∨ 32 < n) : Calls Try.prog 65 #[.int .u32 v, .int .i64 n] w fun e w' => e = .returned (.int .u32 0) ∧ w = w' := by
  rcases h1 with h1 | h1
  all_goals
    go_enter Try.func65, Try.ntmps65
    go_wp2
    go_ret
    exact ⟨rfl, rfl⟩
end Go.Proofs.Ytpdlkmacdmnamaa

namespace Go.Proofs.Ytpdlkmacdmnamaa

theorem num_set_last (bs : List Int) (L : Nat) (hL : bs.length = L + 1) (u : Int) : num (bs.set L u) + 256 ^ L * (bs.getD L 0).toNat = num bs + 256 ^ L * u.toNat := by
  have e : bs = bs.take L ++ [bs.getD L 0] := by
    have h := List.take_succ_eq_append_getElem (l := bs) (i := L) (by omega)
    rw [List.take_of_length_le (by omega)] at h
    have g : bs.getD L 0 = bs[L] := by simp [List.getD, hL]
    rw [g]; exact h
  have hl : (bs.take L).length = L := by rw [List.length_take]; omega
  have e2 : bs.set L u = bs.take L ++ [u] := by
    conv => lhs; rw [e]
    rw [List.set_append_right _ _ (by omega), hl]
    simp
  have n1 : num bs = num (bs.take L) + 256 ^ L * (bs.getD L 0).toNat := by
    have := num_append (bs.take L) [bs.getD L 0]
    rw [← e, hl] at this
    simpa [num] using this
  have n2 : num (bs.set L u) = num (bs.take L) + 256 ^ L * u.toNat := by
    rw [e2, num_append, hl]; simp [num]
  omega

theorem top_lt (bs : List Int) (_h : AllB bs) (L q : Nat) (hL : bs.length = L + 1) (hn : num bs < 2 ^ (8 * L + q)) : (bs.getD L 0).toNat < 2 ^ q := by
  have e : bs = bs.take L ++ [bs.getD L 0] := by
    have h := List.take_succ_eq_append_getElem (l := bs) (i := L) (by omega)
    rw [List.take_of_length_le (by omega)] at h
    have g : bs.getD L 0 = bs[L] := by simp [List.getD, hL]
    rw [g]; exact h
  have hl : (bs.take L).length = L := by rw [List.length_take]; omega
  have n1 := num_append (bs.take L) [bs.getD L 0]
  rw [← e, hl, pow256] at n1
  simp only [num, Nat.mul_zero, Nat.add_zero] at n1
  rw [Nat.pow_add] at hn
  have : 2 ^ (8 * L) * (bs.getD L 0).toNat < 2 ^ (8 * L) * 2 ^ q := by omega
  exact Nat.lt_of_mul_lt_mul_left this

/-- The byte that a round leaves: the lowest bits of 'rest' above the q bits that are there. -/
def putByte (z : Int) (rest q : Nat) : Int := bits .or .u8 z (IntKind.u8.wrap (IntKind.u64.wrap ((rest : Int) * 2 ^ q)))

theorem putByte_eq (z : Int) (rest q : Nat) (hz : 0 ≤ z) (hq : q < 8) (hzq : z.toNat < 2 ^ q) :
    putByte z rest q = ((z.toNat + rest % 2 ^ (8 - q) * 2 ^ q : Nat) : Int) := by
  obtain ⟨y, rfl⟩ := Int.eq_ofNat_of_zero_le hz
  simp only [Int.toNat_natCast] at hzq ⊢
  unfold putByte
  have e1 : ((rest : Int) * 2 ^ q) = ((rest * 2 ^ q : Nat) : Int) := by push_cast; rfl
  have hp : 2 ^ q ≤ 2 ^ 7 := pow_le_pow2 (by omega)
  have e2 : IntKind.u8.wrap (IntKind.u64.wrap ((rest * 2 ^ q : Nat) : Int)) = ((rest * 2 ^ q % 256 : Nat) : Int) := by
    rw [IntKind.wrap_u64, IntKind.wrap_u8']
    omega
  have e3 : rest * 2 ^ q % 256 = rest % 2 ^ (8 - q) * 2 ^ q := by
    have : (256 : Nat) = 2 ^ (8 - q) * 2 ^ q := by rw [← Nat.pow_add]; rw [show 8 - q + q = 8 from by omega]
    rw [this, Nat.mul_mod_mul_right]
  rw [e1, e2, u8_or_nat y _ (by omega) (Nat.mod_lt _ (by decide)), e3, or_shift _ _ _ hzq]

theorem put_step (bs : List Int) (h : AllB bs) (L q rest left now : Nat) (hL : bs.length = L + 1) (hq : q < 8) (hn : num bs < 2 ^ (8 * L + q)) (hr : rest < 2 ^ left)
    (hnow : now = 8 - q ∧ 8 - q ≤ left ∨ now = left ∧ left ≤ 8 - q) :
    AllB (bs.set L (putByte (bs.getD L 0) rest q)) ∧ num (bs.set L (putByte (bs.getD L 0) rest q)) = num bs + rest % 2 ^ now * 2 ^ (8 * L + q) ∧
      num (bs.set L (putByte (bs.getD L 0) rest q)) < 2 ^ (8 * L + q + now) := by
  have hz := h.getD L
  have ht := top_lt bs h L q hL hn
  have hb := putByte_eq (bs.getD L 0) rest q hz.1 hq ht
  have hs := num_set_last bs L hL (putByte (bs.getD L 0) rest q)
  have e : rest % 2 ^ (8 - q) = rest % 2 ^ now := by
    rcases hnow with ⟨h1, h2⟩ | ⟨h1, h2⟩
    · rw [h1]
    · rw [h1, Nat.mod_eq_of_lt hr, Nat.mod_eq_of_lt (Nat.lt_of_lt_of_le hr (pow_le_pow2 h2))]
  rw [e] at hb
  generalize putByte (bs.getD L 0) rest q = u at hb hs ⊢
  generalize bs.getD L 0 = z at hb hs ht hz
  have hlt : rest % 2 ^ now < 2 ^ now := Nat.mod_lt _ (Nat.pow_pos (by decide))
  generalize rest % 2 ^ now = r at hb hlt ⊢
  have hu : u.toNat = z.toNat + r * 2 ^ q := by omega
  have hnum : num (bs.set L u) = num bs + r * 2 ^ (8 * L + q) := by
    rw [hu, pow256, Nat.mul_add] at hs
    have : 2 ^ (8 * L) * (r * 2 ^ q) = r * 2 ^ (8 * L + q) := by rw [Nat.pow_add, ← Nat.mul_assoc, Nat.mul_comm (2 ^ (8 * L)) r, Nat.mul_assoc]
    omega
  have hlt2 : z.toNat + r * 2 ^ q < 256 := by
    have h8 : 2 ^ now ≤ 2 ^ (8 - q) := pow_le_pow2 (by omega)
    have : (r + 1) * 2 ^ q ≤ 2 ^ (8 - q) * 2 ^ q := Nat.mul_le_mul_right _ (by omega)
    rw [← Nat.pow_add, show 8 - q + q = 8 from by omega, Nat.add_mul] at this
    omega
  refine ⟨?_, hnum, ?_⟩
  · intro b hb'
    rcases List.mem_or_eq_of_mem_set hb' with h1 | h1
    · exact h b h1
    · omega
  · rw [hnum, Nat.pow_add 2 (8 * L + q) now]
    have : (r + 1) * 2 ^ (8 * L + q) ≤ 2 ^ now * 2 ^ (8 * L + q) := Nat.mul_le_mul_right _ (by omega)
    rw [Nat.add_mul, Nat.mul_comm (2 ^ now)] at this
    omega

/-- The parts that were put, one behind the other. -/
theorem put_parts (V m now : Nat) : V % 2 ^ m + V / 2 ^ m % 2 ^ now * 2 ^ m = V % 2 ^ (m + now) := by
  rw [Nat.pow_add, Nat.mod_mul]
  rw [Nat.mul_comm (2 ^ m)]
theorem div_lt_left (V m n : Nat) (h : V < 2 ^ n) (hm : m ≤ n) : V / 2 ^ m < 2 ^ (n - m) := by
  rw [Nat.div_lt_iff_lt_mul (Nat.pow_pos (by decide)), ← Nat.pow_add, show n - m + m = n from by omega]
  exact h
theorem num_zero_last (bs : List Int) : num (bs ++ [0]) = num bs := by rw [num_append]; simp [num]
theorem AllB.snoc {bs : List Int} (h : AllB bs) (z : Int) (hz : 0 ≤ z ∧ z < 256) : AllB (bs ++ [z]) := by
  intro b hb
  rcases List.mem_append.1 hb with h1 | h1
  · exact h b h1
  · simp at h1; subst h1; exact hz
end Go.Proofs.Ytpdlkmacdmnamaa

namespace Go.Proofs.Ytpdlkmacdmnamaa
open Go.RowKit
set_option linter.unusedVariables false

/-- What Put leaves: x is what was put, in n bits. -/
def PutP (w : World) (R : Nat) (v0 : Value) (bs : List Int) (s x n : Nat) (e : Ending) (w' : World) : Prop :=
  ∃ ao' cap' bs', e = .returned (.bool true) ∧ Wtr w' R ao' cap' bs' (s + n) ∧ num bs' = num bs + x * 2 ^ s ∧ Kept (OrB (OneB R) (OwnB v0)) w w' ∧
    (∀ k, (Value.slice ao' bs'.length cap').ownBlock = some k → v0.ownBlock = some k ∨ w.heap.size ≤ k)

/-- What holds at the head of a round: m bits are put. -/
def PutR (w : World) (R : Nat) (v0 : Value) (bs : List Int) (s V n : Nat) (rest left : Value) (wr : World) (m : Nat) (ao' : Option Addr) (cap' : Nat) (bs' : List Int) : Prop :=
  m ≤ n ∧ rest = .int .u64 (V / 2 ^ m : Nat) ∧ left = .int .i64 (n - m : Nat) ∧ Wtr wr R ao' cap' bs' (s + m) ∧ num bs' = num bs + V % 2 ^ m * 2 ^ s ∧ Kept (OrB (OneB R) (OwnB v0)) w wr ∧
    (∀ k, (Value.slice ao' bs'.length cap').ownBlock = some k → v0.ownBlock = some k ∨ w.heap.size ≤ k)

/-- What holds in a round when there is a byte for the next bits. -/
def PutM (w : World) (R : Nat) (v0 : Value) (N T : Nat) (wx : World) (ao2 : Option Addr) (cap2 : Nat) (bs2 : List Int) : Prop :=
  wx.heap[R]? = some (.cells #[.slice ao2 bs2.length cap2, .int .i64 T] 59 (0, 0)) ∧ wx.ownsRow 0 5 1 (.slice ao2 bs2.length cap2) bs2.length (bs2.map (.int .u8)) ∧
    AllB bs2 ∧ bs2.length = T / 8 + 1 ∧ num bs2 = N ∧ Kept (OrB (OneB R) (OwnB v0)) w wx ∧
    (∀ k, (Value.slice ao2 bs2.length cap2).ownBlock = some k → v0.ownBlock = some k ∨ w.heap.size ≤ k)
def PutMx (w : World) (R : Nat) (v0 : Value) (N T : Nat) (wx : World) : Prop := ∃ ao2 cap2 bs2, PutM w R v0 N T wx ao2 cap2 bs2

theorem drew_heap (w : World) : w.drew.heap = w.heap := rfl
theorem put_round {w wc : World} {R : Nat} {v0 : Value} {bs bs2 : List Int} {s V n m T q L l r now g cap2 : Nat} {z : Int} (hM : PutM w R v0 (num bs + V % 2 ^ m * 2 ^ s) T wc (some ⟨g, 0, none⟩) cap2 bs2)
    (hNlt : num bs + V % 2 ^ m * 2 ^ s < 2 ^ T) (hT : T = s + m) (hq : q = T % 8) (hL : L = T / 8) (hl : l = n - m) (hm : m ≤ n) (hr : r = V / 2 ^ m) (hrl : r < 2 ^ l) (hnow : now = 8 - q ∧ 8 - q ≤ l ∨ now = l ∧ l ≤ 8 - q)
    (hz : bs2.getD L 0 = z) (hs : s ≤ 900000000000) (hn : n ≤ 32) (h1n : 1 ≤ now) :
    PutR w R v0 bs s V n (.int .u64 ((r : Int) / 2 ^ now)) (.int .i64 ((l : Int) - now))
      ((wc.setCell ⟨g, L, none⟩ (.int .u8 (bits .or .u8 z (IntKind.u64.wrap ((r : Int) * 2 ^ q) % 256)))).setCell ⟨R, 1, none⟩ (.int .i64 ((T : Int) + now))).drew
      (m + now) (some ⟨g, 0, none⟩) cap2 (bs2.set L (putByte z r q)) := by
  obtain ⟨h1, h2, h3, h4, h5, h6, h7⟩ := hM
  have e8 : bits .or .u8 z (IntKind.u64.wrap ((r : Int) * 2 ^ q) % 256) = putByte z r q := by unfold putByte; rw [IntKind.wrap_u8']
  have eT : ((T : Int) + now) = ((T + now : Nat) : Int) := by push_cast; rfl
  have ps := put_step bs2 h3 L q r l now (by omega) (by omega) (by rw [h5, show 8 * L + q = T from by omega]; exact hNlt) hrl hnow
  rw [hz, show 8 * L + q = T from by omega, h5] at ps
  have hlen : (bs2.set L (putByte z r q)).length = bs2.length := List.length_set
  have hne := row_ne h2 h1 (by decide) g rfl
  rw [e8, eT]
  have st := h2.stored L (.int .u8 (putByte z r q))
  have k1 : Kept (OneB g) wc (wc.setCell ⟨g, L, none⟩ (.int .u8 (putByte z r q))) := Kept.setCell (S := OneB g) (p := ⟨g, L, none⟩) (Kept.refl _ _) (.inl rfl) _
  have o1 := k1.obj h1 (fun e => hne e.symm)
  refine ⟨by omega, ?_, ?_, ⟨?_, ?_, ps.1, by rw [hlen]; omega, ?_, by omega⟩, ?_, ?_, ?_⟩
  · rw [hr, Nat.pow_add, ← Nat.div_div_eq_div_mul]; push_cast; rfl
  · congr 1; omega
  · rw [hlen]
    have := obj_set o1 1 (.int .i64 (T + now : Nat))
    rw [show s + (m + now) = T + now from by omega]
    simpa [drew_heap] using this
  · rw [hlen]
    have := (Kept.setCell (S := OneB R) (p := ⟨R, 1, none⟩) (Kept.refl _ (wc.setCell ⟨g, L, none⟩ (.int .u8 (putByte z r q)))) (.inl rfl) (.int .i64 (T + now : Nat))).row st.1 (fun k hk e => by
      simp [Value.ownBlock] at hk; exact hne (hk.trans e))
    rw [List.map_set]
    exact this
  · rw [show s + (m + now) = T + now from by omega]; exact ps.2.2
  · rw [ps.2.1, ← put_parts V m now, hr, hT, Nat.add_mul, Nat.pow_add, Nat.mul_assoc, Nat.mul_comm (2 ^ m) (2 ^ s)]; omega
  · refine Kept.drew (Kept.setCell (p := ⟨R, 1, none⟩) (Kept.setCell (p := ⟨g, L, none⟩) h6 ?_ _) (.inl (.inl rfl)) _)
    rcases h7 g rfl with h | h
    · exact .inl (.inr h)
    · exact .inr h
  · intro k hk
    exact h7 k (by simpa [Value.ownBlock] using hk)

theorem low_eq (v n : Nat) (hv : v < 4294967296) (hn : n ≤ 32) : bits .and .u64 (v : Int) (IntKind.u64.wrap (IntKind.u64.wrap (2 ^ n) - 1)) = ((v % 2 ^ n : Nat) : Int) := by
  rw [wrap_pow n hn]
  have h1 : (1 : Nat) ≤ 2 ^ n := Nat.one_le_two_pow
  have h2 : 2 ^ n ≤ 2 ^ 32 := pow_le_pow2 hn
  have hw : IntKind.u64.wrap ((2 : Int) ^ n - 1) = ((2 ^ n - 1 : Nat) : Int) := by
    rw [IntKind.wrap_u64]
    have e : ((2 : Int) ^ n - 1) = ((2 ^ n - 1 : Nat) : Int) := by rw [Int.natCast_sub h1]; push_cast; rfl
    rw [e]
    omega
  rw [hw, u64_and_nat _ _ (by omega) (by omega), Nat.and_two_pow_sub_one_eq_mod]

set_option maxRecDepth 20000 in
set_option maxHeartbeats 2000000 in
theorem put_any (w : World) (R : Nat) (ao : Option Addr) (cap : Nat) (bs : List Int) (s v n : Nat) (h : Wtr w R ao cap bs s) (hv : v < 4294967296) (hn : n ≤ 32) (hs : s ≤ 900000000000) :
    Calls Try.prog 15 #[.pointer (some ⟨R, 0, none⟩), .int .u32 v, .int .i64 n] w (PutP w R (.slice ao bs.length cap) bs s (v % 2 ^ n) n) := by
  obtain ⟨i0, hi, hz0, hz1, hz2⟩ := info_parts info5
  have HL := Lib.hid (low_eq v n hv hn)
  have HV : Hid (v % 2 ^ n < 2 ^ n) := Nat.mod_lt _ (Nat.pow_pos (by decide))
  have H := Lib.hid h; clear h
  go_enter Try.func15, Try.ntmps15
  go_wp2_with (go_at_call 37; refine (lowest_any _ _ (by omega) (by omega)).mono ?_; rintro e w' ⟨rfl, rfl⟩)
  rw [HL.out]
  generalize hV : v % 2 ^ n = V at HV HL ⊢
  have HVE := Lib.hid hV; clear hV HL
  go_loopw [7, 8] (fun rest left wr => ∃ m ao' cap' bs', PutR w R (.slice ao bs.length cap) bs s V n rest left wr m ao' cap' bs') (fun _ left _ => (intOf left).toNat)
  case atStart =>
    exact ⟨0, ao, cap, bs, by omega, by simp, by simp, by simpa using H.out, by simp [Nat.mod_one], Kept.refl _ _, fun k hk => .inl hk⟩
  case round =>
    obtain ⟨m, ao', cap', bs', hm, rfl, rfl, hW, hN, hK, hO⟩ := hrel
    obtain ⟨T, hT⟩ : ∃ T, T = s + m := ⟨_, rfl⟩
    have hTm : T ≤ 900000000032 := by omega
    rw [← hT] at hW
    obtain ⟨q, hq⟩ : ∃ q, q = T % 8 := ⟨_, rfl⟩
    have hq8 : q < 8 := by omega
    have hmod : (T : Int) % 8 = q := by omega
    obtain ⟨l, hl⟩ : ∃ l, l = n - m := ⟨_, rfl⟩
    have hr : V / 2 ^ m < 2 ^ (n - m) := div_lt_left V m n HV.out hm
    rw [← hl] at hr ⊢
    obtain ⟨r, hrr⟩ : ∃ r, r = V / 2 ^ m := ⟨_, rfl⟩
    rw [← hrr] at hr ⊢
    have hl32 : l ≤ 32 := by omega
    have HQ := Lib.hid hq; clear hq
    have HT := Lib.hid hT; clear hT
    have HLL := Lib.hid hl; clear hl
    have HRR := Lib.hid hrr; clear hrr
    have HR := Lib.hid hr; clear hr
    have HN := Lib.hid hN; clear hN
    have HW := Lib.hid hW
    have c0 : wr.cell? ⟨R, 0, none⟩ = some (.slice ao' bs'.length cap') := by simpa using obj_cell hW.1 0
    have c1 : wr.cell? ⟨R, 1, none⟩ = some (.int .i64 T) := by simpa using obj_cell hW.1 1
    have f0 : wr.frozen? ⟨R, 0, none⟩ = false := obj_free hW.1 0
    clear hW
    by_cases hlt : 0 < l
    · go_upto_if 31 with fail
      go_cut [9] from 23 to 40 (fun s9 wx => s9 = .int .i64 q ∧ PutMx w R (.slice ao bs.length cap) (num bs') T wx)
      case first =>
        by_cases hq0 : q = 0
        · have ht : ((T : Int) % 8 == 0) = true := by simp; omega
          have hown := HW.out.2.1
          have hlen := HW.out.2.2.2.1
          have hlb : bs'.length ≤ 112500000004 := by omega
          have HLen := Lib.hid hlen; clear hlen
          go_wp2_with (at_builtin; refine wpList_app _ rfl _ _ 22 rfl 5 i0 (.int .u8 0) 1 1 Try.underlying22 hi hz0 hz1 hz2 rfl (by decide) _ _ _ rfl (hown.alloc _) ⟨wr.heap.size, 0, none⟩ 1 1 [.int .u8 0] rfl rfl ?c1 ?c2 ?c3 ?c4 ?_)
          case c1 => exact cell_one_new _ _ _
          case c2 => intro u hu; simp at hu; subst hu; rfl
          case c3 => unfold maxLen; omega
          case c4 => omega
          intro v' w1 hown' hgrow hnew
          obtain ⟨ao2, cap2, rfl⟩ := own_shape hown'
          have hob := HW.out.1
          have hne := row_ne hown hob (by decide)
          have hob1 : w1.heap[R]? = some (.cells #[.slice ao' bs'.length cap', .int .i64 T] 59 (0, 0)) := by
            rw [hgrow.block R (by have := obj_lt hob; simp; omega) (fun e => hne R e.symm rfl), heap_alloc_old _ _ (obj_lt hob)]
            exact hob
          have d0 : w1.cell? ⟨R, 0, none⟩ = some (.slice ao' bs'.length cap') := by simpa using obj_cell hob1 0
          have g0 : w1.frozen? ⟨R, 0, none⟩ = false := obj_free hob1 0
          have F : PutMx w R (.slice ao bs.length cap) (num bs') T (w1.setCell ⟨R, 0, none⟩ (.slice ao2 (bs'.length + 1) cap2)) := by
            refine ⟨ao2, cap2, bs' ++ [0], ?_, ?_, HW.out.2.2.1.snoc 0 (by decide), ?_, num_zero_last _, ?_, ?_⟩
            · simpa using obj_set hob1 0 (.slice ao2 (bs'.length + 1) cap2)
            · have := (Kept.setCell (S := OneB R) (p := ⟨R, 0, none⟩) (Kept.refl _ w1) (.inl rfl) (.slice ao2 (bs'.length + 1) cap2)).row hown' (fun k hk e => row_ne hown' hob1 (by decide) k hk e)
              simpa using this
            · have := HLen.out; have := HQ.out; simp; omega
            · refine Kept.setCell (p := ⟨R, 0, none⟩) ?_ (.inl (.inl rfl)) _
              refine (hK.alloc _).grown hgrow ?_
              intro k hk e
              rcases hO k e with h1 | h1
              · exact .inr h1
              · omega
            · intro k hk
              have hk2 : (Value.slice ao2 (bs'.length + 1) cap2).ownBlock = some k := by
                cases ao2 with
                | none => simp [Value.ownBlock] at hk
                | some a => simpa [Value.ownBlock] using hk
              rcases hnew k hk2 with h1 | h1
              · exact hO k h1
              · have := hK.size; exact .inr (by omega)
          have HF := Lib.hid F; clear F
          clear hown' hgrow hnew hob1 hob hne
          go_wp2
          go_meet
          exact ⟨by go_num, HF.out⟩
        · have ht : ((T : Int) % 8 == 0) = false := by simp; omega
          go_wp2
          go_meet
          obtain ⟨h1, h2, h3, h4, h5, h6⟩ := HW.out
          exact ⟨by go_num, ao', cap', bs', h1, h2, h3, by have := HQ.out; omega, rfl, hK, hO⟩
      case rest =>
        obtain ⟨rfl, ao2, cap2, bs2, hM⟩ := hcut
        obtain ⟨h1, h2, h3, h4, h5, h6, h7⟩ := hM
        obtain ⟨g, rfl⟩ : ∃ g, ao2 = some ⟨g, 0, none⟩ := by
          rcases h2.2 with ⟨_, hz⟩ | ⟨g, c, cur, hv, _⟩
          · omega
          · simp at hv; exact ⟨g, hv.1⟩
        obtain ⟨L, hL⟩ : ∃ L, L = T / 8 := ⟨_, rfl⟩
        have hne := row_ne h2 h1 (by decide) g rfl
        have hcellz : wc.cell? ⟨g, L, none⟩ = some (.int .u8 (bs2.getD L 0)) := by
          rw [h2.cellAt L (by omega)]; simp [List.getD, show L < bs2.length from by omega]
        have hfz : wc.frozen? ⟨g, L, none⟩ = false := h2.frozenAt L
        have hzb := AllB.getD h3 L
        have d0 : wc.cell? ⟨R, 0, none⟩ = some (.slice (some ⟨g, 0, none⟩) bs2.length cap2) := by simpa using obj_cell h1 0
        have d1 : wc.cell? ⟨R, 1, none⟩ = some (.int .i64 T) := by simpa using obj_cell h1 1
        have g1 : wc.frozen? ⟨R, 1, none⟩ = false := obj_free h1 1
        have hlen : bs2.length = L + 1 := by omega
        have HM : Hid (PutM w R (.slice ao bs.length cap) (num bs') T wc (some ⟨g, 0, none⟩) cap2 bs2) := ⟨h1, h2, h3, h4, h5, h6, h7⟩
        rw [hlen] at d0
        have HLL2 := Lib.hid hL; clear hL
        have HLen := Lib.hid hlen; clear hlen
        generalize hz : bs2.getD L 0 = z at hcellz hzb
        have HZ := Lib.hid hz; clear hz
        have hLb : L ≤ 112500000004 := by have := HLL2.out; omega
        clear h1 h2 h3 h4 h5 h6 h7
        obtain ⟨now, hnow⟩ : ∃ now, now = 8 - q ∧ 8 - q ≤ l ∨ now = l ∧ l ≤ 8 - q := by
          by_cases hmn : l < 8 - q
          · exact ⟨l, .inr ⟨rfl, by omega⟩⟩
          · exact ⟨8 - q, .inl ⟨rfl, by omega⟩⟩
        have hnl : 1 ≤ now ∧ now ≤ l ∧ now ≤ 8 := by omega
        have HNow := Lib.hid hnow; clear hnow
        go_upto_region 9 with fail
        go_cut [10] from 41 to 44 (fun s wx => s = .int .i64 now ∧ wx = wc)
        case first =>
          by_cases hmn : l < 8 - q
          · have hmn' : (l : Int) < 8 - (q : Int) := by omega
            go_wp2
            go_meet
            exact ⟨by have := HNow.out; go_num, rfl⟩
          · have hmn' : ¬ ((l : Int) < 8 - (q : Int)) := by omega
            go_wp2
            go_meet
            exact ⟨by have := HNow.out; go_num, rfl⟩
        case rest =>
          obtain ⟨rfl, hwx⟩ := hcut
          subst hwx
          go_wp2
          go_region
          all_goals go_wp2
          go_roundw
          case rel =>
            have hWn := HW.out.2.2.2.2.1
            rw [HN.out] at hWn
            have hM2 := HM.out
            rw [HN.out] at hM2
            exact ⟨m + now, _, _, _, put_round hM2 hWn HT.out HQ.out HLL2.out HLL.out hm HRR.out HR.out HNow.out HZ.out hs hn hnl.1⟩
          case measure => simp [intOf]; omega
    · have hl0 : l = 0 := by omega
      go_wp2
      go_ret
      refine ⟨ao', cap', bs', rfl, ?_, ?_, hK, hO⟩
      · have := HW.out
        rw [HT.out, show s + m = s + n from by have := HLL.out; omega] at this
        exact this
      · rw [HN.out, show m = n from by have := HLL.out; omega, Nat.mod_eq_of_lt HV.out, HVE.out]
end Go.Proofs.Ytpdlkmacdmnamaa
