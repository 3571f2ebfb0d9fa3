/-
  Tokens are expanded to what was told by them, on paper.
  deflate.packAll of up to 32768 bytes: one block.
  slices.Concat of one or two rows of bytes.
  deflate.All of up to 32768 bytes in parts: one block.
  gzip.Member.
  gzip.inflated of bytes that begin with a whole stream of at most 256 bytes.
  gzip.inflated of bytes that begin with a whole stream of at most 256 bytes.
-/
import Derived.Test.YtfmjfgmbjdhogaaGreatDoorMg25
import Derived.Lib.AppendZerosOnto
namespace Go.Proofs.YtfmjfgmbjdhogaaGreatDoor
open Go.RowKit
set_option linter.unusedVariables false
set_option linter.unusedSimpArgs false

theorem nb_getD (L : List UInt8) (i : Nat) : (nb L).getD i 0 = ((L.getD i 0).toNat : Int) := by
  by_cases h : i < L.length
  · simp [nb, List.getD, h]
  · simp [nb, List.getD, List.getElem?_eq_none (Nat.le_of_not_lt h)]
theorem nb_take_succ (L : List UInt8) (i : Nat) (h : i < L.length) : (nb L).take (i + 1) = (nb L).take i ++ [((L.getD i 0).toNat : Int)] := by
  have hn : i < (nb L).length := by rw [nb_len]; exact h
  have e : (nb L)[i] = ((L.getD i 0).toNat : Int) := by
    have := nb_getD L i
    simpa [List.getD, hn] using this
  rw [List.take_succ_eq_append_getElem hn, e]
theorem copy_cand (L : List UInt8) (p D m : Nat) (hD : 1 ≤ D) (hp : D ≤ p) (h : ∀ j, j < m → L.getD (p - D + j) 0 = L.getD (p + j) 0) (hm : p + m ≤ L.length) : copyN D m ((nb L).take p) = (nb L).take (p + m) := by
  induction m with
  | zero => rfl
  | succ m ih =>
    have ih := ih (fun j hj => h j (by omega)) (by omega)
    have hl : ((nb L).take (p + m)).length = p + m := by rw [List.length_take, nb_len]; omega
    rw [copyN, ih, hl, show p + (m + 1) = p + m + 1 by omega, nb_take_succ L (p + m) (by omega)]
    congr 1
    have e1 : ((nb L).take (p + m)).getD (p + m - D) 0 = (nb L).getD (p + m - D) 0 := by
      simp [List.getD, List.getElem?_take, show p + m - D < p + m by omega]
    rw [e1, nb_getD, show p + m - D = p - D + m by omega, h m (by omega)]
theorem step_exp (lv : Int) (L : List UInt8) (p : Nat) (hp : p < L.length) (hL : L.length ≤ 32768) :
    (stepT lv L p).1.wf ∧ (stepT lv L p).1.no ((nb L).take p).length (L.length : Int) = 0 ∧ (stepT lv L p).1.put ((nb L).take p) = (nb L).take (stepT lv L p).2 := by
  have hl : ((nb L).take p).length = p := by rw [List.length_take, nb_len]; omega
  rw [hl]
  by_cases hz : (lazyN lv L p).1 = 0
  · rw [step_lit hz]
    have hb := (L.getD p 0).toNat_lt
    refine ⟨?_, ?_, ?_⟩
    · unfold Tk.wf litT
      simp only
      omega
    · unfold Tk.no Tk.ok litT
      simp only
      rw [if_pos trivial, if_neg (by simp), if_neg (by omega), if_neg (by rw [if_pos (by decide)]; omega)]
    · unfold Tk.put litT
      simp only
      rw [if_pos trivial, nb_take_succ L p hp]
  · rw [step_tok hz]
    have hlz : lazyN lv L p = longN L p := by
      unfold lazyN at hz ⊢
      split at hz
      · exact absurd rfl hz
      · split at hz
        · exact absurd rfl hz
        · rename_i h1 h2
          rw [if_neg h1, if_neg h2]
    rw [hlz] at hz ⊢
    obtain ⟨n, hn⟩ : ∃ n, n = (longN L p).1 := ⟨_, rfl⟩
    obtain ⟨d, hd⟩ : ∃ d, d = (longN L p).2 := ⟨_, rfl⟩
    have hok := long_ok L p
    rw [← hn, ← hd] at hok
    rw [← hn] at hz ⊢
    rw [← hd]
    rcases hok with ⟨h1, _⟩ | ⟨h1, h2, h3, h4, h5, _⟩
    · exact absurd h1 hz
    · have h2' := h2
      rw [mostN] at h2'
      have hc := (shr_iff L (mostN L p) (p - d) p n h2).1 (by rw [← h5]; exact Nat.le_refl _)
      refine ⟨?_, ?_, ?_⟩
      · unfold Tk.wf
        simp only
        omega
      · unfold Tk.no Tk.ok
        simp only
        rw [if_neg (show ¬ ((n : Int) = 0) by omega), if_neg (by simp; omega), if_neg (by omega), if_neg (by omega)]
      · unfold Tk.put
        simp only
        rw [if_neg (by omega), Int.toNat_natCast, Int.toNat_natCast]
        exact copy_cand L p d n h3 (by omega) hc (by omega)
theorem exp_rest (lv : Int) (L : List UInt8) (hL : L.length ≤ 32768) : ∀ k p i, L.length - p ≤ k → p ≤ L.length → AllT (restT lv L p) ∧ expF (L.length : Int) (restT lv L p) ((nb L).take p) i = (nb L, i + (restT lv L p).length, 0) := by
  intro k
  induction k with
  | zero =>
    intro p i hk hp
    rw [rest_end lv L p (by omega), show p = L.length by omega]
    refine ⟨(fun t ht => by cases ht), ?_⟩
    rw [expF, List.take_of_length_le (by rw [nb_len]; exact Nat.le_refl _)]
    rfl
  | succ k ih =>
    intro p i hk hp
    by_cases hlt : p < L.length
    · obtain ⟨h1, h2, h3⟩ := step_exp lv L p hlt hL
      have h4 := step_lt lv L p
      obtain ⟨g1, g2⟩ := ih (stepT lv L p).2 (i + 1) (by omega) (step_le lv L p hlt)
      rw [rest_step lv L p hlt]
      refine ⟨?_, ?_⟩
      · intro t ht
        rcases List.mem_cons.1 ht with h | h
        · rw [h]; exact h1
        · exact g1 t h
      · rw [expF, if_pos h2, h3, g2, List.length_cons]
        congr 2
        omega
    · rw [rest_end lv L p (by omega), show p = L.length by omega]
      refine ⟨(fun t ht => by cases ht), ?_⟩
      rw [expF, List.take_of_length_le (by rw [nb_len]; exact Nat.le_refl _)]
      rfl
end Go.Proofs.YtfmjfgmbjdhogaaGreatDoor

namespace Go.Proofs.YtfmjfgmbjdhogaaGreatDoor
open Go.RowKit
set_option linter.unusedVariables false
set_option linter.unusedSimpArgs false
set_option maxRecDepth 20000

theorem expF_good {most : Int} : ∀ (ts : List Tk) (bs x : List Int) (i n : Nat), expF most ts bs i = (x, n, 0) → good most ts bs ∧ putAll ts bs = x
  | [], bs, x, i, n, h => by
    unfold expF at h
    simp only [Prod.mk.injEq] at h
    exact ⟨trivial, h.1⟩
  | t :: r, bs, x, i, n, h => by
    unfold expF at h
    by_cases hn : t.no bs.length most = 0
    · rw [if_pos hn] at h
      obtain ⟨h1, h2⟩ := expF_good r (t.put bs) x (i + 1) n h
      exact ⟨⟨hn, h1⟩, h2⟩
    · rw [if_neg hn] at h
      simp only [Prod.mk.injEq] at h
      exact absurd h.2.2 hn
theorem good_allOk {most : Int} : ∀ (ts : List Tk) (bs : List Int), good most ts bs → allOkB ts = true
  | [], _, _ => rfl
  | t :: r, bs, h => by
    have h1 := good_allOk r _ h.2
    have h2 : t.ok = true := by
      have h3 := h.1
      unfold Tk.no at h3
      cases hok : t.ok with
      | true => rfl
      | false => rw [hok] at h3; simp at h3
    unfold allOkB at h1 ⊢
    rw [List.all_cons, h2, h1]; rfl
theorem rest_facts (lv : Int) (L : List UInt8) (hL : L.length ≤ 32768) : AllT (restT lv L 0) ∧ good (L.length : Int) (restT lv L 0) [] ∧ putAll (restT lv L 0) [] = nb L ∧ allOkB (restT lv L 0) = true := by
  obtain ⟨h1, h2⟩ := exp_rest lv L hL L.length 0 0 (by omega) (by omega)
  rw [List.take_zero] at h2
  obtain ⟨h3, h4⟩ := expF_good _ _ _ _ _ h2
  exact ⟨h1, h3, h4, good_allOk _ _ h3⟩
end Go.Proofs.YtfmjfgmbjdhogaaGreatDoor

namespace Go.Proofs.YtfmjfgmbjdhogaaGreatDoor
open Go.RowKit
set_option linter.unusedVariables false
set_option linter.unusedSimpArgs false

set_option maxRecDepth 20000 in
set_option maxHeartbeats 2000000 in
theorem growB_nil (n : Nat) (w : World) (hn : 1 ≤ n ∧ n ≤ 100000) :
    Calls Tryz.prog 49 #[.slice none 0 0, .int .i64 (n : Int)] w fun e w' => ∃ c, e = .returned (.slice (some ⟨w.heap.size, 0, none⟩) 0 c) ∧ BySt w w' (some ⟨w.heap.size, 0, none⟩) 0 c [] := by
  obtain ⟨i0, hi, hz0, hz1, hz2⟩ := info_parts info5
  have h1 : ¬ ((n : Int) < 0) := by omega
  have h2 : (0 : Int) < (n : Int) := by omega
  have hold : (Builtin.firstCells i0.size 0 (.slice none 0 0)).run Tryz.prog w.drew = .ok #[] w.drew := run_firstCells_none w.drew i0.size 0 0 0
  have hrz : ∀ ty, (Builtin.append_ #[22, 3] ty #[.slice none 0 0, .int .i64 (n : Int)]).run Tryz.prog w =
      .ok (.slice (some ⟨w.heap.size, 0, none⟩) n (grownCap w n 0 5)) (w.drew.alloc (.cells (([] : List Value).toArray ++ Builtin.zeroCells (Value.int .u8 0).cells n ++ Builtin.zeroCells (Value.int .u8 0).cells (grownCap w n 0 5 - n)) 5)) := fun ty => by
    have h := Lib.run_append_grow_zeros w 22 3 ty 5 i0 (.int .u8 0) .i64 .i64 Tryz.underlying22 rfl hi hz0 none 0 0 [] hold n (by omega) (by rw [hz1]; omega) (by omega) (by omega)
      (by rw [hz2]; omega)
      (by rw [Nat.zero_add]; exact growslice_fits (by omega) (by rw [hz2]; omega))
    rw [Nat.zero_add] at h
    exact h
  have hGn : n ≤ grownCap w n 0 5 := grownCap_ge w _ _ _
  have hGm : grownCap w n 0 5 ≤ maxLen := grownCap_le_maxLen w n 0 5 (by unfold maxLen; omega)
  obtain ⟨G, hG⟩ : ∃ G, G = grownCap w n 0 5 := ⟨_, rfl⟩
  rw [← hG] at hrz hGn hGm
  have hcz : ∀ k, (Builtin.zeroCells (Value.int .u8 0).cells k).size = k := fun k => by simp [Builtin.zeroCells, Value.cells]
  obtain ⟨cs, hcs⟩ : ∃ cs : Array Value, cs = ([] : List Value).toArray ++ Builtin.zeroCells (Value.int .u8 0).cells n ++ Builtin.zeroCells (Value.int .u8 0).cells (G - n) := ⟨_, rfl⟩
  have hsz : cs.size = G := by rw [hcs]; simp [hcz]; omega
  rw [← hcs] at hrz
  have hst : BySt w (w.drew.alloc (.cells cs 5)) (some ⟨w.heap.size, 0, none⟩) 0 G [] := ⟨rfl, ⟨rfl, .inr ⟨w.heap.size, G, cs, rfl, Nat.zero_le _, by simpa using heap_alloc_new w.drew (.cells cs 5), Nat.zero_le _, hGm, by rw [hsz, Nat.mul_one], by simp [bc]⟩⟩, (Kept.drew (Kept.refl NoB w)).alloc _, fun k hk => by simp [Value.ownBlock] at hk; omega⟩
  have HSt := Lib.hid hst
  have g63 : (G : Int) ≤ 9223372036854775807 := by unfold maxLen at hGm; omega
  clear hold hG hcs hsz hst hGm hcz
  go_enter Tryz.func49, Tryz.ntmps49
  go_wp2_with (at_builtin; refine Lib.wpList_append_run _ rfl _ _ _ _ rfl _ _ rfl rfl _ _ (hrz _) ?_)
  all_goals (go_ret; exact ⟨G, rfl, HSt.out⟩)
set_option maxRecDepth 20000 in
set_option maxHeartbeats 2000000 in
theorem growB_zero (w : World) : Calls Tryz.prog 49 #[.slice none 0 0, .int .i64 0] w fun e w' => e = .returned (.slice none 0 0) ∧ Kept NoB w w' := by
  go_enter Tryz.func49, Tryz.ntmps49
  go_wp2
  go_ret
  exact ⟨rfl, Kept.refl _ _⟩
theorem flat_step (ps : List (List UInt8)) (i : Nat) (h : i < ps.length) : (ps.take (i + 1)).flatten = (ps.take i).flatten ++ ps.getD i [] := by
  rw [List.take_add_one, List.getElem?_eq_getElem h, List.flatten_append]
  simp [List.getD, h]
theorem flat_le (ps : List (List UInt8)) (i : Nat) : ((ps.take i).flatten).length ≤ ps.flatten.length := by
  conv => rhs; rw [← List.take_append_drop i ps]
  rw [List.flatten_append, List.length_append]; omega
set_option maxRecDepth 20000 in
set_option maxHeartbeats 4000000 in
theorem concatB_any (H k : Nat) (ps : List (List UInt8)) (w : World) (hk : k = ps.length) (hk4 : k ≤ 1000) (hp : ∀ i, i < k → ∃ o c, w.cell? ⟨H, i, none⟩ = some (.slice o (ps.getD i []).length c) ∧ Reads w o (nb (ps.getD i [])) ∧ (o = none → c = 0)) (hlen : ps.flatten.length ≤ 100000) :
    Calls Tryz.prog 24 #[.slice (some ⟨H, 0, none⟩) k k] w fun e w' => ∃ a l c, e = .returned (.slice a l c) ∧ l = ps.flatten.length ∧ BySt w w' a l c ps.flatten := by
  have HK := Lib.hid hk; have HP := Lib.hid hp; have HLen := Lib.hid hlen
  clear hk hp hlen
  go_enter Tryz.func24, Tryz.ntmps24
  go_wp2_with fail
  go_loopw [11, 3, 5] (fun iv sv _p wr => ∃ i S : Nat, i ≤ k ∧ iv = .int .i64 (i : Int) ∧ sv = .int .i64 (S : Int) ∧ Hid (S = ((ps.take i).flatten).length) ∧ w = wr) (fun iv _ _ _ => k - (intOf iv).toNat)
  case atStart => exact ⟨0, 0, by omega, rfl, rfl, Lib.hid (by simp), rfl⟩
  case round =>
    obtain ⟨i, S, hi, rfl, rfl, HS, rfl⟩ := hrel
    by_cases hlt : (i : Int) < (k : Int)
    · have hil : i < ps.length := by have := HK.out; omega
      obtain ⟨o, c, hc, _, _⟩ := HP.out i (by omega)
      have hfs := congrArg List.length (flat_step ps i hil)
      rw [List.length_append, ← HS.out] at hfs
      have hle := flat_le ps (i + 1)
      obtain ⟨m, hm⟩ : ∃ m, m = (ps.getD i []).length := ⟨_, rfl⟩
      rw [← hm] at hc hfs
      have hSm : S + m ≤ 100000 := by have := HLen.out; omega
      have HFs := Lib.hid hfs
      have hng : ¬ ((S : Int) + (m : Int) < 0) := by omega
      clear hfs hle hm hil
      go_wp2
      go_roundw
      case rel => exact ⟨i + 1, S + m, by omega, by go_num, by go_num, Lib.hid HFs.out.symm, trivial⟩
      case measure => simp [intOf]; omega
    · have hik : i = k := by omega
      subst hik
      have htk : ps.take i = ps := List.take_of_length_le (by rw [← HK.out]; exact Nat.le_refl _)
      rw [htk] at HS
      have hS1 : S ≤ 100000 := by have := HS.out; have := HLen.out; omega
      have hgr : Calls Tryz.prog 49 #[.slice none 0 0, .int .i64 (S : Int)] w fun e w' => ∃ a c, e = .returned (.slice a 0 c) ∧ BySt w w' a 0 c [] := by
        by_cases h0 : S = 0
        · subst h0
          refine (growB_zero w).mono ?_
          rintro e w' ⟨rfl, hk'⟩
          exact ⟨none, 0, rfl, (BySt.nil w).on hk'⟩
        · refine (growB_nil S w (by omega)).mono ?_
          rintro e w' ⟨c, rfl, hst⟩
          exact ⟨_, c, rfl, hst⟩
      have HGr := Lib.hid hgr
      clear htk hgr
      go_wp2_with fail
      refine HGr.out.mono ?_
      rintro e w1 ⟨a1, c1, rfl, hst⟩
      have HSt := Lib.hid hst
      clear hst HGr
      go_wp2_with fail
      go_loopw [27, 6, 8] (fun iv bv _p wr => ∃ (j l : Nat) (a : Option Addr) (c : Nat), j ≤ i ∧ iv = .int .i64 (j : Int) ∧ bv = .slice a l c ∧ Hid (l = ((ps.take j).flatten).length) ∧ l ≤ 100000 ∧ Hid (BySt w wr a l c (ps.take j).flatten)) (fun iv _ _ _ => i - (intOf iv).toNat)
      case atStart => exact ⟨0, 0, a1, c1, by omega, rfl, rfl, Lib.hid (by simp), by omega, Lib.hid (by simpa using HSt.out)⟩
      case round =>
        obtain ⟨j, l, a, c, hj, rfl, rfl, HL, hl, HB⟩ := hrel
        by_cases hlt2 : (j : Int) < (i : Int)
        · have hjl : j < ps.length := by have := HK.out; omega
          obtain ⟨o, pc, hc, hrd, hnil⟩ := HP.out j (by omega)
          have hcw := HB.out.kept.cell hc
          have hrw := hrd.kept HB.out.kept (fun _ _ e => e)
          have hfs := flat_step ps j hjl
          have hfl := congrArg List.length hfs
          rw [List.length_append, ← HL.out] at hfl
          have hle := flat_le ps (j + 1)
          obtain ⟨b, hb⟩ : ∃ b, b = ps.getD j [] := ⟨_, rfl⟩
          rw [← hb] at hcw hrw hfs hfl
          obtain ⟨m, hm⟩ : ∃ m, m = b.length := ⟨_, rfl⟩
          rw [← hm] at hcw hfl
          have hlm : l + m ≤ 100000 := by have := HLen.out; omega
          have HFs := Lib.hid hfs; have HFl := Lib.hid hfl; have HM := Lib.hid hm; have HRw := Lib.hid hrw
          clear hfs hfl hle hb hm hrd hc hjl hrw
          cases o with
          | none =>
            have hm0 : m = 0 := by
              have h := HRw.out.1 rfl
              have h2 := congrArg List.length h
              rw [nb_len] at h2
              rw [HM.out]; simpa using h2
            have hpc := hnil rfl
            subst hpc
            subst hm0
            have hbn : b = [] := List.eq_nil_of_length_eq_zero HM.out.symm
            have HBn : Hid (BySt w wr a l c (ps.take (j + 1)).flatten) := Lib.hid (by rw [HFs.out, hbn, List.append_nil]; exact HB.out)
            clear hnil hbn
            go_wp2_with (at_builtin; refine wpList_by_none rfl (.tmp 31) (.tmp 32) rfl HB.out rfl rfl ?_)
            go_wp2
            go_roundw
            case rel => exact ⟨j + 1, l, a, c, by omega, by go_num, rfl, Lib.hid (by rw [HFl.out]; rfl), by omega, HBn⟩
            case measure => simp [intOf]; omega
          | some ad =>
            clear hnil
            go_wp2_with (at_builtin; refine wpList_by_row rfl (.tmp 31) (.tmp 32) rfl HB.out rfl ad pc m b HM.out rfl HRw.out (by omega) ?_)
            intro a2 c2 w2 hS2
            have HS2 : Hid (BySt w w2 a2 (l + m) c2 (ps.take (j + 1)).flatten) := Lib.hid (by rw [HFs.out]; exact hS2)
            clear hS2
            go_wp2
            go_roundw
            case rel => exact ⟨j + 1, l + m, a2, c2, by omega, by go_num, rfl, Lib.hid HFl.out.symm, by omega, HS2⟩
            case measure => simp [intOf]; omega
        · have hji : j = i := by omega
          subst hji
          have htk : ps.take j = ps := List.take_of_length_le (by rw [← HK.out]; exact Nat.le_refl _)
          rw [htk] at HL HB
          clear htk
          go_wp2
          go_ret
          exact ⟨a, l, c, rfl, by have h := HL.out; simpa using h, HB.out⟩
end Go.Proofs.YtfmjfgmbjdhogaaGreatDoor

namespace Go.Proofs.YtfmjfgmbjdhogaaGreatDoor
open Go.RowKit
set_option linter.unusedVariables false
set_option linter.unusedSimpArgs false
set_option maxRecDepth 20000

theorem no_to {t : Tk} {n : Nat} {m m2 : Int} (h : t.no n m = 0) (hm : m ≤ m2) : t.no n m2 = 0 := by
  unfold Tk.no at h ⊢
  repeat' split at h
  all_goals first | (exact absurd h (by decide)) | skip
  all_goals (repeat' split) <;> first | rfl | omega | (simp_all; try omega)
theorem good_to {m m2 : Int} (hm : m ≤ m2) : ∀ (ts : List Tk) (bs : List Int), good m ts bs → good m2 ts bs
  | [], bs, h => h
  | t :: ts, bs, h => ⟨no_to h.1 hm, good_to hm ts _ h.2⟩
structure PackedP (lv : Int) (L : List UInt8) (bs : List Int) (qs : List (Nat × Nat)) : Prop where
  all : AllB bs
  len : bs.length = (wdN qs + 7) / 8
  puts : Puts bs 0 qs
  few : wdN qs ≤ 40 + 8 * L.length
  low : lv < 1 → qs = storedW true 5 (nb L)
  pos : 3 ≤ wdN qs
  run2 : ∀ (b2 : List Int) (post : List (Nat × Nat)) (M : Nat), L.length ≤ M → Puts b2 0 (qs ++ post) → Steps b2 M 0 .block false [] (wdN qs) .fin true (nb L)
theorem stored_wd5 (b : List Int) : wdN (storedW true 5 b) = 40 + 8 * b.length := by
  unfold storedW
  rw [wdN_append, bytesW_wd]
  simp only [wdN]
theorem packed_of {w w' : World} {R cap : Nat} {v0 : Value} {lv : Int} {L : List UInt8} {qs : List (Nat × Nat)} {ao : Option Addr} {bs : List Int} (hL : L.length ≤ 32768) (h : WroteP w R v0 [] 0 qs w' ao cap bs) (hlen : wdN qs ≤ wdN (storedW true 5 (nb L))) (hlow : lv < 1 → qs = storedW true 5 (nb L))
    (hf : qs = storedW true 5 (nb L) ∨ (∃ ws, TokWs fixL fixD (restT lv L 0) ws ∧ qs = [(lastN true, 1), (1, 2)] ++ (ws ++ [wordZ fixL 256])) ∨
      (∃ lit dist code told rs ws, CodeOk lit ∧ CodeOk dist ∧ HasC lit 256 ∧ headB lit dist = true ∧ CodeW code told rs (lit ++ dist) ∧ TokWs lit dist (restT lv L 0) ws ∧ qs = [(lastN true, 1), (2, 2)] ++ (headW lit dist code told rs ++ (ws ++ [wordZ lit 256])))) : PackedP lv L bs qs := by
  have hl := h.1.2.2.2.1
  rw [Nat.zero_add] at hl
  have hall := h.1.2.2.1
  rw [stored_wd5, nb_len] at hlen
  obtain ⟨f1, f2, f3, f4⟩ := rest_facts lv L hL
  have hup : up8 (0 + 3) - (0 + 3) = 5 := rfl
  have hpos : 3 ≤ wdN qs := by
    rcases hf with rfl | ⟨ws, _, rfl⟩ | ⟨lit, dist, code, told, rs, ws, _, _, _, _, _, _, rfl⟩
    · rw [stored_wd5]; omega
    · rw [wdN_append]; simp only [wdN]; omega
    · rw [wdN_append]; simp only [wdN]; omega
  rcases hf with rfl | ⟨ws, hws, rfl⟩ | ⟨lit, dist, code, told, rs, ws, d1, d2, d3, d4, d5, hws, rfl⟩
  · have hbk := BlkS.stored 0 true (nb L) (nb_all L) (by rw [nb_len]; omega)
    rw [hup] at hbk
    have hp := puts_of h hbk.lt
    refine ⟨hall, hl, hp, hlen, hlow, hpos, fun b2 post M hM hp2 => ?_⟩
    have h2 := hbk.run b2 [] post M false [] rfl (by simpa using hp2) (by rw [nb_len]; simpa using hM)
    simpa [wdN, endM] using h2
  · have hlt : ∀ y ∈ [(lastN true, 1), (1, 2)] ++ (ws ++ [wordZ fixL 256]), y.1 < 2 ^ y.2 := by
      intro y hy
      rcases List.mem_append.1 hy with h | h
      · simp only [List.mem_cons, List.not_mem_nil, or_false] at h
        rcases h with rfl | rfl
        · exact lastN_one true
        · decide
      · rcases List.mem_append.1 h with h | h
        · exact hws.lt y h
        · simp only [List.mem_cons, List.not_mem_nil, or_false] at h; subst h; exact wordZ_lt _ _
    have hp := puts_of h hlt
    refine ⟨hall, hl, hp, hlen, hlow, hpos, fun b2 post M hM hp2 => ?_⟩
    have h2 := fixed_steps (bs := b2) (s := 0) (most := M) (last := true) (l0 := false) (pre := []) (post := post) (out := []) hws (by simpa using hp2) (good_to (by omega) _ _ f2)
    rw [f3] at h2
    simpa [wdN, endM] using h2
  · have hlt : ∀ y ∈ [(lastN true, 1), (2, 2)] ++ (headW lit dist code told rs ++ (ws ++ [wordZ lit 256])), y.1 < 2 ^ y.2 := by
      intro y hy
      rcases List.mem_append.1 hy with h | h
      · simp only [List.mem_cons, List.not_mem_nil, or_false] at h
        rcases h with rfl | rfl
        · exact lastN_one true
        · decide
      · rcases List.mem_append.1 h with h | h
        · exact headW_lt d5 d4 y h
        · rcases List.mem_append.1 h with h | h
          · exact hws.lt y h
          · simp only [List.mem_cons, List.not_mem_nil, or_false] at h; subst h; exact wordZ_lt _ _
    have hp := puts_of h hlt
    refine ⟨hall, hl, hp, hlen, hlow, hpos, fun b2 post M hM hp2 => ?_⟩
    have h2 := dynamic_steps (bs := b2) (s := 0) (most := M) (last := true) (l0 := false) (pre := []) (post := post) (out := []) hws d1 d2 d3 d5 d4 (by simpa using hp2) (good_to (by omega) _ _ f2)
    rw [f3] at h2
    simpa [wdN, endM] using h2
end Go.Proofs.YtfmjfgmbjdhogaaGreatDoor

namespace Go.Proofs.YtfmjfgmbjdhogaaGreatDoor
open Go.RowKit
set_option linter.unusedVariables false
set_option linter.unusedSimpArgs false
set_option maxRecDepth 20000

def crcL (L : List UInt8) : Nat := crcOf 0 (nats (nb L))
def memB (g : GzP) (L body : List UInt8) : List UInt8 := headG g ++ body ++ leB 4 (crcL L) ++ leB 4 L.length
theorem headG_len (g : GzP) (h : g.Ok) : 10 ≤ (headG g).length ∧ (headG g).length ≤ 70000 := by
  have h1 := h.extra
  have h2 := h.name
  have h3 := h.comm
  have e1 : (gz1 g).length = 10 := by unfold gz1; simp [leB_len]
  have e2 : (gzX g).length ≤ 65537 := by unfold gzX; split <;> simp [leB_len]; omega
  have e3 : ∀ s : List UInt8, s.length ≤ 1000 → (txtB s).length ≤ 1001 := by intro s hs; unfold txtB; split <;> simp; omega
  have e4 := e3 _ h2
  have e5 := e3 _ h3
  unfold headG gz4
  simp only [List.length_append, e1]
  split <;> simp only [leB_len, List.length_nil] <;> omega
end Go.Proofs.YtfmjfgmbjdhogaaGreatDoor

namespace Go.Proofs.YtfmjfgmbjdhogaaGreatDoor
open Go.RowKit
set_option linter.unusedVariables false
set_option linter.unusedSimpArgs false
set_option maxRecDepth 20000

theorem bytesW_putsN : ∀ b : List Int, putsN (bytesW b) = num b
  | [] => rfl
  | x :: r => by
    have e : bytesW (x :: r) = (x.toNat, 8) :: bytesW r := rfl
    rw [e, putsN, bytesW_putsN r, num]
    omega
theorem Puts.more {bs more : List Int} {qs : List (Nat × Nat)} (h : Puts bs 0 qs) (hl : bs.length = (wdN qs + 7) / 8) (hm : AllB more) : Puts (bs ++ more) 0 (qs ++ ((0, 8 * bs.length - wdN qs) :: bytesW more)) := by
  obtain ⟨A, hA, hn⟩ := h.num
  have hA0 : A = 0 := by simpa using hA
  subst hA0
  rw [Nat.pow_zero, Nat.mul_one, Nat.zero_add] at hn
  have hlen := h.len
  rw [Nat.zero_add] at hlen
  refine ⟨⟨0, by decide, ?_⟩, ?_, ?_⟩
  · rw [num_append, hn, Nat.pow_zero, Nat.mul_one, Nat.zero_add, putsN_append, putsN, bytesW_putsN, Nat.zero_add, Nat.mul_assoc, ← Nat.pow_add,
      show 8 * bs.length - wdN qs + wdN qs = 8 * bs.length by omega, show 256 ^ bs.length = 2 ^ (8 * bs.length) by rw [Nat.pow_mul]]
    rw [Nat.mul_comm]
  · intro y hy
    rcases List.mem_append.1 hy with h1 | h1
    · exact h.lt y h1
    · rcases List.mem_cons.1 h1 with rfl | h1
      · exact Nat.two_pow_pos _
      · obtain ⟨x, hx, rfl⟩ := List.mem_map.1 h1
        have := hm x hx
        show x.toNat < 256
        omega
  · rw [wdN_append, wdN, bytesW_wd, List.length_append]
    omega
theorem PackedP.more {lv : Int} {L : List UInt8} {bs more : List Int} {qs : List (Nat × Nat)} (h : PackedP lv L bs qs) (hm : AllB more) (M : Nat) (hM : L.length ≤ M) : Steps (bs ++ more) M 0 .block false [] (wdN qs) .fin true (nb L) :=
  h.run2 _ _ M hM (h.puts.more h.len hm)
end Go.Proofs.YtfmjfgmbjdhogaaGreatDoor

namespace Go.Proofs.YtfmjfgmbjdhogaaGreatDoor
open Go.RowKit
set_option linter.unusedVariables false
set_option linter.unusedSimpArgs false
set_option maxRecDepth 20000

def ToldG (w : World) (bs : List Int) (e : Ending) (w' : World) : Prop :=
  ∃ ao cap, e = .returned (.slice ao bs.length cap) ∧ Hid (BySt w w' ao bs.length cap (un bs))
set_option maxHeartbeats 1000000 in
theorem sbytesG (w : World) {T : TypeId} {cs : Array Value} {R L : Nat} {ao : Option Addr} {cap : Nat} {bs : List Int} {m : Nat} (h : Snk w T cs R L ao cap bs m) (hall : AllB bs) :
    Calls Tryz.prog 58 #[.pointer (some ⟨R, 0, none⟩)] w (ToldG w bs) := by
  have c0 : w.cell? ⟨R, 0, none⟩ = some (.slice ao bs.length cap) := by rw [obj_cell h.obj 0, h.c0]
  have hr := own_reads h.own rfl
  have hl := h.sm
  clear h
  have HR := Lib.hid hr; clear hr
  go_enter Tryz.func58, Tryz.ntmps58
  go_wp2_with (go_at_call 54; refine (clone_any _ _ _ _ HR.out (by omega)).mono ?_; rintro e w1 ⟨ao', cap', rfl, ho, hf, hn, hk⟩)
  go_ret
  refine ⟨ao', cap', rfl, Lib.hid ⟨by simp [un], ?_, hk, hf⟩⟩
  rw [bc_nb, nb_un hall]
  exact ho
theorem infoutG {lo : Nat} {w : World} {D : Nat} {v : IV} {out : List Int} (h : InfE lo w D v out) (hs : out.length ≤ 1000000) :
    Calls Tryz.prog 33 #[.pointer (some ⟨D, 0, none⟩)] w (ToldG w out) := by
  obtain ⟨ka, kc, hsk⟩ := own_shape h.sink.own
  have hS : Snk w 111 v.cs D lo ka kc out v.most := ⟨h.obj, by rw [← hsk]; rfl, rfl, by rw [← hsk]; exact h.sink.own, fun k hk => h.sink.fresh k (by rw [hsk]; exact hk), h.low, h.fit, h.big, hs, by decide, h.all⟩
  have HB := Lib.hid (sbytesG w hS h.all)
  clear h hS hsk
  go_enter Tryz.func33, Tryz.ntmps33
  go_wp2_with fail
  refine HB.out.mono ?_
  rintro e w1 ⟨a1, c1, rfl, h1⟩
  have HT : Hid (ToldG w out (.returned (.slice a1 out.length c1)) w1) := ⟨a1, c1, rfl, h1⟩
  clear h1 HB
  go_wp2
  go_ret
  exact HT.out
def InfGR (w : World) (n : Nat) (L : List UInt8) (e : Ending) (w' : World) : Prop :=
  ∃ (oa : Option Addr) (ol oc : Nat), e = .returned (.tuple #[.slice oa ol oc, .int .i64 (n : Int), .int .i64 0, .int .i64 0]) ∧ Hid (ol = L.length) ∧ Hid (BySt w w' oa ol oc L)
theorem feed_fin {lo : Nat} {w w' : World} {D M : Nat} {b O : List Int} {P : Nat} (h : ItemsW lo w D (iv0 M) .block [] b 0 0 w') (hs : Steps b M 0 .block false [] P .fin true O) :
    Kept (LoB lo) w w' ∧ ∃ v', InfE lo w' D v' O ∧ v'.nx = 5 ∧ v'.er = 0 ∧ v'.us = (((P + 7) / 8 : Nat) : Int) ∧ v'.at_ = 0 := by
  obtain ⟨hk, p, m, l, o, v', h1, hm, hp, h2⟩ := h
  refine ⟨hk, v', ?_⟩
  have hst : Stuck b M p m l o := by
    rcases h2 with ⟨hm, _⟩ | ⟨er, p1, m1, l1, o1, he, _, hi, _⟩ | ⟨p1, m1, l1, o1, S', hi, _⟩
    · exact .inl hm
    · exact .inr ⟨er, p1, m1, l1, o1, he, hi⟩
    · exact .inr ⟨2, p1, m1, l1, o1, by decide, hi⟩
  obtain ⟨e1, e2, _, e4⟩ := Steps.det hs trivial (.inl rfl) h1 hst
  subst e1 e2 e4
  rcases h2 with ⟨_, hi, h5, h6, h7, h8⟩ | ⟨er, p1, m1, l1, o1, he, _, hi, _⟩ | ⟨p1, m1, l1, o1, S', hi, _⟩
  · exact ⟨hi, h5, h6, by rw [h7, Nat.zero_add], h8⟩
  · exact hi.elim
  · exact hi.elim
set_option maxHeartbeats 4000000 in
theorem inflated_any (w : World) (bo : Option Addr) (n c : Nat) (B bs more : List Int) (lv : Int) (L : List UInt8) (qs : List (Nat × Nat)) (z : Int) (M : Nat) (hB : B = bs ++ more) (hn : n = B.length) (hR : CurRow w bo c B) (hnl : n ≤ 1000000) (hP : PackedP lv L bs qs) (hbs : bs.length ≤ 256) (h0 : 0 < bs.length)
    (hz : z = (M : Int)) (hML : L.length ≤ M) (hLl : L.length ≤ 900000) (hMl : M ≤ 1000000) :
    Calls Tryz.prog 45 #[.slice bo n c, .int .i64 z] w (InfGR w bs.length L) := by
  subst hz
  have hcap : n ≤ c := by rw [hn]; exact hR.cap
  obtain ⟨h, hh⟩ : ∃ h, h = min n 256 := ⟨_, rfl⟩
  have hbn : bs.length ≤ n := by rw [hn, hB, List.length_append]; omega
  have hhn : h ≤ n := by omega
  obtain ⟨o1, hs1, hp1⟩ := slg_h bo n c h B hn hhn hcap hR.nil
  obtain ⟨o2, hs2, hp2⟩ := slg_l bo n c h B hn hhn hcap hR.nil
  have hpc : (B.drop 0).take (h - 0) = bs ++ more.take (h - bs.length) := by
    show B.take h = _
    rw [hB, List.take_append, List.take_of_length_le (by omega)]
  have hmall : AllB (more.take (h - bs.length)) := by
    have := hR.all
    rw [hB] at this
    exact AllB.take (fun x hx => this x (List.mem_append_right _ hx)) _
  have hst := hP.more hmall M hML
  have hsl := fun W (hr : Reads W bo B) => hp1.reads W hr
  rw [hpc] at hsl
  obtain ⟨pc, hpce⟩ : ∃ pc, pc = bs ++ more.take (h - bs.length) := ⟨_, rfl⟩
  rw [← hpce] at hst hsl
  have hpl : pc.length = h := by rw [hpce, ← hpc]; simp [← hn]; omega
  have hpall : AllB pc := by rw [hpce]; intro x hx; rcases List.mem_append.1 hx with hx | hx; exact hP.all x hx; exact hmall x hx
  have hwd : (wdN qs + 7) / 8 = bs.length := hP.len.symm
  have hnil : o1 = none → c = 0 := fun e => hR.nil (hp1.nil.1 e)
  have hway : ((n : Int) ≤ 256 ∧ h = n) ∨ ((256 : Int) < n ∧ h = 256) := by omega
  have hmn : min (n : Int) 256 = (h : Int) := by rcases hway with ⟨a, b⟩ | ⟨a, b⟩; rw [Int.min_eq_left a]; omega; rw [Int.min_eq_right (by omega)]; omega
  have hn0 : (0 : Int) < (n : Int) := by omega
  have HN := Lib.hid (infnew_any w (M : Int) M (by rw [if_neg (by omega)]) (by omega))
  have HSt := Lib.hid hst; have HSl := Lib.hid hsl; have HPl := Lib.hid hpl; have HPa := Lib.hid hpall; have HWd := Lib.hid hwd; have HNil := Lib.hid hnil; have HRd := Lib.hid hR.rd; have HHl : Hid (h ≤ 256) := Lib.hid (by omega)
  have HNbL : Hid ((nb L).length = L.length) := Lib.hid (nb_len L)
  have hhc : h ≤ c := by omega
  have hhb : h ≤ 1000000 := by omega
  clear hB hn hR hP hh hbn hp1 hp2 hpc hmall hst hsl hpce hpl hpall hwd hnil hway
  go_enter Tryz.func45, Tryz.ntmps45
  go_wp2_with fail
  refine HN.out.mono ?_
  rintro e w1 ⟨D, rfl, hI, hk1⟩
  have hk2 : Kept NoB w1 (w1.alloc (.cells #[.slice o1 h c] 22)) := (Kept.refl _ _).alloc _
  have hI2 : Inf0 w.heap.size (w1.alloc (.cells #[.slice o1 h c] 22)) D (iv0 M) .block [] [] (fun _ => False) := by
    refine ⟨hI.obj.kept hk2 (fun e => e), hI.low, nilrow, nilrow, ⟨[], nilrow, ⟨⟨[], rfl⟩, .inl rfl⟩, by decide⟩, hI.sep, (fun k hk => hk.elim), hI.sR, hI.nx, hI.er, hI.fit, hI.big, hI.all, hI.allr, trivial, .inl rfl⟩
  have hDl := obj_lt hI.obj
  have hf := feed_new hI2 (by have := hk1.size; have := hk2.size; omega) w1.heap.size o1 c (by rw [HPl.out]; exact cell_new 0 rfl) (by omega) (HSl.out _ (HRd.out.keptNo (hk1.trans hk2))) HNil.out (by rw [HPl.out]; exact hhc) HPa.out (by rw [HPl.out]; exact hhb)
    (fun p m' l' o' hs => by have := steps_bound HSt.out hs; rw [HNbL.out] at this; omega)
  have HF := Lib.hid hf; have HK1 := Lib.hid (hk1.trans hk2)
  clear hI hI2 hk1 hk2 hDl hf HN
  go_wp2_with fail
  go_loopw [0, 9] (fun v0 v9 wr => v0 = .slice bo n c ∧ v9 = .int .i64 256 ∧ wr = w1) (fun _ _ _ => 0)
  case atStart => exact ⟨rfl, rfl, rfl⟩
  case round =>
    obtain ⟨rfl, rfl, rfl⟩ := hrel
    go_wp2_with fail
    refine HF.out.mono ?_
    rintro e w3 ⟨rfl, hW⟩
    obtain ⟨hk3, v', hie, h5, h6, h7, h8⟩ := feed_fin hW HSt.out
    have hk3' : Kept NoB w w3 := ((HK1.out.mono (fun _ _ e => e.elim)).trans hk3).lowNo
    have hs5 : (v'.nx == 5) = true := by rw [h5]; rfl
    have HSta := Lib.hid (fun (W : World) (hk : Kept NoB w3 W) => infstate_any W D v' (hie.obj.kept hk (fun e => e)))
    rw [hs5, h6, h7, h8, HWd.out] at HSta
    have HCl := Lib.hid (fun (W : World) (hk : Kept NoB w3 W) => infclose_over W D v' (hie.obj.kept hk (fun e => e)) (.inl h5))
    have HOu := Lib.hid (fun (W : World) (hk : Kept NoB w3 W) => infoutG (hie.turn (hk.mono (fun _ _ e => e.elim)) (hie.obj.kept hk (fun e => e)) rfl rfl) (by rw [HNbL.out]; omega))
    have HK3 := Lib.hid hk3'
    clear hW hk3 hie h5 h6 h7 h8 hk3' hs5 HF
    go_wp2_with fail
    refine (HSta.out w3 (Kept.refl _ _)).mono ?_
    rintro e w4 ⟨rfl, hk4⟩
    have HK4 := Lib.hid hk4
    clear hk4
    go_wp2_with fail
    refine (HCl.out w4 HK4.out).mono ?_
    rintro e w5 ⟨rfl, hk5⟩
    have HK5 := Lib.hid (HK4.out.trans hk5)
    clear hk5
    go_wp2_with fail
    refine (HSta.out w5 HK5.out).mono ?_
    rintro e w6 ⟨rfl, hk6⟩
    have HK6 := Lib.hid (HK5.out.trans hk6)
    clear hk6
    go_wp2_with fail
    refine (HOu.out w6 HK6.out).mono ?_
    rintro e w7 ⟨oa, oc, rfl, HB7⟩
    go_wp2
    refine bodyPost_ret (results_tmp4 rfl _ _ _) rfl ?_
    have hb := HB7.out
    rw [un_nb] at hb
    have hk := HK3.out.trans HK6.out
    exact ⟨oa, _, oc, rfl, HNbL, Lib.hid ⟨hb.len, hb.own, hk.trans hb.kept, fun k e => Nat.le_trans hk.size (hb.fresh k e)⟩⟩
end Go.Proofs.YtfmjfgmbjdhogaaGreatDoor
