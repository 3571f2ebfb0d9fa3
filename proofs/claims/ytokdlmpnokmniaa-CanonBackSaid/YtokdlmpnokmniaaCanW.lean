/-
  canon.Write: the codes of places, one behind the other, or nothing.
-/
import Derived.Test.YtokdlmpnokmniaaCanE
import Derived.Test.YtokdlmpnokmniaaRev
import Derived.Test.YtokdlmpnokmniaaPut
namespace Go.Proofs.Ytokdlmpnokmniaa
open Go.RowKit
set_option linter.unusedVariables false
set_option linter.unusedSimpArgs false

/-- Numbers of so many bits, one behind the other, the first one lowest. -/
def putsN : List (Nat × Nat) → Nat
  | [] => 0
  | (x, n) :: r => x + putsN r * 2 ^ n
def wdN : List (Nat × Nat) → Nat
  | [] => 0
  | (_, n) :: r => n + wdN r
theorem wdN_append : ∀ a b, wdN (a ++ b) = wdN a + wdN b
  | [], b => by simp [wdN]
  | (x, n) :: r, b => by rw [List.cons_append, wdN, wdN, wdN_append r b]; omega
theorem putsN_append : ∀ a b, putsN (a ++ b) = putsN a + putsN b * 2 ^ wdN a
  | [], b => by simp [putsN, wdN]
  | (x, n) :: r, b => by
    rw [List.cons_append, putsN, putsN, wdN, putsN_append r b, Nat.add_mul, Nat.pow_add, Nat.add_assoc]
    congr 2
    rw [Nat.mul_assoc, Nat.mul_comm (2 ^ wdN r) (2 ^ n)]
theorem putsN_lt : ∀ a, (∀ y ∈ a, y.1 < 2 ^ y.2) → putsN a < 2 ^ wdN a
  | [], _ => by simp [putsN, wdN]
  | (x, n) :: r, h => by
    have h1 : x < 2 ^ n := h (x, n) (List.mem_cons_self ..)
    have h2 := putsN_lt r (fun y hy => h y (List.mem_cons_of_mem _ hy))
    rw [putsN, wdN, Nat.pow_add]
    have h3 : putsN r + 1 ≤ 2 ^ wdN r := h2
    have h4 := Nat.mul_le_mul_right (2 ^ n) h3
    rw [Nat.add_mul, Nat.one_mul, Nat.mul_comm (2 ^ wdN r)] at h4
    omega
/-- What is left of numbers behind the first k. -/
theorem putsN_drop : ∀ (a : List (Nat × Nat)) (k : Nat), (∀ y ∈ a, y.1 < 2 ^ y.2) → putsN a / 2 ^ wdN (a.take k) = putsN (a.drop k)
  | a, 0, _ => by simp [wdN]
  | [], k + 1, _ => by simp [putsN, wdN]
  | (x, n) :: r, k + 1, h => by
    have h1 : x < 2 ^ n := h (x, n) (List.mem_cons_self ..)
    rw [List.take_succ_cons, List.drop_succ_cons, wdN, putsN, Nat.pow_add, ← Nat.div_div_eq_div_mul, Nat.add_mul_div_right _ _ (Nat.two_pow_pos n), Nat.div_eq_of_lt h1, Nat.zero_add]
    exact putsN_drop r k (fun y hy => h y (List.mem_cons_of_mem _ hy))
/-- What a place is written as. -/
def wordZ (ls : List Int) (z : Int) : Nat × Nat := (revN (ls.getD z.toNat 0).toNat (codeAt ls z.toNat).toNat, (ls.getD z.toNat 0).toNat)
def wordsL (ls syms : List Int) : List (Nat × Nat) := syms.map (wordZ ls)
theorem wordZ_lt (ls : List Int) (z : Int) : (wordZ ls z).1 < 2 ^ (wordZ ls z).2 := revN_lt _ _
theorem wordsL_lt (ls syms : List Int) : ∀ y ∈ wordsL ls syms, y.1 < 2 ^ y.2 := by
  intro y hy
  obtain ⟨z, _, rfl⟩ := List.mem_map.1 hy
  exact wordZ_lt ls z
/-- A place that has a code. -/
def HasC (ls : List Int) (z : Int) : Prop := ∃ k : Nat, z = (k : Int) ∧ k < ls.length ∧ 0 < ls.getD k 0
theorem wdN_le (ls : List Int) (hs : Small 15 ls) : ∀ syms : List Int, (∀ z ∈ syms, HasC ls z) → wdN (wordsL ls syms) ≤ 15 * syms.length
  | [], _ => by simp [wordsL, wdN]
  | z :: r, h => by
    have ih := wdN_le ls hs r (fun y hy => h y (List.mem_cons_of_mem _ hy))
    obtain ⟨k, rfl, hk, h0⟩ := h z (List.mem_cons_self ..)
    have hb := hs.getD k hk
    show (ls.getD (k : Int).toNat 0).toNat + wdN (wordsL ls r) ≤ _
    rw [Int.toNat_natCast, List.length_cons]
    omega

set_option maxHeartbeats 1000000 in
theorem code_calls (w : World) (R : Nat) (ao : Option Addr) (cap : Nat) (bs : List Int) (s v n : Nat) (h : Wtr w R ao cap bs s) (hv : v < 4294967296) (h1 : 1 ≤ n) (hn : n ≤ 32) (hs : s ≤ 900000000000) :
    Calls Try.prog 36 #[.pointer (some ⟨R, 0, none⟩), .int .u32 v, .int .i64 n] w (PutP w R (.slice ao bs.length cap) bs s (revN n v) n) := by
  have H := Lib.hid h; clear h
  have hlt := revN_lt n v
  have hle := Nat.pow_le_pow_right (n := 2) (by decide) hn
  have h32 : (2 : Nat) ^ 32 = 4294967296 := by decide
  have HP := Lib.hid (put_any w R ao cap bs s (revN n v) n H.out (by omega) hn hs)
  rw [Nat.mod_eq_of_lt hlt] at HP
  have HRv := Lib.hid (rev_any v n w hv hn h1)
  clear hlt hle h32
  go_enter Try.func36, Try.ntmps36
  go_wp2_with fail
  refine HRv.out.mono ?_
  rintro e w1 ⟨rfl, rfl⟩
  go_wp2_with fail
  refine HP.out.mono ?_
  rintro e w2 ⟨ao', cap', bs', rfl, hp⟩
  have HP2 := Lib.hid hp; clear hp
  go_wp2
  go_ret
  exact ⟨ao', cap', bs', rfl, HP2.out⟩

theorem Kept.transO {S T : Nat → Prop} {a b c : World} (h : Kept S a b) (k : Kept T b c) (hs : ∀ i, i < a.heap.size → T i → S i) : Kept S a c :=
  ⟨k.os.trans h.os, k.tape.trans h.tape, k.output.trans h.output, Nat.le_trans h.size k.size, fun i hi hn => (k.block i (Nat.lt_of_lt_of_le hi h.size) (fun t => hn (hs i hi t))).trans (h.block i hi hn)⟩
/-- What Write leaves. -/
def WroteP (w : World) (R : Nat) (v0 : Value) (bs : List Int) (s : Nat) (ps : List (Nat × Nat)) (w' : World) (ao' : Option Addr) (cap' : Nat) (bs' : List Int) : Prop :=
  Wtr w' R ao' cap' bs' (s + wdN ps) ∧ num bs' = num bs + putsN ps * 2 ^ s ∧ Kept (OrB (OneB R) (OwnB v0)) w w' ∧ (∀ k, (Value.slice ao' bs'.length cap').ownBlock = some k → v0.ownBlock = some k ∨ w.heap.size ≤ k)

set_option maxRecDepth 20000 in
set_option maxHeartbeats 4000000 in
theorem write_yes (ls : List Int) (a : Option Addr) (c B : Nat) (b : Option Addr) (d : Nat) (ys : List Int) (R : Nat) (ao : Option Addr) (cap : Nat) (bs : List Int) (s : Nat) (w : World)
    (hx : RdI w B a ls) (hy : RdI w B b ys) (hw : Wtr w R ao cap bs s) (hBR : B ≤ R) (hBo : ∀ k, (Value.slice ao bs.length cap).ownBlock = some k → B ≤ k) (hBw : B ≤ w.heap.size) (hs : Small 15 ls) (hl : ls.length ≤ 320) (hok : refS ls = 0)
    (hys : ∀ z ∈ ys, HasC ls z) (hyl : ys.length ≤ 1000) (hss : s ≤ 1000000) :
    Calls Try.prog 22 #[.pointer (some ⟨R, 0, none⟩), .slice a ls.length c, .slice b ys.length d] w fun e w' => ∃ ao' cap' bs', e = .returned (.int .i64 0) ∧ WroteP w R (.slice ao bs.length cap) bs s (wordsL ls ys) w' ao' cap' bs' := by
  have HCd := Lib.hid (codes_calls a c B ls w hx hs hl hok)
  have HX := Lib.hid hx; have HY := Lib.hid hy; have HW := Lib.hid hw; have HBo := Lib.hid hBo; have HS := Lib.hid hs; have HYs := Lib.hid hys; have HOk := Lib.hid hok
  obtain ⟨n, hn⟩ : ∃ n, n = ls.length := ⟨_, rfl⟩
  have HN := Lib.hid hn
  have hn320 : n ≤ 320 := by omega
  obtain ⟨m, hm⟩ : ∃ m, m = ys.length := ⟨_, rfl⟩
  have HM := Lib.hid hm
  have hm1000 : m ≤ 1000 := by omega
  rw [← hn] at HCd
  rw [← hn, ← hm]
  clear hx hy hw hBo hs hys hok hn hm hl hyl
  go_enter Try.func22, Try.ntmps22
  go_wp2_with fail
  refine HCd.out.mono ?_
  intro e w2 hp
  obtain ⟨a4, c4, rfl, ho4, hr4, hk⟩ := codes_read2 hp
  have hne4 : ∀ g, a4 = some ⟨g, 0, none⟩ → g ≠ R ∧ (∀ k, (Value.slice ao bs.length cap).ownBlock = some k → k ≠ g) := by
    rintro g rfl
    have h1 := row_ne ho4 (hk.obj HW.out.1 (fun h => h)) (by decide) g rfl
    refine ⟨h1, fun k hk' e => ?_⟩
    subst e
    rcases ho4.2 with ⟨hv, _⟩ | ⟨g', cc, cur, hv, _, hgg, _⟩
    · simp at hv
    · simp at hv
      obtain ⟨rfl, rfl⟩ := hv
      exact row_ne (hk.row HW.out.2.1 (fun _ _ h => h)) hgg (by decide) _ hk' rfl
  have hcl : (codesL ls).length = n := by unfold codesL; rw [codesP_len]; exact HN.out.symm
  rw [hcl] at hr4 ⊢
  have HNe := Lib.hid hne4
  have HR4 := Lib.hid hr4; have HK2 := Lib.hid hk
  clear hp hr4 hk hcl HCd ho4 hne4
  go_wp2
  go_loopw [23, 10] (fun v23 _ wr => ∃ i : Nat, v23 = .int .i64 (i : Int) ∧ i ≤ m ∧ Hid (Kept NoB w2 wr)) (fun v23 _ _ => m - (intOf v23).toNat)
  case atStart => exact ⟨0, rfl, by omega, Kept.refl _ _⟩
  case round =>
    obtain ⟨i, rfl, him, HKi⟩ := hrel
    by_cases hlt : (i : Int) < m
    · have hil : i < ys.length := by have := HM.out; omega
      obtain ⟨k, hzk, hkl, hk0⟩ := HYs.out _ (get_mem' hil)
      obtain ⟨g1, o1, rfl, _, x0⟩ := (HY.out.keptNo (HK2.out.trans HKi.out)) i hil
      obtain ⟨g2, o2, rfl, _, x1⟩ := (HX.out.keptNo (HK2.out.trans HKi.out)) k hkl
      rw [hzk] at x0
      obtain ⟨lk, hlk⟩ : ∃ lk, lk = ls.getD k 0 := ⟨_, rfl⟩
      rw [← hlk] at x1 hk0
      have hkn : (k : Int) < n := by have := HN.out; omega
      have q1 : (lk == 0) = false := by simp; omega
      clear hil hzk hkl hlk
      go_wp2
      go_roundw
      case rel => exact ⟨i + 1, by go_num, by omega, HKi⟩
      case measure => simp [intOf]; omega
    · go_wp2
      clear hlt
      go_loopw [45, 12] (fun v45 _ wr => ∃ (i : Nat) (ao' : Option Addr) (cap' : Nat) (bs' : List Int), v45 = .int .i64 (i : Int) ∧ i ≤ m ∧ Hid (WroteP w2 R (.slice ao bs.length cap) bs s (wordsL ls (ys.take i)) wr ao' cap' bs')) (fun v45 _ _ => m - (intOf v45).toNat)
      case atStart => exact ⟨0, ao, cap, bs, rfl, by omega, HW.out.keptNo (HK2.out.trans HKi.out), by simp [wordsL, putsN], HKi.out.mono (fun _ _ h => h.elim), fun k hk => .inl hk⟩
      case round =>
        obtain ⟨i, ao', cap', bs', rfl, him, HWr⟩ := hrel
        by_cases hlt2 : (i : Int) < m
        · have hil : i < ys.length := by have := HM.out; omega
          have hwp := HWr.out
          obtain ⟨hw1, hw2, hw3, hw4⟩ := hwp
          obtain ⟨k, hzk, hkl, hk0⟩ := HYs.out _ (get_mem' hil)
          have hdis : ∀ j, j < B → ¬ (OrB (OneB R) (OwnB (.slice ao bs.length cap))) j := by
            intro j hj e
            rcases e with e | e
            · unfold OneB at e; omega
            · have := HBo.out j e; omega
          obtain ⟨g1, o1, rfl, _, x0⟩ := ((HY.out.keptNo HK2.out).kept hw3 hdis) i hil
          obtain ⟨g2, o2, rfl, _, x1⟩ := ((HX.out.keptNo HK2.out).kept hw3 hdis) k hkl
          rw [hzk] at x0
          obtain ⟨g4, rfl, y0⟩ := HR4.out k (by have := HN.out; omega)
          rw [codesL_get _ _ hkl] at y0
          obtain ⟨hg4R, hg4o⟩ := HNe.out g4 rfl
          have y1 := (World.cell?_of_block (hw3.block _ (World.block_lt_of_cell? w2 _ y0) (fun e => by
            rcases e with e | e
            · exact hg4R e
            · exact hg4o _ e rfl))).trans y0
          have hb := HS.out.getD k hkl
          obtain ⟨lk, hlk⟩ : ∃ lk : Nat, ls.getD k 0 = (lk : Int) := ⟨(ls.getD k 0).toNat, by omega⟩
          have hcb := codeAt_bd ls (by rw [← HN.out]; exact hn320) HS.out k hkl
          obtain ⟨ck, hck⟩ : ∃ ck : Nat, codeAt ls k = (ck : Int) := ⟨(codeAt ls k).toNat, by omega⟩
          have hword : wordZ ls (k : Int) = (revN lk ck, lk) := by
            unfold wordZ; rw [Int.toNat_natCast, hlk, hck, Int.toNat_natCast, Int.toNat_natCast]
          have htk : ys.take (i + 1) = ys.take i ++ [(k : Int)] := by rw [take_snoc ys i hil, hzk]
          have hwd : wdN (wordsL ls (ys.take i)) ≤ 15 * i := by
            have h1 := wdN_le ls HS.out (ys.take i) (fun z hz => HYs.out z (List.mem_of_mem_take hz))
            rw [List.length_take] at h1
            have : min i ys.length ≤ i := Nat.min_le_left _ _
            omega
          rw [hlk] at x1 hb hk0
          rw [hck] at y1 hcb
          have hcl := code_calls wr R ao' cap' bs' _ ck lk hw1 (by omega) (by omega) (by omega) (by omega)
          have hcall : ∀ W, Kept NoB wr W → Calls Try.prog 36 #[.pointer (some ⟨R, 0, none⟩), .int .u32 (ck : Int), .int .i64 (lk : Int)] W fun e w' => e = .returned (.bool true) ∧ ∃ ao2 cap2 bs2, WroteP w2 R (.slice ao bs.length cap) bs s (wordsL ls (ys.take (i + 1))) w' ao2 cap2 bs2 := by
            intro W hk
            have hcl := code_calls W R ao' cap' bs' _ ck lk (hw1.keptNo hk) (by omega) (by omega) (by omega) (by omega)
            refine hcl.mono ?_
            rintro e w' ⟨ao2, cap2, bs2, rfl, p1, p2, p3, p4⟩
            refine ⟨rfl, ao2, cap2, bs2, ?_, ?_, ?_, ?_⟩
            · rw [htk, wordsL, List.map_append, wdN_append]
              simp only [List.map_cons, List.map_nil, hword, wdN, Nat.add_zero]
              rw [← Nat.add_assoc]
              exact p1
            · rw [htk, wordsL, List.map_append, putsN_append]
              simp only [List.map_cons, List.map_nil, hword, putsN, Nat.zero_mul, Nat.add_zero]
              rw [p2, hw2, Nat.add_mul, Nat.add_assoc, Nat.pow_add, Nat.mul_assoc, Nat.mul_comm (2 ^ wdN _) (2 ^ s)]
              rfl
            · refine (hw3.trans (hk.mono (fun _ _ h => h.elim))).transO p3 ?_
              intro j hj e
              rcases e with e | e
              · exact .inl e
              · rcases hw4 j e with h | h
                · exact .inr h
                · omega
            · intro k hk'
              rcases p4 k hk' with h | h
              · exact hw4 k h
              · have := hw3.size; have := hk.size; omega
          have HCall := Lib.hid hcall
          have kn : (k : Int) < n := by have := HN.out; omega
          clear hcall hcl hword htk hwd hw1 hw2 hw3 hw4 hzk hck hlk hg4R hg4o y0 hdis
          have hk0' := Kept.refl NoB wr
          have x1' : ∀ W, Kept NoB wr W → W.cell? ⟨g2, o2 + k, none⟩ = some (.int .i64 (lk : Int)) := fun W h => h.cell x1
          have y1' : ∀ W, Kept NoB wr W → W.cell? ⟨g4, k, none⟩ = some (.int .u32 (ck : Int)) := fun W h => h.cell y1
          go_upto_region 13 with fail
          go_region_with (go_at_call 36; ((with_reducible refine (HCall.out _ ?_).mono ?_); (exact ((Kept.refl NoB wr).drewN _)); rintro e wn ⟨rfl, ao2, cap2, bs2, hwn⟩; have HWn := Lib.hid hwn; clear hwn))
          all_goals
            go_wp2
            go_roundw
            case rel => exact ⟨i + 1, ao2, cap2, bs2, by go_num, by omega, HWn⟩
            case measure => simp [intOf]; omega
        · have hmi : i = m := by omega
          subst hmi
          have hF : WroteP w R (.slice ao bs.length cap) bs s (wordsL ls ys) wr ao' cap' bs' := by
            obtain ⟨h1, h2, h3, h4⟩ := HWr.out
            rw [List.take_of_length_le (by rw [← HM.out]; exact Nat.le_refl _)] at h1 h2
            exact ⟨h1, h2, (HK2.out.mono (fun _ _ h => h.elim)).trans h3, fun k hk => by
              rcases h4 k hk with h | h
              · exact .inl h
              · have := HK2.out.size; exact .inr (by omega)⟩
          have HF := Lib.hid hF
          clear hF
          go_wp2
          go_ret
          exact ⟨rfl, ao', cap', bs', HF.out⟩

set_option maxRecDepth 20000 in
set_option maxHeartbeats 4000000 in
/-- A last place that is none: nothing is written. -/
theorem write_no (ls : List Int) (a : Option Addr) (c B : Nat) (b : Option Addr) (d : Nat) (ys : List Int) (x : Int) (R : Nat) (ao : Option Addr) (cap : Nat) (bs : List Int) (s : Nat) (w : World)
    (hx : RdI w B a ls) (hy : RdI w w.heap.size b (ys ++ [x])) (hw : Wtr w R ao cap bs s) (hs : Small 15 ls) (hl : ls.length ≤ 320) (hok : refS ls = 0)
    (hys : ∀ z ∈ ys, HasC ls z) (hyl : ys.length ≤ 1000) (hxb : ls.length ≤ x) :
    Calls Try.prog 22 #[.pointer (some ⟨R, 0, none⟩), .slice a ls.length c, .slice b (ys ++ [x]).length d] w fun e w' => e = .returned (.int .i64 1) ∧ Kept NoB w w' := by
  have HCd := Lib.hid (codes_calls a c B ls w hx hs hl hok)
  have HX := Lib.hid hx; have HY := Lib.hid hy; have HYs := Lib.hid hys
  obtain ⟨n, hn⟩ : ∃ n, n = ls.length := ⟨_, rfl⟩
  have HN := Lib.hid hn
  have hn320 : n ≤ 320 := by omega
  obtain ⟨m, hm⟩ : ∃ m, m = ys.length := ⟨_, rfl⟩
  have HM := Lib.hid hm
  have hm1000 : m ≤ 1000 := by omega
  obtain ⟨q, hq⟩ : ∃ q, q = (ys ++ [x]).length := ⟨_, rfl⟩
  have hqm : q = m + 1 := by rw [hq, hm]; simp
  have HQ := Lib.hid hqm
  have hq1 : q ≤ 1001 := by omega
  have hxn : (n : Int) ≤ x := by omega
  rw [← hn] at HCd
  rw [← hn, ← hq]
  clear hx hy hw hs hys hok hn hm hl hyl hxb hqm hq
  go_enter Try.func22, Try.ntmps22
  go_wp2_with fail
  refine HCd.out.mono ?_
  intro e w2 hp
  obtain ⟨a4, c4, rfl, ho4, hr4, hk⟩ := codes_read2 hp
  have hcl : (codesL ls).length = n := by unfold codesL; rw [codesP_len]; exact HN.out.symm
  rw [hcl] at hr4 ⊢
  have HK2 := Lib.hid hk
  clear hp hr4 hk hcl HCd ho4
  go_wp2
  go_loopw [23, 10] (fun v23 _ wr => ∃ i : Nat, v23 = .int .i64 (i : Int) ∧ i ≤ m ∧ Hid (Kept NoB w2 wr)) (fun v23 _ _ => q - (intOf v23).toNat)
  case atStart => exact ⟨0, rfl, by omega, Kept.refl _ _⟩
  case round =>
    obtain ⟨i, rfl, him, HKi⟩ := hrel
    have hiq : (i : Int) < q := by have := HQ.out; omega
    by_cases hlt : i < m
    · have hil : i < ys.length := by have := HM.out; omega
      obtain ⟨k, hzk, hkl, hk0⟩ := HYs.out _ (get_mem' hil)
      obtain ⟨g1, o1, rfl, _, x0⟩ := (HY.out.keptNo (HK2.out.trans HKi.out)) i (by simp; omega)
      obtain ⟨g2, o2, rfl, _, x1⟩ := (HX.out.keptNo (HK2.out.trans HKi.out)) k hkl
      have hg : (ys ++ [x]).getD i 0 = ys.getD i 0 := by simp [List.getD, List.getElem?_append_left hil]
      rw [hg, hzk] at x0
      obtain ⟨lk, hlk⟩ : ∃ lk, lk = ls.getD k 0 := ⟨_, rfl⟩
      rw [← hlk] at x1 hk0
      have hkn : (k : Int) < n := by have := HN.out; omega
      have q1 : (lk == 0) = false := by simp; omega
      clear hil hzk hkl hlk hg
      go_wp2
      go_roundw
      case rel => exact ⟨i + 1, by go_num, by omega, HKi⟩
      case measure => simp [intOf]; omega
    · have him2 : i = m := by omega
      subst him2
      obtain ⟨g1, o1, rfl, _, x0⟩ := (HY.out.keptNo (HK2.out.trans HKi.out)) i (by have := HM.out; simp; omega)
      have hg : (ys ++ [x]).getD i 0 = x := by rw [HM.out]; simp [List.getD]
      rw [hg] at x0
      have q0 : ¬ x < 0 := by omega
      have q1 : ¬ x < n := by omega
      clear hg
      go_wp2
      go_ret
      exact ⟨rfl, HK2.out.trans HKi.out⟩
end Go.Proofs.Ytokdlmpnokmniaa
