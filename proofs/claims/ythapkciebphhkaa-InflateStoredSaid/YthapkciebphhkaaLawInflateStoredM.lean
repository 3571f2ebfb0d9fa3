/-
  The law InflateStored.
-/
import Derived.Test.YthapkciebphhkaaMb23
namespace Go.Proofs.Ythapkciebphhkaa
open Go.RowKit
set_option linter.unusedVariables false
set_option linter.unusedSimpArgs false

/-- The bytes of the first j blocks of n. -/
def bB (rows : List (List Int)) (n j : Nat) : List Int := if j < n then midB (rows.take j) else midB (rows.take (n - 1)) ++ blkB true (rows.getD (n - 1) [])
theorem bB_zero (rows : List (List Int)) (n : Nat) (h : 0 < n) : bB rows n 0 = [] := by unfold bB; rw [if_pos h]; rfl
theorem take_getD {α : Type} (l : List α) (j : Nat) (d : α) (h : j < l.length) : l.take (j + 1) = l.take j ++ [l.getD j d] := by
  rw [List.take_add_one, List.getElem?_eq_getElem h]
  simp [List.getD, h]
theorem bB_step (rows : List (List Int)) (n j : Nat) (h : j < n) (hn : n ≤ rows.length) : bB rows n (j + 1) = bB rows n j ++ blkB (decide (j + 1 = n)) (rows.getD j []) := by
  unfold bB
  rw [if_pos h]
  by_cases e : j + 1 = n
  · subst e
    rw [if_neg (by omega)]
    simp
  · rw [if_pos (by omega), take_getD rows j [] (by omega), midB_snoc, decide_eq_false e]
theorem flat_step (rows : List (List Int)) (j : Nat) (h : j < rows.length) : (rows.take (j + 1)).flatten = (rows.take j).flatten ++ rows.getD j [] := by
  rw [take_getD rows j [] h, List.flatten_append]; simp
theorem blkB_cut (last : Bool) (row : List Int) : blkB last row = [(lastN last : Int), (row.length : Int), 0, 255 - (row.length : Int), 255] ++ row := by simp [blkB, blkX]
theorem not8 (x : Nat) (h : x < 256) : bits .xor .u8 IntKind.u8.max (x : Int) = ((255 - x : Nat) : Int) := by
  show IntKind.u8.wrap ((BitVec.ofInt 8 IntKind.u8.max ^^^ BitVec.ofInt 8 (x : Int)).toNat : Int) = _
  have h1 : (BitVec.ofInt 8 (x : Int)).toNat = x := by rw [BitVec.ofInt_natCast, BitVec.toNat_ofNat]; exact Nat.mod_eq_of_lt (by omega)
  have e : BitVec.ofInt 8 IntKind.u8.max = BitVec.allOnes 8 := by decide
  rw [e, ← BitVec.not_def, BitVec.toNat_not, h1]
  exact IntWalk.u8_in _ (by omega)
theorem Kept.transOwn {w wr w2 : World} {v : Value} (h : Kept NoB w wr) (k : Kept (OwnB v) wr w2) (hf : ∀ k, v.ownBlock = some k → w.heap.size ≤ k) : Kept NoB w w2 :=
  ⟨k.os.trans h.os, k.tape.trans h.tape, k.output.trans h.output, Nat.le_trans h.size k.size, fun i hi _ => (k.block i (Nat.lt_of_lt_of_le hi h.size) (fun e => by have := hf i e; omega)).trans (h.block i hi (fun e => e))⟩
/-- Where block t begins, and what stands there. -/
theorem bB_at (rows : List (List Int)) (n t : Nat) (h : t < n) (hn : n ≤ rows.length) : ∃ r, (bB rows n n) = midB (rows.take t) ++ (blkB (decide (t + 1 = n)) (rows.getD t []) ++ r) := by
  have key : ∀ m, t + m + 1 ≤ n → ∃ r, bB rows n (t + m + 1) = midB (rows.take t) ++ (blkB (decide (t + 1 = n)) (rows.getD t []) ++ r) := by
    intro m
    induction m with
    | zero =>
      intro h1
      refine ⟨[], ?_⟩
      rw [Nat.add_zero, bB_step rows n t h hn, List.append_nil]
      congr 1
      unfold bB
      rw [if_pos h]
    | succ m ih =>
      intro h1
      obtain ⟨r, hr⟩ := ih (by omega)
      refine ⟨r ++ blkB (decide (t + (m + 1) + 1 = n)) (rows.getD (t + (m + 1)) []), ?_⟩
      rw [bB_step rows n (t + (m + 1)) (by omega) hn, show t + (m + 1) = t + m + 1 from rfl, hr]
      simp
  obtain ⟨r, hr⟩ := key (n - 1 - t) (by omega)
  rw [show t + (n - 1 - t) + 1 = n from by omega] at hr
  exact ⟨r, hr⟩
theorem flat_len (rows : List (List Int)) (t : Nat) : (rows.take t).flatten.length ≤ rows.flatten.length := by
  conv => rhs; rw [← List.take_append_drop t rows, List.flatten_append, List.length_append]
  omega
theorem flat_le (rows : List (List Int)) (t n : Nat) (h : t ≤ n) : (rows.take t).flatten.length ≤ (rows.take n).flatten.length := by
  have := flat_len (rows.take n) t
  rwa [List.take_take, Nat.min_eq_left h] at this
theorem rows_le {rows : List (List Int)} {n t : Nat} (ht : t ≤ n) (hn : n ≤ rows.length) (hs : ∀ i, i < n → (rows.getD i []).length ≤ 200) : ∀ x ∈ rows.take t, x.length ≤ 255 := by
  intro x hx
  obtain ⟨i, hi, rfl⟩ := List.getElem_of_mem hx
  rw [List.length_take] at hi
  have := hs i (by omega)
  rw [List.getElem_take]
  simp only [List.getD, List.getElem?_eq_getElem (show i < rows.length by omega), Option.getD_some] at this
  omega
theorem steps_all {rows : List (List Int)} {n : Nat} (h0 : 0 < n) (hn : n ≤ rows.length) (hs : ∀ i, i < n → (rows.getD i []).length ≤ 200) (hall : AllB (bB rows n n)) {M : Nat} (hM : (rows.take n).flatten.length ≤ M) :
    Steps (bB rows n n) M 0 .block false [] (8 * (bB rows n n).length) .fin true ((rows.take n).flatten) := by
  obtain ⟨m, rfl⟩ : ∃ m, n = m + 1 := ⟨n - 1, by omega⟩
  have hf := flat_step rows m (by omega)
  have hb : bB rows (m + 1) (m + 1) = midB (rows.take m) ++ (blkB true (rows.getD m []) ++ []) := by
    unfold bB
    rw [if_neg (by omega), List.append_nil]
    rfl
  rw [hf, List.length_append] at hM
  obtain ⟨l1, h1⟩ := mid_steps hall (most := M) (rows.take m) (blkB true (rows.getD m []) ++ []) 0 false [] (by rw [List.drop_zero]; exact hb) (rows_le (by omega) hn hs) (by simp only [List.length_nil]; omega)
  have hd : (bB rows (m + 1) (m + 1)).drop (0 + (midB (rows.take m)).length) = blkB true (rows.getD m []) ++ [] := by
    rw [Nat.zero_add, hb, List.drop_left' rfl]
  have h2 := stored_at hall (most := M) (l0 := l1) (out := [] ++ (rows.take m).flatten) hd (by have := hs m (by omega); omega) (by rw [List.nil_append]; omega)
  rw [hf]
  refine (h1.trans h2).to (by omega) ?_
  rw [hb, List.length_append, List.length_append, blkB_len]
  simp only [List.length_nil]
  omega
theorem steps_bad {rows : List (List Int)} {n t M : Nat} {last : Bool} {x : Int} {B r : List Int} (hB : B = midB (rows.take t) ++ (blkX last x (rows.getD t []) ++ r)) (ht : t < n) (hn : n ≤ rows.length) (hs : ∀ i, i < n → (rows.getD i []).length ≤ 200) (hall : AllB B) (hM : (rows.take t).flatten.length ≤ M) (hx : 0 ≤ x ∧ x < 256) (hne : x ≠ 255 - ((rows.getD t []).length : Int)) :
    Steps B M 0 .block false [] (8 * (midB (rows.take t)).length + 3) .stored last ((rows.take t).flatten) ∧ ItemR B M (8 * (midB (rows.take t)).length + 3) .stored last ((rows.take t).flatten) 6 0 .fin false [] := by
  obtain ⟨l1, h1⟩ := mid_steps hall (most := M) (rows.take t) (blkX last x (rows.getD t []) ++ r) 0 false [] (by rw [List.drop_zero]; exact hB) (rows_le (by omega) hn hs) (by simp only [List.length_nil]; omega)
  have hd : B.drop (0 + (midB (rows.take t)).length) = blkX last x (rows.getD t []) ++ r := by
    rw [Nat.zero_add, hB, List.drop_left' rfl]
  obtain ⟨h2, h3⟩ := bad_at hall (most := M) (l0 := l1) (out := [] ++ (rows.take t).flatten) hd (by have := hs t ht; omega) hx hne
  rw [Nat.zero_add] at h1 h2 h3
  exact ⟨h1.trans h2, h3⟩
theorem xor8 (a b : Nat) (ha : a < 256) (hb : b < 256) (h0 : b ≠ 0) : ∃ x : Nat, bits .xor .u8 (a : Int) (b : Int) = (x : Int) ∧ x < 256 ∧ x ≠ a := by
  refine ⟨a ^^^ b, ?_, Nat.xor_lt_two_pow (n := 8) ha hb, ?_⟩
  · show IntKind.u8.wrap ((BitVec.ofInt 8 (a : Int) ^^^ BitVec.ofInt 8 (b : Int)).toNat : Int) = _
    have h1 : (BitVec.ofInt 8 (a : Int)).toNat = a := by rw [BitVec.ofInt_natCast, BitVec.toNat_ofNat]; exact Nat.mod_eq_of_lt (by omega)
    have h2 : (BitVec.ofInt 8 (b : Int)).toNat = b := by rw [BitVec.ofInt_natCast, BitVec.toNat_ofNat]; exact Nat.mod_eq_of_lt (by omega)
    have hx : a ^^^ b < 256 := Nat.xor_lt_two_pow (n := 8) ha hb
    rw [BitVec.toNat_xor, h1, h2]
    exact IntWalk.u8_in _ (by omega)
  · intro e
    have := congrArg (fun z => a ^^^ z) e
    simp only [← Nat.xor_assoc, Nat.xor_self, Nat.zero_xor] at this
    exact h0 this
theorem blkB_all {last : Bool} {row : List Int} (h : AllB row) (hl : row.length ≤ 255) : AllB (blkB last row) := by
  intro x hx
  have := lastN_lt last
  simp only [blkB, blkX, List.mem_cons] at hx
  rcases hx with rfl | rfl | rfl | rfl | rfl | hx
  · omega
  · omega
  · omega
  · omega
  · omega
  · exact h x hx
theorem bB_all {rows : List (List Int)} {n : Nat} (hn : n ≤ rows.length) (hall : AllP rows) (hs : ∀ i, i < n → (rows.getD i []).length ≤ 200) : ∀ j, 0 < n → j ≤ n → AllB (bB rows n j)
  | 0, h0, _ => by rw [bB_zero _ _ h0]; intro x hx; cases hx
  | j + 1, h0, hj => by
    rw [bB_step rows n j (by omega) hn]
    intro x hx
    rcases List.mem_append.1 hx with hx | hx
    · exact bB_all hn hall hs j h0 (by omega) x hx
    · exact blkB_all (hall.getD j) (by have := hs j (by omega); omega) x hx
set_option maxRecDepth 20000 in
set_option maxHeartbeats 16000000 in
theorem inflateStored_walk (w : World) (ao : Option Addr) (cap : Nat) (ps : List (List Int)) (hp : Parts w ao ps) (hall : AllP ps) (hpl : ps.length ≤ maxLen) (which y : Int) (hy : 0 ≤ y ∧ y < 256) :
    Calls Try.prog 3 #[.slice ao ps.length cap, .int .i64 which, .int .u8 y] w fun e w' => e = .returned (.bool true) ∧ Below w.heap.size w w' := by
  obtain ⟨i0, hi, hz0, hz1, hz2⟩ := info_parts info5
  have hmk : bits .and .i64 which 255 = which % 256 := mask255 which
  obtain ⟨Q, hQ⟩ : ∃ Q : Nat, which % 256 = (Q : Int) := ⟨(which % 256).toNat, by omega⟩
  rw [hQ] at hmk
  have hQ2 : Q < 256 := by omega
  obtain ⟨N, hN⟩ : ∃ N, N = min ps.length 8 := ⟨_, rfl⟩
  have hmn : (if (8 : Int) < (ps.length : Int) then (8 : Int) else (ps.length : Int)) = (N : Int) := by rw [hN]; split <;> omega
  have hNl : N ≤ ps.length ∧ N ≤ 8 := by omega
  have HP := Lib.hid hp; have HAll := Lib.hid hall; have HN := Lib.hid hN
  obtain ⟨L, hL⟩ : ∃ L, L = ps.length := ⟨_, rfl⟩
  have hLm : L ≤ maxLen := by rw [hL]; exact hpl
  have HL := Lib.hid hL
  rw [← hL] at hmn hNl ⊢
  unfold maxLen at hLm
  clear hp hall hpl hQ hN hL
  go_enter Try.func3, Try.ntmps3
  go_upto_region 3 with fail
  go_cut [9] from 23 to 25 (fun s wx => s = .int .i64 (N : Int) ∧ w = wx)
  case first =>
    go_wp2
    all_goals go_meet
    all_goals first | exact ⟨rfl, rfl⟩ | exact ⟨by congr 1; omega, rfl⟩
  case rest =>
    obtain ⟨rfl, rfl⟩ := hcut
    clear hmn
    by_cases h0 : N = 0
    · subst h0
      go_wp2_with fail
      refine (awake9 _).mono ?_
      rintro e w1 ⟨rfl, hk⟩
      have HK := Lib.hid hk
      clear hk
      go_wp2
      go_ret
      exact ⟨rfl, HK.out.belowNo (Below.refl _ _)⟩
    · have g0 : ((N : Int) == 0) = false := by simpa using h0
      obtain ⟨T, hT⟩ : ∃ T, T = Q % N := ⟨_, rfl⟩
      have hTm : (Q : Int) % (N : Int) = (T : Int) := by rw [hT]; omega
      have hTN : T < N := by rw [hT]; exact Nat.mod_lt _ (by omega)
      clear hT
      go_wp2_with fail
      simp only [hTm]
      clear hTm hmk
      go_loopw [7, 8, 10, 11, 12, 13, 14] (fun v7 v8 v10 v11 v12 _v13 _v14 wr => ∃ (j : Nat) (a7 : Option Addr) (l c7 : Nat) (W1 S1 : ByteArray) (A : Nat), j ≤ N ∧ v12 = .int .i64 (j : Int) ∧ v7 = .slice a7 l c7 ∧ v8 = .string W1 ∧ v10 = .int .i64 (A : Int) ∧ v11 = .string S1 ∧ l ≤ 205 * j ∧ W1.size ≤ 200 * j ∧
        Hid (l = (bB ps N j).length) ∧ Hid (W1 = strOfNums (ps.take j).flatten) ∧ Hid (T < j → A = (midB (ps.take T)).length ∧ S1 = strOfNums (ps.take T).flatten) ∧ Hid (wr.ownsRow 0 5 1 (.slice a7 l c7) l ((bB ps N j).map (.int .u8))) ∧ Hid (Kept NoB w wr) ∧ Hid (∀ k, (Value.slice a7 l c7).ownBlock = some k → w.heap.size ≤ k) ∧ Hid (∀ i, i < j → (ps.getD i []).length ≤ 200)) (fun _ _ _ _ v12 _ _ _ => N - (intOf v12).toNat)
      case atStart =>
        refine ⟨0, none, 0, 0, ⟨#[]⟩, ⟨#[]⟩, 0, by omega, rfl, rfl, rfl, rfl, rfl, by omega, by decide, ?_, rfl, fun h => absurd h (by omega), ?_, Kept.refl _ _, fun k hk => by simp [Value.ownBlock] at hk, fun i hi => absurd hi (by omega)⟩
        · rw [bB_zero _ _ (by omega)]; rfl
        · rw [bB_zero _ _ (by omega)]; exact World.ownsRow_nil _ _ _ _
      case round =>
        obtain ⟨j, a7, l, c7, W1, S1, A, hj, rfl, rfl, rfl, rfl, rfl, hl2, hW2, HLn, HW1, HT, HOwn, HK, HFr, HSm⟩ := hrel
        by_cases hlt : (j : Int) < (N : Int)
        · have hjl : j < ps.length := by have := HL.out; omega
          rcases HP.out with h0' | ⟨rb, ro, rfl, hrb, hc⟩
          · rw [h0'] at hjl; simp at hjl
          obtain ⟨pa, pc, hc0, hrd, hlc, hpcm, hpn⟩ := hc j hjl
          obtain ⟨row, hrow⟩ : ∃ row, row = ps.getD j [] := ⟨_, rfl⟩
          rw [← hrow] at hc0 hrd hlc
          have hra : AllB row := by rw [hrow]; exact HAll.out.getD j
          obtain ⟨K, hK⟩ : ∃ K, K = row.length := ⟨_, rfl⟩
          rw [← hK] at hc0 hlc
          have hcj := HK.out.cell hc0
          have HRd := Lib.hid (hrd.keptNo HK.out)
          have hjL : j < L := by omega
          have HRdW : Hid (∀ W, Kept (OwnB (.slice a7 l c7)) wr W → Reads W pa row) := Lib.hid fun W hk => by
            by_cases hr0 : row = []
            · subst hr0
              cases pa with
              | none => exact ⟨fun _ => rfl, fun a ha => by cases ha⟩
              | some a => exact reads_empty
            · obtain ⟨b, off, rfl, hbl, _⟩ := hrd.at (by cases row with | nil => exact absurd rfl hr0 | cons => simp)
              exact (hrd.keptNo HK.out).kept hk (fun a ha e => by
                cases ha
                have := HFr.out b e
                omega)
          have HCj : Hid (∀ W, Kept (OwnB (.slice a7 l c7)) wr W → W.cell? ⟨rb, ro + j, none⟩ = some (.slice pa K pc)) := Lib.hid fun W hk => (World.cell?_of_block (hk.block rb (Nat.lt_of_lt_of_le hrb HK.out.size) (fun e => by have := HFr.out rb e; omega))).trans hcj
          have HC0 := Lib.hid hc0; have HRow := Lib.hid hrow; have HRa := Lib.hid hra; have HKl := Lib.hid hK; have HPn := Lib.hid hpn; have HRb := Lib.hid hrb
          unfold maxLen at hpcm
          clear hc hrd hc0 hrow hra hK hpn hrb
          by_cases hbig : (200 : Int) < (K : Int)
          · go_wp2_with fail
            refine (awake9 _).mono ?_
            rintro e w1 ⟨rfl, hk⟩
            have HK1 := Lib.hid (HK.out.trans hk)
            clear hk
            go_wp2
            go_ret
            exact ⟨rfl, HK1.out.belowNo (Below.refl _ _)⟩
          · have hK200 : K ≤ 200 := by omega
            obtain ⟨lz, hlz⟩ : ∃ lz : Nat, lz = lastN (decide (j + 1 = N)) := ⟨_, rfl⟩
            have hlz2 : lz < 2 := by rw [hlz]; exact lastN_lt _
            have HLz := Lib.hid hlz
            clear hlz
            go_upto_if 49 with fail
            go_cut [14] from 46 to 49 (fun v14 wy => v14 = .int .u8 (lz : Int) ∧ wr = wy)
            case first =>
              by_cases hje : j + 1 = N
              · have g1 : ((j : Int) == (N : Int) - 1) = true := by simp; omega
                have : lz = 1 := by rw [HLz.out, decide_eq_true hje]; rfl
                clear hje
                subst this
                go_wp2
                go_meet
                exact ⟨rfl, rfl⟩
              · have g1 : ((j : Int) == (N : Int) - 1) = false := by simp; omega
                have : lz = 0 := by rw [HLz.out, decide_eq_false hje]; rfl
                clear hje
                subst this
                go_wp2
                go_meet
                exact ⟨rfl, rfl⟩
            case rest =>
              obtain ⟨rfl, rfl⟩ := hcut
              go_upto_if 52 with fail
              go_cut [10, 11] from 50 to 55 (fun v10 v11 wy => ∃ (A' : Nat) (S' : ByteArray), v10 = .int .i64 (A' : Int) ∧ v11 = .string S' ∧ Hid (T < j + 1 → A' = (midB (ps.take T)).length ∧ S' = strOfNums (ps.take T).flatten) ∧ wr = wy)
              case first =>
                by_cases hjT : j = T
                · have g1 : ((j : Int) == (T : Int)) = true := by simp; omega
                  have HF : Hid (T < j + 1 → l = (midB (ps.take T)).length ∧ W1 = strOfNums (ps.take T).flatten) := Lib.hid fun _ => by
                    have h1 := HLn.out
                    unfold bB at h1
                    rw [if_pos (by omega)] at h1
                    rw [← hjT]
                    exact ⟨h1, HW1.out⟩
                  clear hjT
                  go_wp2
                  go_meet
                  exact ⟨l, W1, rfl, rfl, HF, rfl⟩
                · have g1 : ((j : Int) == (T : Int)) = false := by simp; omega
                  have HF : Hid (T < j + 1 → A = (midB (ps.take T)).length ∧ S1 = strOfNums (ps.take T).flatten) := Lib.hid fun h => HT.out (by omega)
                  go_wp2
                  go_meet
                  exact ⟨A, S1, rfl, rfl, HF, rfl⟩
              case rest =>
                obtain ⟨A', S', rfl, rfl, HT', rfl⟩ := hcut
                obtain ⟨Z, hZ⟩ : ∃ Z, Z = 255 - K := ⟨_, rfl⟩
                have hx1 : bits .xor .u8 IntKind.u8.max (K : Int) = (Z : Int) := by rw [hZ]; exact not8 K (by omega)
                have hx2 : bits .xor .u8 (if IntKind.u8.signed = true then -1 else IntKind.u8.max) (K : Int) = (Z : Int) := hx1
                have hx3 : IntKind.u8.wrap (K : Int) = (K : Int) := IntWalk.u8_in _ (by omega)
                have HZ := Lib.hid hZ
                clear hZ
                obtain ⟨five, hfive⟩ : ∃ five : List Int, five = [(lz : Int), (K : Int), 0, (Z : Int), 255] := ⟨_, rfl⟩
                have hlit : Reads (wr.alloc (.cells #[.int .u8 (lz : Int), .int .u8 (K : Int), .int .u8 0, .int .u8 (Z : Int), .int .u8 255] 5)) (some ⟨wr.heap.size, 0, none⟩) five := reads_lit five (by rw [hfive]; rfl)
                have hf5 : five.length = 5 := by rw [hfive]; rfl
                have HFive := Lib.hid hfive; have HLit := Lib.hid (reads_news hlit); have HF5 := Lib.hid hf5
                clear hfive hlit hf5
                have HOw : Hid (∀ W, Kept NoB wr W → W.ownsRow 0 5 1 (.slice a7 l c7) l ((bB ps N j).map (.int .u8))) := Lib.hid fun W hk => hk.row HOwn.out (fun _ _ e => e)
                go_upto_region 19 with fail
                go_cut [7] from 56 to 69 (fun v7 wy => ∃ (a9 : Option Addr) (c9 : Nat), v7 = .slice a9 (l + 5 + K) c9 ∧ Hid (wy.ownsRow 0 5 1 (.slice a9 (l + 5 + K) c9) (l + 5 + K) ((bB ps N j ++ five ++ row).map (.int .u8))) ∧ Hid (Kept NoB w wy) ∧ Hid (∀ k, (Value.slice a9 (l + 5 + K) c9).ownBlock = some k → w.heap.size ≤ k) ∧ Hid (Kept (OwnB (.slice a7 l c7)) wr wy))
                case first =>
                  have hk5 : Kept NoB wr (wr.alloc (.cells #[.int .u8 (lz : Int), .int .u8 (K : Int), .int .u8 0, .int .u8 (Z : Int), .int .u8 255] 5)) := (Kept.refl _ _).alloc _
                  have hz5 : wr.heap.size ≤ (wr.alloc (.cells #[.int .u8 (lz : Int), .int .u8 (K : Int), .int .u8 0, .int .u8 (Z : Int), .int .u8 255] 5)).drew.heap.size := hk5.size
                  have hcj5 := hk5.cell hcj
                  cases pa with
                  | none =>
                    obtain rfl : row = [] := HRd.out.1 rfl
                    have hnone : Hid (Value.slice none K pc = Value.slice none 0 0) := Lib.hid (by rw [HPn.out rfl, show K = 0 from HKl.out])
                    have HK0 : Hid (K = 0) := Lib.hid HKl.out
                    go_region_law (first
                      | (refine step_app rfl (.tmp 56) (.tmp 63) 23 rfl 5 i0 (.int .u8 0) 1 1 Try.underlying23 hi hz0 hz1 hz2 rfl (by decide) _ l ((bB ps N j).map (.int .u8)) rfl (HOw.out _ (Kept.drew hk5)) ⟨wr.heap.size, 0, none⟩ 5 5 (five.map (.int .u8)) rfl (by rw [List.length_map, HF5.out]) HLit.out (news_one five) (by unfold maxLen; omega) (by omega) ?_
                         intro v' w2 hown' hgrow hnew
                         obtain ⟨a2, c2, rfl⟩ := own_shape hown'
                         have hkw2 : Kept (OwnB (.slice a7 l c7)) wr w2 := (Kept.drew ((Kept.refl (OwnB (.slice a7 l c7)) wr).alloc _)).grown hgrow (fun k _ h => h)
                         have hcj2 := HCj.out w2 hkw2)
                      | (refine step_app_none rfl (.tmp 64) (.tmp 68) 23 rfl 5 i0 1 Try.underlying23 hi _ (l + 5) ((bB ps N j).map (Value.int .u8) ++ five.map (Value.int .u8)) rfl hown' hnone.out ?_))
                    all_goals go_wp2
                    all_goals go_meet
                    all_goals
                      refine ⟨a2, c2, by rw [HK0.out], ?_, HK.out.transOwn hkw2 HFr.out, ?_, hkw2⟩
                      · rw [HK0.out, Nat.add_zero, List.append_nil, List.map_append]; exact hown'
                      · rw [HK0.out, Nat.add_zero]
                        intro k hk
                        rcases hnew k hk with e | e
                        · exact HFr.out k e
                        · have := HK.out.size; omega
                  | some x =>
                    go_region_law (first
                      | (refine step_app rfl (.tmp 56) (.tmp 63) 23 rfl 5 i0 (.int .u8 0) 1 1 Try.underlying23 hi hz0 hz1 hz2 rfl (by decide) _ l ((bB ps N j).map (.int .u8)) rfl (HOw.out _ (Kept.drew hk5)) ⟨wr.heap.size, 0, none⟩ 5 5 (five.map (.int .u8)) rfl (by rw [List.length_map, HF5.out]) HLit.out (news_one five) (by unfold maxLen; omega) (by omega) ?_
                         intro v' w2 hown' hgrow hnew
                         obtain ⟨a2, c2, rfl⟩ := own_shape hown'
                         have hkw2 : Kept (OwnB (.slice a7 l c7)) wr w2 := (Kept.drew ((Kept.refl (OwnB (.slice a7 l c7)) wr).alloc _)).grown hgrow (fun k _ h => h)
                         have hcj2 := HCj.out w2 hkw2)
                      | (refine step_app rfl (.tmp 64) (.tmp 68) 23 rfl 5 i0 (.int .u8 0) 1 1 Try.underlying23 hi hz0 hz1 hz2 rfl (by decide) _ (l + 5) ((bB ps N j).map (Value.int .u8) ++ five.map (Value.int .u8)) rfl hown' x K pc (row.map (.int .u8)) rfl (by rw [List.length_map, HKl.out]; omega) (reads_news (HRdW.out w2 hkw2)) (news_one row) (by unfold maxLen; omega) (by omega) ?_
                         intro v3 w3 hown3 hgrow3 hnew3
                         obtain ⟨a3, c3, rfl⟩ := own_shape hown3))
                    all_goals go_wp2
                    all_goals go_meet
                    all_goals
                      have hkw3 : Kept (OwnB (.slice a7 l c7)) wr w3 := hkw2.grown hgrow3 (fun k hk e => by
                        rcases hnew k e with e2 | e2
                        · exact e2
                        · omega)
                      refine ⟨a3, c3, rfl, ?_, HK.out.transOwn hkw3 HFr.out, ?_, hkw3⟩
                      · rw [List.map_append, List.map_append]; exact hown3
                      · intro k hk
                        rcases hnew3 k hk with e | e
                        · rcases hnew k e with e2 | e2
                          · exact HFr.out k e2
                          · have := HK.out.size; omega
                        · have := HK.out.size; have := hkw2.size; omega
                case rest =>
                  obtain ⟨a9, c9, rfl, HOw9, HK9, HFr9, HKw9⟩ := hcut
                  have hcj9 := HCj.out _ HKw9.out
                  have hrd9 := HRdW.out _ HKw9.out
                  have hcv := fun (h : pa = none → pc = 0) => conv_reads hrd9 HKl.out h
                  have hcv2 := hcv HPn.out
                  have hsz : (strOfNums row).size = K := by rw [strOfNums_size]; exact HKl.out.symm
                  have had := fun W => run_string_add_sum (P := Try.prog) W W1 (strOfNums row) (by omega)
                  obtain ⟨W2, hW2'⟩ : ∃ W2, W2 = W1 ++ strOfNums row := ⟨_, rfl⟩
                  have hW2s : W2.size ≤ 200 * (j + 1) := by rw [hW2', ByteArray.size_append]; omega
                  rw [← hW2'] at had
                  have HW2' := Lib.hid hW2'
                  clear hW2' hcv hsz hrd9
                  have hrow2 : ps.getD j [] = row := HRow.out.symm
                  have HB2 : Hid (bB ps N (j + 1) = bB ps N j ++ five ++ row) := by
                    have h1 := bB_step ps N j (by omega) (by have := HL.out; omega)
                    rw [hrow2, blkB_cut, ← HLz.out] at h1
                    show bB ps N (j + 1) = _
                    rw [h1, HFive.out, List.append_assoc, ← HKl.out]
                    congr 3
                    have := HZ.out
                    congr 4
                    omega
                  have HF2 : Hid ((ps.take (j + 1)).flatten = (ps.take j).flatten ++ row) := by
                    have h1 := flat_step ps j (by have := HL.out; omega)
                    rw [hrow2] at h1
                    exact h1
                  clear hrow2
                  go_wp2
                  go_roundw
                  case rel =>
                    refine ⟨j + 1, a9, l + 5 + K, c9, W2, S', A', by omega, by go_num, rfl, rfl, rfl, rfl, ?_, by omega, ?_, ?_, HT', ?_, HK9, HFr9, ?_⟩
                    · omega
                    · show l + 5 + K = _
                      rw [HB2.out, List.length_append, List.length_append, ← HLn.out, HF5.out, ← HKl.out]
                    · show W2 = _
                      rw [HW2'.out, HF2.out, ← str_append, ← HW1.out]
                    · show World.ownsRow _ _ _ _ _ _ _
                      rw [HB2.out]; exact HOw9.out
                    · show ∀ i, _
                      intro i hi
                      by_cases hij : i < j
                      · exact HSm.out i hij
                      · obtain rfl : i = j := by omega
                        rw [← HRow.out, ← HKl.out]; exact hK200
                  case measure => simp [intOf]; omega
        · obtain rfl : j = N := by omega
          obtain ⟨hA1, hS1⟩ := HT.out hTN
          have HA1 := Lib.hid hA1; have HS1 := Lib.hid hS1
          clear hA1 hS1 HT
          obtain ⟨B, hB⟩ : ∃ B, B = bB ps j j := ⟨_, rfl⟩
          rw [← hB] at HLn HOwn
          have HB := Lib.hid hB
          clear hB
          have hBall : AllB B := by rw [HB.out]; exact bB_all (by have := HL.out; omega) HAll.out HSm.out j (by omega) (Nat.le_refl _)
          have hfl : (ps.take j).flatten.length = W1.size := by rw [HW1.out, strOfNums_size]
          have hst := steps_all (M := W1.size) (by omega) (by have := HL.out; omega) HSm.out (by rw [← HB.out]; exact hBall) (by rw [hfl]; exact Nat.le_refl _)
          rw [← HB.out, ← HLn.out] at hst
          have hrdB : Reads wr a7 B := own_reads (by rw [← HLn.out]; exact HOwn.out) HLn.out
          have hcapB := own_cap HOwn.out
          have HAl := Lib.hid (infAll_any wr a7 c7 B (W1.size : Int) W1.size (by rw [if_neg (by omega)]) (by omega) hrdB (own_nil HOwn.out) (by rw [← HLn.out]; exact hcapB.1) hBall (by rw [← HLn.out]; omega) (small_fit (by omega)))
          rw [← HLn.out] at HAl
          have HSt := Lib.hid hst; have HBall := Lib.hid hBall; have HFl := Lib.hid hfl
          clear hst hBall hfl hrdB hcapB
          go_wp2_with fail
          refine HAl.out.mono ?_
          rintro e w2 hR
          obtain ⟨oa, oc, rfl, _, _, hcv, hk2⟩ := hR.fin HSt.out
          have e8 : (((8 * l + 7) / 8 : Nat) : Int) = (l : Int) := by omega
          rw [e8, HFl.out]
          have hcv := hcv.out
          rw [HFl.out, ← HW1.out] at hcv
          have HK2 := Lib.hid hk2
          clear hk2 hR HAl e8
          have q1 : ((l : Int) != (l : Int)) = false := by simp
          go_upto_region 22 with fail
          go_upto_if 101 with fail
          go_cut [2] from 100 to 101 (fun v2 wx => ∃ y2 : Nat, v2 = .int .u8 (y2 : Int) ∧ y2 ≠ 0 ∧ y2 < 256 ∧ w2 = wx)
          case first =>
            by_cases hy0 : y = 0
            · subst hy0
              go_wp2
              go_meet
              exact ⟨1, rfl, by decide, by decide, rfl⟩
            · have g1 : (y == 0) = false := by simpa using hy0
              obtain ⟨y2, rfl⟩ : ∃ y2 : Nat, y = (y2 : Int) := ⟨y.toNat, by omega⟩
              go_wp2
              go_meet
              exact ⟨y2, rfl, by omega, by omega, rfl⟩
          case rest =>
            obtain ⟨y2, rfl, hy1, hy3, rfl⟩ := hcut
            obtain ⟨r, hr⟩ := bB_at ps j T hTN (by have := HL.out; omega)
            have hmidA : (midB (ps.take T)).length = A := HA1.out.symm
            obtain ⟨rowT, hrowT⟩ : ∃ rowT, rowT = ps.getD T [] := ⟨_, rfl⟩
            have hT200 := HSm.out T hTN
            rw [← hrowT] at hr hT200
            have hBe : B = midB (ps.take T) ++ (blkB (decide (T + 1 = j)) rowT ++ r) := by rw [HB.out]; exact hr
            have hBlen : B.length = A + (rowT.length + 5) + r.length := by rw [hBe, List.length_append, List.length_append, blkB_len, hmidA]; omega
            have hA3 : A + 3 < l := by rw [HLn.out]; omega
            have hx0 : B.getD (A + 3) 0 = ((255 - rowT.length : Nat) : Int) := by
              rw [hBe]
              unfold List.getD
              rw [List.getElem?_append_right (by omega), hmidA, Nat.add_sub_cancel_left]
              simp [blkB, blkX]
              omega
            obtain ⟨X0, hX0⟩ : ∃ X0, X0 = 255 - rowT.length := ⟨_, rfl⟩
            rw [← hX0] at hx0
            obtain ⟨X1, hxor, hX1, hX01⟩ := xor8 X0 y2 (by omega) hy3 hy1
            have hBset : B.set (A + 3) (X1 : Int) = midB (ps.take T) ++ (blkX (decide (T + 1 = j)) (X1 : Int) rowT ++ r) := by
              rw [hBe, List.set_append_right _ _ (by omega), hmidA, Nat.add_sub_cancel_left]
              rfl
            have hBall2 : AllB (B.set (A + 3) (X1 : Int)) := by
              intro x hx
              rcases List.mem_or_eq_of_mem_set hx with h | h
              · exact HBall.out x h
              · subst h; omega
            have hMle : (ps.take T).flatten.length ≤ W1.size := by
              rw [HW1.out, strOfNums_size]
              exact flat_le ps T j (by omega)
            rw [hrowT] at hBset
            obtain ⟨hs1, hs2⟩ := steps_bad (M := W1.size) hBset hTN (by have := HL.out; omega) HSm.out hBall2 hMle (by omega) (by rw [← hrowT]; omega)
            rw [hmidA] at hs1 hs2
            have hS1 := Lib.hid hs1; have hS2 := Lib.hid hs2
            obtain ⟨g, rfl⟩ : ∃ g, a7 = some ⟨g, 0, none⟩ := by
              rcases HOwn.out.2 with ⟨_, hz⟩ | ⟨g, c, cur, hv, _⟩
              · omega
              · simp at hv; exact ⟨g, hv.1⟩
            have hown2 : w2.ownsRow 0 5 1 (.slice (some ⟨g, 0, none⟩) l c7) l (B.map (.int .u8)) := HK2.out.row HOwn.out (fun _ _ e => e)
            have hcell : w2.cell? ⟨g, A + 3, none⟩ = some (.int .u8 (X0 : Int)) := by
              rw [hown2.cellAt (A + 3) (by omega), ← hx0]
              simp [List.getD, show A + 3 < B.length by omega]
            have hfz := hown2.frozenAt (A + 3)
            obtain ⟨hown3, _⟩ := hown2.stored (A + 3) (.int .u8 (X1 : Int))
            rw [← List.map_set] at hown3
            obtain ⟨w3, hw3⟩ : ∃ w3, w3 = w2.setCell ⟨g, A + 3, none⟩ (.int .u8 (X1 : Int)) := ⟨_, rfl⟩
            rw [← hw3] at hown3
            have hlen3 : (B.set (A + 3) (X1 : Int)).length = l := by rw [List.length_set, HLn.out]
            have hgw : w.heap.size ≤ g := HFr.out g rfl
            have HK3 : Hid (Kept NoB w w3) := by
              rw [hw3]
              exact Kept.setCell (S := NoB) (p := ⟨g, A + 3, none⟩) (HK.out.trans HK2.out) (.inr hgw) _
            have hrd3 : Reads w3 (some ⟨g, 0, none⟩) (B.set (A + 3) (X1 : Int)) := own_reads (by rw [hlen3]; exact hown3) hlen3.symm
            have hcap3 := own_cap hown3
            have HAl3 := Lib.hid (infAll_any w3 (some ⟨g, 0, none⟩) c7 (B.set (A + 3) (X1 : Int)) (W1.size : Int) W1.size (by rw [if_neg (by omega)]) (by omega) hrd3 (fun e => by cases e) (by rw [hlen3]; exact hcap3.1) hBall2 (by rw [hlen3]; omega) (small_fit (by omega)))
            rw [hlen3] at HAl3
            have HW3 := Lib.hid hw3
            have hA3i : (A : Int) + 3 = ((A + 3 : Nat) : Int) := by omega
            obtain ⟨A3, hA3e⟩ : ∃ A3, A3 = A + 3 := ⟨_, rfl⟩
            rw [← hA3e] at hcell hfz hA3 hA3i HW3
            clear hr hBe hBlen hx0 hX0 hX1 hX01 hBset hBall2 hMle hs1 hs2 hown2 hown3 hw3 hlen3 hrd3 hcap3 hA3e hrowT hT200
            go_upto_region 27 with fail
            rw [← HW3.out]
            go_wp2_with fail
            refine HAl3.out.mono ?_
            rintro e w4 hR
            obtain ⟨ob, od, rfl, _, _, hcv4, hk4⟩ := hR.err hS1.out hS2.out (by decide)
            rw [if_neg (by decide)]
            have e8 : (((8 * A + 3) / 8 : Nat) : Int) = (A : Int) := by omega
            rw [e8]
            have hcv4 := hcv4.out
            rw [← HS1.out] at hcv4
            obtain ⟨Mo, hMo⟩ : ∃ Mo, Mo = (ps.take T).flatten.length := ⟨_, rfl⟩
            rw [← hMo] at hcv4 ⊢
            clear hMo
            have HK4 := Lib.hid (HK3.out.trans hk4)
            clear hk4 hR e8 HAl3 hcell hfz
            go_wp2_with fail
            refine (awake9 _).mono ?_
            rintro e w5 ⟨rfl, hk5⟩
            have HK5 := Lib.hid (HK4.out.trans hk5)
            clear hk5
            go_wp2
            go_ret
            exact ⟨rfl, HK5.out.belowNo (Below.refl _ _)⟩
set_option maxRecDepth 20000 in
theorem inflateStored_law (v0 v1 v2 : Value) (w : World) (r0 : Arg w 22 v0) (r1 : Arg w 3 v1) (r2 : Arg w 5 v2) : Calls Try.prog 3 #[v0, v1, v2] w fun e w' => e = .returned (.bool true) ∧ Below w.heap.size w w' := by
  obtain ⟨ao, cap, ps, rfl, hp, hall, hl⟩ := parts_open r0
  obtain ⟨n, rfl, _⟩ := r1.int rfl
  obtain ⟨y, rfl, hy⟩ := r2.int Try.underlying5
  have hb := u8_bd hy
  exact inflateStored_walk w ao cap ps hp hall hl n y (by omega)
end Go.Proofs.Ythapkciebphhkaa
