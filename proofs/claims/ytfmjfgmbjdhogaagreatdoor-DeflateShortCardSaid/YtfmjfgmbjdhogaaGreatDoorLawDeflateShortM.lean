/-
  DeflateShort: a row over and over is packed, at each level but the lowest, within the bound, and unpacked as it was.
-/
import Derived.Test.YtfmjfgmbjdhogaaGreatDoorMs45
namespace Go.Proofs.YtfmjfgmbjdhogaaGreatDoor
open Go.RowKit
set_option linter.unusedVariables false
set_option linter.unusedSimpArgs false

theorem mask255s (n : Int) : bits .and .i64 n 255 = n % 256 := i64_mask n 8 (by decide)
set_option maxRecDepth 20000 in
set_option maxHeartbeats 4000000 in
theorem deflateShort_walk (bo : Option Addr) (bc n : Nat) (B : List UInt8) (lv0 : Int) (w : World) (hT : DeB w)
    (hn : n = B.length) (hrb : Reads w bo (nb B)) (hbn : bo = none → bc = 0) (hbc : n ≤ bc) (hbm : bc ≤ maxLen) :
    Calls Tryz.prog 3 #[.slice bo n bc, .int .i64 lv0] w fun e w' => e = .returned (.bool true) ∧ Below w.heap.size w w' := by
  have HAw := Lib.hid awake10
  have HT := Lib.hid hT; have HN := Lib.hid hn; have HRb := Lib.hid hrb; have HBn := Lib.hid hbn
  unfold maxLen at hbm
  clear hT hn hrb hbn
  obtain ⟨lv, hlv⟩ : ∃ lv : Nat, lv = (lv0 % 256).toNat % 9 + 1 := ⟨_, rfl⟩
  obtain ⟨p, hpq⟩ : ∃ p : Nat, p = (lv0 % 256).toNat := ⟨_, rfl⟩
  have hp : bits .and .i64 lv0 255 = (p : Int) := by rw [mask255s]; omega
  obtain ⟨q, hqq⟩ : ∃ q, q = p % 9 := ⟨_, rfl⟩
  have hq9 : q < 9 := by rw [hqq]; exact Nat.mod_lt _ (by decide)
  have hm1 : (p : Int) % 9 = (q : Int) := by omega
  have hm2 : (p : Int).tmod 9 = (q : Int) := by rw [Int.tmod_eq_emod_of_nonneg (by omega)]; exact hm1
  have hm3 : IntKind.i64.wrap ((q : Int) + 1) = (lv : Int) := by rw [IntWalk.i64_in _ (by omega)]; omega
  have hlvb : 1 ≤ lv ∧ lv ≤ 9 := by omega
  clear hlv hpq hqq
  obtain ⟨k, hk⟩ : ∃ k, k = min n 16 := ⟨_, rfl⟩
  have hway : (k = 16 ∧ 16 < n) ∨ (k = n ∧ ¬ 16 < n) := by omega
  have hk16 : k ≤ 16 := by omega
  have hkn : k ≤ n := by omega
  have hbo : (bo = none ∧ bc = 0 ∧ n = 0 ∧ k = 0) ∨ ∃ ad, bo = some ad ∧ Hid (∀ W, Kept NoB w W → Reads W (some ad) (nb (B.take k))) := by
    cases bo with
    | none => exact .inl ⟨rfl, HBn.out rfl, by have := HBn.out rfl; omega, by have := HBn.out rfl; omega⟩
    | some ad => exact .inr ⟨ad, rfl, Lib.hid fun W h => by
        have := reads_take k (HRb.out.keptNo h)
        rwa [nb, ← List.map_take] at this⟩
  have HKl : Hid (k = (B.take k).length) := Lib.hid (by rw [List.length_take, ← HN.out]; omega)
  generalize B.take k = M at HKl hbo
  clear HBn HRb HN hway
  have hkm : min (n : Int) 16 = (k : Int) := by omega
  clear hk
  rcases hbo with ⟨rfl, rfl, rfl, rfl⟩ | ⟨ad, rfl, HRk⟩
  all_goals
    go_enter Tryz.func3, Tryz.ntmps3
    go_wp2_with fail
    clear hp hm1 hm2 hm3 hkm
    go_loopw [5, 6] (fun v5 v6 wr => ∃ (x : List UInt8) (a : Option Addr) (m c i : Nat), v5 = .slice a m c ∧ v6 = .int .i64 (i : Int) ∧ i ≤ 300 ∧ m ≤ i * 16 ∧ Hid (BySt w wr a m c x)) (fun _ v6 _ => 300 - (intOf v6).toNat)
    case atStart => exact ⟨[], none, 0, 0, 0, rfl, rfl, by omega, by omega, Lib.hid (BySt.nil w)⟩
    case round =>
      obtain ⟨x, a, m, c, i, rfl, rfl, hi, hm, HS⟩ := hrel
      by_cases h3 : (i : Int) < 300
      · go_wp2_with (at_builtin; first | refine wpList_by_none rfl (.tmp 25) (.tmp 26) rfl HS.out rfl rfl ?_ | (refine wpList_by_row rfl (.tmp 25) (.tmp 26) rfl HS.out rfl ad bc k M HKl.out rfl (HRk.out wr HS.out.kept) (by omega) ?_; intro a2 c2 w2 hS2; have HS2 := Lib.hid hS2; clear hS2 HS))
        first
        | (go_wp2
           go_roundw
           case rel => exact ⟨x, a, m, c, i + 1, rfl, by go_num, by omega, by omega, HS⟩
           case measure => simp [intOf]; omega)
        | (go_wp2
           go_roundw
           case rel => exact ⟨x ++ M, a2, m + k, c2, i + 1, rfl, by go_num, by omega, by omega, HS2⟩
           case measure => simp [intOf]; omega)
      · have hm48 : m ≤ 4800 := by omega
        clear hm hi
        have hcap := HS.out.cap
        have hml := HS.out.len
        have HMl := Lib.hid hml
        have HCap := Lib.hid hcap
        have HPk : Hid (∀ W H, W.cell? ⟨H, 0, none⟩ = some (.slice a m c) → Kept NoB wr W → Calls Tryz.prog 9 #[.int .i64 (lv : Int), .slice (some ⟨H, 0, none⟩) 1 1] W fun e w' => ∃ ao c' BL bs qs, e = .returned (.slice ao BL c') ∧ Hid (BL = bs.length) ∧ Hid (PackedP lv x bs qs) ∧ Hid (Reads w' ao bs) ∧ Hid (ao = none → c' = 0) ∧ BL ≤ c' ∧ BL ≤ m + 5 ∧ Kept NoB W w') := Lib.hid fun W H hc hk => by
          have hh := allPack_any W lv H 1 [x] rfl (by omega) (fun j hj => by
            have : j = 0 := by omega
            subst this
            exact ⟨a, c, by simpa [← HMl.out] using hc, by simpa using HS.out.reads.kept hk (fun _ _ e => e), HCap.out.2.2⟩) (by simp [← HMl.out]; omega) (HT.out.kept (HS.out.kept.trans hk)) (by omega)
          refine hh.mono ?_
          rintro e w' ⟨ao, c', bs, qs, rfl, hP, hr, h0, hcc, hk'⟩
          have h1 := hP.few
          have h2 := hP.len
          simp only [List.flatten_cons, List.flatten_nil, List.append_nil] at hP h1
          exact ⟨ao, c', bs.length, bs, qs, rfl, Lib.hid rfl, Lib.hid hP, Lib.hid hr, Lib.hid h0, hcc, by rw [HMl.out]; omega, hk'⟩
        clear hml hcap
        go_wp2_with fail
        refine (HPk.out _ _ (cell_new 0 rfl) ((Kept.refl _ _).alloc _)).mono ?_
        rintro e w5 ⟨a7, c7, BL, bs, qs, rfl, HBL, HP, Hrd7, Hn7, hc7, hbl, hk7⟩
        have hk5 : Kept NoB wr w5 := ((Kept.refl NoB wr).alloc _).trans hk7
        have hst := HP.out.run m (by rw [HMl.out]; exact Nat.le_refl _)
        have hxn : (nb x).length = m := by rw [nb_len]; exact HMl.out.symm
        have hal := infAll_any w5 a7 c7 bs (m : Int) m (by rw [if_neg (by omega)]) (by omega) Hrd7.out Hn7.out (by rw [← HBL.out]; exact hc7) HP.out.all (by rw [← HBL.out]; omega) (fun p m' l' o' h => by have := steps_bound hst h; omega)
        rw [← HBL.out] at hal
        have HAl := Lib.hid hal
        have HK5 := Lib.hid hk5
        have HStp := Lib.hid hst; have HXn := Lib.hid hxn
        clear hal hk7 Hrd7 Hn7 hc7 hk5 hst hxn HPk
        obtain ⟨W1, hW1⟩ : ∃ W1, W1 = strOfNums (nb x) := ⟨_, rfl⟩
        have HW1 := Lib.hid hW1
        clear hW1
        go_wp2_with fail
        refine HAl.out.mono ?_
        intro e w6 hR
        obtain ⟨oa, oc, rfl, hrd6, hno6, hcv, hk6⟩ := all_done hR HStp.out HP.out.len.symm
        have HK6 := Lib.hid (HK5.out.trans hk6)
        have hcv3 := hcv.out
        rw [← HW1.out] at hcv3
        have hcv4 : (convert 22 9 (.slice a m c)).run Tryz.prog w6 = .ok (.string W1) w6 := by rw [HW1.out]; exact conv_reads (HS.out.reads.kept HK6.out (fun _ _ e => e)) HXn.out.symm HCap.out.2.2
        clear hR hcv hrd6 hno6 hk6 HAl HK5
        have HMo := Lib.hid (most_any m w6 (by omega))
        have q2 : (BL : Int) ≤ ((m + 10 : Nat) : Int) := by omega
        go_wp2_with fail
        refine HMo.out.mono ?_
        rintro e w7 ⟨rfl, rfl⟩
        go_wp2_with fail
        refine (HAw.out _).mono ?_
        rintro e w9 ⟨rfl, hk9⟩
        have HK9 := Lib.hid (HK6.out.trans hk9)
        clear hk9 hcv3 hcv4
        go_wp2
        go_ret
        exact ⟨rfl, (HS.out.kept.trans HK9.out).belowNo (Below.refl _ _)⟩
set_option maxRecDepth 100000 in
theorem deflateShort_law (v0 v1 : Value) (w : World) (r0 : Arg w 22 v0) (r1 : Arg w 3 v1) (hT : DeB w) : Calls Tryz.prog 3 #[v0, v1] w fun e w' => e = .returned (.bool true) ∧ Below w.heap.size w w' := by
  obtain ⟨bo, cb, bs, rfl, hc, hm, hr, hb, h0⟩ := Arg.bytes Tryz.underlying22 r0
  obtain ⟨x, rfl, _⟩ := Arg.int Tryz.underlying3 r1
  exact deflateShort_walk bo cb bs.length (un bs) x w hT (by simp [un]) (by rw [nb_un hb]; exact hr) h0 hc hm
end Go.Proofs.YtfmjfgmbjdhogaaGreatDoor
