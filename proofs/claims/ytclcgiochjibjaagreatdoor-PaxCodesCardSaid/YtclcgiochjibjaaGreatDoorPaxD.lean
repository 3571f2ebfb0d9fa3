/-
  pax.Decode.
-/
import Derived.Test.YtclcgiochjibjaaGreatDoorPaxE
namespace Go.Proofs.YtclcgiochjibjaaGreatDoor
open Go.RowKit
set_option linter.unusedVariables false
set_option linter.unusedSimpArgs false

theorem cutP_len (c : UInt8) (l : List UInt8) : (cutP c l).1.length + (cutP c l).2.1.length ≤ l.length := by
  rcases cutP_index c l with ⟨_, h⟩ | ⟨k, _, h2, h⟩
  · rw [h]; simp
  · rw [h]; simp only [List.length_take, List.length_drop]; omega
theorem trim_len (l p : List UInt8) : (Lib.trimSuffix l p).length ≤ l.length := by
  unfold Lib.trimSuffix
  split
  · rw [List.length_take]; omega
  · exact Nat.le_refl _
def szS : Value → Nat
  | .string s => s.size
  | _ => 0
theorem recsB_count : ∀ rs : List KVb, rs.length ≤ (recsB rs).length
  | [] => by simp [recsB]
  | r :: rs => by
    have ih := recsB_count rs
    have := recB_lo r
    rw [recsB_cons, List.length_append, List.length_cons]
    omega

/-- What Decode gives back. -/
def DecR (w : World) (L : List UInt8) (e : Ending) (w' : World) : Prop :=
  (∃ rs a c, Good L rs ∧ L.length ≤ 65536 ∧ e = .returned (.tuple #[.slice a rs.length c, .int .i64 0]) ∧ KvSt w w' a rs.length c rs) ∨
  ((65536 < L.length ∨ ∀ rs, ¬ Good L rs) ∧ e = .returned (.tuple #[.slice none 0 0, .int .i64 17]) ∧ Kept NoB w w')

set_option maxRecDepth 20000 in
set_option maxHeartbeats 8000000 in
theorem decode_any (ao : Option Addr) (n cap : Nat) (L : List UInt8) (w : World) (hn : n = L.length) (hr : Reads w ao (nb L)) (hnil : ao = none → cap = 0) (hcm : n ≤ maxLen) (htab : Pow10 w) (herr : ErrVars w) :
    Calls Tryz.prog 8 #[.slice ao n cap] w (DecR w L) := by
  have HT := Lib.hid htab; have HE := Lib.hid herr
  have hcv := conv_reads hr (n := n) (cap := cap) (by rw [nb_len]; exact hn) hnil
  rw [nb_str] at hcv
  by_cases hbig : 65536 < n
  · have hgt : (65536 : Int) < (n : Int) := by omega
    have HB : Hid (65536 < L.length) := Lib.hid (by omega)
    clear hcv hr hn htab herr
    go_enter Tryz.func8, Tryz.ntmps8
    go_wp2
    go_ret2
    exact .inr ⟨.inl HB.out, rfl, Kept.refl _ _⟩
  have hgt : ¬ (65536 : Int) < (n : Int) := by omega
  have hL : L.length ≤ 65536 := by omega
  obtain ⟨S0, hS0⟩ : ∃ S0, S0 = strB L := ⟨_, rfl⟩
  rw [← hS0] at hcv
  have HS0 := Lib.hid hS0
  have HL := Lib.hid hL
  clear hr hn htab herr hS0 hbig hL
  go_enter Tryz.func8, Tryz.ntmps8
  go_wp2
  go_loopw [4, 5, 6, 7, 8, 9, 10, 11, 12, 13, 14] (fun v4 v5 _ _ _ _ _ _ _ _ _ wr => ∃ (a : Option Addr) (m c : Nat) (R : ByteArray) (rest : List UInt8) (pre : List KVb), v4 = .slice a m c ∧ v5 = .string R ∧ m ≤ 65536 ∧ Hid (R = strB rest ∧ KvSt w wr a m c pre ∧ L = recsB pre ++ rest ∧ ∀ r ∈ pre, okR r = true)) (fun _ v5 _ _ _ _ _ _ _ _ _ _ => szS v5)
  case atStart => exact ⟨none, 0, 0, S0, L, [], rfl, rfl, by omega, Lib.hid ⟨HS0.out, KvSt.nil _, rfl, fun _ h => by cases h⟩⟩
  case round =>
    obtain ⟨a, m, c, R, rest, pre, rfl, rfl, hm, HI⟩ := hrel
    have hRs : R.size = rest.length := by rw [HI.out.1, strB_size]
    have hrl : rest.length ≤ 65536 := by
      have h1 := HI.out.2.2.1
      have h2 := HL.out
      rw [h1, List.length_append] at h2
      omega
    have hRl : R.toList = rest := by rw [HI.out.1, strB_list]
    by_cases h0 : rest = []
    · have hRe : R.toList = [] := by rw [hRl, h0]
      have HF : Hid (Good L pre ∧ m = pre.length) := Lib.hid ⟨⟨by rw [HI.out.2.2.1, h0, List.append_nil], HI.out.2.2.2⟩, HI.out.2.1.len⟩
      clear hRs hrl hRl h0
      go_wp2
      go_ret2
      refine .inl ⟨pre, a, c, HF.out.1, HL.out, by rw [← HF.out.2]; rfl, by rw [← HF.out.2]; exact HI.out.2.1⟩
    · have hRe : ¬ R.toList = [] := by rw [hRl]; exact h0
      have hRe2 : R.toList.isEmpty = false := by simpa using hRe
      have HK0 := Lib.hid HI.out.2.1.kept
      have HCut : Hid (Calls Tryz.prog 17 #[.string R] wr fun e w' => CutR rest e ∧ Kept NoB wr w') := Lib.hid (by
        rw [HI.out.1]
        exact paxcut_any rest wr (by omega) (HT.out.keptNo HK0.out) (HE.out.keptNo HK0.out))
      have HNo : Hid ((∀ t, cutS rest = some t → okR (pairS t) = true → recB (pairS t) ≠ t) → ∀ rs, ¬ Good L rs) := Lib.hid (fun h => Good.none HI.out.2.2.1 HI.out.2.2.2 HL.out h0 h)
      have HRl := Lib.hid hrl
      clear hRl h0 hrl
      go_wp2_with fail
      refine HCut.out.mono ?_
      rintro e w1 ⟨hcr, hk1⟩
      have HK1 := Lib.hid (HK0.out.trans hk1)
      have HI1 := Lib.hid (HI.out.2.1.on hk1)
      clear hk1
      rcases hcr with ⟨hcn, rfl⟩ | ⟨t, hct, rfl⟩
      · have HF := Lib.hid (HNo.out (fun t ht => by rw [hcn] at ht; cases ht))
        clear hcn
        go_wp2
        go_ret2
        exact .inr ⟨.inr HF.out, rfl, HK1.out⟩
      · obtain ⟨ht1, ht2, ht3⟩ := cutS_take hct
        have hRL := HRl.out
        have hTr := fun W => Tryz.strings_TrimSuffix (strB t) ⟨#[10]⟩ W (by rw [strB_size]; omega)
        have hTr2 : ∀ W, Calls Tryz.prog 19 #[.string (strB t), .string ⟨#[10]⟩] W fun e w' => e = .returned (.string (strB (Lib.trimSuffix t [10]))) ∧ w' = W := hTr
        have hl1 := trim_len t [10]
        have hC1 := fun W => cut_any (strB (Lib.trimSuffix t [10])) 32 W (by rw [strB_size]; omega)
        rw [strB_data] at hC1
        have hl2 := cutP_len 32 (Lib.trimSuffix t [10])
        have hC2 := fun W => cut_any (strB (cutP 32 (Lib.trimSuffix t [10])).2.1) 61 W (by rw [strB_size]; omega)
        rw [strB_data] at hC2
        have hl3 := cutP_len 61 (cutP 32 (Lib.trimSuffix t [10])).2.1
        obtain ⟨p, hp⟩ : ∃ p, p = pairS t := ⟨_, rfl⟩
        have hp1 : (cutP 61 (cutP 32 (Lib.trimSuffix t [10])).2.1).1 = p.1 := by rw [hp]; rfl
        have hp2 : (cutP 61 (cutP 32 (Lib.trimSuffix t [10])).2.1).2.1 = p.2 := by rw [hp]; rfl
        rw [hp1, hp2] at hC2 hl3
        have hpl : p.1.length + p.2.length ≤ 65536 := by omega
        have HC1 := Lib.hid hC1; have HC2 := Lib.hid hC2; have HTr := Lib.hid hTr2
        have HCl1 := Lib.hid (fun W => clone_str (strB p.1) W (by rw [strB_size]; omega))
        have HCl2 := Lib.hid (fun W => clone_str (strB p.2) W (by rw [strB_size]; omega))
        have HOK := Lib.hid (fun W => okRecord_any p W (by omega))
        have HRec := Lib.hid (fun (W : World) (h : Pow10 W) => record_any p W (by omega) h)
        have hts : (strB t).size = t.length := strB_size t
        have hex : R.extract t.length R.size = strB (rest.drop t.length) := by
          rw [HI.out.1, strB_extract, strB_size, List.take_of_length_le (by rw [List.length_drop]; exact Nat.le_refl _)]
        obtain ⟨tl, htl⟩ : ∃ tl, tl = t.length := ⟨_, rfl⟩
        rw [← htl] at hts hex ht2 ht3
        have hle : tl ≤ R.size := by rw [hRs]; exact ht2
        have hcmp := strB_eq (recB p) t
        have HP := Lib.hid hp; have HCT := Lib.hid hct; have HT1 := Lib.hid ht1; have HTL := Lib.hid htl
        obtain ⟨R2, hR2⟩ : ∃ R2, R2 = strB (rest.drop tl) := ⟨_, rfl⟩
        have hR2s : R2.size < R.size := by rw [hR2, strB_size, List.length_drop, hRs]; omega
        rw [← hR2] at hex
        rw [hRs] at hex
        have HR2 := Lib.hid hR2
        generalize (cutP 32 (Lib.trimSuffix t [10])).2.2 = b1 at *
        generalize strB (cutP 32 (Lib.trimSuffix t [10])).1 = A1 at *
        generalize strB (cutP 32 (Lib.trimSuffix t [10])).2.1 = A2 at *
        generalize (cutP 61 (cutP 32 (Lib.trimSuffix t [10])).2.1).2.2 = b2 at *
        generalize strB (Lib.trimSuffix t [10]) = A0 at *
        obtain ⟨T, hTT⟩ : ∃ T, T = strB t := ⟨_, rfl⟩
        obtain ⟨X, hX⟩ : ∃ X, X = strB (recB p) := ⟨_, rfl⟩
        obtain ⟨KK, hKK⟩ : ∃ KK, KK = strB p.1 := ⟨_, rfl⟩
        obtain ⟨VV, hVV⟩ : ∃ VV, VV = strB p.2 := ⟨_, rfl⟩
        rw [← hTT] at HTr hts hcmp ⊢
        rw [← hX] at HRec hcmp
        rw [← hKK] at HCl1 HC2 HOK HRec
        rw [← hVV] at HCl2 HC2 HOK HRec
        have HKV : Hid (KK = strB p.1 ∧ VV = strB p.2) := Lib.hid ⟨hKK, hVV⟩
        obtain ⟨ok, hok⟩ : ∃ ok, ok = okR p := ⟨_, rfl⟩
        rw [← hok] at HOK
        have Hok := Lib.hid hok
        clear hct ht1 hTr hTr2 hC1 hC2 hl1 hl2 hl3 hp hp1 hp2 hpl htl hR2 hTT hX hKK hVV hok hRL
        go_wp2_with fail
        refine (HTr.out _).mono ?_
        rintro e w2 ⟨rfl, hw2⟩
        rw [hw2]
        clear hw2
        go_wp2_with fail
        refine (HC1.out _).mono ?_
        rintro e w3 ⟨rfl, hk3⟩
        have HI3 := Lib.hid (HI1.out.on hk3)
        clear hk3
        go_wp2_with fail
        refine (HC2.out _).mono ?_
        rintro e w4 ⟨rfl, hk4⟩
        have HI4 := Lib.hid (HI3.out.on hk4)
        clear hk4
        go_wp2_with fail
        refine (HCl1.out _).mono ?_
        rintro e w5 ⟨rfl, hk5⟩
        have HI5 := Lib.hid (HI4.out.on hk5)
        clear hk5
        go_wp2_with fail
        refine (HCl2.out _).mono ?_
        rintro e w6 ⟨rfl, hk6⟩
        have HI6 := Lib.hid (HI5.out.on hk6)
        clear hk6
        go_wp2_with fail
        refine (HOK.out _).mono ?_
        rintro e w7 ⟨rfl, hk7⟩
        have f0 : w7.cell? ⟨w6.heap.size, 0, none⟩ = some (.string KK) := hk7.cell (cell_new 0 rfl)
        have f1 : w7.cell? ⟨w6.heap.size, 1, none⟩ = some (.string VV) := hk7.cell (cell_new 1 rfl)
        have HI7 := Lib.hid (HI6.out.on (((Kept.refl NoB w6).alloc _).trans hk7))
        clear hk7
        cases ok with
        | false =>
          have HF := Lib.hid (HNo.out (fun t' ht' hk' => by rw [HCT.out] at ht'; cases ht'; rw [← HP.out, ← Hok.out] at hk'; cases hk'))
          clear f0 f1
          go_wp2
          go_ret2
          exact .inr ⟨.inr HF.out, rfl, HI7.out.kept⟩
        | true =>
          have HRc := Lib.hid (HRec.out w7 (HT.out.keptNo HI7.out.kept))
          go_wp2_with fail
          refine HRc.out.mono ?_
          rintro e w8 ⟨rfl, hk8⟩
          have g0 := hk8.cell f0
          have g1 := hk8.cell f1
          have HI8 := Lib.hid (HI7.out.on hk8)
          clear hk8 f0 f1
          by_cases heq : recB p = t
          · rw [decide_eq_true heq] at hcmp
            have HIn : Hid (L = recsB (pre ++ [p]) ++ rest.drop tl ∧ ∀ r ∈ pre ++ [p], okR r = true) := Lib.hid (by
              refine ⟨?_, ?_⟩
              · rw [HI.out.2.2.1, Good.snoc (r := p) (by rw [heq]; exact HCT.out), heq, ← HTL.out]
              · intro r hr
                rcases List.mem_append.1 hr with h | h
                · exact HI.out.2.2.2 r h
                · simp at h; subst h; exact Hok.out.symm)
            have hm3 : m + 1 ≤ 65536 := by
              have h1 := HIn.out.1
              have h2 := HL.out
              have h3 := recsB_count (pre ++ [p])
              have h4 := HI8.out.len
              rw [h1, List.length_append] at h2
              rw [List.length_append] at h3
              simp at h3
              omega
            clear heq
            go_wp2_with (at_builtin; refine wpList_kv1 rfl (.tmp 56) (.tmp 58) rfl (HI8.out.on ((Kept.refl NoB w8).alloc _)) rfl w8.heap.size 1 p rfl (by rw [cell_new 0 rfl, ← HKV.out.1]; rfl) (by rw [cell_new 1 rfl, ← HKV.out.2]; rfl) (by omega) ?_)
            intro a2 c2 w9 h9
            have HI9 := Lib.hid h9
            have hle2 : (tl : Int) ≤ (R.size : Int) := by omega
            clear h9 g0 g1
            go_wp2
            go_roundw
            case rel => exact ⟨a2, m + 1, c2, R2, rest.drop tl, pre ++ [p], rfl, rfl, hm3, Lib.hid ⟨HR2.out, HI9.out, HIn.out.1, HIn.out.2⟩⟩
            case measure => exact hR2s
          · rw [decide_eq_false heq] at hcmp
            have HF := Lib.hid (HNo.out (fun t' ht' hk' => by rw [HCT.out] at ht'; cases ht'; rw [← HP.out]; exact heq))
            clear g0 g1 heq
            go_wp2
            go_ret2
            exact .inr ⟨.inr HF.out, rfl, HI8.out.kept⟩
end Go.Proofs.YtclcgiochjibjaaGreatDoor
