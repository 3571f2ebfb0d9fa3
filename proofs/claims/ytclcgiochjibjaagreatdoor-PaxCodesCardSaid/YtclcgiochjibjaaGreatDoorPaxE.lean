/-
  pax.Encode.
-/
import Derived.Test.YtclcgiochjibjaaGreatDoorKvs
namespace Go.Proofs.YtclcgiochjibjaaGreatDoor
open Go.RowKit
set_option linter.unusedVariables false
set_option linter.unusedSimpArgs false

/-- What Encode tells. -/
def encS (rs : List KVb) : Option (List UInt8) := if rs.all okR = true ∧ (recsB rs).length ≤ 65536 then some (recsB rs) else none
theorem recsB_take (rs : List KVb) (i : Nat) (h : i < rs.length) : recsB (rs.take (i + 1)) = recsB (rs.take i) ++ recB (rs.getD i ([], [])) := by
  rw [List.take_succ_eq_append_getElem h, recsB_snoc]
  simp [List.getD, h]
theorem recsB_take_le (rs : List KVb) (i : Nat) : (recsB (rs.take i)).length ≤ (recsB rs).length := by
  have e : recsB rs = recsB (rs.take i) ++ recsB (rs.drop i) := by
    rw [recsB, recsB, recsB, ← List.flatMap_append, List.take_append_drop]
  rw [e, List.length_append]; omega
theorem enc_bad (rs : List KVb) (i : Nat) (h : i < rs.length) (hb : okR (rs.getD i ([], [])) = false) : encS rs = none := by
  unfold encS
  rw [if_neg]
  rintro ⟨h1, _⟩
  have := List.all_eq_true.1 h1 (rs[i]) (List.getElem_mem h)
  simp [List.getD, h] at hb
  rw [hb] at this
  cases this
theorem enc_long (rs : List KVb) (i : Nat) (h : i < rs.length) (hb : 65536 < (recsB (rs.take i)).length + (rs.getD i ([], [])).1.length + (rs.getD i ([], [])).2.length) : encS rs = none := by
  unfold encS
  rw [if_neg]
  rintro ⟨_, h2⟩
  have h3 := recsB_take_le rs (i + 1)
  rw [recsB_take rs i h, List.length_append] at h3
  have h4 := recB_lo (rs.getD i ([], []))
  have h5 := restB_len (rs.getD i ([], []))
  omega
theorem all_take (rs : List KVb) (i : Nat) (h : i < rs.length) (ha : (rs.take i).all okR = true) (hk : okR (rs.getD i ([], [])) = true) : (rs.take (i + 1)).all okR = true := by
  rw [List.take_succ_eq_append_getElem h, List.all_append, ha]
  simp [List.getD, h] at hk
  simp [hk]

/-- What Encode gives back. -/
def EncR (w : World) (rs : List KVb) (e : Ending) (w' : World) : Prop :=
  (encS rs = none ∧ e = .returned (.tuple #[.slice none 0 0, .bool false]) ∧ Kept NoB w w') ∨ ∃ a c, encS rs = some (recsB rs) ∧ e = .returned (.tuple #[.slice a (recsB rs).length c, .bool true]) ∧ BySt w w' a (recsB rs).length c (recsB rs)

set_option maxRecDepth 20000 in
set_option maxHeartbeats 8000000 in
theorem encode_any (ao : Option Addr) (n cap : Nat) (rs : List KVb) (w : World) (hn : n = rs.length) (hr : RdK w w.heap.size ao rs) (hs : ∀ p ∈ rs, p.1.length + p.2.length ≤ 800000) (hc : n ≤ cap) (hcm : cap ≤ maxLen) (htab : Pow10 w) :
    Calls Tryz.prog 6 #[.slice ao n cap] w (EncR w rs) := by
  have HR := Lib.hid hr; have HT := Lib.hid htab; have HN := Lib.hid hn
  have HSm : Hid (∀ i, i < n → (rs.getD i ([], [])).1.length + (rs.getD i ([], [])).2.length ≤ 800000) := Lib.hid (fun i hi => by
    rw [hn] at hi
    have : rs.getD i ([], []) = rs[i] := by simp [List.getD, hi]
    rw [this]; exact hs _ (List.getElem_mem hi))
  have HE1 := Lib.hid (fun i (hi : i < n) => enc_bad rs i (by omega))
  have HE2 := Lib.hid (fun i (hi : i < n) => enc_long rs i (by omega))
  have HTk := Lib.hid (fun i (hi : i < n) => recsB_take rs i (by omega))
  have HAl := Lib.hid (fun i (hi : i < n) => all_take rs i (by omega))
  have hcm2 : n ≤ 9223372036854775807 := by unfold maxLen at hcm; omega
  clear hr htab hn hs hcm hc
  go_enter Tryz.func6, Tryz.ntmps6
  go_wp2
  go_loopw [4, 6, 9] (fun v4 v6 v9 wr => ∃ (a : Option Addr) (m c i : Nat), v4 = .slice a m c ∧ v9 = .int .i64 (i : Int) ∧ i ≤ n ∧ m ≤ 900000 ∧ Hid (BySt w wr a m c (recsB (rs.take i)) ∧ (rs.take i).all okR = true)) (fun _ _ v9 _ => n - (intOf v9).toNat)
  case atStart => exact ⟨none, 0, 0, 0, rfl, rfl, by omega, by omega, Lib.hid ⟨BySt.nil _, rfl⟩⟩
  case round =>
    obtain ⟨a, m, c, i, rfl, rfl, hi, hm, HS⟩ := hrel
    by_cases hlt : (i : Int) < (n : Int)
    · have hin : i < n := by omega
      obtain ⟨b, off, rfl, hb, c0, c1⟩ := HR.out i (by have := HN.out; omega)
      have d0 := HS.out.1.kept.cell c0
      have d1 := HS.out.1.kept.cell c1
      have e1 := HE1.out i hin; have e2 := HE2.out i hin; have e3 := HTk.out i hin; have e4 := HAl.out i hin; have e5 := HSm.out i hin
      obtain ⟨r, hr⟩ : ∃ r, r = rs.getD i ([], []) := ⟨_, rfl⟩
      rw [← hr] at d0 d1 e1 e2 e3 e4 e5
      rw [show off + (i * 2 + 1) = off + i * 2 + 1 by omega] at d1
      have hlen : (recsB (rs.take i)).length = m := HS.out.1.len.symm
      rw [hlen] at e2
      have hrl : (recB r).length ≤ r.1.length + r.2.length + 9 ∧ recB r ≠ [] := by
        have h1 := recB_len r (by rw [restB_len]; omega)
        have h2 := recD_le (restB r).length
        have h3 := restB_len r
        refine ⟨?_, recB_ne r⟩
        rw [h1, recL]; omega
      have E1 := Lib.hid e1; have E2 := Lib.hid e2; have E3 := Lib.hid e3; have E4 := Lib.hid e4; have HRL := Lib.hid hrl
      have HOK := Lib.hid (fun W => okRecord_any r W (by omega))
      have HRec := Lib.hid (fun (W : World) (h : Pow10 W) => record_any r W (by omega) h)
      have HRB := Lib.hid (rfl : strB (recB r) = strB (recB r))
      clear c0 c1 hr e1 e2 e3 e4 hlen hrl
      obtain ⟨ok, hok⟩ : ∃ ok, ok = okR r := ⟨_, rfl⟩
      have HOK2 : Hid (∀ W, Calls Tryz.prog 13 #[.agg #[.string (strB r.1), .string (strB r.2)]] W fun e w' => e = .returned (.bool ok) ∧ Kept NoB W w') := by rw [hok]; exact HOK
      have Hok := Lib.hid hok
      have z1 : (strB r.1).size = r.1.length := strB_size _
      have z2 : (strB r.2).size = r.2.length := strB_size _
      obtain ⟨l1, hl1⟩ : ∃ l1, l1 = r.1.length := ⟨_, rfl⟩
      obtain ⟨l2, hl2⟩ : ∃ l2, l2 = r.2.length := ⟨_, rfl⟩
      rw [← hl1] at z1 e5; rw [← hl2] at z2 e5
      have HRL2 : Hid ((recB r).length ≤ l1 + l2 + 9) := Lib.hid (by rw [hl1, hl2]; exact HRL.out.1)
      have E22 : Hid (65536 < m + l1 + l2 → encS rs = none) := Lib.hid (by rw [hl1, hl2]; exact E2.out)
      clear hok HOK hl1 hl2 E2
      generalize hK : strB r.1 = K at *
      generalize hV : strB r.2 = V at *
      clear hK hV
      go_wp2_with fail
      refine (HOK2.out _).mono ?_
      rintro e w1 ⟨rfl, hk1⟩
      have HK1 := Lib.hid (((Kept.refl NoB wr).alloc (.cells #[.string K, .string V] 28)).trans hk1)
      have f0 : w1.cell? ⟨wr.heap.size, 0, none⟩ = some (.string K) := hk1.cell (cell_new 0 rfl)
      have f1 : w1.cell? ⟨wr.heap.size, 1, none⟩ = some (.string V) := hk1.cell (cell_new 1 rfl)
      clear hk1 d0 d1
      cases ok with
      | false =>
        have HF : Hid (encS rs = none) := Lib.hid (E1.out Hok.out.symm)
        clear f0 f1
        go_wp2
        go_ret2
        exact .inl ⟨HF.out, rfl, HS.out.1.kept.trans HK1.out⟩
      | true =>
        have hw1 : IntKind.i64.wrap ((m : Int) + (l1 : Int)) = ((m + l1 : Nat) : Int) := by rw [IntWalk.i64_in _ (by omega)]; omega
        by_cases hlong : 65536 < m + l1 + l2
        · have hgt : (65536 : Int) < (m : Int) + (l1 : Int) + (l2 : Int) := by omega
          have HF : Hid (encS rs = none) := Lib.hid (E22.out hlong)
          clear hw1 hlong
          go_wp2
          go_ret2
          exact .inl ⟨HF.out, rfl, HS.out.1.kept.trans HK1.out⟩
        · have hgt : ¬ (65536 : Int) < (m : Int) + (l1 : Int) + (l2 : Int) := by omega
          have HTw := Lib.hid (HT.out.keptNo (HS.out.1.kept.trans HK1.out))
          have HRc := Lib.hid (HRec.out w1 HTw.out)
          have hml : m + (recB r).length ≤ 900000 := by have := HRL2.out; omega
          have HBy := Lib.hid (HS.out.1.on HK1.out)
          clear hw1 hlong
          obtain ⟨X, hX⟩ : ∃ X, X = strB (recB r) := ⟨_, rfl⟩
          rw [← hX] at HRc
          have HXX := Lib.hid hX
          clear hX HRB
          go_wp2_with fail
          refine HRc.out.mono ?_
          rintro e w2 ⟨rfl, hk2⟩
          have HB2 := Lib.hid (HBy.out.on hk2)
          clear hk2 f0 f1
          go_wp2_with (at_builtin; refine wpList_by_str rfl (.tmp 29) (.tmp 31) rfl HB2.out rfl X _ HXX.out rfl HRL.out.2 (by omega) ?_)
          intro a2 c2 w3 hb3
          have HB3 := Lib.hid hb3
          clear hb3
          obtain ⟨m2, hm2⟩ : ∃ m2, m2 = m + (recB r).length := ⟨_, rfl⟩
          rw [← hm2] at HB3 hml ⊢
          have HS3 : Hid (BySt w w3 a2 m2 c2 (recsB (rs.take (i + 1))) ∧ (rs.take (i + 1)).all okR = true) := Lib.hid ⟨by rw [E3.out]; exact HB3.out, E4.out HS.out.2 Hok.out.symm⟩
          clear hm2
          go_wp2
          go_roundw
          case rel => exact ⟨a2, m2, c2, i + 1, rfl, by go_num, by omega, by omega, HS3⟩
          case measure => simp [intOf]; omega
    · have hie : i = n := by omega
      subst hie
      have hte : rs.take i = rs := by rw [HN.out, List.take_length]
      have hS := HS.out
      rw [hte] at hS
      have HS2 := Lib.hid hS
      have hml := hS.1.len
      clear hte hS HS
      by_cases hbig : 65536 < m
      · have hgt : (65536 : Int) < (m : Int) := by omega
        have HF : Hid (encS rs = none) := Lib.hid (by unfold encS; rw [if_neg]; rintro ⟨_, h⟩; omega)
        clear hml
        go_wp2
        go_ret2
        exact .inl ⟨HF.out, rfl, HS2.out.1.kept⟩
      · have hgt : ¬ (65536 : Int) < (m : Int) := by omega
        have HF : Hid (encS rs = some (recsB rs)) := Lib.hid (by unfold encS; rw [if_pos ⟨HS2.out.2, by omega⟩])
        have HML := Lib.hid hml
        clear hml
        go_wp2
        go_ret2
        refine .inr ⟨a, c, HF.out, by rw [← HML.out]; rfl, by rw [← HML.out]; exact HS2.out.1⟩
end Go.Proofs.YtclcgiochjibjaaGreatDoor
