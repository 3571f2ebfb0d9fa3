/-
  A sink of bytes: Write.
-/
import Derived.Test.YtffoigacpnlkgaaFeedC
namespace Go.Proofs.Ytffoigacpnlkgaa
open Go.RowKit
set_option linter.unusedVariables false
set_option linter.unusedSimpArgs false

theorem reads_news {w : World} {x : Addr} {xs : List Int} (h : Reads w (some x) xs) : ∀ (j : Nat) (u : Value), (xs.map (Value.int .u8))[j]? = some u → w.cell? (x.add j) = some u := by
  intro j u hj
  have hjl : j < xs.length := by have := (List.getElem?_eq_some_iff.1 hj).1; simpa using this
  rw [h.2 x rfl j hjl]
  have e : (xs.map (Value.int .u8))[j]? = some (Value.int .u8 (xs.getD j 0)) := by simp [List.getD, List.getElem?_eq_getElem hjl]
  rw [e] at hj
  exact hj
theorem news_one (xs : List Int) : ∀ u ∈ xs.map (Value.int .u8), u.oneCell' = true := by intro u hu; obtain ⟨y, _, rfl⟩ := List.mem_map.1 hu; rfl
/-- The object stays where it is while its row grows. -/
theorem Snk.objGrown {w w' : World} {T : TypeId} {cs : Array Value} {R L : Nat} {ao : Option Addr} {cap : Nat} {bs : List Int} {m : Nat} (h : Snk w T cs R L ao cap bs m) (hg : w.grownBy w' (Value.slice ao bs.length cap).ownBlock) : w'.heap[R]? = some (.cells cs T (0, 0)) := by
  rw [hg.block R (obj_lt h.obj) (fun e => row_ne h.own h.obj h.ne5 R e.symm rfl)]
  exact h.obj

theorem wr_step {w wr wn w' : World} {T : TypeId} {cs cs1 : Array Value} {R L m x : Nat} {v0 : Value} {ao1 : Option Addr} {cap1 : Nat} {fj : List Int} {ao2 : Option Addr} {cap2 : Nat} {fs p : List Int}
    (hS : Snk wr T cs1 R L ao1 cap1 fj m) (hK : Kept (OrB (OneB R) (OwnB v0)) w wr) (hO : ∀ k, (Value.slice ao1 fj.length cap1).ownBlock = some k → v0.ownBlock = some k ∨ w.heap.size ≤ k)
    (hcs : ∀ i, i ≠ 0 → cs1[i]? = cs[i]?) (hcz : cs1.size = cs.size) (hkn : Kept NoB wr wn)
    (hown : w'.ownsRow 0 5 1 (.slice ao2 (fj.length + x) cap2) (fj.length + x) (fj.map (.int .u8) ++ p.map (.int .u8))) (hg : wn.grownBy w' (Value.slice ao1 fj.length cap1).ownBlock)
    (hnew : ∀ k, (Value.slice ao2 (fj.length + x) cap2).ownBlock = some k → (Value.slice ao1 fj.length cap1).ownBlock = some k ∨ wn.heap.size ≤ k) (hx : p.length = x) (hfs : fs = fj ++ p) (hfm : fs.length ≤ m) (hsm : fs.length ≤ 1000000) (hall : AllB fs) :
    WrR w T cs R L v0 fs m (w'.setCell ⟨R, 0, none⟩ (.slice ao2 (fj.length + x) cap2)) := by
  subst hfs hx
  have hSn := hS.keptNo hkn
  have oR := hSn.objGrown hg
  have hs1 := hK.size
  have hs2 := hkn.size
  have hRl := obj_lt hS.obj
  have h0 : 0 < cs1.size := (Array.getElem?_eq_some_iff.1 hS.c0).1
  rw [← List.map_append, ← List.length_append] at hown
  rw [← List.length_append] at hnew ⊢
  have hne := row_ne hown oR hS.ne5
  refine ⟨cs1.setIfInBounds 0 (.slice ao2 (fj ++ p).length cap2), ao2, cap2, ⟨obj_set oR 0 _, ?_, ?_, ?_, ?_, hS.low, hfm, hS.ml, hsm, hS.ne5, hall⟩, by simpa using hcz, ?_, ?_, ?_⟩
  · simp [h0]
  · have := hS.c1; simpa using this
  · exact (Kept.setCell (S := OneB R) (p := ⟨R, 0, none⟩) (Kept.refl _ w') (.inl rfl) _).row hown (fun k hk e => hne k hk e)
  · intro k hk
    rcases hnew k hk with h | h
    · exact hS.fr k h
    · have := hS.low; omega
  · intro i hi
    rw [Array.getElem?_setIfInBounds_ne (by omega)]; exact hcs i hi
  · refine Kept.setCell (p := ⟨R, 0, none⟩) ?_ (.inl (.inl rfl)) _
    refine Kept.grown (hK.trans (hkn.mono (fun _ _ h => h.elim))) hg ?_
    intro k hk e
    rcases hO k e with h | h
    · exact .inr h
    · omega
  · intro k hk
    rcases hnew k hk with h | h
    · exact hO k h
    · right; omega

set_option maxRecDepth 100000 in
set_option maxHeartbeats 4000000 in
theorem swrite_any (w : World) {T : TypeId} {cs : Array Value} {R L : Nat} {ao : Option Addr} {cap : Nat} {bs : List Int} {m : Nat} (h : Snk w T cs R L ao cap bs m)
    (po : Option Addr) (pcap len : Nat) (ps : List (List Int)) (hlen : ps.length = len) (hall : AllP ps) (hp : ∀ W, Kept (OrB (OneB R) (OwnB (.slice ao bs.length cap))) w W → Parts W po ps)
    (hsm : (bs ++ ps.flatten).length ≤ 1000000) (hm : len ≤ 1000000) :
    Calls Try.prog 49 #[.pointer (some ⟨R, 0, none⟩), .slice po len pcap] w fun e w' => e = .returned (.int .i64 ((fill bs m ps).length - bs.length)) ∧ WrR w T cs R L (.slice ao bs.length cap) (fill bs m ps) m w' := by
  obtain ⟨i0, hi, hz0, hz1, hz2⟩ := info_parts info5
  have H := Lib.hid h; have HLen := Lib.hid hlen; have HAll := Lib.hid hall; have HP := Lib.hid hp; have HSm := Lib.hid hsm
  have c0 : w.cell? ⟨R, 0, none⟩ = some (.slice ao bs.length cap) := by rw [obj_cell h.obj 0, h.c0]
  have hsm0 := h.sm
  clear h hlen hall hp hsm
  go_enter Try.func49, Try.ntmps49
  go_wp2
  clear c0
  go_loopw [15] (fun i wr => ∃ j : Nat, j ≤ len ∧ i = .int .i64 j ∧ WrR w T cs R L (.slice ao bs.length cap) (fill bs m (ps.take j)) m wr) (fun i _ => len - (intOf i).toNat)
  case atStart => exact ⟨0, by omega, rfl, by rw [List.take_zero, fill_nil _ _ H.out.bl]; exact ⟨cs, ao, cap, H.out, rfl, (fun _ _ => rfl), Kept.refl _ _, fun k hk => .inl hk⟩⟩
  case round =>
    obtain ⟨j, hj, rfl, hW⟩ := hrel
    obtain ⟨cs1, ao1, cap1, hS, hcz, hcs, hK, hO⟩ := hW
    by_cases hlt : j < len
    · have hjp : j < ps.length := by have := HLen.out; omega
      rcases HP.out _ hK with h0 | ⟨b, off, rfl, hbl, hc⟩
      · rw [h0] at hjp; simp at hjp
      obtain ⟨pa, pc, d0, hrd, hlc, hpcm, hpn⟩ := hc j hjp
      have hpall := HAll.out.getD j
      have hfs := fill_succ bs m ps j hjp
      have hfsm : (fill bs m (ps.take (j + 1))).length ≤ 1000000 := by
        unfold fill
        rw [List.length_take, List.length_append]
        have h1 := HSm.out
        rw [List.length_append] at h1
        have h2 : (ps.take (j + 1)).flatten.length ≤ ps.flatten.length := by
          conv => rhs; rw [← List.take_append_drop (j + 1) ps, List.flatten_append, List.length_append]
          omega
        omega
      have hfall : AllB (fill bs m (ps.take (j + 1))) := by
        unfold fill
        intro x hx
        rcases List.mem_append.1 (List.mem_of_mem_take hx) with hx | hx
        · exact H.out.ball x hx
        · obtain ⟨p, hp, hx⟩ := List.mem_flatten.1 hx
          exact HAll.out p (List.mem_of_mem_take hp) x hx
      have hfl := fill_len bs m (ps.take (j + 1))
      obtain ⟨fj, hfj⟩ : ∃ fj, fj = fill bs m (ps.take j) := ⟨_, rfl⟩
      rw [← hfj] at hS hO hfs
      obtain ⟨part, hpart⟩ : ∃ part, part = ps.getD j [] := ⟨_, rfl⟩
      rw [← hpart] at d0 hrd hlc hpall hfs
      have HS := Lib.hid hS; have HK := Lib.hid hK; have HO := Lib.hid hO; have HRd := Lib.hid hrd; have HPa := Lib.hid hpall; have HCs := Lib.hid hcs; have HCz := Lib.hid hcz
      have HFsm := Lib.hid hfsm; have HFall := Lib.hid hfall; have HFl := Lib.hid hfl; have HPn := Lib.hid hpn
      obtain ⟨r, hr⟩ : ∃ r : Nat, (r : Int) = (m : Int) - fj.length := ⟨m - fj.length, by have := HS.out.bl; omega⟩
      have HR := Lib.hid hr
      have hr0 := HS.out.ml
      have hmr : m - fj.length = r := by omega
      rw [hmr] at hfs
      have hfr : fj.length + min r part.length ≤ 1000000 := by
        have h1 := hfsm
        rw [hfs, List.length_append, List.length_take] at h1
        exact h1
      have hfj0 := HS.out.sm
      have HFs := Lib.hid hfs
      clear hS hK hO hrd hpall hcs hfs hfsm hfall hfl hpart hfj hc hcz hpn hjp hr hmr
      go_upto_region 5 with fail
      clear d0
      have hSd := HS.out.keptNo ((Kept.refl NoB wr).drew)
      have e0 : wr.cell? ⟨R, 0, none⟩ = some (.slice ao1 fj.length cap1) := by rw [obj_cell HS.out.obj 0, HS.out.c0]
      have hlft : Hid (∀ W, Kept NoB wr W → Calls Try.prog 53 #[.pointer (some ⟨R, 0, none⟩)] W fun e w' => e = .returned (.int .i64 r) ∧ Kept NoB W w') := fun W hk => sleft_any W (HS.out.keptNo hk) r HR.out
      by_cases hrl : (r : Int) < part.length
      · have hr0' : (0 : Int) ≤ r := by omega
        have hrc : (r : Int) ≤ pc := by omega
        cases pa with
        | none => have := HPn.out rfl; omega
        | some xa =>
          have htl : (part.take r).length = r := by rw [List.length_take]; omega
          have HTl := Lib.hid htl; clear htl
          go_region_law (first
            | (go_simp; go_at_call 53; (with_reducible refine (hlft.out _ ((Kept.refl NoB wr).drew)).mono ?_); rintro e wn ⟨rfl, hkn⟩; have e0n : wn.cell? ⟨R, 0, none⟩ = some (.slice ao1 fj.length cap1) := hkn.cell e0)
            | (refine step_app rfl (.tmp 23) (.tmp 30) 22 rfl 5 i0 (.int .u8 0) 1 1 Try.underlying22 hi hz0 hz1 hz2 rfl (by decide) _ fj.length (fj.map (.int .u8)) rfl (hkn.row hSd.own (fun _ _ h => h)) xa r pc ((part.take r).map (.int .u8)) rfl (by rw [List.length_map, HTl.out]; omega) (reads_news (reads_take r ((HRd.out.keptNo ((Kept.refl NoB wr).drew)).keptNo hkn))) (news_one _) (by unfold maxLen; omega) (by omega) ?_
               intro v' w' hown' hgrow hnew
               obtain ⟨ao2, cap2, rfl⟩ := own_shape hown'
               have oR := (hSd.keptNo hkn).objGrown hgrow
               have g0 : w'.frozen? ⟨R, 0, none⟩ = false := obj_free oR 0
               have g1 : w'.cell? ⟨R, 0, none⟩ = some (.slice ao1 fj.length cap1) := by rw [obj_cell oR 0, HS.out.c0]))
          all_goals
            have hF := wr_step HS.out HK.out HO.out HCs.out HCz.out (((Kept.refl NoB wr).drew).trans hkn) hown' hgrow hnew HTl.out HFs.out HFl.out HFsm.out HFall.out
            have HF := Lib.hid hF
            clear hF hown' hgrow hnew hkn oR g0 g1 e0n
            go_wp2
            go_roundw
            case rel => exact ⟨j + 1, by omega, by go_num, HF.out⟩
            case measure => simp [intOf]; omega
      · have hpt : part.take r = part := List.take_of_length_le (by omega)
        rw [hpt] at HFs
        have hp0 : (0 : Int) ≤ part.length := by omega
        have hpc : (part.length : Int) ≤ pc := by omega
        clear hpt
        cases pa with
        | none =>
          have hpe : part = [] := HRd.out.1 rfl
          have hpc0 : pc = 0 := HPn.out rfl
          subst hpe hpc0
          rw [List.append_nil] at HFs
          have hle0 : ([] : List Int).length = 0 := rfl
          rw [hle0]
          have hr0i : ¬ (r : Int) < 0 := by omega
          go_region_law (first
            | (go_simp; go_at_call 53; (with_reducible refine (hlft.out _ ((Kept.refl NoB wr).drew)).mono ?_); rintro e wn ⟨rfl, hkn⟩; have e0n : wn.cell? ⟨R, 0, none⟩ = some (.slice ao1 fj.length cap1) := hkn.cell e0; have f0n : wn.frozen? ⟨R, 0, none⟩ = false := obj_free (hSd.keptNo hkn).obj 0)
            | (refine step_app_none rfl (.tmp 23) (.tmp 30) 22 rfl 5 i0 1 Try.underlying22 hi _ fj.length (fj.map (.int .u8)) rfl (hkn.row hSd.own (fun _ _ h => h)) rfl ?_))
          all_goals
            have hown' := hkn.row hSd.own (fun _ _ h => h)
            have hF := wr_step (p := []) (x := 0) HS.out HK.out HO.out HCs.out HCz.out (((Kept.refl NoB wr).drew).trans hkn) (by simpa using hown') (World.grownBy.refl _ _) (fun k hk => .inl hk) rfl (HFs.out.trans (List.append_nil _).symm) HFl.out HFsm.out HFall.out
            rw [Nat.add_zero] at hF
            have HF := Lib.hid hF
            clear hF hown' hkn e0n f0n
            go_wp2
            go_roundw
            case rel => exact ⟨j + 1, by omega, by go_num, HF.out⟩
            case measure => simp [intOf]; omega
        | some xa =>
          go_region_law (first
            | (go_simp; go_at_call 53; (with_reducible refine (hlft.out _ ((Kept.refl NoB wr).drew)).mono ?_); rintro e wn ⟨rfl, hkn⟩; have e0n : wn.cell? ⟨R, 0, none⟩ = some (.slice ao1 fj.length cap1) := hkn.cell e0)
            | (refine step_app rfl (.tmp 23) (.tmp 30) 22 rfl 5 i0 (.int .u8 0) 1 1 Try.underlying22 hi hz0 hz1 hz2 rfl (by decide) _ fj.length (fj.map (.int .u8)) rfl (hkn.row hSd.own (fun _ _ h => h)) xa part.length pc (part.map (.int .u8)) rfl (by rw [List.length_map]; omega) (reads_news ((HRd.out.keptNo ((Kept.refl NoB wr).drew)).keptNo hkn)) (news_one _) (by unfold maxLen; omega) (by omega) ?_
               intro v' w' hown' hgrow hnew
               obtain ⟨ao2, cap2, rfl⟩ := own_shape hown'
               have oR := (hSd.keptNo hkn).objGrown hgrow
               have g0 : w'.frozen? ⟨R, 0, none⟩ = false := obj_free oR 0
               have g1 : w'.cell? ⟨R, 0, none⟩ = some (.slice ao1 fj.length cap1) := by rw [obj_cell oR 0, HS.out.c0]))
          all_goals
            have hF := wr_step HS.out HK.out HO.out HCs.out HCz.out (((Kept.refl NoB wr).drew).trans hkn) hown' hgrow hnew rfl HFs.out HFl.out HFsm.out HFall.out
            have HF := Lib.hid hF
            clear hF hown' hgrow hnew hkn oR g0 g1 e0n
            go_wp2
            go_roundw
            case rel => exact ⟨j + 1, by omega, by go_num, HF.out⟩
            case measure => simp [intOf]; omega
    · have hjl : j = len := by omega
      have ht : ps.take j = ps := List.take_of_length_le (by have := HLen.out; omega)
      rw [ht] at hS hO
      have d0 : wr.cell? ⟨R, 0, none⟩ = some (.slice ao1 (fill bs m ps).length cap1) := by rw [obj_cell hS.obj 0, hS.c0]
      have hsm1 := hS.sm
      have F : WrR w T cs R L (.slice ao bs.length cap) (fill bs m ps) m wr := ⟨cs1, ao1, cap1, hS, hcz, hcs, hK, hO⟩
      have HF := Lib.hid F
      clear F hS hcz hcs hK hO ht
      obtain ⟨n, hn⟩ : ∃ n, n = (fill bs m ps).length := ⟨_, rfl⟩
      rw [← hn] at d0 hsm1
      have HN := Lib.hid hn; clear hn
      go_wp2
      go_ret
      exact ⟨by rw [← HN.out]; rfl, HF.out⟩
end Go.Proofs.Ytffoigacpnlkgaa
