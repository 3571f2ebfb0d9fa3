/-
  A sink of bytes: Write.
  An Inflater in memory: its cells, its rows, what it reads next.
  SymLen, SymDist, and what finds a symbol.
  SymLen, SymDist; the last symbol whose least number is not above one; LenSym, DistSym.
  LenSym, DistSym: each length, and each distance, has just one symbol and rest.
  The small calls of an Inflater: over, endBlock, readNumber, Fixed.
-/
import Derived.Test.YthapkciebphhkaaMb13
import Derived.OwnWalk
namespace Go.Proofs.Ythapkciebphhkaa
open Go.RowKit
set_option linter.unusedVariables false
set_option linter.unusedSimpArgs false

/-- The object stays where it is while its row grows. -/
theorem Snk.objGrown {w w' : World} {T : TypeId} {cs : Array Value} {R L : Nat} {ao : Option Addr} {cap : Nat} {bs : List Int} {m : Nat} (h : Snk w T cs R L ao cap bs m) (hg : w.grownBy w' (Value.slice ao bs.length cap).ownBlock) : w'.heap[R]? = some (.cells cs T (0, 0)) := by
  rw [hg.block R (obj_lt h.obj) (fun e => row_ne h.own h.obj h.ne5 R e.symm rfl)]
  exact h.obj

theorem wr_step {w wr wn w' : World} {T : TypeId} {cs cs1 : Array Value} {R L m x : Nat} {v0 : Value} {ao1 : Option Addr} {cap1 : Nat} {fj : List Int} {ao2 : Option Addr} {cap2 : Nat} {fs p : List Int}
    (hS : Snk wr T cs1 R L ao1 cap1 fj m) (hK : Kept (OrB (OneB R) (OwnB v0)) w wr) (hO : ∀ k, (Value.slice ao1 fj.length cap1).ownBlock = some k → v0.ownBlock = some k ∨ w.heap.size ≤ k)
    (hcs : ∀ i, i ≠ 0 → cs1[i]? = cs[i]?) (hcz : cs1.size = cs.size) (hkn : Kept NoB wr wn)
    (hown : w'.ownsRow 0 5 1 (.slice ao2 (fj.length + x) cap2) (fj.length + x) (fj.map (.int .u8) ++ p.map (.int .u8))) (hg : wn.grownBy w' (Value.slice ao1 fj.length cap1).ownBlock)
    (hnew : ∀ k, (Value.slice ao2 (fj.length + x) cap2).ownBlock = some k → (Value.slice ao1 fj.length cap1).ownBlock = some k ∨ wn.heap.size ≤ k) (hx : p.length = x) (hfs : fs = fj ++ p) (hfm : fs.length ≤ m) (hsm : fs.length ≤ 1000000) (hall : AllB fs) :
    WrR w T cs R L v0 fs m (w'.setCell ⟨R, 0, none⟩ (.slice ao2 (fj.length + x) cap2)) := by
  subst hfs hx
  have hSn := hS.keptNo hkn
  have oR := hSn.objGrown hg
  have hs1 := hK.size
  have hs2 := hkn.size
  have hRl := obj_lt hS.obj
  have h0 : 0 < cs1.size := (Array.getElem?_eq_some_iff.1 hS.c0).1
  rw [← List.map_append, ← List.length_append] at hown
  rw [← List.length_append] at hnew ⊢
  have hne := row_ne hown oR hS.ne5
  refine ⟨cs1.setIfInBounds 0 (.slice ao2 (fj ++ p).length cap2), ao2, cap2, ⟨obj_set oR 0 _, ?_, ?_, ?_, ?_, hS.low, hfm, hS.ml, hsm, hS.ne5, hall⟩, by simpa using hcz, ?_, ?_, ?_⟩
  · simp [h0]
  · have := hS.c1; simpa using this
  · exact (Kept.setCell (S := OneB R) (p := ⟨R, 0, none⟩) (Kept.refl _ w') (.inl rfl) _).row hown (fun k hk e => hne k hk e)
  · intro k hk
    rcases hnew k hk with h | h
    · exact hS.fr k h
    · have := hS.low; omega
  · intro i hi
    rw [Array.getElem?_setIfInBounds_ne (by omega)]; exact hcs i hi
  · refine Kept.setCell (p := ⟨R, 0, none⟩) ?_ (.inl (.inl rfl)) _
    refine Kept.grown (hK.trans (hkn.mono (fun _ _ h => h.elim))) hg ?_
    intro k hk e
    rcases hO k e with h | h
    · exact .inr h
    · omega
  · intro k hk
    rcases hnew k hk with h | h
    · exact hO k h
    · right; omega

set_option maxRecDepth 100000 in
set_option maxHeartbeats 4000000 in
theorem swrite_any (w : World) {T : TypeId} {cs : Array Value} {R L : Nat} {ao : Option Addr} {cap : Nat} {bs : List Int} {m : Nat} (h : Snk w T cs R L ao cap bs m)
    (po : Option Addr) (pcap len : Nat) (ps : List (List Int)) (hlen : ps.length = len) (hall : AllP ps) (hp : ∀ W, Kept (OrB (OneB R) (OwnB (.slice ao bs.length cap))) w W → Parts W po ps)
    (hsm : (bs ++ ps.flatten).length ≤ 1000000) (hm : len ≤ 1000000) :
    Calls Try.prog 48 #[.pointer (some ⟨R, 0, none⟩), .slice po len pcap] w fun e w' => e = .returned (.int .i64 ((fill bs m ps).length - bs.length)) ∧ WrR w T cs R L (.slice ao bs.length cap) (fill bs m ps) m w' := by
  obtain ⟨i0, hi, hz0, hz1, hz2⟩ := info_parts info5
  have H := Lib.hid h; have HLen := Lib.hid hlen; have HAll := Lib.hid hall; have HP := Lib.hid hp; have HSm := Lib.hid hsm
  have c0 : w.cell? ⟨R, 0, none⟩ = some (.slice ao bs.length cap) := by rw [obj_cell h.obj 0, h.c0]
  have hsm0 := h.sm
  clear h hlen hall hp hsm
  go_enter Try.func48, Try.ntmps48
  go_wp2
  clear c0
  go_loopw [15] (fun i wr => ∃ j : Nat, j ≤ len ∧ i = .int .i64 j ∧ WrR w T cs R L (.slice ao bs.length cap) (fill bs m (ps.take j)) m wr) (fun i _ => len - (intOf i).toNat)
  case atStart => exact ⟨0, by omega, rfl, by rw [List.take_zero, fill_nil _ _ H.out.bl]; exact ⟨cs, ao, cap, H.out, rfl, (fun _ _ => rfl), Kept.refl _ _, fun k hk => .inl hk⟩⟩
  case round =>
    obtain ⟨j, hj, rfl, hW⟩ := hrel
    obtain ⟨cs1, ao1, cap1, hS, hcz, hcs, hK, hO⟩ := hW
    by_cases hlt : j < len
    · have hjp : j < ps.length := by have := HLen.out; omega
      rcases HP.out _ hK with h0 | ⟨b, off, rfl, hbl, hc⟩
      · rw [h0] at hjp; simp at hjp
      obtain ⟨pa, pc, d0, hrd, hlc, hpcm, hpn⟩ := hc j hjp
      have hpall := HAll.out.getD j
      have hfs := fill_succ bs m ps j hjp
      have hfsm : (fill bs m (ps.take (j + 1))).length ≤ 1000000 := by
        unfold fill
        rw [List.length_take, List.length_append]
        have h1 := HSm.out
        rw [List.length_append] at h1
        have h2 : (ps.take (j + 1)).flatten.length ≤ ps.flatten.length := by
          conv => rhs; rw [← List.take_append_drop (j + 1) ps, List.flatten_append, List.length_append]
          omega
        omega
      have hfall : AllB (fill bs m (ps.take (j + 1))) := by
        unfold fill
        intro x hx
        rcases List.mem_append.1 (List.mem_of_mem_take hx) with hx | hx
        · exact H.out.ball x hx
        · obtain ⟨p, hp, hx⟩ := List.mem_flatten.1 hx
          exact HAll.out p (List.mem_of_mem_take hp) x hx
      have hfl := fill_len bs m (ps.take (j + 1))
      obtain ⟨fj, hfj⟩ : ∃ fj, fj = fill bs m (ps.take j) := ⟨_, rfl⟩
      rw [← hfj] at hS hO hfs
      obtain ⟨part, hpart⟩ : ∃ part, part = ps.getD j [] := ⟨_, rfl⟩
      rw [← hpart] at d0 hrd hlc hpall hfs
      have HS := Lib.hid hS; have HK := Lib.hid hK; have HO := Lib.hid hO; have HRd := Lib.hid hrd; have HPa := Lib.hid hpall; have HCs := Lib.hid hcs; have HCz := Lib.hid hcz
      have HFsm := Lib.hid hfsm; have HFall := Lib.hid hfall; have HFl := Lib.hid hfl; have HPn := Lib.hid hpn
      obtain ⟨r, hr⟩ : ∃ r : Nat, (r : Int) = (m : Int) - fj.length := ⟨m - fj.length, by have := HS.out.bl; omega⟩
      have HR := Lib.hid hr
      have hr0 := HS.out.ml
      have hmr : m - fj.length = r := by omega
      rw [hmr] at hfs
      have hfr : fj.length + min r part.length ≤ 1000000 := by
        have h1 := hfsm
        rw [hfs, List.length_append, List.length_take] at h1
        exact h1
      have hfj0 := HS.out.sm
      have HFs := Lib.hid hfs
      clear hS hK hO hrd hpall hcs hfs hfsm hfall hfl hpart hfj hc hcz hpn hjp hr hmr
      go_upto_region 5 with fail
      clear d0
      have hSd := HS.out.keptNo ((Kept.refl NoB wr).drew)
      have e0 : wr.cell? ⟨R, 0, none⟩ = some (.slice ao1 fj.length cap1) := by rw [obj_cell HS.out.obj 0, HS.out.c0]
      have hlft : Hid (∀ W, Kept NoB wr W → Calls Try.prog 38 #[.pointer (some ⟨R, 0, none⟩)] W fun e w' => e = .returned (.int .i64 r) ∧ Kept NoB W w') := fun W hk => sleft_any W (HS.out.keptNo hk) r HR.out
      by_cases hrl : (r : Int) < part.length
      · have hr0' : (0 : Int) ≤ r := by omega
        have hrc : (r : Int) ≤ pc := by omega
        cases pa with
        | none => have := HPn.out rfl; omega
        | some xa =>
          have htl : (part.take r).length = r := by rw [List.length_take]; omega
          have HTl := Lib.hid htl; clear htl
          go_region_law (first
            | (go_simp; go_at_call 38; (with_reducible refine (hlft.out _ ((Kept.refl NoB wr).drew)).mono ?_); rintro e wn ⟨rfl, hkn⟩; have e0n : wn.cell? ⟨R, 0, none⟩ = some (.slice ao1 fj.length cap1) := hkn.cell e0)
            | (refine step_app rfl (.tmp 23) (.tmp 30) 23 rfl 5 i0 (.int .u8 0) 1 1 Try.underlying23 hi hz0 hz1 hz2 rfl (by decide) _ fj.length (fj.map (.int .u8)) rfl (hkn.row hSd.own (fun _ _ h => h)) xa r pc ((part.take r).map (.int .u8)) rfl (by rw [List.length_map, HTl.out]; omega) (reads_news (reads_take r ((HRd.out.keptNo ((Kept.refl NoB wr).drew)).keptNo hkn))) (news_one _) (by unfold maxLen; omega) (by omega) ?_
               intro v' w' hown' hgrow hnew
               obtain ⟨ao2, cap2, rfl⟩ := own_shape hown'
               have oR := (hSd.keptNo hkn).objGrown hgrow
               have g0 : w'.frozen? ⟨R, 0, none⟩ = false := obj_free oR 0
               have g1 : w'.cell? ⟨R, 0, none⟩ = some (.slice ao1 fj.length cap1) := by rw [obj_cell oR 0, HS.out.c0]))
          all_goals
            have hF := wr_step HS.out HK.out HO.out HCs.out HCz.out (((Kept.refl NoB wr).drew).trans hkn) hown' hgrow hnew HTl.out HFs.out HFl.out HFsm.out HFall.out
            have HF := Lib.hid hF
            clear hF hown' hgrow hnew hkn oR g0 g1 e0n
            go_wp2
            go_roundw
            case rel => exact ⟨j + 1, by omega, by go_num, HF.out⟩
            case measure => simp [intOf]; omega
      · have hpt : part.take r = part := List.take_of_length_le (by omega)
        rw [hpt] at HFs
        have hp0 : (0 : Int) ≤ part.length := by omega
        have hpc : (part.length : Int) ≤ pc := by omega
        clear hpt
        cases pa with
        | none =>
          have hpe : part = [] := HRd.out.1 rfl
          have hpc0 : pc = 0 := HPn.out rfl
          subst hpe hpc0
          rw [List.append_nil] at HFs
          have hle0 : ([] : List Int).length = 0 := rfl
          rw [hle0]
          have hr0i : ¬ (r : Int) < 0 := by omega
          go_region_law (first
            | (go_simp; go_at_call 38; (with_reducible refine (hlft.out _ ((Kept.refl NoB wr).drew)).mono ?_); rintro e wn ⟨rfl, hkn⟩; have e0n : wn.cell? ⟨R, 0, none⟩ = some (.slice ao1 fj.length cap1) := hkn.cell e0; have f0n : wn.frozen? ⟨R, 0, none⟩ = false := obj_free (hSd.keptNo hkn).obj 0)
            | (refine step_app_none rfl (.tmp 23) (.tmp 30) 23 rfl 5 i0 1 Try.underlying23 hi _ fj.length (fj.map (.int .u8)) rfl (hkn.row hSd.own (fun _ _ h => h)) rfl ?_))
          all_goals
            have hown' := hkn.row hSd.own (fun _ _ h => h)
            have hF := wr_step (p := []) (x := 0) HS.out HK.out HO.out HCs.out HCz.out (((Kept.refl NoB wr).drew).trans hkn) (by simpa using hown') (World.grownBy.refl _ _) (fun k hk => .inl hk) rfl (HFs.out.trans (List.append_nil _).symm) HFl.out HFsm.out HFall.out
            rw [Nat.add_zero] at hF
            have HF := Lib.hid hF
            clear hF hown' hkn e0n f0n
            go_wp2
            go_roundw
            case rel => exact ⟨j + 1, by omega, by go_num, HF.out⟩
            case measure => simp [intOf]; omega
        | some xa =>
          go_region_law (first
            | (go_simp; go_at_call 38; (with_reducible refine (hlft.out _ ((Kept.refl NoB wr).drew)).mono ?_); rintro e wn ⟨rfl, hkn⟩; have e0n : wn.cell? ⟨R, 0, none⟩ = some (.slice ao1 fj.length cap1) := hkn.cell e0)
            | (refine step_app rfl (.tmp 23) (.tmp 30) 23 rfl 5 i0 (.int .u8 0) 1 1 Try.underlying23 hi hz0 hz1 hz2 rfl (by decide) _ fj.length (fj.map (.int .u8)) rfl (hkn.row hSd.own (fun _ _ h => h)) xa part.length pc (part.map (.int .u8)) rfl (by rw [List.length_map]; omega) (reads_news ((HRd.out.keptNo ((Kept.refl NoB wr).drew)).keptNo hkn)) (news_one _) (by unfold maxLen; omega) (by omega) ?_
               intro v' w' hown' hgrow hnew
               obtain ⟨ao2, cap2, rfl⟩ := own_shape hown'
               have oR := (hSd.keptNo hkn).objGrown hgrow
               have g0 : w'.frozen? ⟨R, 0, none⟩ = false := obj_free oR 0
               have g1 : w'.cell? ⟨R, 0, none⟩ = some (.slice ao1 fj.length cap1) := by rw [obj_cell oR 0, HS.out.c0]))
          all_goals
            have hF := wr_step HS.out HK.out HO.out HCs.out HCz.out (((Kept.refl NoB wr).drew).trans hkn) hown' hgrow hnew rfl HFs.out HFl.out HFsm.out HFall.out
            have HF := Lib.hid hF
            clear hF hown' hgrow hnew hkn oR g0 g1 e0n
            go_wp2
            go_roundw
            case rel => exact ⟨j + 1, by omega, by go_num, HF.out⟩
            case measure => simp [intOf]; omega
    · have hjl : j = len := by omega
      have ht : ps.take j = ps := List.take_of_length_le (by have := HLen.out; omega)
      rw [ht] at hS hO
      have d0 : wr.cell? ⟨R, 0, none⟩ = some (.slice ao1 (fill bs m ps).length cap1) := by rw [obj_cell hS.obj 0, hS.c0]
      have hsm1 := hS.sm
      have F : WrR w T cs R L (.slice ao bs.length cap) (fill bs m ps) m wr := ⟨cs1, ao1, cap1, hS, hcz, hcs, hK, hO⟩
      have HF := Lib.hid F
      clear F hS hcz hcs hK hO ht
      obtain ⟨n, hn⟩ : ∃ n, n = (fill bs m ps).length := ⟨_, rfl⟩
      rw [← hn] at d0 hsm1
      have HN := Lib.hid hn; clear hn
      go_wp2
      go_ret
      exact ⟨by rw [← HN.out]; rfl, HF.out⟩
end Go.Proofs.Ythapkciebphhkaa

namespace Go.Proofs.Ythapkciebphhkaa
open Go.RowKit
set_option linter.unusedVariables false
set_option linter.unusedSimpArgs false

/-- The values in an Inflater. -/
structure IV where
  sk : Value
  most : Nat
  wn : Value
  rs : Value
  fr : Int
  sp : Int
  nx : Int
  la : Bool
  lf : Int
  li : Option Addr
  di : Option Addr
  fl : Option Addr
  fd : Option Addr
  us : Int
  at_ : Int
  er : Int
def IV.cs (v : IV) : Array Value := #[v.sk, .int .i64 v.most, v.wn, v.rs, .int .i64 v.fr, .int .i64 v.sp, .int .i64 v.nx, .bool v.la, .int .i64 v.lf, .pointer v.li, .pointer v.di, .pointer v.fl, .pointer v.fd, .int .i64 v.us, .int .i64 v.at_, .int .i64 v.er]
def InfO (w : World) (D : Nat) (v : IV) : Prop := w.heap[D]? = some (.cells v.cs 46 (0, 0))
section
variable {w w' : World} {D : Nat} {v : IV}
theorem InfO.kept {S : Nat → Prop} (h : InfO w D v) (hk : Kept S w w') (hs : ¬ S D) : InfO w' D v := hk.obj h hs
theorem InfO.c0 (h : InfO w D v) : w.cell? ⟨D, 0, none⟩ = some v.sk := by rw [obj_cell h 0]; rfl
theorem InfO.c1 (h : InfO w D v) : w.cell? ⟨D, 1, none⟩ = some (.int .i64 v.most) := by rw [obj_cell h 1]; rfl
theorem InfO.c2 (h : InfO w D v) : w.cell? ⟨D, 2, none⟩ = some v.wn := by rw [obj_cell h 2]; rfl
theorem InfO.c3 (h : InfO w D v) : w.cell? ⟨D, 3, none⟩ = some v.rs := by rw [obj_cell h 3]; rfl
theorem InfO.c4 (h : InfO w D v) : w.cell? ⟨D, 4, none⟩ = some (.int .i64 v.fr) := by rw [obj_cell h 4]; rfl
theorem InfO.c5 (h : InfO w D v) : w.cell? ⟨D, 5, none⟩ = some (.int .i64 v.sp) := by rw [obj_cell h 5]; rfl
theorem InfO.c6 (h : InfO w D v) : w.cell? ⟨D, 6, none⟩ = some (.int .i64 v.nx) := by rw [obj_cell h 6]; rfl
theorem InfO.c7 (h : InfO w D v) : w.cell? ⟨D, 7, none⟩ = some (.bool v.la) := by rw [obj_cell h 7]; rfl
theorem InfO.c8 (h : InfO w D v) : w.cell? ⟨D, 8, none⟩ = some (.int .i64 v.lf) := by rw [obj_cell h 8]; rfl
theorem InfO.c9 (h : InfO w D v) : w.cell? ⟨D, 9, none⟩ = some (.pointer v.li) := by rw [obj_cell h 9]; rfl
theorem InfO.c10 (h : InfO w D v) : w.cell? ⟨D, 10, none⟩ = some (.pointer v.di) := by rw [obj_cell h 10]; rfl
theorem InfO.c11 (h : InfO w D v) : w.cell? ⟨D, 11, none⟩ = some (.pointer v.fl) := by rw [obj_cell h 11]; rfl
theorem InfO.c12 (h : InfO w D v) : w.cell? ⟨D, 12, none⟩ = some (.pointer v.fd) := by rw [obj_cell h 12]; rfl
theorem InfO.c13 (h : InfO w D v) : w.cell? ⟨D, 13, none⟩ = some (.int .i64 v.us) := by rw [obj_cell h 13]; rfl
theorem InfO.c14 (h : InfO w D v) : w.cell? ⟨D, 14, none⟩ = some (.int .i64 v.at_) := by rw [obj_cell h 14]; rfl
theorem InfO.c15 (h : InfO w D v) : w.cell? ⟨D, 15, none⟩ = some (.int .i64 v.er) := by rw [obj_cell h 15]; rfl
theorem InfO.free (h : InfO w D v) (i : Nat) : w.frozen? ⟨D, i, none⟩ = false := obj_free h i
theorem InfO.setSk (h : InfO w D v) (x : Value) : InfO (w.setCell ⟨D, 0, none⟩ x) D { v with sk := x } := by simpa [InfO, IV.cs] using obj_set h 0 x
theorem InfO.setWn (h : InfO w D v) (x : Value) : InfO (w.setCell ⟨D, 2, none⟩ x) D { v with wn := x } := by simpa [InfO, IV.cs] using obj_set h 2 x
theorem InfO.setRs (h : InfO w D v) (x : Value) : InfO (w.setCell ⟨D, 3, none⟩ x) D { v with rs := x } := by simpa [InfO, IV.cs] using obj_set h 3 x
theorem InfO.setFr (h : InfO w D v) (x : Int) : InfO (w.setCell ⟨D, 4, none⟩ (.int .i64 x)) D { v with fr := x } := by simpa [InfO, IV.cs] using obj_set h 4 (.int .i64 x)
theorem InfO.setSp (h : InfO w D v) (x : Int) : InfO (w.setCell ⟨D, 5, none⟩ (.int .i64 x)) D { v with sp := x } := by simpa [InfO, IV.cs] using obj_set h 5 (.int .i64 x)
theorem InfO.setNx (h : InfO w D v) (x : Int) : InfO (w.setCell ⟨D, 6, none⟩ (.int .i64 x)) D { v with nx := x } := by simpa [InfO, IV.cs] using obj_set h 6 (.int .i64 x)
theorem InfO.setLa (h : InfO w D v) (x : Bool) : InfO (w.setCell ⟨D, 7, none⟩ (.bool x)) D { v with la := x } := by simpa [InfO, IV.cs] using obj_set h 7 (.bool x)
theorem InfO.setLf (h : InfO w D v) (x : Int) : InfO (w.setCell ⟨D, 8, none⟩ (.int .i64 x)) D { v with lf := x } := by simpa [InfO, IV.cs] using obj_set h 8 (.int .i64 x)
theorem InfO.setLi (h : InfO w D v) (x : Option Addr) : InfO (w.setCell ⟨D, 9, none⟩ (.pointer x)) D { v with li := x } := by simpa [InfO, IV.cs] using obj_set h 9 (.pointer x)
theorem InfO.setDi (h : InfO w D v) (x : Option Addr) : InfO (w.setCell ⟨D, 10, none⟩ (.pointer x)) D { v with di := x } := by simpa [InfO, IV.cs] using obj_set h 10 (.pointer x)
theorem InfO.setFl (h : InfO w D v) (x : Option Addr) : InfO (w.setCell ⟨D, 11, none⟩ (.pointer x)) D { v with fl := x } := by simpa [InfO, IV.cs] using obj_set h 11 (.pointer x)
theorem InfO.setFd (h : InfO w D v) (x : Option Addr) : InfO (w.setCell ⟨D, 12, none⟩ (.pointer x)) D { v with fd := x } := by simpa [InfO, IV.cs] using obj_set h 12 (.pointer x)
theorem InfO.setUs (h : InfO w D v) (x : Int) : InfO (w.setCell ⟨D, 13, none⟩ (.int .i64 x)) D { v with us := x } := by simpa [InfO, IV.cs] using obj_set h 13 (.int .i64 x)
theorem InfO.setAt (h : InfO w D v) (x : Int) : InfO (w.setCell ⟨D, 14, none⟩ (.int .i64 x)) D { v with at_ := x } := by simpa [InfO, IV.cs] using obj_set h 14 (.int .i64 x)
theorem InfO.setEr (h : InfO w D v) (x : Int) : InfO (w.setCell ⟨D, 15, none⟩ (.int .i64 x)) D { v with er := x } := by simpa [InfO, IV.cs] using obj_set h 15 (.int .i64 x)
end
/-- A window is the end of what was put out. -/
def Sfx (wnd out : List Int) : Prop := (∃ pre, out = pre ++ wnd) ∧ (wnd = out ∨ 32768 ≤ wnd.length)
/-- An own row of bytes, from lo on. -/
structure RowU (w : World) (lo : Nat) (v : Value) (xs : List Int) : Prop where
  own : w.ownsRow 0 5 1 v xs.length (xs.map (.int .u8))
  fresh : ∀ k, v.ownBlock = some k → lo ≤ k
theorem RowU.kept {S : Nat → Prop} {w w' : World} {lo : Nat} {v : Value} {xs : List Int} (h : RowU w lo v xs) (hk : Kept S w w') (hs : ∀ k, v.ownBlock = some k → ¬ S k) : RowU w' lo v xs := ⟨hk.row h.own hs, h.fresh⟩
/-- The mode in the cells. -/
def nxOf : Md → Int
  | .block => 0 | .stored => 1 | .bytes _ => 2 | .head => 3 | .sym _ _ => 4 | .fin => 5
/-- What the mode asks of the cells; S: the blocks of the Decoders. -/
def ModeOk (w : World) (S : Nat → Prop) (v : IV) : Md → Prop
  | .bytes n => v.lf = (n : Int) ∧ 1 ≤ n ∧ n ≤ 65535
  | .sym lit dist => CodeOk lit ∧ CodeOk dist ∧ ∃ Dl Dd, v.li = some ⟨Dl, 0, none⟩ ∧ v.di = some ⟨Dd, 0, none⟩ ∧ DecG lit Dl S w ∧ DecG dist Dd S w
  | _ => True
def FixOk (w : World) (S : Nat → Prop) (v : IV) : Prop := v.fl = none ∨ ∃ Fl Fd, v.fl = some ⟨Fl, 0, none⟩ ∧ v.fd = some ⟨Fd, 0, none⟩ ∧ DecG fixL Fl S w ∧ DecG fixD Fd S w
/-- An Inflater that may read on. -/
structure Inf (lo : Nat) (w : World) (D : Nat) (v : IV) (m : Md) (out : List Int) (bs : List Int) : Prop where
  obj : InfO w D v
  low : lo ≤ D
  sink : RowU w lo v.sk out
  rest : RowU w lo v.rs bs
  win : ∃ wnd, RowU w lo v.wn wnd ∧ Sfx wnd out ∧ wnd.length < 98304
  sep1 : ∀ k, v.sk.ownBlock = some k → v.wn.ownBlock ≠ some k
  sep2 : ∀ k, v.rs.ownBlock = some k → v.sk.ownBlock ≠ some k ∧ v.wn.ownBlock ≠ some k
  nx : v.nx = nxOf m
  er : v.er = 0
  fit : out.length ≤ v.most
  big : v.most ≤ 9223372036854775807
  all : AllB out
  decs : ∃ S : Nat → Prop, (∀ k, S k → lo ≤ k ∧ k < w.heap.size ∧ k ≠ D ∧ v.sk.ownBlock ≠ some k ∧ v.wn.ownBlock ≠ some k) ∧ ModeOk w S v m ∧ FixOk w S v
end Go.Proofs.Ythapkciebphhkaa

namespace Go.Proofs.Ythapkciebphhkaa
open Go.RowKit
set_option linter.unusedVariables false
set_option linter.unusedSimpArgs false

set_option maxHeartbeats 1000000 in
theorem group4_any (i : Nat) (w : World) (hi : i ≤ 29) : Calls Try.prog 58 #[.int .i64 i, .int .i64 4] w fun e w' => e = .returned (.tuple #[.int .i64 (gb 4 i : Nat), .int .i64 (ge 4 i : Nat)]) ∧ w = w' := by
  obtain ⟨k, hk⟩ : ∃ k, k = i / 4 := ⟨_, rfl⟩
  have hdiv : (i : Int) / 4 = k := by omega
  have hk14 : k ≤ 14 := by omega
  have HB : Hid (gb 4 i = if k - 1 = 0 then i else (4 + i % 4) * 2 ^ (k - 1)) := by unfold gb; rw [← hk]; exact rfl
  have HE : Hid (ge 4 i = k - 1) := by unfold ge; rw [← hk]; exact rfl
  obtain ⟨m, hm⟩ : ∃ m, m = i % 4 := ⟨_, rfl⟩
  have hmod : (i : Int) % 4 = m := by omega
  have hm4 : m < 4 := by omega
  rw [← hm] at HB
  clear hk hm
  rw [HB.out, HE.out]
  clear HB HE
  go_enter Try.func58, Try.ntmps58
  by_cases h0 : k ≤ 1
  · have h1 : k - 1 = 0 := by omega
    rw [if_pos h1, h1]
    have hmax : (if (k : Int) - 1 < 0 then (0 : Int) else (k : Int) - 1) = 0 := by split <;> omega
    clear h1
    go_wp2
    go_ret2
    exact ⟨rfl, rfl⟩
  · have h1 : ¬ k - 1 = 0 := by omega
    rw [if_neg h1]
    obtain ⟨e, he⟩ : ∃ e, e = k - 1 := ⟨_, rfl⟩
    rw [← he]
    have hke : (k : Int) - 1 = e := by omega
    have hn : ¬ (e : Int) < 0 := by omega
    have he0 : ((e : Int) == 0) = false := by simp; omega
    have he13 : e ≤ 13 := by omega
    have hp : 2 ^ e ≤ 2 ^ 13 := Nat.pow_le_pow_right (by decide) he13
    have hmul : ((4 : Int) + m) * 2 ^ e = (((4 + m) * 2 ^ e : Nat) : Int) := by push_cast; rfl
    have hmb : (4 + m) * 2 ^ e ≤ 8 * 8192 := Nat.mul_le_mul (by omega) hp
    generalize (4 + m) * 2 ^ e = v at hmul hmb ⊢
    clear hp he h1 h0
    go_wp2
    go_ret2
    exact ⟨rfl, rfl⟩

set_option maxHeartbeats 1000000 in
theorem group2_any (i : Nat) (w : World) (hi : i ≤ 29) : Calls Try.prog 58 #[.int .i64 i, .int .i64 2] w fun e w' => e = .returned (.tuple #[.int .i64 (gb 2 i : Nat), .int .i64 (ge 2 i : Nat)]) ∧ w = w' := by
  obtain ⟨k, hk⟩ : ∃ k, k = i / 2 := ⟨_, rfl⟩
  have hdiv : (i : Int) / 2 = k := by omega
  have hk14 : k ≤ 14 := by omega
  have HB : Hid (gb 2 i = if k - 1 = 0 then i else (2 + i % 2) * 2 ^ (k - 1)) := by unfold gb; rw [← hk]; exact rfl
  have HE : Hid (ge 2 i = k - 1) := by unfold ge; rw [← hk]; exact rfl
  obtain ⟨m, hm⟩ : ∃ m, m = i % 2 := ⟨_, rfl⟩
  have hmod : (i : Int) % 2 = m := by omega
  have hm4 : m < 2 := by omega
  rw [← hm] at HB
  clear hk hm
  rw [HB.out, HE.out]
  clear HB HE
  go_enter Try.func58, Try.ntmps58
  by_cases h0 : k ≤ 1
  · have h1 : k - 1 = 0 := by omega
    rw [if_pos h1, h1]
    have hmax : (if (k : Int) - 1 < 0 then (0 : Int) else (k : Int) - 1) = 0 := by split <;> omega
    clear h1
    go_wp2
    go_ret2
    exact ⟨rfl, rfl⟩
  · have h1 : ¬ k - 1 = 0 := by omega
    rw [if_neg h1]
    obtain ⟨e, he⟩ : ∃ e, e = k - 1 := ⟨_, rfl⟩
    rw [← he]
    have hke : (k : Int) - 1 = e := by omega
    have hn : ¬ (e : Int) < 0 := by omega
    have he0 : ((e : Int) == 0) = false := by simp; omega
    have he13 : e ≤ 13 := by omega
    have hp : 2 ^ e ≤ 2 ^ 13 := Nat.pow_le_pow_right (by decide) he13
    have hmul : ((2 : Int) + m) * 2 ^ e = (((2 + m) * 2 ^ e : Nat) : Int) := by push_cast; rfl
    have hmb : (2 + m) * 2 ^ e ≤ 8 * 8192 := Nat.mul_le_mul (by omega) hp
    generalize (2 + m) * 2 ^ e = v at hmul hmb ⊢
    clear hp he h1 h0
    go_wp2
    go_ret2
    exact ⟨rfl, rfl⟩
end Go.Proofs.Ythapkciebphhkaa

namespace Go.Proofs.Ythapkciebphhkaa
open Go.RowKit
set_option linter.unusedVariables false
set_option linter.unusedSimpArgs false

theorem symLen_any (i : Nat) (w : World) (hi : i < 28) : Calls Try.prog 45 #[.int .i64 (257 + i : Nat)] w fun e w' => e = .returned (.tuple #[.int .i64 (lb i : Nat), .int .i64 (le4 i : Nat), .bool true]) ∧ w = w' := by
  have h1 : ¬ ((257 + i : Nat) : Int) < 257 := by omega
  have h2 : ¬ (285 : Int) < ((257 + i : Nat) : Int) := by omega
  have h3 : (((257 + i : Nat) : Int) == 285) = false := by simp; omega
  have h4 : ((257 + i : Nat) : Int) - 257 = i := by omega
  have hb := (lb_top i hi)
  have HG := Lib.hid (fun w => group4_any i w (by omega))
  have hlb : lb i = 3 + gb 4 i := rfl
  have hp := Nat.one_le_two_pow (n := le4 i)
  have hg : gb 4 i ≤ 259 := by omega
  have HB : Hid (lb i = 3 + gb 4 i) := rfl
  have HE : Hid (le4 i = ge 4 i) := rfl
  rw [HB.out, HE.out]
  clear hb hlb HB HE hp
  generalize gb 4 i = b at HG hg ⊢
  generalize ge 4 i = x at HG ⊢
  generalize 257 + i = s at h1 h2 h3 h4 ⊢
  go_enter Try.func45, Try.ntmps45
  go_wp2_with fail
  refine (HG.out _).mono ?_
  rintro e w' ⟨rfl, rfl⟩
  go_wp2
  go_ret3
  exact ⟨by push_cast; rfl, rfl⟩
theorem symLen_last (w : World) : Calls Try.prog 45 #[.int .i64 285] w fun e w' => e = .returned (.tuple #[.int .i64 258, .int .i64 0, .bool true]) ∧ w = w' := by
  go_enter Try.func45, Try.ntmps45
  go_wp2
  go_ret3
  exact ⟨rfl, rfl⟩
theorem symLen_no (w : World) : Calls Try.prog 45 #[.int .i64 256] w fun e w' => e = .returned (.tuple #[.int .i64 0, .int .i64 0, .bool false]) ∧ w = w' := by
  go_enter Try.func45, Try.ntmps45
  go_wp2
  go_ret3
  exact ⟨rfl, rfl⟩
theorem symDist_no (w : World) : Calls Try.prog 47 #[.int .i64 30] w fun e w' => e = .returned (.tuple #[.int .i64 0, .int .i64 0, .bool false]) ∧ w = w' := by
  go_enter Try.func47, Try.ntmps47
  go_wp2
  go_ret3
  exact ⟨rfl, rfl⟩
theorem symDist_any (i : Nat) (w : World) (hi : i < 30) : Calls Try.prog 47 #[.int .i64 i] w fun e w' => e = .returned (.tuple #[.int .i64 (db i : Nat), .int .i64 (de i : Nat), .bool true]) ∧ w = w' := by
  have h1 : ¬ (i : Int) < 0 := by omega
  have h2 : ¬ (29 : Int) < (i : Int) := by omega
  have hb := (db_top i hi)
  have HG := Lib.hid (fun w => group2_any i w (by omega))
  have hlb : db i = 1 + gb 2 i := rfl
  have hp := Nat.one_le_two_pow (n := de i)
  have hg : gb 2 i ≤ 32769 := by omega
  have HB : Hid (db i = 1 + gb 2 i) := rfl
  have HE : Hid (de i = ge 2 i) := rfl
  rw [HB.out, HE.out]
  clear hb hlb HB HE hp
  generalize gb 2 i = b at HG hg ⊢
  generalize ge 2 i = x at HG ⊢
  go_enter Try.func47, Try.ntmps47
  go_wp2_with fail
  refine (HG.out _).mono ?_
  rintro e w' ⟨rfl, rfl⟩
  go_wp2
  go_ret3
  exact ⟨by push_cast; rfl, rfl⟩

theorem symDistZ (i : Nat) (w : World) (hi : i < 30) : Calls Try.prog 47 #[.int .i64 (0 + i : Nat)] w fun e w' => e = .returned (.tuple #[.int .i64 (db i : Nat), .int .i64 (de i : Nat), .bool true]) ∧ w = w' := by
  rw [Nat.zero_add]; exact symDist_any i w hi
/-- The last symbol from o to o + H whose least number is not above n, for whatever tells least numbers that begin below n. -/
def LastP (o H : Nat) (B E : Nat → Nat) (n : Nat) (w : World) (e : Ending) (w' : World) : Prop :=
  ∃ l, l ≤ H ∧ B l ≤ n ∧ (l < H → n < B (l + 1)) ∧ e = .returned (.tuple #[.int .i64 (o + l : Nat), .int .i64 (E l : Nat), .int .u32 (n - B l : Nat)]) ∧ w = w'
end Go.Proofs.Ythapkciebphhkaa

namespace Go.Proofs.Ythapkciebphhkaa
open Go.RowKit
set_option linter.unusedVariables false
set_option linter.unusedSimpArgs false

end Go.Proofs.Ythapkciebphhkaa

namespace Go.Proofs.Ythapkciebphhkaa
open Go.RowKit
set_option linter.unusedVariables false
set_option linter.unusedSimpArgs false

set_option maxRecDepth 20000 in
set_option maxHeartbeats 2000000 in
theorem over_any (w : World) (D : Nat) (v : IV) (h : InfO w D v) :
    Calls Try.prog 18 #[.pointer (some ⟨D, 0, none⟩)] w fun e w' => e = .returned (.bool (decide (v.nx = 5 ∨ v.er ≠ 0))) ∧ Kept NoB w w' := by
  have c6 := h.c6
  have c15 := h.c15
  obtain ⟨x, hx⟩ : ∃ x, x = v.nx := ⟨_, rfl⟩
  obtain ⟨y, hy⟩ : ∃ y, y = v.er := ⟨_, rfl⟩
  rw [← hx] at c6 ⊢
  rw [← hy] at c15 ⊢
  clear h hx hy
  by_cases h5 : x = 5
  · subst h5
    go_enter Try.func18, Try.ntmps18
    go_wp2
    try (go_quiet (fail); go_wp2)
    go_ret
    exact ⟨by simp, by first | exact Kept.refl _ _ | exact (Kept.refl _ _).drewN _⟩
  · have g5 : (x == 5) = false := by simp [h5]
    by_cases h0 : y = 0
    · subst h0
      go_enter Try.func18, Try.ntmps18
      go_wp2
      try (go_quiet (fail); go_wp2)
      go_ret
      exact ⟨by simp [h5], by first | exact Kept.refl _ _ | exact (Kept.refl _ _).drewN _⟩
    · have g0 : (y != 0) = true := by simp [h0]
      go_enter Try.func18, Try.ntmps18
      go_wp2
      try (go_quiet (fail); go_wp2)
      go_ret
      exact ⟨by simp [h0], by first | exact Kept.refl _ _ | exact (Kept.refl _ _).drewN _⟩
/-- The mode behind a block. -/
theorem endM_nx (last : Bool) : nxOf (endM last) = if last then 5 else 0 := by cases last <;> rfl
set_option maxRecDepth 20000 in
set_option maxHeartbeats 2000000 in
theorem endBlock_any (w : World) (D : Nat) (v : IV) (h : InfO w D v) :
    Calls Try.prog 37 #[.pointer (some ⟨D, 0, none⟩)] w fun e w' => e = .returned (.tuple #[]) ∧ InfO w' D { v with nx := if v.la then 5 else 0 } ∧ Kept (OneB D) w w' := by
  have c6 := h.c6
  have c7 := h.c7
  have f6 := h.free 6
  have h1 := h.setNx 0
  have f6b := h1.free 6
  have c7b := h1.c7
  have h2 := h1.setNx 5
  have k1 : Kept (OneB D) w (w.setCell ⟨D, 6, none⟩ (.int .i64 0)) := Kept.setCell (S := OneB D) (p := ⟨D, 6, none⟩) (Kept.refl _ w) (.inl rfl) _
  have k2 : Kept (OneB D) w ((w.setCell ⟨D, 6, none⟩ (.int .i64 0)).setCell ⟨D, 6, none⟩ (.int .i64 5)) := Kept.setCell (S := OneB D) (p := ⟨D, 6, none⟩) k1 (.inl rfl) _
  have H1 := Lib.hid h1; have H2 := Lib.hid h2; have K1 := Lib.hid k1; have K2 := Lib.hid k2
  obtain ⟨x, hx⟩ : ∃ x, x = v.nx := ⟨_, rfl⟩
  rw [← hx] at c6
  obtain ⟨y, hy⟩ : ∃ y, y = v.la := ⟨_, rfl⟩
  simp only at c7b
  rw [← hy] at c7 c7b
  have HY := Lib.hid hy
  clear h h1 h2 k1 k2 hx hy
  cases y with
  | false =>
    have hz : (if v.la then (5 : Int) else 0) = 0 := by rw [← HY.out]; rfl
    rw [hz]
    clear hz
    go_enter Try.func37, Try.ntmps37
    go_wp2
    refine bodyPost_end (results_none rfl _ _ _) rfl ?_
    exact ⟨rfl, H1.out, K1.out⟩
  | true =>
    have hz : (if v.la then (5 : Int) else 0) = 5 := by rw [← HY.out]; rfl
    rw [hz]
    clear hz
    go_enter Try.func37, Try.ntmps37
    go_wp2
    refine bodyPost_end (results_none rfl _ _ _) rfl ?_
    exact ⟨rfl, H2.out, K2.out⟩
end Go.Proofs.Ythapkciebphhkaa
