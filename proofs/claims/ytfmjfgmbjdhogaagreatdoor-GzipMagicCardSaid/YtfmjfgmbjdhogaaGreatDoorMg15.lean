/-
  A sink of bytes: NewSink, Left, Len, Bytes, Write; within whatever object it lies.
  A sink of bytes: Write.
  An Inflater in memory: its cells, its rows, what it reads next.
  The small calls of an Inflater: over, endBlock, readNumber, Fixed.
-/
import Derived.Test.YtfmjfgmbjdhogaaGreatDoorMg14
import Derived.Deep.RegionLaw
namespace Go.Proofs.YtfmjfgmbjdhogaaGreatDoor
open Go.RowKit
set_option linter.unusedVariables false
set_option linter.unusedSimpArgs false

section
variable {P : Program} {ops : Array Oper} {o : Oper} {a : Act} {w : World} {K : Act → World → Prop} {Q : Exit → Act → World → Prop} {E : Prop}
theorem step_app (hg : o.guard = none) (s x : Operand) (t : TypeId) (hop : o.op = Op.call { callee := Callee.builtin Builtin.append, args := #[s, x], argTypes := #[t, t] })
    (e : TypeId) (i : TypeInfo) (z : Value) (size bytes : Nat) (ht : P.underlying t = some (.slice e)) (hi : P.info? e = some i) (hz : i.zero = some z)
    (hsize : i.size = size) (hby : i.bytes = bytes) (hzs : z.cells.size = size) (hsz : 0 < size)
    (v : Value) (n : Nat) (xs : List Value) (hs : a.eval s = v) (hown : w.ownsRow 0 e size v n xs)
    (ad : Addr) (m c : Nat) (news : List Value) (hx : a.eval x = .slice (some ad) m c) (hl : news.length = m * size) (hnews : ∀ j u, news[j]? = some u → w.cell? (ad.add j) = some u) (h1 : ∀ u ∈ news, u.oneCell' = true)
    (h63 : n + m ≤ maxLen) (hbytes : (n + m) * bytes ≤ 140737488355328)
    (hK : ∀ v' w', w'.ownsRow 0 e size v' (n + m) (xs ++ news) → w.grownBy w' v.ownBlock → (∀ k, v'.ownBlock = some k → v.ownBlock = some k ∨ w.heap.size ≤ k) → K (a.put o.dst v') w') :
    if Region.wanted o (yielded ops a.tmps) = true then Oper.wp P o a w K Q else E := by
  have hw : Region.wanted o (yielded ops a.tmps) = true := by simp [Region.wanted, hg]
  rw [if_pos hw]
  obtain ⟨v', w', hr, h2, h3, h4⟩ := run_app (P := P) w e t o.type i z size bytes ht hi hz hsize hby hzs hsz v n xs hown ad m c news hl hnews h1 h63 hbytes
  unfold Oper.wp execOp
  simp only [hop, resolve, invoke, builtin, Sem.run_bind, Sem.run_pure, Result.andThen_ok, List.map_toArray, List.map_cons, List.map_nil, hs, hx, hr]
  exact hK _ _ h2 h3 h4
theorem step_app_none (hg : o.guard = none) (s x : Operand) (t : TypeId) (hop : o.op = Op.call { callee := Callee.builtin Builtin.append, args := #[s, x], argTypes := #[t, t] })
    (e : TypeId) (i : TypeInfo) (size : Nat) (ht : P.underlying t = some (.slice e)) (hi : P.info? e = some i)
    (v : Value) (n : Nat) (xs : List Value) (hs : a.eval s = v) (hown : w.ownsRow 0 e size v n xs) (hx : a.eval x = .slice none 0 0)
    (hK : K (a.put o.dst v) w) :
    if Region.wanted o (yielded ops a.tmps) = true then Oper.wp P o a w K Q else E := by
  have hw : Region.wanted o (yielded ops a.tmps) = true := by simp [Region.wanted, hg]
  rw [if_pos hw]
  have hr := run_append_owned_none (P := P) (w := w) 0 t o.type e i size ht hi v n xs hown
  unfold Oper.wp execOp
  simp only [hop, resolve, invoke, builtin, Sem.run_bind, Sem.run_pure, Result.andThen_ok, List.map_toArray, List.map_cons, List.map_nil, hs, hx, hr]
  exact hK
end

structure Snk (w : World) (T : TypeId) (cs : Array Value) (R L : Nat) (ao : Option Addr) (cap : Nat) (bs : List Int) (m : Nat) : Prop where
  obj : w.heap[R]? = some (.cells cs T (0, 0))
  c0 : cs[0]? = some (.slice ao bs.length cap)
  c1 : cs[1]? = some (.int .i64 m)
  own : w.ownsRow 0 5 1 (.slice ao bs.length cap) bs.length (bs.map (.int .u8))
  fr : ∀ k, (Value.slice ao bs.length cap).ownBlock = some k → L ≤ k
  low : L ≤ R
  bl : bs.length ≤ m
  ml : m ≤ 9223372036854775807
  sm : bs.length ≤ 1000000
  ne5 : T ≠ 5
  ball : AllB bs
theorem Snk.kept {S : Nat → Prop} {w w' : World} {T : TypeId} {cs : Array Value} {R L : Nat} {ao : Option Addr} {cap : Nat} {bs : List Int} {m : Nat} (h : Snk w T cs R L ao cap bs m) (hk : Kept S w w') (h1 : ¬ S R) (h2 : ∀ k, (Value.slice ao bs.length cap).ownBlock = some k → ¬ S k) : Snk w' T cs R L ao cap bs m :=
  { h with obj := hk.obj h.obj h1, own := hk.row h.own h2 }
theorem Snk.keptNo {w w' : World} {T : TypeId} {cs : Array Value} {R L : Nat} {ao : Option Addr} {cap : Nat} {bs : List Int} {m : Nat} (h : Snk w T cs R L ao cap bs m) (hk : Kept NoB w w') : Snk w' T cs R L ao cap bs m := h.kept hk (fun h => h) (fun _ _ h => h)

set_option maxHeartbeats 1000000 in
theorem sleft_any (w : World) {T : TypeId} {cs : Array Value} {R L : Nat} {ao : Option Addr} {cap : Nat} {bs : List Int} {m : Nat} (h : Snk w T cs R L ao cap bs m) (r : Nat) (hr : (r : Int) = (m : Int) - bs.length) :
    Calls Tryz.prog 154 #[.pointer (some ⟨R, 0, none⟩)] w fun e w' => e = .returned (.int .i64 r) ∧ Kept NoB w w' := by
  have c0 : w.cell? ⟨R, 0, none⟩ = some (.slice ao bs.length cap) := by rw [obj_cell h.obj 0, h.c0]
  have c1 : w.cell? ⟨R, 1, none⟩ = some (.int .i64 m) := by rw [obj_cell h.obj 1, h.c1]
  have h1 := h.bl
  have h2 := h.ml
  have h3 := h.sm
  rw [hr]
  clear h hr
  go_enter Tryz.func154, Tryz.ntmps154
  go_wp2
  go_quiet (fail)
  go_wp2
  go_ret
  exact ⟨rfl, (Kept.refl _ _).drewN _⟩
def fill (bs : List Int) (m : Nat) (ps : List (List Int)) : List Int := (bs ++ ps.flatten).take m
theorem fill_nil (bs : List Int) (m : Nat) (h : bs.length ≤ m) : fill bs m [] = bs := by simp [fill]; exact List.take_of_length_le h
theorem fill_len (bs : List Int) (m : Nat) (ps : List (List Int)) : (fill bs m ps).length ≤ m := by unfold fill; rw [List.length_take]; omega
theorem take_moreF (x p : List Int) (m : Nat) : (x.take m) ++ p.take (m - (x.take m).length) = (x ++ p).take m := by
  rw [List.take_append, List.length_take]
  by_cases h : x.length ≤ m
  · rw [Nat.min_eq_right h]
  · rw [Nat.min_eq_left (by omega), Nat.sub_self, show m - x.length = 0 from by omega]
theorem fill_succ (bs : List Int) (m : Nat) (ps : List (List Int)) (j : Nat) (hj : j < ps.length) :
    fill bs m (ps.take (j + 1)) = fill bs m (ps.take j) ++ (ps.getD j []).take (m - (fill bs m (ps.take j)).length) := by
  unfold fill
  rw [flat_succ ps j hj, ← List.append_assoc, take_moreF]

def WrR (w : World) (T : TypeId) (cs0 : Array Value) (R L : Nat) (v0 : Value) (bs' : List Int) (m : Nat) (w' : World) : Prop :=
  ∃ cs ao cap, Snk w' T cs R L ao cap bs' m ∧ cs.size = cs0.size ∧ (∀ i, i ≠ 0 → cs[i]? = cs0[i]?) ∧ Kept (OrB (OneB R) (OwnB v0)) w w' ∧ (∀ k, (Value.slice ao bs'.length cap).ownBlock = some k → v0.ownBlock = some k ∨ w.heap.size ≤ k)
end Go.Proofs.YtfmjfgmbjdhogaaGreatDoor

namespace Go.Proofs.YtfmjfgmbjdhogaaGreatDoor
open Go.RowKit
set_option linter.unusedVariables false
set_option linter.unusedSimpArgs false

theorem Snk.objGrown {w w' : World} {T : TypeId} {cs : Array Value} {R L : Nat} {ao : Option Addr} {cap : Nat} {bs : List Int} {m : Nat} (h : Snk w T cs R L ao cap bs m) (hg : w.grownBy w' (Value.slice ao bs.length cap).ownBlock) : w'.heap[R]? = some (.cells cs T (0, 0)) := by
  rw [hg.block R (obj_lt h.obj) (fun e => row_ne h.own h.obj h.ne5 R e.symm rfl)]
  exact h.obj

theorem wr_step {w wr wn w' : World} {T : TypeId} {cs cs1 : Array Value} {R L m x : Nat} {v0 : Value} {ao1 : Option Addr} {cap1 : Nat} {fj : List Int} {ao2 : Option Addr} {cap2 : Nat} {fs p : List Int}
    (hS : Snk wr T cs1 R L ao1 cap1 fj m) (hK : Kept (OrB (OneB R) (OwnB v0)) w wr) (hO : ∀ k, (Value.slice ao1 fj.length cap1).ownBlock = some k → v0.ownBlock = some k ∨ w.heap.size ≤ k)
    (hcs : ∀ i, i ≠ 0 → cs1[i]? = cs[i]?) (hcz : cs1.size = cs.size) (hkn : Kept NoB wr wn)
    (hown : w'.ownsRow 0 5 1 (.slice ao2 (fj.length + x) cap2) (fj.length + x) (fj.map (.int .u8) ++ p.map (.int .u8))) (hg : wn.grownBy w' (Value.slice ao1 fj.length cap1).ownBlock)
    (hnew : ∀ k, (Value.slice ao2 (fj.length + x) cap2).ownBlock = some k → (Value.slice ao1 fj.length cap1).ownBlock = some k ∨ wn.heap.size ≤ k) (hx : p.length = x) (hfs : fs = fj ++ p) (hfm : fs.length ≤ m) (hsm : fs.length ≤ 1000000) (hall : AllB fs) :
    WrR w T cs R L v0 fs m (w'.setCell ⟨R, 0, none⟩ (.slice ao2 (fj.length + x) cap2)) := by
  subst hfs hx
  have hSn := hS.keptNo hkn
  have oR := hSn.objGrown hg
  have hs1 := hK.size
  have hs2 := hkn.size
  have hRl := obj_lt hS.obj
  have h0 : 0 < cs1.size := (Array.getElem?_eq_some_iff.1 hS.c0).1
  rw [← List.map_append, ← List.length_append] at hown
  rw [← List.length_append] at hnew ⊢
  have hne := row_ne hown oR hS.ne5
  refine ⟨cs1.setIfInBounds 0 (.slice ao2 (fj ++ p).length cap2), ao2, cap2, ⟨obj_set oR 0 _, ?_, ?_, ?_, ?_, hS.low, hfm, hS.ml, hsm, hS.ne5, hall⟩, by simpa using hcz, ?_, ?_, ?_⟩
  · simp [h0]
  · have := hS.c1; simpa using this
  · exact (Kept.setCell (S := OneB R) (p := ⟨R, 0, none⟩) (Kept.refl _ w') (.inl rfl) _).row hown (fun k hk e => hne k hk e)
  · intro k hk
    rcases hnew k hk with h | h
    · exact hS.fr k h
    · have := hS.low; omega
  · intro i hi
    rw [Array.getElem?_setIfInBounds_ne (by omega)]; exact hcs i hi
  · refine Kept.setCell (p := ⟨R, 0, none⟩) ?_ (.inl (.inl rfl)) _
    refine Kept.grown (hK.trans (hkn.mono (fun _ _ h => h.elim))) hg ?_
    intro k hk e
    rcases hO k e with h | h
    · exact .inr h
    · omega
  · intro k hk
    rcases hnew k hk with h | h
    · exact hO k h
    · right; omega

set_option maxRecDepth 100000 in
set_option maxHeartbeats 4000000 in
theorem swrite_any (w : World) {T : TypeId} {cs : Array Value} {R L : Nat} {ao : Option Addr} {cap : Nat} {bs : List Int} {m : Nat} (h : Snk w T cs R L ao cap bs m)
    (po : Option Addr) (pcap len : Nat) (ps : List (List Int)) (hlen : ps.length = len) (hall : AllP ps) (hp : ∀ W, Kept (OrB (OneB R) (OwnB (.slice ao bs.length cap))) w W → Parts W po ps)
    (hsm : (bs ++ ps.flatten).length ≤ 1000000) (hm : len ≤ 1000000) :
    Calls Tryz.prog 174 #[.pointer (some ⟨R, 0, none⟩), .slice po len pcap] w fun e w' => e = .returned (.int .i64 ((fill bs m ps).length - bs.length)) ∧ WrR w T cs R L (.slice ao bs.length cap) (fill bs m ps) m w' := by
  obtain ⟨i0, hi, hz0, hz1, hz2⟩ := info_parts info5
  have H := Lib.hid h; have HLen := Lib.hid hlen; have HAll := Lib.hid hall; have HP := Lib.hid hp; have HSm := Lib.hid hsm
  have c0 : w.cell? ⟨R, 0, none⟩ = some (.slice ao bs.length cap) := by rw [obj_cell h.obj 0, h.c0]
  have hsm0 := h.sm
  clear h hlen hall hp hsm
  go_enter Tryz.func174, Tryz.ntmps174
  go_wp2
  clear c0
  go_loopw [15] (fun i wr => ∃ j : Nat, j ≤ len ∧ i = .int .i64 j ∧ WrR w T cs R L (.slice ao bs.length cap) (fill bs m (ps.take j)) m wr) (fun i _ => len - (intOf i).toNat)
  case atStart => exact ⟨0, by omega, rfl, by rw [List.take_zero, fill_nil _ _ H.out.bl]; exact ⟨cs, ao, cap, H.out, rfl, (fun _ _ => rfl), Kept.refl _ _, fun k hk => .inl hk⟩⟩
  case round =>
    obtain ⟨j, hj, rfl, hW⟩ := hrel
    obtain ⟨cs1, ao1, cap1, hS, hcz, hcs, hK, hO⟩ := hW
    by_cases hlt : j < len
    · have hjp : j < ps.length := by have := HLen.out; omega
      rcases HP.out _ hK with h0 | ⟨b, off, rfl, hbl, hc⟩
      · rw [h0] at hjp; simp at hjp
      obtain ⟨pa, pc, d0, hrd, hlc, hpcm, hpn⟩ := hc j hjp
      have hpall := HAll.out.getD j
      have hfs := fill_succ bs m ps j hjp
      have hfsm : (fill bs m (ps.take (j + 1))).length ≤ 1000000 := by
        unfold fill
        rw [List.length_take, List.length_append]
        have h1 := HSm.out
        rw [List.length_append] at h1
        have h2 : (ps.take (j + 1)).flatten.length ≤ ps.flatten.length := by
          conv => rhs; rw [← List.take_append_drop (j + 1) ps, List.flatten_append, List.length_append]
          omega
        omega
      have hfall : AllB (fill bs m (ps.take (j + 1))) := by
        unfold fill
        intro x hx
        rcases List.mem_append.1 (List.mem_of_mem_take hx) with hx | hx
        · exact H.out.ball x hx
        · obtain ⟨p, hp, hx⟩ := List.mem_flatten.1 hx
          exact HAll.out p (List.mem_of_mem_take hp) x hx
      have hfl := fill_len bs m (ps.take (j + 1))
      obtain ⟨fj, hfj⟩ : ∃ fj, fj = fill bs m (ps.take j) := ⟨_, rfl⟩
      rw [← hfj] at hS hO hfs
      obtain ⟨part, hpart⟩ : ∃ part, part = ps.getD j [] := ⟨_, rfl⟩
      rw [← hpart] at d0 hrd hlc hpall hfs
      have HS := Lib.hid hS; have HK := Lib.hid hK; have HO := Lib.hid hO; have HRd := Lib.hid hrd; have HPa := Lib.hid hpall; have HCs := Lib.hid hcs; have HCz := Lib.hid hcz
      have HFsm := Lib.hid hfsm; have HFall := Lib.hid hfall; have HFl := Lib.hid hfl; have HPn := Lib.hid hpn
      obtain ⟨r, hr⟩ : ∃ r : Nat, (r : Int) = (m : Int) - fj.length := ⟨m - fj.length, by have := HS.out.bl; omega⟩
      have HR := Lib.hid hr
      have hr0 := HS.out.ml
      have hmr : m - fj.length = r := by omega
      rw [hmr] at hfs
      have hfr : fj.length + min r part.length ≤ 1000000 := by
        have h1 := hfsm
        rw [hfs, List.length_append, List.length_take] at h1
        exact h1
      have hfj0 := HS.out.sm
      have HFs := Lib.hid hfs
      clear hS hK hO hrd hpall hcs hfs hfsm hfall hfl hpart hfj hc hcz hpn hjp hr hmr
      go_upto_region 5 with fail
      clear d0
      have hSd := HS.out.keptNo ((Kept.refl NoB wr).drew)
      have e0 : wr.cell? ⟨R, 0, none⟩ = some (.slice ao1 fj.length cap1) := by rw [obj_cell HS.out.obj 0, HS.out.c0]
      have hlft : Hid (∀ W, Kept NoB wr W → Calls Tryz.prog 154 #[.pointer (some ⟨R, 0, none⟩)] W fun e w' => e = .returned (.int .i64 r) ∧ Kept NoB W w') := fun W hk => sleft_any W (HS.out.keptNo hk) r HR.out
      by_cases hrl : (r : Int) < part.length
      · have hr0' : (0 : Int) ≤ r := by omega
        have hrc : (r : Int) ≤ pc := by omega
        cases pa with
        | none => have := HPn.out rfl; omega
        | some xa =>
          have htl : (part.take r).length = r := by rw [List.length_take]; omega
          have HTl := Lib.hid htl; clear htl
          go_region_law (first
            | (go_simp; go_at_call 154; (with_reducible refine (hlft.out _ ((Kept.refl NoB wr).drew)).mono ?_); rintro e wn ⟨rfl, hkn⟩; have e0n : wn.cell? ⟨R, 0, none⟩ = some (.slice ao1 fj.length cap1) := hkn.cell e0)
            | (refine step_app rfl (.tmp 23) (.tmp 30) 22 rfl 5 i0 (.int .u8 0) 1 1 Tryz.underlying22 hi hz0 hz1 hz2 rfl (by decide) _ fj.length (fj.map (.int .u8)) rfl (hkn.row hSd.own (fun _ _ h => h)) xa r pc ((part.take r).map (.int .u8)) rfl (by rw [List.length_map, HTl.out]; omega) (reads_news (reads_take r ((HRd.out.keptNo ((Kept.refl NoB wr).drew)).keptNo hkn))) (news_one _) (by unfold maxLen; omega) (by omega) ?_
               intro v' w' hown' hgrow hnew
               obtain ⟨ao2, cap2, rfl⟩ := own_shape hown'
               have oR := (hSd.keptNo hkn).objGrown hgrow
               have g0 : w'.frozen? ⟨R, 0, none⟩ = false := obj_free oR 0
               have g1 : w'.cell? ⟨R, 0, none⟩ = some (.slice ao1 fj.length cap1) := by rw [obj_cell oR 0, HS.out.c0]))
          all_goals
            have hF := wr_step HS.out HK.out HO.out HCs.out HCz.out (((Kept.refl NoB wr).drew).trans hkn) hown' hgrow hnew HTl.out HFs.out HFl.out HFsm.out HFall.out
            have HF := Lib.hid hF
            clear hF hown' hgrow hnew hkn oR g0 g1 e0n
            go_wp2
            go_roundw
            case rel => exact ⟨j + 1, by omega, by go_num, HF.out⟩
            case measure => simp [intOf]; omega
      · have hpt : part.take r = part := List.take_of_length_le (by omega)
        rw [hpt] at HFs
        have hp0 : (0 : Int) ≤ part.length := by omega
        have hpc : (part.length : Int) ≤ pc := by omega
        clear hpt
        cases pa with
        | none =>
          have hpe : part = [] := HRd.out.1 rfl
          have hpc0 : pc = 0 := HPn.out rfl
          subst hpe hpc0
          rw [List.append_nil] at HFs
          have hle0 : ([] : List Int).length = 0 := rfl
          rw [hle0]
          have hr0i : ¬ (r : Int) < 0 := by omega
          go_region_law (first
            | (go_simp; go_at_call 154; (with_reducible refine (hlft.out _ ((Kept.refl NoB wr).drew)).mono ?_); rintro e wn ⟨rfl, hkn⟩; have e0n : wn.cell? ⟨R, 0, none⟩ = some (.slice ao1 fj.length cap1) := hkn.cell e0; have f0n : wn.frozen? ⟨R, 0, none⟩ = false := obj_free (hSd.keptNo hkn).obj 0)
            | (refine step_app_none rfl (.tmp 23) (.tmp 30) 22 rfl 5 i0 1 Tryz.underlying22 hi _ fj.length (fj.map (.int .u8)) rfl (hkn.row hSd.own (fun _ _ h => h)) rfl ?_))
          all_goals
            have hown' := hkn.row hSd.own (fun _ _ h => h)
            have hF := wr_step (p := []) (x := 0) HS.out HK.out HO.out HCs.out HCz.out (((Kept.refl NoB wr).drew).trans hkn) (by simpa using hown') (World.grownBy.refl _ _) (fun k hk => .inl hk) rfl (HFs.out.trans (List.append_nil _).symm) HFl.out HFsm.out HFall.out
            rw [Nat.add_zero] at hF
            have HF := Lib.hid hF
            clear hF hown' hkn e0n f0n
            go_wp2
            go_roundw
            case rel => exact ⟨j + 1, by omega, by go_num, HF.out⟩
            case measure => simp [intOf]; omega
        | some xa =>
          go_region_law (first
            | (go_simp; go_at_call 154; (with_reducible refine (hlft.out _ ((Kept.refl NoB wr).drew)).mono ?_); rintro e wn ⟨rfl, hkn⟩; have e0n : wn.cell? ⟨R, 0, none⟩ = some (.slice ao1 fj.length cap1) := hkn.cell e0)
            | (refine step_app rfl (.tmp 23) (.tmp 30) 22 rfl 5 i0 (.int .u8 0) 1 1 Tryz.underlying22 hi hz0 hz1 hz2 rfl (by decide) _ fj.length (fj.map (.int .u8)) rfl (hkn.row hSd.own (fun _ _ h => h)) xa part.length pc (part.map (.int .u8)) rfl (by rw [List.length_map]; omega) (reads_news ((HRd.out.keptNo ((Kept.refl NoB wr).drew)).keptNo hkn)) (news_one _) (by unfold maxLen; omega) (by omega) ?_
               intro v' w' hown' hgrow hnew
               obtain ⟨ao2, cap2, rfl⟩ := own_shape hown'
               have oR := (hSd.keptNo hkn).objGrown hgrow
               have g0 : w'.frozen? ⟨R, 0, none⟩ = false := obj_free oR 0
               have g1 : w'.cell? ⟨R, 0, none⟩ = some (.slice ao1 fj.length cap1) := by rw [obj_cell oR 0, HS.out.c0]))
          all_goals
            have hF := wr_step HS.out HK.out HO.out HCs.out HCz.out (((Kept.refl NoB wr).drew).trans hkn) hown' hgrow hnew rfl HFs.out HFl.out HFsm.out HFall.out
            have HF := Lib.hid hF
            clear hF hown' hgrow hnew hkn oR g0 g1 e0n
            go_wp2
            go_roundw
            case rel => exact ⟨j + 1, by omega, by go_num, HF.out⟩
            case measure => simp [intOf]; omega
    · have hjl : j = len := by omega
      have ht : ps.take j = ps := List.take_of_length_le (by have := HLen.out; omega)
      rw [ht] at hS hO
      have d0 : wr.cell? ⟨R, 0, none⟩ = some (.slice ao1 (fill bs m ps).length cap1) := by rw [obj_cell hS.obj 0, hS.c0]
      have hsm1 := hS.sm
      have F : WrR w T cs R L (.slice ao bs.length cap) (fill bs m ps) m wr := ⟨cs1, ao1, cap1, hS, hcz, hcs, hK, hO⟩
      have HF := Lib.hid F
      clear F hS hcz hcs hK hO ht
      obtain ⟨n, hn⟩ : ∃ n, n = (fill bs m ps).length := ⟨_, rfl⟩
      rw [← hn] at d0 hsm1
      have HN := Lib.hid hn; clear hn
      go_wp2
      go_ret
      exact ⟨by rw [← HN.out]; rfl, HF.out⟩
end Go.Proofs.YtfmjfgmbjdhogaaGreatDoor

namespace Go.Proofs.YtfmjfgmbjdhogaaGreatDoor
open Go.RowKit
set_option linter.unusedVariables false
set_option linter.unusedSimpArgs false

structure IV where
  sk : Value
  most : Nat
  wn : Value
  rs : Value
  fr : Int
  sp : Int
  nx : Int
  la : Bool
  lf : Int
  li : Option Addr
  di : Option Addr
  fl : Option Addr
  fd : Option Addr
  us : Int
  at_ : Int
  er : Int
def IV.cs (v : IV) : Array Value := #[v.sk, .int .i64 v.most, v.wn, v.rs, .int .i64 v.fr, .int .i64 v.sp, .int .i64 v.nx, .bool v.la, .int .i64 v.lf, .pointer v.li, .pointer v.di, .pointer v.fl, .pointer v.fd, .int .i64 v.us, .int .i64 v.at_, .int .i64 v.er]
def InfO (w : World) (D : Nat) (v : IV) : Prop := w.heap[D]? = some (.cells v.cs 111 (0, 0))
section
variable {w w' : World} {D : Nat} {v : IV}
theorem InfO.kept {S : Nat → Prop} (h : InfO w D v) (hk : Kept S w w') (hs : ¬ S D) : InfO w' D v := hk.obj h hs
theorem InfO.c0 (h : InfO w D v) : w.cell? ⟨D, 0, none⟩ = some v.sk := by rw [obj_cell h 0]; rfl
theorem InfO.c1 (h : InfO w D v) : w.cell? ⟨D, 1, none⟩ = some (.int .i64 v.most) := by rw [obj_cell h 1]; rfl
theorem InfO.c2 (h : InfO w D v) : w.cell? ⟨D, 2, none⟩ = some v.wn := by rw [obj_cell h 2]; rfl
theorem InfO.c3 (h : InfO w D v) : w.cell? ⟨D, 3, none⟩ = some v.rs := by rw [obj_cell h 3]; rfl
theorem InfO.c4 (h : InfO w D v) : w.cell? ⟨D, 4, none⟩ = some (.int .i64 v.fr) := by rw [obj_cell h 4]; rfl
theorem InfO.c5 (h : InfO w D v) : w.cell? ⟨D, 5, none⟩ = some (.int .i64 v.sp) := by rw [obj_cell h 5]; rfl
theorem InfO.c6 (h : InfO w D v) : w.cell? ⟨D, 6, none⟩ = some (.int .i64 v.nx) := by rw [obj_cell h 6]; rfl
theorem InfO.c7 (h : InfO w D v) : w.cell? ⟨D, 7, none⟩ = some (.bool v.la) := by rw [obj_cell h 7]; rfl
theorem InfO.c8 (h : InfO w D v) : w.cell? ⟨D, 8, none⟩ = some (.int .i64 v.lf) := by rw [obj_cell h 8]; rfl
theorem InfO.c9 (h : InfO w D v) : w.cell? ⟨D, 9, none⟩ = some (.pointer v.li) := by rw [obj_cell h 9]; rfl
theorem InfO.c10 (h : InfO w D v) : w.cell? ⟨D, 10, none⟩ = some (.pointer v.di) := by rw [obj_cell h 10]; rfl
theorem InfO.c11 (h : InfO w D v) : w.cell? ⟨D, 11, none⟩ = some (.pointer v.fl) := by rw [obj_cell h 11]; rfl
theorem InfO.c12 (h : InfO w D v) : w.cell? ⟨D, 12, none⟩ = some (.pointer v.fd) := by rw [obj_cell h 12]; rfl
theorem InfO.c13 (h : InfO w D v) : w.cell? ⟨D, 13, none⟩ = some (.int .i64 v.us) := by rw [obj_cell h 13]; rfl
theorem InfO.c14 (h : InfO w D v) : w.cell? ⟨D, 14, none⟩ = some (.int .i64 v.at_) := by rw [obj_cell h 14]; rfl
theorem InfO.c15 (h : InfO w D v) : w.cell? ⟨D, 15, none⟩ = some (.int .i64 v.er) := by rw [obj_cell h 15]; rfl
theorem InfO.free (h : InfO w D v) (i : Nat) : w.frozen? ⟨D, i, none⟩ = false := obj_free h i
theorem InfO.setWn (h : InfO w D v) (x : Value) : InfO (w.setCell ⟨D, 2, none⟩ x) D { v with wn := x } := by simpa [InfO, IV.cs] using obj_set h 2 x
theorem InfO.setRs (h : InfO w D v) (x : Value) : InfO (w.setCell ⟨D, 3, none⟩ x) D { v with rs := x } := by simpa [InfO, IV.cs] using obj_set h 3 x
theorem InfO.setFr (h : InfO w D v) (x : Int) : InfO (w.setCell ⟨D, 4, none⟩ (.int .i64 x)) D { v with fr := x } := by simpa [InfO, IV.cs] using obj_set h 4 (.int .i64 x)
theorem InfO.setSp (h : InfO w D v) (x : Int) : InfO (w.setCell ⟨D, 5, none⟩ (.int .i64 x)) D { v with sp := x } := by simpa [InfO, IV.cs] using obj_set h 5 (.int .i64 x)
theorem InfO.setNx (h : InfO w D v) (x : Int) : InfO (w.setCell ⟨D, 6, none⟩ (.int .i64 x)) D { v with nx := x } := by simpa [InfO, IV.cs] using obj_set h 6 (.int .i64 x)
theorem InfO.setLa (h : InfO w D v) (x : Bool) : InfO (w.setCell ⟨D, 7, none⟩ (.bool x)) D { v with la := x } := by simpa [InfO, IV.cs] using obj_set h 7 (.bool x)
theorem InfO.setLf (h : InfO w D v) (x : Int) : InfO (w.setCell ⟨D, 8, none⟩ (.int .i64 x)) D { v with lf := x } := by simpa [InfO, IV.cs] using obj_set h 8 (.int .i64 x)
theorem InfO.setLi (h : InfO w D v) (x : Option Addr) : InfO (w.setCell ⟨D, 9, none⟩ (.pointer x)) D { v with li := x } := by simpa [InfO, IV.cs] using obj_set h 9 (.pointer x)
theorem InfO.setDi (h : InfO w D v) (x : Option Addr) : InfO (w.setCell ⟨D, 10, none⟩ (.pointer x)) D { v with di := x } := by simpa [InfO, IV.cs] using obj_set h 10 (.pointer x)
theorem InfO.setFl (h : InfO w D v) (x : Option Addr) : InfO (w.setCell ⟨D, 11, none⟩ (.pointer x)) D { v with fl := x } := by simpa [InfO, IV.cs] using obj_set h 11 (.pointer x)
theorem InfO.setFd (h : InfO w D v) (x : Option Addr) : InfO (w.setCell ⟨D, 12, none⟩ (.pointer x)) D { v with fd := x } := by simpa [InfO, IV.cs] using obj_set h 12 (.pointer x)
theorem InfO.setUs (h : InfO w D v) (x : Int) : InfO (w.setCell ⟨D, 13, none⟩ (.int .i64 x)) D { v with us := x } := by simpa [InfO, IV.cs] using obj_set h 13 (.int .i64 x)
theorem InfO.setAt (h : InfO w D v) (x : Int) : InfO (w.setCell ⟨D, 14, none⟩ (.int .i64 x)) D { v with at_ := x } := by simpa [InfO, IV.cs] using obj_set h 14 (.int .i64 x)
theorem InfO.setEr (h : InfO w D v) (x : Int) : InfO (w.setCell ⟨D, 15, none⟩ (.int .i64 x)) D { v with er := x } := by simpa [InfO, IV.cs] using obj_set h 15 (.int .i64 x)
end
def Sfx (wnd out : List Int) : Prop := (∃ pre, out = pre ++ wnd) ∧ (wnd = out ∨ 32768 ≤ wnd.length)
structure RowU (w : World) (lo : Nat) (v : Value) (xs : List Int) : Prop where
  own : w.ownsRow 0 5 1 v xs.length (xs.map (.int .u8))
  fresh : ∀ k, v.ownBlock = some k → lo ≤ k
theorem RowU.kept {S : Nat → Prop} {w w' : World} {lo : Nat} {v : Value} {xs : List Int} (h : RowU w lo v xs) (hk : Kept S w w') (hs : ∀ k, v.ownBlock = some k → ¬ S k) : RowU w' lo v xs := ⟨hk.row h.own hs, h.fresh⟩
def nxOf : Md → Int
  | .block => 0 | .stored => 1 | .bytes _ => 2 | .head => 3 | .sym _ _ => 4 | .fin => 5
def ModeOk (w : World) (S : Nat → Prop) (v : IV) : Md → Prop
  | .bytes n => v.lf = (n : Int) ∧ 1 ≤ n ∧ n ≤ 65535
  | .sym lit dist => CodeOk lit ∧ CodeOk dist ∧ ∃ Dl Dd, v.li = some ⟨Dl, 0, none⟩ ∧ v.di = some ⟨Dd, 0, none⟩ ∧ DecG lit Dl S w ∧ DecG dist Dd S w
  | _ => True
def FixOk (w : World) (S : Nat → Prop) (v : IV) : Prop := v.fl = none ∨ ∃ Fl Fd, v.fl = some ⟨Fl, 0, none⟩ ∧ v.fd = some ⟨Fd, 0, none⟩ ∧ DecG fixL Fl S w ∧ DecG fixD Fd S w
end Go.Proofs.YtfmjfgmbjdhogaaGreatDoor

namespace Go.Proofs.YtfmjfgmbjdhogaaGreatDoor
open Go.RowKit
set_option linter.unusedVariables false
set_option linter.unusedSimpArgs false

set_option maxRecDepth 20000 in
set_option maxHeartbeats 2000000 in
theorem over_any (w : World) (D : Nat) (v : IV) (h : InfO w D v) :
    Calls Tryz.prog 56 #[.pointer (some ⟨D, 0, none⟩)] w fun e w' => e = .returned (.bool (decide (v.nx = 5 ∨ v.er ≠ 0))) ∧ Kept NoB w w' := by
  have c6 := h.c6
  have c15 := h.c15
  obtain ⟨x, hx⟩ : ∃ x, x = v.nx := ⟨_, rfl⟩
  obtain ⟨y, hy⟩ : ∃ y, y = v.er := ⟨_, rfl⟩
  rw [← hx] at c6 ⊢
  rw [← hy] at c15 ⊢
  clear h hx hy
  by_cases h5 : x = 5
  · subst h5
    go_enter Tryz.func56, Tryz.ntmps56
    go_wp2
    try (go_quiet (fail); go_wp2)
    go_ret
    exact ⟨by simp, by first | exact Kept.refl _ _ | exact (Kept.refl _ _).drewN _⟩
  · have g5 : (x == 5) = false := by simp [h5]
    by_cases h0 : y = 0
    · subst h0
      go_enter Tryz.func56, Tryz.ntmps56
      go_wp2
      try (go_quiet (fail); go_wp2)
      go_ret
      exact ⟨by simp [h5], by first | exact Kept.refl _ _ | exact (Kept.refl _ _).drewN _⟩
    · have g0 : (y != 0) = true := by simp [h0]
      go_enter Tryz.func56, Tryz.ntmps56
      go_wp2
      try (go_quiet (fail); go_wp2)
      go_ret
      exact ⟨by simp [h0], by first | exact Kept.refl _ _ | exact (Kept.refl _ _).drewN _⟩
theorem endM_nx (last : Bool) : nxOf (endM last) = if last then 5 else 0 := by cases last <;> rfl
set_option maxRecDepth 20000 in
set_option maxHeartbeats 2000000 in
theorem endBlock_any (w : World) (D : Nat) (v : IV) (h : InfO w D v) :
    Calls Tryz.prog 153 #[.pointer (some ⟨D, 0, none⟩)] w fun e w' => e = .returned (.tuple #[]) ∧ InfO w' D { v with nx := if v.la then 5 else 0 } ∧ Kept (OneB D) w w' := by
  have c6 := h.c6
  have c7 := h.c7
  have f6 := h.free 6
  have h1 := h.setNx 0
  have f6b := h1.free 6
  have c7b := h1.c7
  have h2 := h1.setNx 5
  have k1 : Kept (OneB D) w (w.setCell ⟨D, 6, none⟩ (.int .i64 0)) := Kept.setCell (S := OneB D) (p := ⟨D, 6, none⟩) (Kept.refl _ w) (.inl rfl) _
  have k2 : Kept (OneB D) w ((w.setCell ⟨D, 6, none⟩ (.int .i64 0)).setCell ⟨D, 6, none⟩ (.int .i64 5)) := Kept.setCell (S := OneB D) (p := ⟨D, 6, none⟩) k1 (.inl rfl) _
  have H1 := Lib.hid h1; have H2 := Lib.hid h2; have K1 := Lib.hid k1; have K2 := Lib.hid k2
  obtain ⟨x, hx⟩ : ∃ x, x = v.nx := ⟨_, rfl⟩
  rw [← hx] at c6
  obtain ⟨y, hy⟩ : ∃ y, y = v.la := ⟨_, rfl⟩
  simp only at c7b
  rw [← hy] at c7 c7b
  have HY := Lib.hid hy
  clear h h1 h2 k1 k2 hx hy
  cases y with
  | false =>
    have hz : (if v.la then (5 : Int) else 0) = 0 := by rw [← HY.out]; rfl
    rw [hz]
    clear hz
    go_enter Tryz.func153, Tryz.ntmps153
    go_wp2
    refine bodyPost_end (results_none rfl _ _ _) rfl ?_
    exact ⟨rfl, H1.out, K1.out⟩
  | true =>
    have hz : (if v.la then (5 : Int) else 0) = 5 := by rw [← HY.out]; rfl
    rw [hz]
    clear hz
    go_enter Tryz.func153, Tryz.ntmps153
    go_wp2
    refine bodyPost_end (results_none rfl _ _ _) rfl ?_
    exact ⟨rfl, H2.out, K2.out⟩
end Go.Proofs.YtfmjfgmbjdhogaaGreatDoor
