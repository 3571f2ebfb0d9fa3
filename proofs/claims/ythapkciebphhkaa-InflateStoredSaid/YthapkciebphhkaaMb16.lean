/-
  Numbers appended onto an own row, in a plain region; apart from the texts on least costs.
  slices.Clone of a row of numbers: an own row.
  lens.Read: a head is read.
  An Inflater beside its reader: what is kept from item to item.
  bits.Rev: the lowest bits turned round.
  Writer.Put: the lowest n bits of a number, behind what is there.
  canon.Write: the codes of places, one behind the other, or nothing.
-/
import Derived.Test.YthapkciebphhkaaMb15
import Derived.Test.YthapkciebphhkaaRows
import Derived.BigRegion
namespace Go.Proofs.Ythapkciebphhkaa
open Go.RowKit
set_option linter.unusedVariables false
set_option linter.unusedSimpArgs false

theorem emp_sa {w0 w : World} (hk : Kept NoB w0 w) (k : Nat) (he : k = w.heap.size) : IntSt w0 (w.alloc (.cells #[] 3)) (some ⟨k, 0, none⟩) 0 0 [] := by
  subst he; exact ⟨rfl, World.ownsRow_lit w #[] 0 (Nat.zero_le _) (Nat.zero_le _) rfl, hk.alloc _, fun k e => by have := hk.size; simp [Value.ownBlock] at e; omega⟩
theorem IntSt.onK {w0 w1 w2 : World} {a : Option Addr} {l c : Nat} {zs : List Int} (h : IntSt w0 w1 a l c zs) (k : Kept NoB w1 w2) : IntSt w0 w2 a l c zs :=
  ⟨h.len, k.row h.own (fun _ _ h => h), h.kept.trans k, h.fresh⟩
/-- Numbers appended to an own row, in a region in its own order. -/
theorem wpList_intsA {ops : Array Oper} {rest : List Oper} {o : Oper} {a : Act} {w : World} {Q : Exit → Act → World → Prop} (hgd : o.guard = none) (s x : Operand)
    (ho : o.op = .call { callee := .builtin .append, args := #[s, x], argTypes := #[29, 29] })
    {w0 : World} {a1 : Option Addr} {l1 c1 : Nat} {zs : List Int} (hS : IntSt w0 w a1 l1 c1 zs) (hs : a.eval s = .slice a1 l1 c1)
    (ad : Addr) (m c : Nat) (news : List Int) (hx : a.eval x = .slice (some ad) m c) (hl : news.length = m) (hnews : ∀ j u, (news.map (Value.int .i64))[j]? = some u → w.cell? (ad.add j) = some u) (h63 : l1 + m ≤ 100000)
    (h : ∀ a2 c2 w', IntSt w0 w' a2 (l1 + m) c2 (zs ++ news) → Kept (OwnB (Value.slice a1 l1 c1)) w w' → wpList Try.prog ops Q rest (a.put o.dst (.slice a2 (l1 + m) c2)) w') : wpList Try.prog ops Q (o :: rest) a w := by
  obtain ⟨i0, hi, hz0, hz1, hz2⟩ := info_parts infoI
  refine wpList_app w hgd s x 29 ho 3 i0 (.int .i64 0) 1 8 (by kernel_rfl) hi hz0 hz1 hz2 rfl (by decide) _ l1 (zs.map (.int .i64)) hs hS.own ad m c (news.map (.int .i64)) hx (by rw [List.length_map, hl, Nat.mul_one]) hnews (fun u hu => by obtain ⟨y, _, rfl⟩ := List.mem_map.1 hu; rfl) (by unfold maxLen; omega) (by omega) ?_
  intro v' w' h2 h3 h4
  obtain ⟨a2, c2, rfl⟩ := own_shape2 h2
  refine h _ _ _ ⟨by rw [List.length_append, hS.len, hl], by rw [List.map_append]; exact h2, hS.kept.grown h3 (fun k hk e => by have := hS.fresh k e; omega), ?_⟩ ?_
  intro k hk
  rcases h4 k hk with h | h
  · exact hS.fresh k h
  · have := hS.kept.size; omega
  · exact (Kept.refl _ w).grown h3 (fun k hk e => e)
theorem IntSt.allocA {w0 w : World} {a : Option Addr} {l c : Nat} {zs : List Int} (h : IntSt w0 w a l c zs) (o : Obj) : IntSt w0 (w.alloc o) a l c zs :=
  ⟨h.len, (Kept.refl NoB w).alloc o |>.row h.own (fun _ _ h => h), h.kept.alloc o, h.fresh⟩
end Go.Proofs.Ythapkciebphhkaa

namespace Go.Proofs.Ythapkciebphhkaa
open Go.RowKit
set_option linter.unusedVariables false
set_option linter.unusedSimpArgs false

set_option maxHeartbeats 1000000 in
theorem icln_any (ad : Addr) (cap B n : Nat) (zs : List Int) (w : World) (hr : RdI w B (some ad) zs) (hn : n = zs.length) (hl : zs.length ≤ 100000) :
    Calls Try.prog 51 #[.slice (some ad) n cap] w fun e w' => ∃ a c, e = .returned (.slice a zs.length c) ∧ OwnI w' a c zs ∧ Kept NoB w w' ∧ (∀ k, (Value.slice a zs.length c).ownBlock = some k → w.heap.size ≤ k) := by
  have q22 : ∀ (w : World) (a : Option Addr) (n c n' c' : Nat), (binOp .eql 29 (.slice a n c) (.slice none n' c')).run Try.prog w = .ok (.bool a.isNone) w := fun w a n c n' c' => Lib.run_eql_slice_nil w _ _ a n c n' c' Try.underlying29
  have hst := emp_sa (Kept.refl NoB w) w.heap.size rfl
  have hrn : ∀ j u, (zs.map (Value.int .i64))[j]? = some u → (w.alloc (.cells #[] 3)).cell? (ad.add j) = some u := by
    intro j u hu
    have hj : j < zs.length := by have := (List.getElem?_eq_some_iff.1 hu).1; simpa using this
    obtain ⟨g, off, he, _, hc⟩ := hr j hj
    cases he
    have := ((Kept.refl NoB w).alloc (.cells #[] 3)).cell hc
    rw [addr_add, this, ← hu]
    simp [List.getD, hj]
  have HSt := Lib.hid hst; have HRn := Lib.hid hrn; have HN := Lib.hid hn
  have hn2 : n ≤ 100000 := by omega
  clear hr hst hrn hn hl
  go_enter Try.func51, Try.ntmps51
  go_wp2_with (at_builtin; refine wpList_intsA rfl _ _ rfl HSt.out rfl ad n cap zs rfl HN.out.symm HRn.out (by omega) ?_)
  intro a6 c6 w6 hs6 hk6
  have HS6 := Lib.hid hs6
  clear hs6 hk6
  go_wp2
  go_ret
  exact ⟨a6, c6, by rw [← HN.out]; rfl, by have h := HS6.out.own; rw [HN.out] at h; exact h, HS6.out.kept, fun k hk => HS6.out.fresh k (by rw [HN.out]; exact hk)⟩
end Go.Proofs.Ythapkciebphhkaa

namespace Go.Proofs.Ythapkciebphhkaa
open Go.RowKit
set_option linter.unusedVariables false
set_option linter.unusedSimpArgs false

theorem DecG.inH {S : Nat → Prop} {ls : List Int} {D : Nat} {w : World} (h : DecG ls D S w) : DecG ls D (fun k => S k ∧ k < w.heap.size) w := by
  obtain ⟨pa, P, pc, h1, h2, h3, h4⟩ := h.all
  exact ⟨⟨h.lt, obj_lt h1.obj⟩, pa, P, pc, h1, fun i hi => by obtain ⟨g, o, k1, k2, k3⟩ := h2 i hi; exact ⟨g, o, k1, ⟨k2, World.block_lt_of_cell? w _ k3⟩, k3⟩, h3, h4⟩
/-- What Read of a head tells, where the reader is then. -/
def HeadRP (bs : List Int) (p R : Nat) (ao : Option Addr) (cap : Nat) (w : World) (e : Ending) (w' : World) : Prop :=
  ∃ (la : Option Addr) (lc : Nat) (lit : List Int) (da : Option Addr) (dc : Nat) (dist : List Int) (f : Int) (q q' : Nat), e = .returned (.tuple #[.slice la lit.length lc, .slice da dist.length dc, .int .i64 f]) ∧
    HeadR bs p lit dist f q ∧ Rdr w' R ao cap bs q' ∧ (f = 0 → q' = q) ∧ OwnI w' la lc lit ∧ OwnI w' da dc dist ∧ Kept (OneB R) w w'
theorem HeadRP.non {bs : List Int} {p R : Nat} {ao : Option Addr} {cap : Nat} {w w' : World} {f : Int} {q q' : Nat} (h : HeadR bs p [] [] f q) (h0 : f ≠ 0) (hr : Rdr w' R ao cap bs q') (hk : Kept (OneB R) w w') :
    HeadRP bs p R ao cap w (.returned (.tuple #[.slice none 0 0, .slice none 0 0, .int .i64 f])) w' :=
  ⟨none, 0, [], none, 0, [], f, q, q', rfl, h, hr, fun h => absurd h h0, World.ownsRow_nil _ _ _ _, World.ownsRow_nil _ _ _ _, hk⟩
theorem and31_u32 (r : Nat) (h : r < 4294967296) : bits .and .u32 (r : Int) 31 = ((r % 32 : Nat) : Int) := by
  have h1 := u32_and_nat r 31 h (by decide)
  rw [show r &&& 31 = r % 32 from Nat.and_two_pow_sub_one_eq_mod r 5] at h1
  exact h1
set_option maxRecDepth 20000 in
set_option maxHeartbeats 8000000 in
theorem lensRead_any (bs : List Int) (p R : Nat) (ao : Option Addr) (cap : Nat) (w : World) (hr : Rdr w R ao cap bs p) :
    Calls Try.prog 41 #[.pointer (some ⟨R, 0, none⟩)] w (HeadRP bs p R ao cap w) := by
  have HR := Lib.hid hr
  clear hr
  by_cases hsh : 8 * bs.length < p + 14
  · have htk := take_no w R ao cap bs p 14 HR.out (.inr (.inr (by omega)))
    have HTk := Lib.hid htk
    have HH := Lib.hid (show HeadR bs p [] [] 2 0 by unfold HeadR; rw [if_pos hsh]; exact ⟨rfl, rfl, rfl⟩)
    clear htk hsh
    go_enter Try.func41, Try.ntmps41
    go_wp2_with fail
    with_reducible refine HTk.out.mono ?_
    rintro e w1 ⟨rfl, hk1⟩
    have HR1 := Lib.hid (HR.out.keptNo hk1); have HK1 := Lib.hid hk1
    clear hk1 HTk
    go_wp2
    go_ret3
    exact HeadRP.non HH.out (by decide) HR1.out (HK1.out.mono (fun _ _ h => h.elim))
  · have htk := take_yes w R ao cap bs p 14 HR.out (by decide) (by omega)
    rw [show ((14 : Nat) : Int) = 14 from rfl] at htk
    obtain ⟨c1, c2, c3⟩ := counts14 bs p
    have hx := bitsAt_lt bs p 14
    obtain ⟨x, hxe⟩ : ∃ x, x = bitsAt bs p 14 := ⟨_, rfl⟩
    rw [← hxe] at htk c1 c2 c3 hx
    have hx2 : x < 16384 := hx
    have e1 := and31_u32 x (by omega)
    have e2 := and31_u32 (x / 32) (by omega)
    rw [c1] at e1
    rw [c2] at e2
    obtain ⟨A, hA⟩ : ∃ A, A = bitsAt bs p 5 := ⟨_, rfl⟩
    obtain ⟨Bv, hB⟩ : ∃ B, B = bitsAt bs (p + 5) 5 := ⟨_, rfl⟩
    obtain ⟨C, hC⟩ : ∃ C, C = bitsAt bs (p + 10) 4 := ⟨_, rfl⟩
    rw [← hA] at e1 c1
    rw [← hB] at e2 c2
    rw [← hC] at c3
    obtain ⟨Y, hY⟩ : ∃ Y, Y = x / 32 := ⟨_, rfl⟩
    rw [← hY] at e2
    have y1 : (x : Int) / 32 = (Y : Int) := by omega
    have y2 : (x : Int) / 1024 = (C : Int) := by omega
    have hA32 : A < 32 := by omega
    have hB32 : Bv < 32 := by omega
    have hC16 : C < 16 := by omega
    have HTk := Lib.hid htk; have HA := Lib.hid hA; have HB := Lib.hid hB; have HC := Lib.hid hC; have HSh := Lib.hid hsh
    clear htk hA hB hC hxe hx c1 c2 hsh hY c3
    go_enter Try.func41, Try.ntmps41
    go_wp2_with fail
    with_reducible refine HTk.out.mono ?_
    rintro e w1 ⟨rfl, hr1, hk1⟩
    have HR1 := Lib.hid hr1; have HK1 := Lib.hid hk1
    clear hr1 hk1 HTk
    go_upto_region 6 with fail
    by_cases hbig : 29 < A ∨ 29 < Bv
    · have HH := Lib.hid (show HeadR bs p [] [] 6 0 by unfold HeadR; rw [if_neg HSh.out, if_pos (by rw [← HA.out, ← HB.out]; exact hbig)]; exact ⟨rfl, rfl, rfl⟩)
      have hg : (286 : Int) < (A : Int) + 257 ∨ ¬ (286 : Int) < (A : Int) + 257 ∧ (30 : Int) < (Bv : Int) + 1 := by omega
      clear hbig
      rcases hg with g1 | ⟨g1, g2⟩
      all_goals
        go_wp2
        go_ret3
        exact HeadRP.non HH.out (by decide) HR1.out HK1.out
    · have g1 : ¬ (286 : Int) < (A : Int) + 257 := by omega
      have g2 : ¬ (30 : Int) < (Bv : Int) + 1 := by omega
      have HSm := Lib.hid hbig
      have hA29 : A ≤ 29 := by omega
      have hB29 : Bv ≤ 29 := by omega
      obtain ⟨n, hn⟩ : ∃ n, n = C + 4 := ⟨_, rfl⟩
      have n1 : (C : Int) + 4 = (n : Int) := by omega
      have hcd := readCode_any bs (p + 14) n R ao cap w1 HR1.out (by omega)
      have HCd := Lib.hid hcd; have HN := Lib.hid hn
      clear hbig hcd hn
      go_wp2_with fail
      with_reducible refine HCd.out.mono ?_
      rintro e w2 ⟨hk2, ⟨q2, hr2, hq2⟩, he⟩
      have HK2 := Lib.hid (HK1.out.trans hk2); have HR2 := Lib.hid hr2
      clear hk2 hr2 HCd
      by_cases hs2 : 8 * bs.length < p + 14 + 3 * n
      · rw [if_pos hs2] at he
        subst he
        have HH := Lib.hid (show HeadR bs p [] [] 2 0 by
          unfold HeadR
          rw [if_neg HSh.out, if_neg (by rw [← HA.out, ← HB.out]; exact HSm.out), if_pos (by rw [← HC.out, ← HN.out]; exact hs2)]; exact ⟨rfl, rfl, rfl⟩)
        clear hs2 hq2
        go_wp2
        go_ret3
        exact HeadRP.non HH.out (by decide) HR2.out HK2.out
      · rw [if_neg hs2] at he
        by_cases hfb : fullB (codeT bs (p + 14) n) = false
        · rw [if_pos hfb] at he
          subst he
          have HH := Lib.hid (show HeadR bs p [] [] 6 0 by
            unfold HeadR
            rw [if_neg HSh.out, if_neg (by rw [← HA.out, ← HB.out]; exact HSm.out), if_neg (by rw [← HC.out, ← HN.out]; exact hs2), if_pos (by rw [← HC.out, ← HN.out]; exact hfb)]; exact ⟨rfl, rfl, rfl⟩)
          clear hs2 hq2 hfb
          go_wp2
          go_ret3
          exact HeadRP.non HH.out (by decide) HR2.out HK2.out
        · rw [if_neg hfb] at he
          obtain ⟨D, rfl, hdg⟩ := he
          have hq := hq2 (by omega)
          subst hq
          obtain ⟨N, hN⟩ : ∃ N, N = (A + 257) + (Bv + 1) := ⟨_, rfl⟩
          have n2 : ((A : Int) + 257) + ((Bv : Int) + 1) = (N : Int) := by omega
          have HR1w := Lib.hid (obj_lt HR1.out.1)
          have hrw := readRow_any (codeT bs (p + 14) n) D R N (fun k => w1.heap.size ≤ k ∧ k < w2.heap.size) ao cap bs (p + 14 + 3 * n) w2 hdg.inH HR2.out (fun h => by have := HR1w.out; omega) (fun k h => h.2) (small7_15 (codeT_small _ _ _)) (by rw [codeT_len]; decide) (by omega)
          have HRw := Lib.hid hrw
          have HHs : Hid (∀ (row : List Int) (q' : Nat) (f : Int) (lit dist : List Int) (e : Int) (q : Nat), RowR (codeT bs (p + 14) n) bs N (p + 14 + 3 * n) [] q' row f → (if f = 0 then if mayB (row.take (A + 257)) (row.drop (A + 257)) = true then lit = row.take (A + 257) ∧ dist = row.drop (A + 257) ∧ e = 0 ∧ q = q' else lit = [] ∧ dist = [] ∧ e = 6 else lit = [] ∧ dist = [] ∧ e = f) → HeadR bs p lit dist e q) := Lib.hid (fun row q' f lit dist e q h1 h2 => by
            unfold HeadR
            rw [if_neg HSh.out, if_neg (by rw [← HA.out, ← HB.out]; exact HSm.out), if_neg (by rw [← HC.out, ← HN.out]; exact hs2), if_neg (by rw [← HC.out, ← HN.out]; exact hfb)]
            rw [← HC.out, ← HN.out, ← HA.out, ← HB.out, ← hN]
            exact ⟨row, q', f, h1, h2⟩)
          clear hrw hdg hs2 hq2 hfb hN
          go_wp2_with fail
          with_reducible refine HRw.out.mono ?_
          rintro e w3 ⟨a3, c3, row, f, q3, q3', rfl, hrr, hr3, hqq, hown, hk3, hnew⟩
          by_cases hf : f = 0
          · subst hf
            obtain ⟨hlen, hsm, _⟩ := hrr.ok rfl (by simp) (fun z hz => by simp at hz) (by have := HR2.out.2.2.2.1; omega)
            have hHs := HHs.out row q3 0
            have HF : Hid (∀ (lit dist : List Int), lit = row.take (A + 257) → dist = row.drop (A + 257) → (mayB lit dist = true → HeadR bs p lit dist 0 q3) ∧ (mayB lit dist = false → HeadR bs p [] [] 6 0)) := Lib.hid (fun lit dist h1 h2 => by
              subst h1 h2
              refine ⟨fun h => hHs _ _ _ _ hrr ?_, fun h => hHs _ _ _ _ hrr ?_⟩
              · rw [if_pos rfl, if_pos h]; exact ⟨rfl, rfl, rfl, rfl⟩
              · rw [if_pos rfl, if_neg (by rw [h]; decide)]; exact ⟨rfl, rfl, rfl⟩)
            obtain ⟨g3, rfl⟩ := own_some hown (by omega)
            obtain ⟨cb1, cb2⟩ := own_cap2 hown
            have hq3 : q3' = q3 := hqq rfl
            subst hq3
            have hrd := own_readsI hown rfl
            have HK3 := Lib.hid (HK2.out.trans hk3); have HR3 := Lib.hid hr3
            obtain ⟨lit, hlit⟩ : ∃ lit, lit = row.take (A + 257) := ⟨_, rfl⟩
            obtain ⟨dist, hdist⟩ : ∃ dist, dist = row.drop (A + 257) := ⟨_, rfl⟩
            have l1 : lit.length = A + 257 := by rw [hlit, List.length_take]; omega
            have l2 : dist.length = Bv + 1 := by rw [hdist, List.length_drop]; omega
            have HF2 := Lib.hid (HF.out lit dist hlit hdist)
            have r1 : RdI w3 w3.heap.size (some ⟨g3, 0, none⟩) lit := fun i hi => by
              obtain ⟨g, o, h1, h2, h3⟩ := hrd i (by omega)
              cases h1
              exact ⟨g3, 0, rfl, h2, by rw [h3, hlit]; simp [List.getD, List.getElem?_take, show i < A + 257 by omega]⟩
            have r2 : RdI w3 w3.heap.size (some ⟨g3, A + 257, none⟩) dist := fun i hi => by
              obtain ⟨g, o, h1, h2, h3⟩ := hrd (A + 257 + i) (by omega)
              cases h1
              refine ⟨g3, _, rfl, h2, ?_⟩
              rw [show A + 257 + i = 0 + (A + 257 + i) by omega, h3, hdist]
              simp [List.getD, List.getElem?_drop]
            have s1 : Small 15 lit := fun z hz => hsm z (by rw [hlit] at hz; exact List.mem_of_mem_take hz)
            have s2 : Small 15 dist := fun z hz => hsm z (by rw [hdist] at hz; exact List.mem_of_mem_drop hz)
            have HS1 := Lib.hid s1; have HS2 := Lib.hid s2
            obtain ⟨u, hu⟩ : ∃ u, u = A + 257 := ⟨_, rfl⟩
            obtain ⟨v, hv⟩ : ∃ v, v = Bv + 1 := ⟨_, rfl⟩
            rw [← hu] at l1 r2
            rw [← hv] at l2
            have HL1 := Lib.hid l1; have HL2 := Lib.hid l2
            have HC1 : Hid (∀ W, Kept NoB w3 W → Calls Try.prog 51 #[.slice (some ⟨g3, 0, none⟩) u c3] W fun e w' => ∃ a c, e = .returned (.slice a lit.length c) ∧ OwnI w' a c lit ∧ Kept NoB W w' ∧ (∀ k, (Value.slice a lit.length c).ownBlock = some k → W.heap.size ≤ k)) := Lib.hid (fun W hW => icln_any _ c3 _ u lit W (r1.keptNo hW) l1.symm (by omega))
            have HC2 : Hid (∀ W, Kept NoB w3 W → Calls Try.prog 51 #[.slice (some ⟨g3, u, none⟩) v (c3 - u)] W fun e w' => ∃ a c, e = .returned (.slice a dist.length c) ∧ OwnI w' a c dist ∧ Kept NoB W w' ∧ (∀ k, (Value.slice a dist.length c).ownBlock = some k → W.heap.size ≤ k)) := Lib.hid (fun W hW => icln_any _ (c3 - u) _ v dist W (r2.keptNo hW) l2.symm (by omega))
            have u1 : (A : Int) + 257 = (u : Int) := by omega
            have u2 : row.length = N := hlen
            have u3 : N = u + v := by omega
            have u4 : ¬ c3 = u := by omega
            have u5 : u ≤ c3 := by omega
            have u6 : u ≤ N := by omega
            have u7 : N - u = v := by omega
            have u8 : (u : Int) ≤ (N : Int) := by omega
            have u9 : (0 : Int) ≤ (u : Int) := by omega
            have HU := Lib.hid (show 257 ≤ u by omega)
            rw [u2] at cb1 ⊢
            rw [u1]
            clear u3 r1 r2 s1 s2 hlit hdist hrd hHs hrr hsm hqq hown hk3 hnew l1 l2 HF HHs hr3 hu hv u1 u2 hlen HRw n2 hA29 hB29 g1 g2 e1 e2
            have hk0 := Kept.refl NoB w3
            go_upto_region 14 with fail
            go_cut [2, 3] from 57 to 65 (fun s t wx => ∃ la lc da dc, s = .slice la lit.length lc ∧ t = .slice da dist.length dc ∧ Hid (OwnI wx la lc lit) ∧ Hid (OwnI wx da dc dist) ∧ Hid (Kept NoB w3 wx))
            case first =>
              go_wp2_with fail
              go_region_held3 (fun W => Kept NoB w3 W) (first | assumption | exact Kept.drew (by assumption) | exact Kept.trans (by assumption) hkn | exact Kept.trans (by assumption) hkm)
                (first
                  | (go_at_call 51; ((with_reducible refine (HC1.out _ (by assumption)).mono ?_); rintro e wn ⟨la, lc, rfl, hla, hkn, hfa⟩; have HLa := Lib.hid hla; clear hla hfa))
                  | (go_at_call 51; ((with_reducible refine (HC2.out _ (by assumption)).mono ?_); rintro e wm ⟨da, dc, rfl, hda, hkm, hfd⟩; have HDa := Lib.hid hda; clear hda hfd)))
              go_wp2
              go_meet
              have hk1 : Kept NoB w3 wn := by first | assumption | exact Kept.trans (by assumption) hkn | exact Kept.trans (Kept.drew (by assumption)) hkn
              exact ⟨la, lc, da, dc, rfl, rfl, Lib.hid (hkm.row HLa.out (fun _ _ h => h)), HDa, Lib.hid (hk1.trans hkm)⟩
            case rest =>
            obtain ⟨la, lc, da, dc, rfl, rfl, HLa, HDa, HKc⟩ := hcut
            have HRc := Lib.hid (HR3.out.keptNo HKc.out); have HK4 := Lib.hid (HK3.out.trans (HKc.out.mono (fun _ _ h => h.elim)))
            have hmb := may_any la lc _ lit da dc _ dist wc HLa.out.reads (fun z hz => by have := HS1.out z hz; omega) HDa.out.reads (fun z hz => by have := HS2.out z hz; omega) (by have := HL1.out; have := HU.out; omega)
            have HMb := Lib.hid hmb
            clear hmb HC1 HC2
            cases hmy : mayB lit dist with
            | true =>
              have HH := Lib.hid (HF2.out.1 hmy)
              rw [hmy] at HMb
              clear hmy
              go_wp2_with fail
              with_reducible refine HMb.out.mono ?_
              rintro e w5 ⟨rfl, hk5⟩
              have HR5 := Lib.hid (HRc.out.keptNo hk5); have HK5 := Lib.hid (HK4.out.trans (hk5.mono (fun _ _ h => h.elim))); have HLa5 := Lib.hid (hk5.row HLa.out (fun _ _ h => h)); have HDa5 := Lib.hid (hk5.row HDa.out (fun _ _ h => h))
              clear hk5 HMb
              go_wp2
              go_ret3
              exact ⟨la, lc, lit, da, dc, dist, 0, _, _, rfl, HH.out, HR5.out, fun _ => rfl, HLa5.out, HDa5.out, HK5.out⟩
            | false =>
              have HH := Lib.hid (HF2.out.2 hmy)
              rw [hmy] at HMb
              clear hmy
              go_wp2_with fail
              with_reducible refine HMb.out.mono ?_
              rintro e w5 ⟨rfl, hk5⟩
              have HR5 := Lib.hid (HRc.out.keptNo hk5); have HK5 := Lib.hid (HK4.out.trans (hk5.mono (fun _ _ h => h.elim)))
              clear hk5 HMb
              go_wp2
              go_ret3
              exact HeadRP.non HH.out (by decide) HR5.out HK5.out
          · have hl0 := hrr.err hf
            subst hl0
            have HH := Lib.hid (HHs.out [] q3 f [] [] f 0 hrr (by rw [if_neg hf]; exact ⟨rfl, rfl, rfl⟩))
            have hf2 : (f == 0) = false := by simp [hf]
            have HFn := Lib.hid hf; have HR3 := Lib.hid hr3; have HK3 := Lib.hid (HK2.out.trans hk3)
            clear hrr hr3 hqq hown hk3 hnew HHs hf HRw
            go_wp2
            go_ret3
            exact HeadRP.non HH.out HFn.out HR3.out HK3.out
end Go.Proofs.Ythapkciebphhkaa

namespace Go.Proofs.Ythapkciebphhkaa
open Go.RowKit
set_option linter.unusedVariables false
set_option linter.unusedSimpArgs false

def LoB (lo : Nat) : Nat → Prop := fun k => lo ≤ k
structure InfS (lo : Nat) (w : World) (D : Nat) (v : IV) (m : Md) (out bs : List Int) (S : Nat → Prop) (R : Nat) (ao : Option Addr) (cap p : Nat) : Prop where
  obj : InfO w D v
  low : lo ≤ D
  lowR : lo ≤ R
  sink : RowU w lo v.sk out
  rest : RowU w lo v.rs bs
  win : ∃ wnd, RowU w lo v.wn wnd ∧ Sfx wnd out ∧ wnd.length < 98304
  sep : ∀ k, v.sk.ownBlock = some k → v.wn.ownBlock ≠ some k
  rd : Rdr w R ao cap bs p
  s : ∀ k, S k → lo ≤ k ∧ k < w.heap.size ∧ k ≠ D ∧ k ≠ R ∧ v.sk.ownBlock ≠ some k ∧ v.wn.ownBlock ≠ some k
  sR : ∀ k, v.rs.ownBlock = some k → S k
  sA : ∀ a, ao = some a → S a.block
  nx : v.nx = nxOf m
  er : v.er = 0
  fit : out.length ≤ v.most
  big : v.most ≤ 9223372036854775807
  all : AllB out
  mode : ModeOk w S v m
  fix : FixOk w S v
theorem InfS.DR {lo : Nat} {w : World} {D : Nat} {v : IV} {m : Md} {out bs : List Int} {S : Nat → Prop} {R : Nat} {ao : Option Addr} {cap p : Nat} (h : InfS lo w D v m out bs S R ao cap p) : D ≠ R := by
  intro e
  have h1 := h.obj
  have h2 := h.rd.1
  unfold InfO at h1
  rw [e, h2] at h1
  simp at h1
theorem InfS.skD {lo : Nat} {w : World} {D : Nat} {v : IV} {m : Md} {out bs : List Int} {S : Nat → Prop} {R : Nat} {ao : Option Addr} {cap p : Nat} (h : InfS lo w D v m out bs S R ao cap p) : ∀ k, v.sk.ownBlock = some k → k ≠ D ∧ k ≠ R :=
  fun k hk => ⟨row_ne h.sink.own h.obj (by decide) k hk, row_ne h.sink.own h.rd.1 (by decide) k hk⟩
theorem InfS.wnD {lo : Nat} {w : World} {D : Nat} {v : IV} {m : Md} {out bs : List Int} {S : Nat → Prop} {R : Nat} {ao : Option Addr} {cap p : Nat} (h : InfS lo w D v m out bs S R ao cap p) : ∀ k, v.wn.ownBlock = some k → k ≠ D ∧ k ≠ R := by
  intro k hk
  obtain ⟨wnd, hw, _⟩ := h.win
  exact ⟨row_ne hw.own h.obj (by decide) k hk, row_ne hw.own h.rd.1 (by decide) k hk⟩
theorem InfS.aoD {lo : Nat} {w : World} {D : Nat} {v : IV} {m : Md} {out bs : List Int} {S : Nat → Prop} {R : Nat} {ao : Option Addr} {cap p : Nat} (h : InfS lo w D v m out bs S R ao cap p) : ∀ k, (Value.slice ao bs.length cap).ownBlock = some k → S k := by
  intro k hk
  cases ao with
  | none => simp [Value.ownBlock] at hk
  | some a =>
    have := h.sA a rfl
    obtain ⟨b, o, sp⟩ := a
    simp [Value.ownBlock] at hk
    rw [← hk]; exact this
theorem ModeOk.kept {S T : Nat → Prop} {w w' : World} {v v' : IV} {m : Md} (h : ModeOk w S v m) (hk : Kept T w w') (hs : ∀ k, S k → ¬ T k) (h1 : v'.lf = v.lf) (h2 : v'.li = v.li) (h3 : v'.di = v.di) : ModeOk w' S v' m := by
  cases m with
  | bytes n => obtain ⟨a, b⟩ := h; exact ⟨h1.trans a, b⟩
  | sym lit dist =>
    obtain ⟨a, b, Dl, Dd, c1, c2, d1, d2⟩ := h
    exact ⟨a, b, Dl, Dd, h2.trans c1, h3.trans c2, d1.kept hk hs, d2.kept hk hs⟩
  | _ => trivial
theorem FixOk.kept {S T : Nat → Prop} {w w' : World} {v v' : IV} (h : FixOk w S v) (hk : Kept T w w') (hs : ∀ k, S k → ¬ T k) (h1 : v'.fl = v.fl) (h2 : v'.fd = v.fd) : FixOk w' S v' := by
  rcases h with h | ⟨a, b, c1, c2, d1, d2⟩
  · exact .inl (h1.trans h)
  · exact .inr ⟨a, b, h1.trans c1, h2.trans c2, d1.kept hk hs, d2.kept hk hs⟩
theorem ModeOk.more {S S' : Nat → Prop} {w : World} {v : IV} {m : Md} (h : ModeOk w S v m) (hs : ∀ k, S k → S' k) : ModeOk w S' v m := by
  cases m with
  | bytes n => exact h
  | sym lit dist =>
    obtain ⟨a, b, Dl, Dd, c1, c2, d1, d2⟩ := h
    exact ⟨a, b, Dl, Dd, c1, c2, d1.mono hs, d2.mono hs⟩
  | _ => trivial
theorem FixOk.more {S S' : Nat → Prop} {w : World} {v : IV} (h : FixOk w S v) (hs : ∀ k, S k → S' k) : FixOk w S' v := by
  rcases h with h | ⟨a, b, c1, c2, d1, d2⟩
  · exact .inl h
  · exact .inr ⟨a, b, c1, c2, d1.mono hs, d2.mono hs⟩
/-- The Inflater's and the reader's own cells alone were written (and new blocks made). -/
theorem InfS.step {lo : Nat} {w w' : World} {D : Nat} {v v' : IV} {m m' : Md} {out bs : List Int} {S S' T : Nat → Prop} {R : Nat} {ao : Option Addr} {cap p q : Nat} (h : InfS lo w D v m out bs S R ao cap p)
    (hk : Kept T w w') (hT : ∀ k, T k → k = D ∨ k = R) (hlo : lo ≤ w.heap.size) (ho : InfO w' D v') (hr : Rdr w' R ao cap bs q) (e1 : v'.sk = v.sk) (e2 : v'.wn = v.wn) (e3 : v'.rs = v.rs) (e4 : v'.most = v.most) (hnx : v'.nx = nxOf m') (her : v'.er = 0)
    (hS : ∀ k, S k → S' k) (hS' : ∀ k, S' k → S k ∨ (w.heap.size ≤ k ∧ k < w'.heap.size)) (hm : ModeOk w' S' v' m') (hf : FixOk w' S' v') : InfS lo w' D v' m' out bs S' R ao cap q := by
  have hsk := h.skD
  have hwn := h.wnD
  have hrs : ∀ k, v.rs.ownBlock = some k → k ≠ D ∧ k ≠ R := fun k hk => ⟨(h.s k (h.sR k hk)).2.2.1, (h.s k (h.sR k hk)).2.2.2.1⟩
  obtain ⟨wnd, hw, hx, hz⟩ := h.win
  refine ⟨ho, h.low, h.lowR, ?_, ?_, ⟨wnd, ?_, hx, hz⟩, ?_, hr, ?_, ?_, ?_, hnx, her, by rw [e4]; exact h.fit, by rw [e4]; exact h.big, h.all, hm, hf⟩
  · rw [e1]; exact h.sink.kept hk (fun k hk1 ht => by have := hsk k hk1; have := hT k ht; omega)
  · rw [e3]; exact h.rest.kept hk (fun k hk1 ht => by have := hrs k hk1; have := hT k ht; omega)
  · rw [e2]; exact hw.kept hk (fun k hk1 ht => by have := hwn k hk1; have := hT k ht; omega)
  · rw [e1, e2]; exact h.sep
  · intro k hk1
    rcases hS' k hk1 with hs | ⟨h1, h2⟩
    · obtain ⟨a, b, c⟩ := h.s k hs
      exact ⟨a, Nat.lt_of_lt_of_le b hk.size, by rw [e1, e2]; exact c⟩
    · have hD := obj_lt h.obj
      have hR := obj_lt h.rd.1
      refine ⟨by omega, h2, by omega, by omega, ?_, ?_⟩
      · rw [e1]; intro e; have := own_lt h.sink.own k e; omega
      · rw [e2]; intro e; have := own_lt hw.own k e; omega
  · rw [e3]; exact fun k hk => hS k (h.sR k hk)
  · exact fun a ha => hS _ (h.sA a ha)
/-- What a call for one item tells, and what it leaves. -/
def ItemW (lo : Nat) (w : World) (D : Nat) (v : IV) (m : Md) (out bs : List Int) (R : Nat) (ao : Option Addr) (cap p : Nat) (er : Int) (w' : World) : Prop :=
  Kept (LoB lo) w w' ∧ ∃ v' m' o' S' p', InfS lo w' D v' m' o' bs S' R ao cap p' ∧ v'.rs = v.rs ∧ v'.fr = v.fr ∧ v'.sp = v.sp ∧ (v'.most = v.most ∧ v'.us = v.us ∧ v'.at_ = v.at_) ∧
    (if er = 0 then Steps bs v.most p m v.la out p' m' v'.la o' ∧ p < p' else (∃ p1 m1 l1 o1, ItemR bs v.most p m v.la out er p1 m1 l1 o1) ∧ o' = out ∧ m' = m ∧ (er = 2 → v'.la = v.la))
/-- Behind the reader alone. -/
theorem InfS.moved {lo : Nat} {w w' : World} {D : Nat} {v : IV} {m : Md} {out bs : List Int} {S T : Nat → Prop} {R : Nat} {ao : Option Addr} {cap p q : Nat} (h : InfS lo w D v m out bs S R ao cap p) (hlo : lo ≤ w.heap.size) (hk : Kept T w w') (hT : ∀ k, T k → k = R) (hr : Rdr w' R ao cap bs q) : InfS lo w' D v m out bs S R ao cap q := by
  have hs : ∀ k, S k → ¬ T k := fun k hs ht => (h.s k hs).2.2.2.1 (hT k ht)
  exact h.step hk (fun k hk => .inr (hT k hk)) hlo (h.obj.kept hk (fun e => h.DR (hT _ e))) hr rfl rfl rfl rfl h.nx h.er (fun _ h => h) (fun _ h => .inl h) (h.mode.kept hk hs rfl rfl rfl) (h.fix.kept hk hs rfl rfl)
/-- An item that fails, with nothing changed but the reader. -/
theorem InfS.fails {lo : Nat} {w w' : World} {D : Nat} {v : IV} {m : Md} {out bs : List Int} {S T : Nat → Prop} {R : Nat} {ao : Option Addr} {cap p q : Nat} (h : InfS lo w D v m out bs S R ao cap p) (hlo : lo ≤ w.heap.size) (hk : Kept T w w') (hT : ∀ k, T k → k = R) (hr : Rdr w' R ao cap bs q) (er : Int) (he : er ≠ 0)
    (hi : ∃ p1 m1 l1 o1, ItemR bs v.most p m v.la out er p1 m1 l1 o1) : ItemW lo w D v m out bs R ao cap p er w' :=
  ⟨hk.mono (fun k _ ht => by have := hT k ht; subst this; exact h.lowR), v, m, out, S, q, h.moved hlo hk hT hr, rfl, rfl, rfl, ⟨rfl, rfl, rfl⟩, by rw [if_neg he]; exact ⟨hi, rfl, rfl, fun _ => rfl⟩⟩
/-- Bytes were put out. -/
theorem InfS.put {lo : Nat} {w w1 w2 : World} {D : Nat} {v : IV} {m : Md} {out bs x wnd' : List Int} {S : Nat → Prop} {R : Nat} {ao : Option Addr} {cap p g : Nat} {sk' wn' : Value} (h : InfS lo w D v m out bs S R ao cap p) (hlo : lo ≤ w.heap.size)
    (hk1 : Kept (OwnB v.wn) w w1) (hg : v.wn.ownBlock = some g ∨ w.heap.size ≤ g) (ho : InfO w2 D { v with sk := sk', wn := wn' }) (hs : RowU w2 lo sk' (out ++ x)) (hw : RowU w2 lo wn' wnd') (hwg : wn'.ownBlock = some g) (hx : Sfx wnd' (out ++ x)) (hl : wnd'.length < 98304)
    (hsep : sk'.ownBlock ≠ some g) (hk2 : Kept (fun j => j = D ∨ j = g ∨ v.sk.ownBlock = some j) w1 w2) (hf : ∀ j, sk'.ownBlock = some j → v.sk.ownBlock = some j ∨ w1.heap.size ≤ j) (hfit : (out ++ x).length ≤ v.most) (hall : AllB x) :
    InfS lo w2 D { v with sk := sk', wn := wn' } m (out ++ x) bs S R ao cap p ∧ Kept (LoB lo) w w2 := by
  have hD := obj_lt h.obj
  have hR := obj_lt h.rd.1
  obtain ⟨wnd, hw0, _, _⟩ := h.win
  have hskl := own_lt h.sink.own
  have hwnl := own_lt hw0.own
  have hsz := hk1.size
  have hS1 : ∀ k, S k → ¬ OwnB v.wn k := fun k hk e => (h.s k hk).2.2.2.2.2 e
  have hS2 : ∀ k, S k → ¬ (k = D ∨ k = g ∨ v.sk.ownBlock = some k) := fun k hk e => by
    obtain ⟨a1, a2, a3, a4, a5, a6⟩ := h.s k hk
    rcases e with e | e | e
    · exact a3 e
    · rcases hg with hg | hg
      · exact a6 (by rw [e]; exact hg)
      · omega
    · exact a5 e
  have hk : Kept (fun j => OwnB v.wn j ∨ j = D ∨ j = g ∨ v.sk.ownBlock = some j) w w2 := (hk1.mono (fun _ _ e => .inl e)).trans (hk2.mono (fun _ _ e => .inr e))
  have hSn : ∀ k, S k → ¬ (OwnB v.wn k ∨ k = D ∨ k = g ∨ v.sk.ownBlock = some k) := fun k hk e => e.elim (hS1 k hk) (hS2 k hk)
  have hRn : ¬ (OwnB v.wn R ∨ R = D ∨ R = g ∨ v.sk.ownBlock = some R) := fun e => by
    rcases e with e | e | e | e
    · exact (h.wnD R e).2 rfl
    · exact h.DR e.symm
    · rcases hg with hg | hg
      · exact (h.wnD g hg).2 e.symm
      · omega
    · exact (h.skD R e).2 rfl
  refine ⟨⟨ho, h.low, h.lowR, hs, ?_, ⟨wnd', hw, hx, hl⟩, ?_, ?_, ?_, h.sR, h.sA, h.nx, h.er, hfit, h.big, ?_, h.mode.kept hk hSn rfl rfl rfl, h.fix.kept hk hSn rfl rfl⟩, hk.mono ?_⟩
  · exact h.rest.kept hk (fun k hk1 => hSn k (h.sR k hk1))
  · intro k hk1 hk2
    rw [hwg] at hk2
    exact hsep (by rw [hk2]; exact hk1)
  · exact h.rd.kept hk hRn (fun k hk1 => hSn k (h.aoD k hk1))
  · intro k hk1
    obtain ⟨a1, a2, a3, a4, a5, a6⟩ := h.s k hk1
    have hz := hk.size
    refine ⟨a1, by omega, a3, a4, ?_, ?_⟩
    · intro e
      rcases hf k e with e | e
      · exact a5 e
      · omega
    · intro e
      rw [hwg] at e
      rcases hg with hg | hg
      · exact a6 (by rw [hg]; exact e)
      · have : g = k := Option.some.inj e
        omega
  · intro b hb
    rcases List.mem_append.1 hb with hb | hb
    · exact h.all b hb
    · exact hall b hb
  · intro k hkl e
    rcases e with e | e | e | e
    · exact hw0.fresh k e
    · exact e ▸ h.low
    · rcases hg with hg | hg
      · exact e ▸ hw0.fresh g hg
      · omega
    · exact h.sink.fresh k e
theorem Sfx.app {wnd out x : List Int} (h : Sfx wnd out) : Sfx (wnd ++ x) (out ++ x) := by
  obtain ⟨⟨pre, h1⟩, h2⟩ := h
  refine ⟨⟨pre, by rw [h1, List.append_assoc]⟩, ?_⟩
  rcases h2 with h2 | h2
  · exact .inl (by rw [h2])
  · exact .inr (by rw [List.length_append]; omega)
theorem Sfx.cut {wnd out : List Int} (h : Sfx wnd out) (k : Nat) (hk : k + 32768 ≤ wnd.length) : Sfx (wnd.drop k) out := by
  obtain ⟨⟨pre, h1⟩, h2⟩ := h
  exact ⟨⟨pre ++ wnd.take k, by rw [h1, List.append_assoc, List.take_append_drop]⟩, .inr (by rw [List.length_drop]; omega)⟩
end Go.Proofs.Ythapkciebphhkaa

namespace Go.Proofs.Ythapkciebphhkaa
open Go.RowKit
set_option linter.unusedVariables false

theorem or16_eq (a : Nat) (ha : a < 4294967296) : bits .or .u32 ((a : Int) / 65536) ((a : Int) * 65536 % 4294967296) = ((a / 65536 ||| a * 65536 % 4294967296 : Nat) : Int) := by
  have h1 : ((a : Int) / 65536) = ((a / 65536 : Nat) : Int) := (Int.natCast_ediv a 65536).symm
  have h3 : ((a : Int) * 65536 % 4294967296) = ((a * 65536 % 4294967296 : Nat) : Int) := by rw [Int.natCast_emod, Int.natCast_mul]; rfl
  rw [h1, h3, u32_or_nat _ _ (Nat.lt_of_le_of_lt (Nat.div_le_self _ _) ha) (Nat.mod_lt _ (by decide))]

theorem net_div (v n : Nat) (hn : n ≤ 32) : ((net v : Nat) : Int) / 2 ^ (32 - n) = ((revN n v : Nat) : Int) := by
  rw [← net_rev v n hn]; push_cast; rfl

end Go.Proofs.Ythapkciebphhkaa

namespace Go.Proofs.Ythapkciebphhkaa
open Go.RowKit
set_option linter.unusedVariables false

theorem drew_heap (w : World) : w.drew.heap = w.heap := rfl
theorem low_eq (v n : Nat) (hv : v < 4294967296) (hn : n ≤ 32) : bits .and .u64 (v : Int) (IntKind.u64.wrap (IntKind.u64.wrap (2 ^ n) - 1)) = ((v % 2 ^ n : Nat) : Int) := by
  rw [wrap_pow n hn]
  have h1 : (1 : Nat) ≤ 2 ^ n := Nat.one_le_two_pow
  have h2 : 2 ^ n ≤ 2 ^ 32 := pow_le_pow2 hn
  have hw : IntKind.u64.wrap ((2 : Int) ^ n - 1) = ((2 ^ n - 1 : Nat) : Int) := by
    rw [IntKind.wrap_u64]
    have e : ((2 : Int) ^ n - 1) = ((2 ^ n - 1 : Nat) : Int) := by rw [Int.natCast_sub h1]; push_cast; rfl
    rw [e]
    omega
  rw [hw, u64_and_nat _ _ (by omega) (by omega), Nat.and_two_pow_sub_one_eq_mod]

end Go.Proofs.Ythapkciebphhkaa

namespace Go.Proofs.Ythapkciebphhkaa
open Go.RowKit
set_option linter.unusedVariables false
set_option linter.unusedSimpArgs false

/-- Numbers of so many bits, one behind the other, the first one lowest. -/
def putsN : List (Nat × Nat) → Nat
  | [] => 0
  | (x, n) :: r => x + putsN r * 2 ^ n
def wdN : List (Nat × Nat) → Nat
  | [] => 0
  | (_, n) :: r => n + wdN r
theorem wdN_append : ∀ a b, wdN (a ++ b) = wdN a + wdN b
  | [], b => by simp [wdN]
  | (x, n) :: r, b => by rw [List.cons_append, wdN, wdN, wdN_append r b]; omega
theorem putsN_append : ∀ a b, putsN (a ++ b) = putsN a + putsN b * 2 ^ wdN a
  | [], b => by simp [putsN, wdN]
  | (x, n) :: r, b => by
    rw [List.cons_append, putsN, putsN, wdN, putsN_append r b, Nat.add_mul, Nat.pow_add, Nat.add_assoc]
    congr 2
    rw [Nat.mul_assoc, Nat.mul_comm (2 ^ wdN r) (2 ^ n)]
theorem putsN_lt : ∀ a, (∀ y ∈ a, y.1 < 2 ^ y.2) → putsN a < 2 ^ wdN a
  | [], _ => by simp [putsN, wdN]
  | (x, n) :: r, h => by
    have h1 : x < 2 ^ n := h (x, n) (List.mem_cons_self ..)
    have h2 := putsN_lt r (fun y hy => h y (List.mem_cons_of_mem _ hy))
    rw [putsN, wdN, Nat.pow_add]
    have h3 : putsN r + 1 ≤ 2 ^ wdN r := h2
    have h4 := Nat.mul_le_mul_right (2 ^ n) h3
    rw [Nat.add_mul, Nat.one_mul, Nat.mul_comm (2 ^ wdN r)] at h4
    omega
/-- What is left of numbers behind the first k. -/
theorem putsN_drop : ∀ (a : List (Nat × Nat)) (k : Nat), (∀ y ∈ a, y.1 < 2 ^ y.2) → putsN a / 2 ^ wdN (a.take k) = putsN (a.drop k)
  | a, 0, _ => by simp [wdN]
  | [], k + 1, _ => by simp [putsN, wdN]
  | (x, n) :: r, k + 1, h => by
    have h1 : x < 2 ^ n := h (x, n) (List.mem_cons_self ..)
    rw [List.take_succ_cons, List.drop_succ_cons, wdN, putsN, Nat.pow_add, ← Nat.div_div_eq_div_mul, Nat.add_mul_div_right _ _ (Nat.two_pow_pos n), Nat.div_eq_of_lt h1, Nat.zero_add]
    exact putsN_drop r k (fun y hy => h y (List.mem_cons_of_mem _ hy))
/-- What a place is written as. -/
def wordZ (ls : List Int) (z : Int) : Nat × Nat := (revN (ls.getD z.toNat 0).toNat (codeAt ls z.toNat).toNat, (ls.getD z.toNat 0).toNat)
def wordsL (ls syms : List Int) : List (Nat × Nat) := syms.map (wordZ ls)
theorem wordZ_lt (ls : List Int) (z : Int) : (wordZ ls z).1 < 2 ^ (wordZ ls z).2 := revN_lt _ _
theorem wordsL_lt (ls syms : List Int) : ∀ y ∈ wordsL ls syms, y.1 < 2 ^ y.2 := by
  intro y hy
  obtain ⟨z, _, rfl⟩ := List.mem_map.1 hy
  exact wordZ_lt ls z
/-- A place that has a code. -/
def HasC (ls : List Int) (z : Int) : Prop := ∃ k : Nat, z = (k : Int) ∧ k < ls.length ∧ 0 < ls.getD k 0
theorem wdN_le (ls : List Int) (hs : Small 15 ls) : ∀ syms : List Int, (∀ z ∈ syms, HasC ls z) → wdN (wordsL ls syms) ≤ 15 * syms.length
  | [], _ => by simp [wordsL, wdN]
  | z :: r, h => by
    have ih := wdN_le ls hs r (fun y hy => h y (List.mem_cons_of_mem _ hy))
    obtain ⟨k, rfl, hk, h0⟩ := h z (List.mem_cons_self ..)
    have hb := hs.getD k hk
    show (ls.getD (k : Int).toNat 0).toNat + wdN (wordsL ls r) ≤ _
    rw [Int.toNat_natCast, List.length_cons]
    omega

theorem Kept.transO {S T : Nat → Prop} {a b c : World} (h : Kept S a b) (k : Kept T b c) (hs : ∀ i, i < a.heap.size → T i → S i) : Kept S a c :=
  ⟨k.os.trans h.os, k.tape.trans h.tape, k.output.trans h.output, Nat.le_trans h.size k.size, fun i hi hn => (k.block i (Nat.lt_of_lt_of_le hi h.size) (fun t => hn (hs i hi t))).trans (h.block i hi hn)⟩
end Go.Proofs.Ythapkciebphhkaa
