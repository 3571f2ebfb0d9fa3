/-
  The document's put: a rising row with one more.
  Least on paper: a rising row of the weights that are there; rows and pairs as numbers.
-/
import Derived.Test.YtdpegahcgaicnaaGreatDoorMg36
namespace Go.Proofs.YtdpegahcgaicnaaGreatDoor
open Go.RowKit
set_option linter.unusedVariables false
set_option linter.unusedSimpArgs false

section
variable {ops : Array Oper} {o : Oper} {a : Act} {w : World} {K : Act → World → Prop} {Q : Exit → Act → World → Prop} {E : Prop}
/-- Numbers appended to an own row, at a step of a region that draws its order. -/
theorem step_ints (hg : o.guard = none) (s x : Operand) (hop : o.op = Op.call { callee := Callee.builtin Builtin.append, args := #[s, x], argTypes := #[23, 23] })
    {w0 : World} {a1 : Option Addr} {l1 c1 : Nat} {zs : List Int} (hS : IntSt w0 w a1 l1 c1 zs) (hs : a.eval s = .slice a1 l1 c1)
    (ad : Addr) (m c : Nat) (news : List Int) (hx : a.eval x = .slice (some ad) m c) (hl : news.length = m) (hnews : ∀ j u, (news.map (Value.int .i64))[j]? = some u → w.cell? (ad.add j) = some u) (h63 : l1 + m ≤ 100000)
    (hK : ∀ a2 c2 w', IntSt w0 w' a2 (l1 + m) c2 (zs ++ news) → Kept (OwnB (Value.slice a1 l1 c1)) w w' → K (a.put o.dst (.slice a2 (l1 + m) c2)) w') :
    if Region.wanted o (yielded ops a.tmps) = true then Oper.wp Tryz.prog o a w K Q else E := by
  have hw : Region.wanted o (yielded ops a.tmps) = true := by simp [Region.wanted, hg]
  rw [if_pos hw]
  obtain ⟨i0, hi, hz0, hz1, hz2⟩ := info_parts infoI
  have h1 : ∀ u ∈ news.map (Value.int .i64), u.oneCell' = true := by
    intro u hu; obtain ⟨y, _, rfl⟩ := List.mem_map.1 hu; rfl
  obtain ⟨v', w', hr, h2, h3, h4⟩ := run_app (P := Tryz.prog) w 3 23 o.type i0 (.int .i64 0) 1 8 (by kernel_rfl) hi hz0 hz1 hz2 rfl (by decide) _ l1 (zs.map (.int .i64)) hS.own ad m c (news.map (.int .i64)) (by rw [List.length_map, hl, Nat.mul_one]) hnews h1 (by unfold maxLen; omega) (by omega)
  obtain ⟨a2, c2, rfl⟩ := own_shape2 h2
  unfold Oper.wp execOp
  simp only [hop, resolve, invoke, builtin, Sem.run_bind, Sem.run_pure, Result.andThen_ok, List.map_toArray, List.map_cons, List.map_nil, hs, hx, hr]
  refine hK _ _ _ ⟨by rw [List.length_append, hS.len, hl], by rw [List.map_append]; exact h2, hS.kept.grown h3 (fun k hk e => by have := hS.fresh k e; omega), ?_⟩ ((Kept.refl _ w).grown h3 (fun k hk e => e))
  intro k hk
  rcases h4 k hk with h | h
  · exact hS.fresh k h
  · have := hS.kept.size; omega
theorem step_ints_none (hg : o.guard = none) (s x : Operand) (hop : o.op = Op.call { callee := Callee.builtin Builtin.append, args := #[s, x], argTypes := #[23, 23] })
    {w0 : World} {a1 : Option Addr} {l1 c1 : Nat} {zs : List Int} (hS : IntSt w0 w a1 l1 c1 zs) (hs : a.eval s = .slice a1 l1 c1) (hx : a.eval x = .slice none 0 0) (hK : K (a.put o.dst (.slice a1 l1 c1)) w) :
    if Region.wanted o (yielded ops a.tmps) = true then Oper.wp Tryz.prog o a w K Q else E := by
  have hw : Region.wanted o (yielded ops a.tmps) = true := by simp [Region.wanted, hg]
  rw [if_pos hw]
  obtain ⟨i0, hi, hz0, hz1, hz2⟩ := info_parts infoI
  have hr := run_append_owned_none (P := Tryz.prog) (w := w) 0 23 o.type 3 i0 1 (by kernel_rfl) hi _ l1 (zs.map (.int .i64)) hS.own
  unfold Oper.wp execOp
  simp only [hop, resolve, invoke, builtin, Sem.run_bind, Sem.run_pure, Result.andThen_ok, List.map_toArray, List.map_cons, List.map_nil, hs, hx, hr]
  exact hK
end
theorem one_on {S : Nat → Prop} {w w' : World} {g : Nat} {v : Value} (hk : Kept S w w') (hg : ¬ S g) (hc : w.cell? ⟨g, 0, none⟩ = some v) : ∀ j u, [v][j]? = some u → w'.cell? ((⟨g, 0, none⟩ : Addr).add j) = some u := by
  intro j u h
  have hj : j = 0 := by
    have := (List.getElem?_eq_some_iff.1 h).1
    simp at this; omega
  subst hj
  simp at h
  subst h
  rw [addr_add]
  exact (World.cell?_of_block (hk.block _ (World.block_lt_of_cell? w _ hc) hg)).trans hc
theorem emp_st {w0 w : World} (hk : Kept NoB w0 w) (k : Nat) (he : k = w.heap.size) : IntSt w0 (w.alloc (.cells #[] 3)) (some ⟨k, 0, none⟩) 0 0 [] := by
  subst he; exact ⟨rfl, World.ownsRow_lit w #[] 0 (Nat.zero_le _) (Nat.zero_le _) rfl, hk.alloc _, fun k e => by have := hk.size; simp [Value.ownBlock] at e; omega⟩
theorem IntSt.alloc {w0 w : World} {a : Option Addr} {l c : Nat} {zs : List Int} (h : IntSt w0 w a l c zs) (o : Obj) : IntSt w0 (w.alloc o) a l c zs :=
  ⟨h.len, (Kept.refl NoB w).alloc o |>.row h.own (fun _ _ h => h), h.kept.alloc o, h.fresh⟩
theorem IntSt.re {w0 w : World} {a : Option Addr} {l l' c : Nat} {zs zs' : List Int} (h : IntSt w0 w a l c zs) (hl : l = l') (hz : zs = zs') : IntSt w0 w a l' c zs' := by subst hl hz; exact h
/-- What put makes. -/
def LPutP (zs : List Int) (x : Int) (k : Nat) : Prop := k ≤ zs.length ∧ (∀ j, k ≤ j → j < zs.length → x < zs.getD j 0) ∧ (∀ j, j + 1 = k → zs.getD j 0 ≤ x)

set_option maxRecDepth 20000 in
set_option maxHeartbeats 1000000 in
theorem put_calls (ao : Option Addr) (ca B : Nat) (zs : List Int) (x : Int) (w : World) (hr : RdI w B ao zs) (hl : zs.length ≤ 1000) (hca : zs.length ≤ ca) (hcm : ca ≤ 9223372036854775807) (hn : ao = none → ca = 0) (hpl : ∀ ad, ao = some ad → ∃ g off, ad = ⟨g, off, none⟩) :
    Calls Tryz.prog 65 #[.slice ao zs.length ca, .int .i64 x] w fun e w' => ∃ a' c' k, LPutP zs x k ∧ e = .returned (.slice a' (zs.length + 1) c') ∧ IntSt w w' a' (zs.length + 1) c' (zs.take k ++ x :: zs.drop k) := by
  have HR := Lib.hid hr
  obtain ⟨n, hnn⟩ : ∃ n, n = zs.length := ⟨_, rfl⟩
  have HN := Lib.hid hnn
  rw [← hnn] at hl hca ⊢
  clear hr hnn
  go_enter Tryz.func65, Tryz.ntmps65
  go_wp2
  go_loopw [5] (fun v5 wr => ∃ k : Nat, v5 = .int .i64 (k : Int) ∧ k ≤ n ∧ Hid (∀ j, k ≤ j → j < n → x < zs.getD j 0) ∧ w = wr) (fun v5 _ => (intOf v5).toNat)
  case atStart => exact ⟨n, rfl, by omega, Lib.hid (fun j h1 h2 => by omega), rfl⟩
  case round =>
    obtain ⟨k, rfl, hk, HX, rfl⟩ := hrel
    have hcs : (∃ q, q + 1 = k ∧ q < n ∧ x < zs.getD q 0) ∨ (LPutP zs x k) := by
      by_cases h0 : k = 0
      · exact .inr ⟨by rw [← HN.out]; exact hk, fun j h1 h2 => HX.out j h1 (by rw [HN.out]; exact h2), fun j h1 => by omega⟩
      · by_cases hq : x < zs.getD (k - 1) 0
        · exact .inl ⟨k - 1, by omega, by omega, hq⟩
        · exact .inr ⟨by rw [← HN.out]; exact hk, fun j h1 h2 => HX.out j h1 (by rw [HN.out]; exact h2), fun j h1 => by subst h1; simp at hq ⊢; omega⟩
    rcases hcs with ⟨q, rfl, hq, hz⟩ | hP
    · obtain ⟨g, off, rfl, _, hc⟩ := HR.out q (by have := HN.out; omega)
      have hx2 : ∀ j, q ≤ j → j < n → x < zs.getD j 0 := by
        intro j h1 h2
        by_cases e : j = q
        · subst e; exact hz
        · exact HX.out j (by omega) h2
      have HX2 := Lib.hid hx2
      obtain ⟨z, hze⟩ : ∃ z, z = zs.getD q 0 := ⟨_, rfl⟩
      rw [← hze] at hz hc
      have e1 : wrap64 (((q + 1 : Nat) : Int) - 1) = (q : Int) := by rw [IntWalk.wrap64_in _ (by omega)]; omega
      clear hx2 hze
      go_wp2
      go_roundw
      case rel => exact ⟨q, by first | rfl | rw [e1], by omega, HX2, by first | trivial | rfl⟩
      case measure => first | (simp [intOf]; done) | (simp [intOf]; omega)
    · have HP := Lib.hid hP
      have hcs : k = 0 ∨ ∃ q, q + 1 = k ∧ ¬ x < zs.getD q 0 := by
        by_cases h0 : k = 0
        · exact .inl h0
        · exact .inr ⟨k - 1, by omega, by have := hP.2.2 (k - 1) (by omega); omega⟩
      clear hP HX
      have k0 : (0 : Int) ≤ (k : Int) := by omega
      have k1 : (k : Int) ≤ ca := by omega
      have k2 : (k : Int) ≤ n := by omega
      cases ao with
      | none =>
        obtain rfl := hn rfl
        obtain rfl : n = 0 := by omega
        obtain rfl : k = 0 := by omega
        have hz : zs = [] := List.eq_nil_of_length_eq_zero HN.out.symm
        clear hcs
        go_wp2_with fail
        go_region_law (first
          | (refine step_ints_none rfl (.tmp 21) (.tmp 24) rfl (emp_st (w0 := w) (w := w.drew) ((Kept.refl NoB w).drew) w.heap.size rfl) rfl rfl ?_; have hs2 := (emp_st (w0 := w) (w := w.drew) ((Kept.refl NoB w).drew) w.heap.size rfl))
          | (refine step_ints_none rfl (.tmp 21) (.tmp 24) rfl ((emp_st (w0 := w) (w := w.drew) ((Kept.refl NoB w).drew) w.heap.size rfl).alloc (.cells #[.int .i64 x] 3)) rfl rfl ?_; have hs2 := ((emp_st (w0 := w) (w := w.drew) ((Kept.refl NoB w).drew) w.heap.size rfl).alloc (.cells #[.int .i64 x] 3)); have hx2 := (one_on (S := NoB) (Kept.refl _ _) (fun h => h) (cell_new (w := w.drew.alloc (.cells #[] 3)) (cs := #[.int .i64 x]) (t := 3) (k := w.heap.size + 1) 0 (by simp))))
          | (refine step_ints_none rfl (.tmp 21) (.tmp 24) rfl (emp_st (w0 := w) (w := w.drew.alloc (.cells #[.int .i64 x] 3)) (((Kept.refl NoB w).drew).alloc (.cells #[.int .i64 x] 3)) (w.heap.size + 1) (by simp)) rfl rfl ?_; have hs2 := (emp_st (w0 := w) (w := w.drew.alloc (.cells #[.int .i64 x] 3)) (((Kept.refl NoB w).drew).alloc (.cells #[.int .i64 x] 3)) (w.heap.size + 1) (by simp)); have hx2 := (one_on (S := NoB) (Kept.refl _ _) (fun h => h) (((Kept.refl NoB (w.drew.alloc (.cells #[.int .i64 x] 3))).alloc (.cells #[] 3)).cell (cell_new (w := w.drew) (cs := #[.int .i64 x]) (t := 3) (k := w.heap.size) 0 rfl))))
          | (refine step_ints rfl (.tmp 25) (.tmp 27) rfl hs2 rfl _ _ _ [x] rfl rfl hx2 (by omega) ?_; intro a3 c3 w3 hs3 hk3)
          | (refine step_ints rfl (.tmp 25) (.tmp 27) rfl (hs2.alloc (.cells #[.int .i64 x] 3)) rfl _ _ _ [x] rfl rfl (one_on (S := NoB) (Kept.refl _ _) (fun h => h) (cell_new (w := w.drew.alloc (.cells #[] 3)) (cs := #[.int .i64 x]) (t := 3) (k := w.heap.size + 1) 0 (by simp))) (by omega) ?_; intro a3 c3 w3 hs3 hk3)
          | (refine step_ints_none rfl (.tmp 28) (.tmp 31) rfl hs3 rfl rfl ?_))
        all_goals
          have HS3 := Lib.hid hs3
          clear hs3 hs2
          go_wp2
          go_ret
          subst hz
          exact ⟨_, _, 0, HP.out, rfl, HS3.out⟩
      | some ad =>
        obtain ⟨g, off, rfl⟩ := hpl ad rfl
        have htk : ∀ W, Kept NoB w W → ∀ j u, ((zs.take k).map (Value.int .i64))[j]? = some u → W.cell? ((⟨g, off, none⟩ : Addr).add j) = some u := by
          intro W hk j u hu
          have hj : j < k ∧ j < zs.length := by have := (List.getElem?_eq_some_iff.1 hu).1; simp at this; omega
          obtain ⟨g', off', he, _, hc⟩ := HR.out j hj.2
          cases he
          rw [addr_add, hk.cell hc, ← hu]
          simp [List.getD, hj.2, List.getElem?_take, hj.1]
        have hdr : ∀ W, Kept NoB w W → ∀ j u, ((zs.drop k).map (Value.int .i64))[j]? = some u → W.cell? ((⟨g, off + k, none⟩ : Addr).add j) = some u := by
          intro W hk j u hu
          have hj : k + j < zs.length := by have := (List.getElem?_eq_some_iff.1 hu).1; simp at this; omega
          obtain ⟨g', off', he, _, hc⟩ := HR.out (k + j) hj
          cases he
          rw [addr_add, Nat.add_assoc, hk.cell hc, ← hu]
          simp [List.getD, hj, List.getElem?_drop]
        have htl : (zs.take k).length = k := by rw [List.length_take]; have := HN.out; omega
        have hdl : (zs.drop k).length = n - k := by rw [List.length_drop]; have := HN.out; omega
        have hdn : ca = k → ∀ (W : World) (ad : Addr) (j : Nat) (u : Value), ((zs.drop k).map (Value.int .i64))[j]? = some u → W.cell? (ad.add j) = some u := by
          intro e W ad j u hu
          rw [List.drop_of_length_le (by have := HN.out; omega)] at hu
          simp at hu
        have hlen : ((([] ++ zs.take k) ++ [x]) ++ zs.drop k) = zs.take k ++ x :: zs.drop k := by simp
        have HTk := Lib.hid htk; have HDr := Lib.hid hdr; have HTl := Lib.hid htl; have HDl := Lib.hid hdl; have HDn := Lib.hid hdn; have HLe := Lib.hid hlen
        clear htk hdr htl hdl hdn hlen
        by_cases hne : ca = k
        · subst hne
          have HDm := Lib.hid (HDn.out rfl)
          clear HDn
          rcases hcs with rfl | ⟨q, hqk, hq⟩
          · obtain rfl : n = 0 := by omega
            go_wp2_with fail
            go_region_law (first
              | (refine step_ints rfl (.tmp 21) (.tmp 24) rfl (emp_st (w0 := w) (w := w.drew) ((Kept.refl NoB w).drew) w.heap.size rfl) rfl _ _ _ (zs.take (0)) rfl HTl.out (HTk.out _ (((Kept.refl NoB w).drew).alloc (.cells #[] 3))) (by omega) ?_; intro a2 c2 w2 hs2 hk2; have hs2 := hs2.re (Nat.zero_add _) rfl)
              | (refine step_ints rfl (.tmp 21) (.tmp 24) rfl ((emp_st (w0 := w) (w := w.drew) ((Kept.refl NoB w).drew) w.heap.size rfl).alloc (.cells #[.int .i64 x] 3)) rfl _ _ _ (zs.take (0)) rfl HTl.out (HTk.out _ ((((Kept.refl NoB w).drew).alloc (.cells #[] 3)).alloc (.cells #[.int .i64 x] 3))) (by omega) ?_; intro a2 c2 w2 hs2 hk2; have hs2 := hs2.re (Nat.zero_add _) rfl; have hx2 := one_on (g := w.heap.size + 1) hk2 (by intro h; simp [OwnB, Value.ownBlock] at h) (cell_new (w := w.drew.alloc (.cells #[] 3)) (cs := #[.int .i64 x]) (t := 3) (k := w.heap.size + 1) 0 (by simp)))
              | (refine step_ints rfl (.tmp 21) (.tmp 24) rfl (emp_st (w0 := w) (w := w.drew.alloc (.cells #[.int .i64 x] 3)) (((Kept.refl NoB w).drew).alloc (.cells #[.int .i64 x] 3)) (w.heap.size + 1) (by simp)) rfl _ _ _ (zs.take (0)) rfl HTl.out (HTk.out _ ((((Kept.refl NoB w).drew).alloc (.cells #[.int .i64 x] 3)).alloc (.cells #[] 3))) (by omega) ?_; intro a2 c2 w2 hs2 hk2; have hs2 := hs2.re (Nat.zero_add _) rfl; have hx2 := one_on (g := w.heap.size) hk2 (by intro h; simp [OwnB, Value.ownBlock] at h) (((Kept.refl NoB (w.drew.alloc (.cells #[.int .i64 x] 3))).alloc (.cells #[] 3)).cell (cell_new (w := w.drew) (cs := #[.int .i64 x]) (t := 3) (k := w.heap.size) 0 rfl)))
              | (refine step_ints rfl (.tmp 25) (.tmp 27) rfl hs2 rfl _ _ _ [x] rfl rfl hx2 (by omega) ?_; intro a3 c3 w3 hs3 hk3)
              | (refine step_ints rfl (.tmp 25) (.tmp 27) rfl (hs2.alloc (.cells #[.int .i64 x] 3)) rfl _ _ _ [x] rfl rfl (cell_one_new w2 (.int .i64 x) 3) (by omega) ?_; intro a3 c3 w3 hs3 hk3)
              | (refine step_ints rfl (.tmp 28) (.tmp 31) rfl hs3 rfl _ _ _ (zs.drop (0)) rfl HDl.out (HDm.out _ _) (by omega) ?_; intro a4 c4 w4 hs4 hk4))
            all_goals
              have HS4 := Lib.hid (hs4.re (l' := 0 + 1) (by omega) HLe.out)
              clear hs4 hs3 hs2 hk2 hk3 hk4
              go_wp2
              go_ret
              exact ⟨_, _, _, HP.out, rfl, HS4.out⟩
          · obtain rfl : n = ca := by omega
            obtain ⟨g', off', he, _, hc⟩ := HR.out q (by have := HN.out; omega)
            cases he
            obtain ⟨z, hze⟩ : ∃ z, z = zs.getD q 0 := ⟨_, rfl⟩
            rw [← hze] at hq hc
            obtain rfl : q = n - 1 := by omega
            have e2 : 0 < n := by omega
            have e3 : n - 1 < n := by omega
            clear hze hqk
            go_wp2_with fail
            go_region_law (first
              | (refine step_ints rfl (.tmp 21) (.tmp 24) rfl (emp_st (w0 := w) (w := w.drew) ((Kept.refl NoB w).drew) w.heap.size rfl) rfl _ _ _ (zs.take n) rfl HTl.out (HTk.out _ (((Kept.refl NoB w).drew).alloc (.cells #[] 3))) (by omega) ?_; intro a2 c2 w2 hs2 hk2; have hs2 := hs2.re (Nat.zero_add _) rfl)
              | (refine step_ints rfl (.tmp 21) (.tmp 24) rfl ((emp_st (w0 := w) (w := w.drew) ((Kept.refl NoB w).drew) w.heap.size rfl).alloc (.cells #[.int .i64 x] 3)) rfl _ _ _ (zs.take n) rfl HTl.out (HTk.out _ ((((Kept.refl NoB w).drew).alloc (.cells #[] 3)).alloc (.cells #[.int .i64 x] 3))) (by omega) ?_; intro a2 c2 w2 hs2 hk2; have hs2 := hs2.re (Nat.zero_add _) rfl; have hx2 := one_on (g := w.heap.size + 1) hk2 (by intro h; simp [OwnB, Value.ownBlock] at h) (cell_new (w := w.drew.alloc (.cells #[] 3)) (cs := #[.int .i64 x]) (t := 3) (k := w.heap.size + 1) 0 (by simp)))
              | (refine step_ints rfl (.tmp 21) (.tmp 24) rfl (emp_st (w0 := w) (w := w.drew.alloc (.cells #[.int .i64 x] 3)) (((Kept.refl NoB w).drew).alloc (.cells #[.int .i64 x] 3)) (w.heap.size + 1) (by simp)) rfl _ _ _ (zs.take n) rfl HTl.out (HTk.out _ ((((Kept.refl NoB w).drew).alloc (.cells #[.int .i64 x] 3)).alloc (.cells #[] 3))) (by omega) ?_; intro a2 c2 w2 hs2 hk2; have hs2 := hs2.re (Nat.zero_add _) rfl; have hx2 := one_on (g := w.heap.size) hk2 (by intro h; simp [OwnB, Value.ownBlock] at h) (((Kept.refl NoB (w.drew.alloc (.cells #[.int .i64 x] 3))).alloc (.cells #[] 3)).cell (cell_new (w := w.drew) (cs := #[.int .i64 x]) (t := 3) (k := w.heap.size) 0 rfl)))
              | (refine step_ints rfl (.tmp 25) (.tmp 27) rfl hs2 rfl _ _ _ [x] rfl rfl hx2 (by omega) ?_; intro a3 c3 w3 hs3 hk3)
              | (refine step_ints rfl (.tmp 25) (.tmp 27) rfl (hs2.alloc (.cells #[.int .i64 x] 3)) rfl _ _ _ [x] rfl rfl (cell_one_new w2 (.int .i64 x) 3) (by omega) ?_; intro a3 c3 w3 hs3 hk3)
              | (refine step_ints rfl (.tmp 28) (.tmp 31) rfl hs3 rfl _ _ _ (zs.drop n) rfl (HDl.out.trans (Nat.sub_self _)) (HDm.out _ _) (by omega) ?_; intro a4 c4 w4 hs4 hk4))
            all_goals
              have HS4 := Lib.hid (hs4.re (l' := n + 1) (by omega) HLe.out)
              clear hs4 hs3 hs2 hk2 hk3 hk4
              go_wp2
              go_ret
              exact ⟨_, _, _, HP.out, rfl, HS4.out⟩
        · rcases hcs with rfl | ⟨q, hqk, hq⟩
          · clear HDn
            go_wp2_with fail
            go_region_law (first
              | (refine step_ints rfl (.tmp 21) (.tmp 24) rfl (emp_st (w0 := w) (w := w.drew) ((Kept.refl NoB w).drew) w.heap.size rfl) rfl _ _ _ (zs.take (0)) rfl HTl.out (HTk.out _ (((Kept.refl NoB w).drew).alloc (.cells #[] 3))) (by omega) ?_; intro a2 c2 w2 hs2 hk2; have hs2 := hs2.re (Nat.zero_add _) rfl)
              | (refine step_ints rfl (.tmp 21) (.tmp 24) rfl ((emp_st (w0 := w) (w := w.drew) ((Kept.refl NoB w).drew) w.heap.size rfl).alloc (.cells #[.int .i64 x] 3)) rfl _ _ _ (zs.take (0)) rfl HTl.out (HTk.out _ ((((Kept.refl NoB w).drew).alloc (.cells #[] 3)).alloc (.cells #[.int .i64 x] 3))) (by omega) ?_; intro a2 c2 w2 hs2 hk2; have hs2 := hs2.re (Nat.zero_add _) rfl; have hx2 := one_on (g := w.heap.size + 1) hk2 (by intro h; simp [OwnB, Value.ownBlock] at h) (cell_new (w := w.drew.alloc (.cells #[] 3)) (cs := #[.int .i64 x]) (t := 3) (k := w.heap.size + 1) 0 (by simp)))
              | (refine step_ints rfl (.tmp 21) (.tmp 24) rfl (emp_st (w0 := w) (w := w.drew.alloc (.cells #[.int .i64 x] 3)) (((Kept.refl NoB w).drew).alloc (.cells #[.int .i64 x] 3)) (w.heap.size + 1) (by simp)) rfl _ _ _ (zs.take (0)) rfl HTl.out (HTk.out _ ((((Kept.refl NoB w).drew).alloc (.cells #[.int .i64 x] 3)).alloc (.cells #[] 3))) (by omega) ?_; intro a2 c2 w2 hs2 hk2; have hs2 := hs2.re (Nat.zero_add _) rfl; have hx2 := one_on (g := w.heap.size) hk2 (by intro h; simp [OwnB, Value.ownBlock] at h) (((Kept.refl NoB (w.drew.alloc (.cells #[.int .i64 x] 3))).alloc (.cells #[] 3)).cell (cell_new (w := w.drew) (cs := #[.int .i64 x]) (t := 3) (k := w.heap.size) 0 rfl)))
              | (refine step_ints rfl (.tmp 25) (.tmp 27) rfl hs2 rfl _ _ _ [x] rfl rfl hx2 (by omega) ?_; intro a3 c3 w3 hs3 hk3)
              | (refine step_ints rfl (.tmp 25) (.tmp 27) rfl (hs2.alloc (.cells #[.int .i64 x] 3)) rfl _ _ _ [x] rfl rfl (cell_one_new w2 (.int .i64 x) 3) (by omega) ?_; intro a3 c3 w3 hs3 hk3)
              | (refine step_ints rfl (.tmp 28) (.tmp 31) rfl hs3 rfl _ _ _ (zs.drop (0)) rfl HDl.out (HDr.out _ hs3.kept) (by omega) ?_; intro a4 c4 w4 hs4 hk4))
            all_goals
              have HS4 := Lib.hid (hs4.re (l' := 1 + n) (by omega) HLe.out)
              clear hs4 hs3 hs2 hk2 hk3 hk4
              go_wp2
              go_ret
              rw [Nat.add_comm n 1]
              exact ⟨_, _, _, HP.out, rfl, HS4.out⟩
          · clear HDn
            obtain ⟨g', off', he, _, hc⟩ := HR.out q (by have := HN.out; omega)
            cases he
            obtain ⟨z, hze⟩ : ∃ z, z = zs.getD q 0 := ⟨_, rfl⟩
            rw [← hze] at hq hc
            obtain rfl : q = k - 1 := by omega
            have e2 : 0 < k := by omega
            have e3 : k - 1 < n := by omega
            clear hze hqk
            go_wp2_with fail
            go_region_law (first
              | (refine step_ints rfl (.tmp 21) (.tmp 24) rfl (emp_st (w0 := w) (w := w.drew) ((Kept.refl NoB w).drew) w.heap.size rfl) rfl _ _ _ (zs.take k) rfl HTl.out (HTk.out _ (((Kept.refl NoB w).drew).alloc (.cells #[] 3))) (by omega) ?_; intro a2 c2 w2 hs2 hk2; have hs2 := hs2.re (Nat.zero_add _) rfl)
              | (refine step_ints rfl (.tmp 21) (.tmp 24) rfl ((emp_st (w0 := w) (w := w.drew) ((Kept.refl NoB w).drew) w.heap.size rfl).alloc (.cells #[.int .i64 x] 3)) rfl _ _ _ (zs.take k) rfl HTl.out (HTk.out _ ((((Kept.refl NoB w).drew).alloc (.cells #[] 3)).alloc (.cells #[.int .i64 x] 3))) (by omega) ?_; intro a2 c2 w2 hs2 hk2; have hs2 := hs2.re (Nat.zero_add _) rfl; have hx2 := one_on (g := w.heap.size + 1) hk2 (by intro h; simp [OwnB, Value.ownBlock] at h) (cell_new (w := w.drew.alloc (.cells #[] 3)) (cs := #[.int .i64 x]) (t := 3) (k := w.heap.size + 1) 0 (by simp)))
              | (refine step_ints rfl (.tmp 21) (.tmp 24) rfl (emp_st (w0 := w) (w := w.drew.alloc (.cells #[.int .i64 x] 3)) (((Kept.refl NoB w).drew).alloc (.cells #[.int .i64 x] 3)) (w.heap.size + 1) (by simp)) rfl _ _ _ (zs.take k) rfl HTl.out (HTk.out _ ((((Kept.refl NoB w).drew).alloc (.cells #[.int .i64 x] 3)).alloc (.cells #[] 3))) (by omega) ?_; intro a2 c2 w2 hs2 hk2; have hs2 := hs2.re (Nat.zero_add _) rfl; have hx2 := one_on (g := w.heap.size) hk2 (by intro h; simp [OwnB, Value.ownBlock] at h) (((Kept.refl NoB (w.drew.alloc (.cells #[.int .i64 x] 3))).alloc (.cells #[] 3)).cell (cell_new (w := w.drew) (cs := #[.int .i64 x]) (t := 3) (k := w.heap.size) 0 rfl)))
              | (refine step_ints rfl (.tmp 25) (.tmp 27) rfl hs2 rfl _ _ _ [x] rfl rfl hx2 (by omega) ?_; intro a3 c3 w3 hs3 hk3)
              | (refine step_ints rfl (.tmp 25) (.tmp 27) rfl (hs2.alloc (.cells #[.int .i64 x] 3)) rfl _ _ _ [x] rfl rfl (cell_one_new w2 (.int .i64 x) 3) (by omega) ?_; intro a3 c3 w3 hs3 hk3)
              | (refine step_ints rfl (.tmp 28) (.tmp 31) rfl hs3 rfl _ _ _ (zs.drop k) rfl HDl.out (HDr.out _ hs3.kept) (by omega) ?_; intro a4 c4 w4 hs4 hk4))
            all_goals
              have HS4 := Lib.hid (hs4.re (l' := k + 1 + (n - k)) (by omega) HLe.out)
              clear hs4 hs3 hs2 hk2 hk3 hk4
              go_wp2
              go_ret
              rw [show n + 1 = k + 1 + (n - k) by omega]
              exact ⟨_, _, _, HP.out, rfl, HS4.out⟩
end Go.Proofs.YtdpegahcgaicnaaGreatDoor

namespace Go.Proofs.YtdpegahcgaicnaaGreatDoor
open Go.RowKit
set_option linter.unusedVariables false
set_option linter.unusedSimpArgs false

theorem put_perm {zs : List Int} {x : Int} {k : Nat} : (zs.take k ++ x :: zs.drop k).Perm (x :: zs) := by
  have h := List.perm_middle (a := x) (l₁ := zs.take k) (l₂ := zs.drop k)
  rw [List.take_append_drop] at h
  exact h
theorem put_srd {zs : List Int} {x : Int} {k : Nat} (h : Srd zs) (hp : LPutP zs x k) : Srd (zs.take k ++ x :: zs.drop k) := by
  obtain ⟨h1, h2, h3⟩ := hp
  unfold Srd at *
  have hx1 : ∀ u ∈ zs.take k, u ≤ x := by
    intro u hu
    obtain ⟨j, hj, rfl⟩ := List.mem_iff_getElem.1 hu
    have hjk : j < k ∧ j < zs.length := by simp at hj; omega
    have a1 := srd_get h (i := j) (j := k - 1) (by omega) (by omega)
    have a2 := h3 (k - 1) (by omega)
    have a3 : zs.getD j 0 = (zs.take k)[j] := by simp [List.getD, hjk.2]
    rw [← a3]; omega
  have hx2 : ∀ u ∈ zs.drop k, x ≤ u := by
    intro u hu
    obtain ⟨j, hj, rfl⟩ := List.mem_iff_getElem.1 hu
    have hjk : k + j < zs.length := by simp at hj; omega
    have a1 := h2 (k + j) (by omega) hjk
    have a3 : zs.getD (k + j) 0 = (zs.drop k)[j] := by simp [List.getD, hjk]
    rw [← a3]; omega
  rw [List.pairwise_append]
  refine ⟨h.sublist (List.take_sublist _ _), ?_, ?_⟩
  · rw [List.pairwise_cons]
    exact ⟨hx2, h.sublist (List.drop_sublist _ _)⟩
  · intro u hu v hv
    rcases List.mem_cons.1 hv with rfl | hv
    · exact hx1 u hu
    · exact Int.le_trans (hx1 u hu) (hx2 v hv)
/-- The weights that are there. -/
def posL (ws : List Int) : List Int := ws.filter (fun z => decide (0 < z))
theorem pos_leaves : ∀ (ws : List Int) (i : Nat), (leavesL i ws).map (·.2) = posL ws
  | [], i => rfl
  | z :: r, i => by
    have h := pos_leaves r (i + 1)
    show ((if 0 < z then ((i : Int), z) :: leavesL (i + 1) r else leavesL (i + 1) r)).map (·.2) = (z :: r).filter (fun z => decide (0 < z))
    by_cases hz : 0 < z
    · rw [if_pos hz, List.filter_cons_of_pos (by simpa using hz), List.map_cons, h]; rfl
    · rw [if_neg hz, List.filter_cons_of_neg (by simpa using hz), h]; rfl
theorem pos_step (ws : List Int) (j : Nat) (h : j < ws.length) : posL (ws.take (j + 1)) = if 0 < ws.getD j 0 then posL (ws.take j) ++ [ws.getD j 0] else posL (ws.take j) := by
  have e : ws.take (j + 1) = ws.take j ++ [ws.getD j 0] := by rw [List.take_succ_eq_append_getElem h]; simp [List.getD, h]
  rw [e]
  unfold posL
  rw [List.filter_append]
  by_cases hz : 0 < ws.getD j 0
  · rw [if_pos hz, List.filter_cons_of_pos (by simpa using hz)]; rfl
  · rw [if_neg hz, List.filter_cons_of_neg (by simpa using hz)]; simp
theorem pos_len (ws : List Int) (j : Nat) : (posL (ws.take j)).length ≤ j := Nat.le_trans (List.length_filter_le _ _) (by rw [List.length_take]; omega)
/-- A rising row is its own sort. -/
theorem srd_unique {xs ys : List Int} (h : Srd xs) (k : Srd ys) (hp : xs.Perm ys) : xs = ys := hp.eq_of_pairwise (fun a b _ _ h1 h2 => by omega) h k
/-- Rows as numbers. -/
def vals (T : List It) : List Int := T.map (·.1)
theorem pairs_step (T : List It) (i : Nat) (h : 2 * i + 1 < T.length) : (pairsL T).take (i + 1) = (pairsL T).take i ++ [(vals T).getD (2 * i) 0 + (vals T).getD (2 * i + 1) 0] := by
  induction i generalizing T with
  | zero =>
    match T, h with
    | a :: b :: r, _ => simp [pairsL, vals]
  | succ i ih =>
    match T, h with
    | a :: b :: r, h =>
      have := ih r (by simp at h; omega)
      rw [show pairsL (a :: b :: r) = (a.1 + b.1) :: pairsL r from rfl, List.take_succ_cons, this, List.take_succ_cons]
      rw [show 2 * (i + 1) + 1 = (2 * i + 1) + 1 + 1 by omega, show 2 * (i + 1) = 2 * i + 1 + 1 by omega]
      simp [vals]
/-- One more of the merged row: the lesser, a leaf first. -/
theorem mrg_step_leaf (P ls : List Int) (hl : ls ≠ []) (h : P = [] ∨ ls.getD 0 0 ≤ P.getD 0 0) : vals (mrg P ls) = ls.getD 0 0 :: vals (mrg P ls.tail) := by
  cases ls with
  | nil => exact absurd rfl hl
  | cons z r =>
    cases P with
    | nil => rfl
    | cons w P =>
      have : z ≤ w := by rcases h with h | h; cases h; simpa using h
      rw [mrg_le w z P r this]; rfl
theorem mrg_step_pair (P ls : List Int) (hp : P ≠ []) (h : ls = [] ∨ ¬ ls.getD 0 0 ≤ P.getD 0 0) : vals (mrg P ls) = P.getD 0 0 :: vals (mrg P.tail ls) := by
  cases P with
  | nil => exact absurd rfl hp
  | cons w P =>
    cases ls with
    | nil => rw [mrg_cons_nil]; rfl
    | cons z r =>
      have : ¬ z ≤ w := by rcases h with h | h; cases h; simpa using h
      rw [mrg_gt w z P r this]; rfl
theorem drop_getD0 (l : List Int) (j : Nat) : (l.drop j).getD 0 0 = l.getD j 0 := by simp [List.getD, List.getElem?_drop]
end Go.Proofs.YtdpegahcgaicnaaGreatDoor
