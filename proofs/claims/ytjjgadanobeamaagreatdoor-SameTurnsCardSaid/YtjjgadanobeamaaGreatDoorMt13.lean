/-
  A tree of files in memory: Make.
-/
import Derived.Test.YtjjgadanobeamaaGreatDoorMt12
namespace Go.Proofs.YtjjgadanobeamaaGreatDoor
open Go.RowKit
set_option linter.unusedVariables false
set_option linter.unusedSimpArgs false
set_option maxRecDepth 20000

theorem FsIn.mono {L : Nat → Lab} {B : Int → Option Nat} {mb : Nat} {S S' : Nat → Prop} {w : World} {f : Nat} {T : FsP} (h : FsIn L B mb S w f T) (hs : ∀ k, S k → S' k) : FsIn L B mb S' w f T :=
  ⟨h.ok, h.obj, h.labf, h.labm, h.tab, h.dom, h.node, fun k hk => ⟨hs k (h.own k hk).1, (h.own k hk).2⟩⟩
theorem FsSt.mono {S S' : Nat → Prop} {w : World} {f : Nat} {T : FsP} (h : FsSt S w f T) (hs : ∀ k, S k → S' k) : FsSt S' w f T := by
  obtain ⟨L, B, mb, h⟩ := h
  exact ⟨L, B, mb, h.mono hs⟩
theorem DatSt.relab {L L' : Nat → Lab} {i : Int} {w : World} {a : Option Addr} {l c : Nat} {qs : List FpQ} (h : DatSt L i w a l c qs) (hl : ∀ k x, L k = x → x ≠ .no → L' k = x) : DatSt L' i w a l c qs :=
  ⟨h.len, h.own, fun k e => hl k _ (h.lab k e) (by simp), h.each, fun q hq k e => hl k _ (h.labs q hq k e) (by simp), h.apart⟩
theorem NdSt.relab {L L' : Nat → Lab} {i : Int} {w : World} {b : Nat} {n : NdP} {m : Option Nat} {a : Option Addr} {c : Nat} {qs : List FpQ} (h : NdSt L i w b n m a c qs) (hl : ∀ k x, L k = x → x ≠ .no → L' k = x) : NdSt L' i w b n m a c qs where
  obj := h.obj
  lab := hl _ _ h.lab (by simp)
  dir := fun hd => by
    obtain ⟨mb, e1, e2, e3⟩ := h.dir hd
    exact ⟨mb, e1, hl _ _ e2 (by simp), e3⟩
  plain := h.plain
  dat := h.dat.relab hl
  data := h.data
theorem FsIn.rebuild {L L' : Nat → Lab} {B B' : Int → Option Nat} {mb : Nat} {S S' : Nat → Prop} {w w' : World} {f : Nat} {T T' : FsP} {K : Nat → Prop} (h : FsIn L B mb S w f T) (ok' : OkT T') (hk : Kept K w w')
    (obj' : w'.heap[f]? = some (.cells (fsC mb T').toArray 51 (0, 0))) (tab' : NodesAt w' mb B' T'.cnt) (dom' : ∀ i, (B' i).isSome = (T'.nd i).isSome)
    (lab : ∀ k x, L k = x → x ≠ .no → L' k = x)
    (node' : ∀ i n b, T'.nd i = some n → B' i = some b → (T.nd i = some n ∧ B i = some b ∧ (∀ k, K k → L k ≠ .nd i ∧ L k ≠ .nm i ∧ L k ≠ .row i ∧ L k ≠ .byt i)) ∨ ∃ m a c qs, NdSt L' i w' b n m a c qs)
    (own' : ∀ k, (∀ x, L' k = x → x ≠ .no) → S' k ∧ k < w'.heap.size) : FsIn L' B' mb S' w' f T' := by
  refine ⟨ok', obj', lab _ _ h.labf (by simp), lab _ _ h.labm (by simp), tab', dom', ?_, own'⟩
  intro i n b hn hb
  rcases node' i n b hn hb with ⟨h1, h2, h3⟩ | h4
  · obtain ⟨m, a, c, qs, hq⟩ := h.node i n b h1 h2
    exact ⟨m, a, c, qs, (hq.kept hk (fun k e hK => (h3 k hK).1 e) (fun k e hK => (h3 k hK).2.1 e) (fun k e hK => (h3 k hK).2.2.1 e) (fun k e hK => (h3 k hK).2.2.2 e)).relab lab⟩
  · exact h4
theorem FsIn.low {L : Nat → Lab} {B : Int → Option Nat} {mb : Nat} {S : Nat → Prop} {w : World} {f : Nat} {T : FsP} (h : FsIn L B mb S w f T) {k : Nat} {x : Lab} (hl : L k = x) (hx : x ≠ .no) : S k ∧ k < w.heap.size := h.own k (fun y ey => by rw [← ey, hl]; exact hx)
theorem placeE_dir {T : FsP} {dir : Int} {part : List UInt8} (h : placeE T dir part = 0) : ∃ d, T.nd dir = some d ∧ d.v.kind = 6 ∧ okN (strB part) = true := by
  unfold placeE at h
  cases hn : T.nd dir with
  | none => rw [hn] at h; simp at h
  | some d =>
    rw [hn] at h
    simp only at h
    by_cases h6 : d.v.kind = 6
    · rw [if_pos h6] at h
      by_cases ho : okN (strB part) = true
      · exact ⟨d, rfl, h6, ho⟩
      · rw [if_neg ho] at h; omega
    · rw [if_neg h6] at h; omega
theorem makeP_no {T : FsP} {dir : Int} {part : List UInt8} (v : NodeV) (h : placeE T dir part ≠ 0) : makeP T dir part v = (T, 0, placeE T dir part) := by
  unfold makeP placeE at *
  cases hn : T.nd dir with
  | none => rfl
  | some d =>
    rw [hn] at h
    simp only at h ⊢
    by_cases h6 : d.v.kind = 6
    · rw [if_pos h6] at h ⊢
      rw [if_pos h6]
      by_cases ho : okN (strB part) = true
      · rw [if_pos ho] at h; exact absurd rfl h
      · rw [if_neg ho, if_neg ho]
    · rw [if_neg h6, if_neg h6]
theorem makeP_yes {T : FsP} {dir : Int} {part : List UInt8} (v : NodeV) {d : NdP} (hd : T.nd dir = some d) (h6 : d.v.kind = 6) (ho : okN (strB part) = true) :
    makeP T dir part v = if mayB v = true then (if (getK d.names part).isSome then (T, 0, 11) else if 1000 ≤ T.cnt then (T, 0, 14) else (makeT T dir d part v, T.next + 1, 0)) else (T, 0, 1) := by
  unfold makeP; rw [hd]; simp only; rw [if_pos h6, if_pos ho]
theorem wpList_nodes_len {ops : Array Oper} {rest : List Oper} {o : Oper} {a : Act} {w : World} {Q : Exit → Act → World → Prop} (hg : o.guard = none) (m : Operand) (hop : o.op = Op.call { callee := Callee.builtin Builtin.len, args := #[m], argTypes := #[49] })
    {mb : Nat} {B : Int → Option Nat} {c : Nat} (hM : NodesAt w mb B c) (hm : a.eval m = .map (some mb)) (hK : wpList Tryz.prog ops Q rest (a.put o.dst (.int .i64 c)) w) : wpList Tryz.prog ops Q (o :: rest) a w := by
  refine wpList_plain hg fun K' hK' => ?_
  unfold Oper.wp
  simp [execOp, hop, resolve, invoke, builtin, hm, MapF.len hM Tryz.underlying49 o.type, Result.andThen]
  exact hK' _ _ hK
def nvA (v : NodeV) : Array Value := #[.int .i64 v.kind, .int .i64 v.mode, .int .i64 v.user, .int .i64 v.group, .int .i64 v.time, .string v.tgt, .int .i64 v.major, .int .i64 v.minor, .int .i64 v.size, .int .i64 v.links, .int .i64 v.change]
theorem make_done {L : Nat → Lab} {B : Int → Option Nat} {mb : Nat} {S : Nat → Prop} {w : World} {f : Nat} {T : FsP} (h : FsIn L B mb S w f T) {dir : Int} {d : NdP} {part : List UInt8} {v : NodeV} (hd : T.nd dir = some d) (h6 : d.v.kind = 6) (ho : okN (strB part) = true) (hm : mayB v = true) (hgn : getK d.names part = none) (hc : ¬ 1000 ≤ T.cnt)
    (ht : -9223372036854775808 ≤ v.time ∧ v.time ≤ 9223372036854775807) (hclk : T.clock + 1 ≤ 4611686018427387904) {b mb2 : Nat} {a : Option Addr} {c : Nat} {qs : List FpQ} (hB : B dir = some b) (hl2 : L mb2 = .nm dir) (hN : NdSt L dir w b d (some mb2) a c qs)
    {wf : World} {F : Nat} {mF : Option Nat} (hk : Kept (fun k => k = f ∨ k = b ∨ k = mb ∨ k = mb2) w wf) (hF : w.heap.size ≤ F) (hFl : F < wf.heap.size)
    (of : wf.heap[f]? = some (.cells (fsC mb (makeT T dir d part v)).toArray 51 (0, 0))) (ob : wf.heap[b]? = some (.cells (ndC (touch (T.clock + 1) d) (some mb2) a c).toArray 48 (0, 0)))
    (on : NodesAt wf mb (updB B (T.next + 1) (some F)) (T.cnt + 1)) (om : NamesAt wf mb2 (putK d.names part (T.next + 1))) (oF : wf.heap[F]? = some (.cells (ndC (freshN v (T.clock + 1) dir) mF none 0).toArray 48 (0, 0)))
    (hmF : (v.kind = 6 → mF = some (F + 1) ∧ F + 1 < wf.heap.size ∧ NamesAt wf (F + 1) []) ∧ (v.kind ≠ 6 → mF = none)) :
    FsSt (Grow S w wf) wf f (makeT T dir d part v) ∧ Kept S w wf := by
  have hok := makeT_ok h.ok hd h6 ho hm hgn (by omega) ht (by omega)
  have hgone : T.nd (T.next + 1) = none := by
    cases e : T.nd (T.next + 1) with
    | none => rfl
    | some x => have := (h.ok.node _ x e).high; omega
  have hBg := h.gone hgone
  have hdi : dir ≠ T.next + 1 := by have := (h.ok.node _ d hd).high; omega
  have sf := h.low h.labf (by simp)
  have sm := h.low h.labm (by simp)
  have sb := h.low hN.lab (by simp)
  have s2 := h.low hl2 (by simp)
  have hno : ∀ k, w.heap.size ≤ k → ∀ x, L k = x → x = .no := by
    intro k hk x hx
    apply Classical.byContradiction
    intro hx2
    have := (h.low hx hx2).2
    omega
  refine ⟨⟨fun k => if k = F then .nd (T.next + 1) else if k = F + 1 ∧ v.kind = 6 then .nm (T.next + 1) else L k, updB B (T.next + 1) (some F), mb, ?_⟩, hk.mono (fun k hkl e => ?_)⟩
  · refine h.rebuild hok hk of on ?_ ?_ ?_ ?_
    · intro i
      show (updB B (T.next + 1) (some F) i).isSome = (updN (updN T.nd dir _) (T.next + 1) _ i).isSome
      by_cases e1 : i = T.next + 1
      · subst e1; rw [updB_same, updN_same]; rfl
      · rw [updB_other _ _ e1, updN_other _ _ e1]
        by_cases e2 : i = dir
        · subst e2; rw [updN_same, hB]; rfl
        · rw [updN_other _ _ e2]; exact h.dom i
    · intro k x hx hx2
      have hkl := (h.low hx hx2).2
      show (if k = F then _ else _) = x
      rw [if_neg (by omega), if_neg (by omega)]; exact hx
    · intro i n bb hn hb
      have hn' : updN (updN T.nd dir (some { touch (T.clock + 1) d with names := putK d.names part (T.next + 1) })) (T.next + 1) (some (freshN v (T.clock + 1) dir)) i = some n := hn
      by_cases e1 : i = T.next + 1
      · subst e1
        rw [updN_same] at hn'; cases hn'
        rw [updB_same] at hb; cases hb
        right
        refine ⟨mF, none, 0, [], oF, by simp, fun hk6 => ?_, fun hk6 => ?_, ⟨rfl, World.ownsRow_nil _ _ _ _, (fun k e => by simp [Value.ownBlock] at e), (fun q hq => by cases hq), (fun q hq => by cases hq), List.Pairwise.nil⟩, rfl⟩
        · have hv6 : v.kind = 6 := hk6
          obtain ⟨q1, q2, q3⟩ := hmF.1 hv6
          exact ⟨F + 1, q1, by simp [hv6], q3⟩
        · exact hmF.2 hk6
      · rw [updB_other _ _ e1] at hb
        rw [updN_other _ _ e1] at hn'
        by_cases e2 : i = dir
        · subst e2
          rw [updN_same] at hn'; cases hn'
          rw [hB] at hb; cases hb
          right
          refine ⟨some mb2, a, c, qs, ob, ?_, fun _ => ⟨mb2, rfl, ?_, om⟩, fun e => absurd h6 e, ?_, hN.data⟩
          · show (if b = F then _ else _) = _
            rw [if_neg (by omega), if_neg (by omega)]; exact hN.lab
          · show (if mb2 = F then _ else _) = _
            rw [if_neg (by omega), if_neg (by omega)]; exact hl2
          · have hd2 : DatSt L i wf a d.data.length c qs := hN.dat.kept hk
              (fun k e hK => by rcases hK with rfl | rfl | rfl | rfl; rw [h.labf] at e; cases e; rw [hN.lab] at e; cases e; rw [h.labm] at e; cases e; rw [hl2] at e; cases e)
              (fun k e hK => by rcases hK with rfl | rfl | rfl | rfl; rw [h.labf] at e; cases e; rw [hN.lab] at e; cases e; rw [h.labm] at e; cases e; rw [hl2] at e; cases e)
            refine hd2.relab (fun k x hx hx2 => ?_)
            have hkl := (h.low hx hx2).2
            show (if k = F then _ else _) = x
            rw [if_neg (by omega), if_neg (by omega)]; exact hx
        · rw [updN_other _ _ e2] at hn'
          left
          refine ⟨hn', hb, fun k hK => ?_⟩
          rcases hK with rfl | rfl | rfl | rfl
          · rw [h.labf]; simp
          · rw [hN.lab]; simp; exact fun e => e2 e.symm
          · rw [h.labm]; simp
          · rw [hl2]; simp; exact fun e => e2 e.symm
    · intro k hk'
      by_cases e1 : k = F
      · subst e1; exact ⟨.inr ⟨hF, hFl⟩, hFl⟩
      · by_cases e2 : k = F + 1 ∧ v.kind = 6
        · obtain ⟨rfl, hv6⟩ := e2
          have := (hmF.1 hv6).2.1
          exact ⟨.inr ⟨by omega, this⟩, this⟩
        · have := h.own k (fun x hx => hk' x (by show (if k = F then _ else _) = x; rw [if_neg e1, if_neg e2]; exact hx))
          exact ⟨.inl this.1, Nat.lt_of_lt_of_le this.2 hk.size⟩
  · rcases e with rfl | rfl | rfl | rfl
    · exact sf.1
    · exact sb.1
    · exact sm.1
    · exact s2.1
set_option maxHeartbeats 4000000 in
theorem make_any {S : Nat → Prop} {w : World} {f : Nat} {T : FsP} (h : FsSt S w f T) (dir : Int) (hdir : -9223372036854775808 ≤ dir ∧ dir ≤ 9223372036854775807) (part : List UInt8) (hs : part.length < 4294967281) (v : NodeV)
    (ht : -9223372036854775808 ≤ v.time ∧ v.time ≤ 9223372036854775807) (hclk : T.clock + 1 ≤ 4611686018427387904) :
    Calls Tryz.prog 6 #[.pointer (some ⟨f, 0, none⟩), .int .i64 dir, .string (strB part), .agg (nvC v).toArray] w fun e w' =>
      e = .returned (.tuple #[.int .i64 (makeP T dir part v).2.1, .int .i64 (makeP T dir part v).2.2]) ∧ FsSt (Grow S w w') w' f (makeP T dir part v).1 ∧ Kept S w w' := by
  obtain ⟨L, B, mb, h⟩ := h
  obtain ⟨w1, hw1⟩ : ∃ w1, w1 = w.alloc (.cells (nvC v).toArray 25) := ⟨_, rfl⟩
  have hk1 : Kept NoB w w1 := by rw [hw1]; exact (Kept.refl NoB w).alloc _
  have hob1 : w1.heap[w.heap.size]? = some (.cells (nvA v) 25 (0, 0)) := by rw [hw1]; exact heap_alloc_new _ _
  have h1 := h.keptNo hk1
  have HP := Lib.hid (place_in h1 dir hdir part hs)
  have HW1 := Lib.hid hw1
  clear hw1
  have same : ∀ w', Kept NoB w w' → FsSt (Grow S w w') w' f T ∧ Kept S w w' := fun w' hk => ⟨⟨L, B, mb, (h.keptNo hk).mono (fun k e => .inl e)⟩, hk.mono (fun k _ e => e.elim)⟩
  by_cases hp : placeE T dir part = 0
  rotate_left
  · rw [if_neg hp, ptrV_none] at HP
    rw [makeP_no v hp]
    obtain ⟨z, hz⟩ : ∃ z, z = placeE T dir part := ⟨_, rfl⟩
    rw [← hz] at hp HP ⊢
    have hz2 : (z == 0) = false := by simpa using hp
    have HSm := Lib.hid same; have HK1 := Lib.hid hk1
    clear hz h hp h1 same hob1 hk1
    go_enter Tryz.func6, Tryz.ntmps6
    go_upto_region 1 with fail
    rw [← HW1.out]
    go_wp2_with fail
    refine HP.out.mono ?_
    rintro e w2 ⟨rfl, hk2⟩
    go_wp2
    go_ret2
    exact ⟨rfl, HSm.out _ (HK1.out.trans hk2)⟩
  obtain ⟨d, hd, h6, ho⟩ := placeE_dir hp
  rw [makeP_yes v hd h6 ho]
  rw [if_pos hp, hp] at HP
  obtain ⟨b, m, a, c, qs, hB, hN⟩ := h.at hd
  obtain ⟨mb2, rfl, hl2, hM⟩ := hN.dir h6
  rw [hB, ptrV_some] at HP
  have hs2 : part.length ≤ maxLen := by unfold maxLen; omega
  have HMay := Lib.hid (mayBe_any v)
  by_cases hm : mayB v = true
  rotate_left
  · rw [if_neg hm]
    have hm' : mayB v = false := by simpa using hm
    rw [hm'] at HMay
    have HSm := Lib.hid same; have HK1 := Lib.hid hk1; have HO1 := Lib.hid hob1
    clear h hp h1 same hob1 hk1 hm hm' hN hM hl2
    go_enter Tryz.func6, Tryz.ntmps6
    go_upto_region 1 with fail
    rw [← HW1.out]
    go_wp2_with fail
    refine HP.out.mono ?_
    rintro e w2 ⟨rfl, hk2⟩
    have HO2 := Lib.hid (hk2.obj HO1.out id)
    have HK2 := Lib.hid (HK1.out.trans hk2)
    clear hk2
    go_wp2_with (first | (refine wpList_load_row rfl 25 (.tmp 7) rfl w.heap.size rfl 25 (nvA v) (0, 0) _ HO2.out Tryz.underlying25 rfl infoNd ?_) | fail)
    refine (HMay.out _).mono ?_
    rintro e w3 ⟨rfl, hk3⟩
    go_wp2
    go_ret2
    exact ⟨rfl, HSm.out _ (HK2.out.trans hk3)⟩
  rw [if_pos hm]
  rw [hm] at HMay
  have k11 : w1.cell? ⟨b, 11, none⟩ = some (.map (some mb2)) := by
    refine hk1.cell ?_
    rw [hN.cell 11]; rfl
  have c0 : w1.cell? ⟨f, 0, none⟩ = some (.map (some mb)) := hk1.cell h.cells.1
  have HM := Lib.hid (MapF.kept hM hk1 id : NamesAt w1 mb2 d.names)
  have HT := Lib.hid (MapF.kept h.tab hk1 id : NodesAt w1 mb B T.cnt)
  by_cases hg : (getK d.names part).isSome = true
  · rw [if_pos hg]
    obtain ⟨j, hj⟩ := Option.isSome_iff_exists.1 hg
    have HG := Lib.hid hj
    have HSm := Lib.hid same; have HK1 := Lib.hid hk1; have HO1 := Lib.hid hob1
    clear h hp h1 same hob1 hk1 hm hN hM hl2 hg hj
    go_enter Tryz.func6, Tryz.ntmps6
    go_upto_region 1 with fail
    rw [← HW1.out]
    go_wp2_with fail
    refine HP.out.mono ?_
    rintro e w2 ⟨rfl, hk2⟩
    have HO2 := Lib.hid (hk2.obj HO1.out id)
    have HK2 := Lib.hid hk2
    clear hk2
    go_wp2_with (first | (refine wpList_load_row rfl 25 (.tmp 7) rfl w.heap.size rfl 25 (nvA v) (0, 0) _ HO2.out Tryz.underlying25 rfl infoNd ?_) | fail)
    refine (HMay.out _).mono ?_
    rintro e w3 ⟨rfl, hk3⟩
    have HK3 := Lib.hid (HK2.out.trans hk3)
    have l11 := HK3.out.cell k11
    clear hk3 HK2 k11
    go_wp2_with (first | (at_lookup; refine wpList_names_ok rfl _ _ rfl (MapF.kept HM.out HK3.out id) rfl rfl hs2 ?_; rw [HG.out]) | fail)
    go_ret2
    exact ⟨rfl, HSm.out _ (HK1.out.trans HK3.out)⟩
  rw [if_neg hg]
  have hgn : getK d.names part = none := by simpa using hg
  by_cases hc : 1000 ≤ T.cnt
  · rw [if_pos hc]
    have HG := Lib.hid hgn
    have hc2 : (1000 : Int) ≤ (T.cnt : Int) := by omega
    obtain ⟨ct, hct⟩ : ∃ ct, ct = T.cnt := ⟨_, rfl⟩
    rw [← hct] at HT hc2
    have HSm := Lib.hid same; have HK1 := Lib.hid hk1; have HO1 := Lib.hid hob1
    clear h hp h1 same hob1 hk1 hm hN hM hl2 hg hgn hc hct
    go_enter Tryz.func6, Tryz.ntmps6
    go_upto_region 1 with fail
    rw [← HW1.out]
    go_wp2_with fail
    refine HP.out.mono ?_
    rintro e w2 ⟨rfl, hk2⟩
    have HO2 := Lib.hid (hk2.obj HO1.out id)
    have HK2 := Lib.hid hk2
    clear hk2
    go_wp2_with (first | (refine wpList_load_row rfl 25 (.tmp 7) rfl w.heap.size rfl 25 (nvA v) (0, 0) _ HO2.out Tryz.underlying25 rfl infoNd ?_) | fail)
    refine (HMay.out _).mono ?_
    rintro e w3 ⟨rfl, hk3⟩
    have HK3 := Lib.hid (HK2.out.trans hk3)
    have l11 := HK3.out.cell k11
    have l0 := HK3.out.cell c0
    clear hk3 HK2 k11 c0
    go_wp2_with (first | (at_lookup; refine wpList_names_ok rfl _ _ rfl (MapF.kept HM.out HK3.out id) rfl rfl hs2 ?_; rw [HG.out]) | (at_len; refine wpList_nodes_len rfl (.tmp 41) rfl (MapF.kept HT.out HK3.out id) rfl ?_) | fail)
    go_ret2
    exact ⟨rfl, HSm.out _ (HK1.out.trans HK3.out)⟩
  rw [if_neg hc]
  have HG := Lib.hid hgn
  have hc2 : ¬ (1000 : Int) ≤ (T.cnt : Int) := by omega
  obtain ⟨ct, hct⟩ : ∃ ct, ct = T.cnt := ⟨_, rfl⟩
  rw [← hct] at HT hc2
  have HK1 := Lib.hid hk1; have HO1 := Lib.hid hob1; have H := Lib.hid h; have HN := Lib.hid hN; have HD := Lib.hid (⟨hd, h6, ho, hm, hgn, hc, hB, hl2⟩ : _ ∧ _ ∧ _ ∧ _ ∧ _ ∧ _ ∧ _ ∧ _)
  have HCt := Lib.hid hct
  clear h hp h1 same hob1 hk1 hm hN hM hl2 hg hgn hc hct hd h6 ho hB
  go_enter Tryz.func6, Tryz.ntmps6
  go_upto_region 1 with fail
  rw [← HW1.out]
  go_wp2_with fail
  refine HP.out.mono ?_
  rintro e w2 ⟨rfl, hk2⟩
  have HO2 := Lib.hid (hk2.obj HO1.out id)
  have HK2 := Lib.hid hk2
  clear hk2
  go_wp2_with (first | (refine wpList_load_row rfl 25 (.tmp 7) rfl w.heap.size rfl 25 (nvA v) (0, 0) _ HO2.out Tryz.underlying25 rfl infoNd ?_) | fail)
  refine (HMay.out _).mono ?_
  rintro e w3 ⟨rfl, hk3⟩
  have HK3 := Lib.hid (HK2.out.trans hk3)
  have l11 := HK3.out.cell k11
  have l0 := HK3.out.cell c0
  have HO3 := Lib.hid (hk3.obj HO2.out id)
  clear hk3 HK2 HO2 k11 c0
  go_upto_region 11 with (first | (at_lookup; refine wpList_names_ok rfl _ _ rfl (MapF.kept HM.out HK3.out id) rfl rfl hs2 ?_; rw [HG.out]) | (at_len; refine wpList_nodes_len rfl (.tmp 41) rfl (MapF.kept HT.out HK3.out id) rfl ?_) | fail)
  -- the tree at w3
  have hw3 : Kept NoB w w3 := HK1.out.trans HK3.out
  have h3 : FsIn L B mb S w3 f T := H.out.keptNo hw3
  obtain ⟨w4, hw4⟩ : ∃ w4, w4 = w3.alloc (.cells #[.pointer (some ⟨b, 0, none⟩)] 43) := ⟨_, rfl⟩
  have hk4 : Kept NoB w3 w4 := by rw [hw4]; exact (Kept.refl NoB w3).alloc _
  have h4 := h3.keptNo hk4
  have n4 : NdSt L dir w4 b d (some mb2) a c qs := (HN.out.kept hw3 (fun _ _ e => e) (fun _ _ e => e) (fun _ _ e => e) (fun _ _ e => e)).kept hk4 (fun _ _ e => e) (fun _ _ e => e) (fun _ _ e => e) (fun _ _ e => e)
  have r4 : w4.cell? ⟨w3.heap.size, 0, none⟩ = some (.pointer (some ⟨b, 0, none⟩)) := by rw [hw4]; exact cell_new 0 rfl
  have hb3 : b < w3.heap.size := Nat.lt_of_lt_of_le HN.out.lt hw3.size
  have hf3 : f < w3.heap.size := obj_lt h3.obj
  have hok := h3.ok
  have hTk := tick_any (w := w4) (f := f) (fc := (fsC mb T).toArray) (c := T.clock) [b] (fun _ => (ndC d (some mb2) a c).toArray) (some ⟨w3.heap.size, 0, none⟩) 1 h4.obj rfl ⟨hok.clock, by omega⟩
    (fun i hi => ⟨w3.heap.size, 0, rfl, by omega, fun x hx => by simp at hx; omega, by
      have : i = 0 := by simpa using hi
      subst this; exact r4⟩)
    (fun x hx => by simp at hx; subst hx; exact ⟨n4.obj, by simp [ndC, nvC]⟩) (by simp)
  have HTk := Lib.hid hTk; have HW4 := Lib.hid hw4; have HK4 := Lib.hid hk4; have H3 := Lib.hid h3; have HKw := Lib.hid hw3
  clear hTk hw4 hk4 h4 n4 r4 hok h3 hw3
  go_wp2_with fail
  rw [← HW4.out]
  refine HTk.out.mono ?_
  rintro e w5 ⟨rfl, o5, n5, k5, s5⟩
  have nb5 := n5 b (by simp)
  rw [tchA_nd] at nb5
  have o5' : w5.heap[f]? = some (.cells (fsC mb { T with clock := T.clock + 1 }).toArray 51 (0, 0)) := o5
  have f1 : w5.cell? ⟨f, 1, none⟩ = some (.int .i64 T.next) := by rw [obj_cell o5']; rfl
  have g1 := obj_free o5' 1
  obtain ⟨w6, hw6⟩ : ∃ w6, w6 = w5.setCell ⟨f, 1, none⟩ (.int .i64 (T.next + 1)) := ⟨_, rfl⟩
  have o6 : w6.heap[f]? = some (.cells (fsC mb { T with clock := T.clock + 1, next := T.next + 1 }).toArray 51 (0, 0)) := by rw [hw6]; exact obj_set o5' 1 _
  have hfb : b ≠ f := fun e => by
    have h1 := HN.out.obj; have h2 := H.out.obj
    rw [e, h2] at h1
    have h3 := Option.some.inj h1
    injection h3 with _ h4
    exact absurd h4 (by decide)
  have nb6 : w6.heap[b]? = some (.cells (ndC (touch (T.clock + 1) d) (some mb2) a c).toArray 48 (0, 0)) := by rw [hw6, Below.heap_setCell _ _ _ _ hfb]; exact nb5
  have hsz : w6.heap.size = w3.heap.size + 1 := by rw [hw6]; simp; rw [s5, HW4.out]; simp
  have k46 : Kept (fun k => k = f ∨ k = b) w3 w6 := by
    rw [hw6]
    refine Kept.setCell ((HK4.out.mono (fun k _ e => e.elim)).trans (k5.mono (fun k _ e => ?_))) (.inl (.inl rfl)) _
    rcases e with e | e
    · exact .inl e
    · exact .inr (by simpa using e)
  have hwf : f < w.heap.size := obj_lt H.out.obj
  have hwb : b < w.heap.size := HN.out.lt
  have v6 : w6.heap[w.heap.size]? = some (.cells (nvA v) 25 (0, 0)) := k46.obj HO3.out (by omega)
  have F4 : ∀ o, (w6.alloc o).cell? ⟨f, 4, none⟩ = some (.int .i64 (T.clock + 1)) := fun o => ((Kept.refl NoB w6).alloc o).cell (by rw [obj_cell o6]; rfl)
  have V0 : ∀ o, (w6.alloc o).cell? ⟨w.heap.size, 0, none⟩ = some (.int .i64 v.kind) := fun o => ((Kept.refl NoB w6).alloc o).cell (by rw [obj_cell v6]; rfl)
  have hnx := H.out.ok.next
  have HO6 := Lib.hid o6; have HNb6 := Lib.hid nb6; have HSz := Lib.hid hsz; have HK46 := Lib.hid k46; have HV6 := Lib.hid v6; have HW6 := Lib.hid hw6; have HFb := Lib.hid hfb
  obtain ⟨cl, hcl⟩ : ∃ cl, cl = T.clock + 1 := ⟨_, rfl⟩
  rw [← hcl] at F4
  obtain ⟨nx, hnxe⟩ : ∃ nx, nx = T.next := ⟨_, rfl⟩
  rw [← hnxe] at f1 hnx HW6
  have HCl := Lib.hid hcl; have HNx := Lib.hid hnxe
  have hnx2 : 1 ≤ nx ∧ nx ≤ 4611686018427387904 := by omega
  clear o5 n5 k5 s5 nb5 o5' o6 nb6 hsz k46 v6 hw6 hfb HTk hcl hnxe hnx
  go_upto_region 13 with fail
  rw [← HW6.out]
  go_upto_region 14 with (first | (refine wpList_load_row rfl 25 (.tmp 7) rfl w.heap.size rfl 25 #[.int .i64 v.kind, .int .i64 v.mode, .int .i64 v.user, .int .i64 v.group, .int .i64 v.time, .string v.tgt, .int .i64 v.major, .int .i64 v.minor, .int .i64 v.size, .int .i64 v.links, .int .i64 v.change] (0, 0) _ HV6.out Tryz.underlying25 rfl infoNd ?_) | fail)
  have hmm := @run_makeMap Tryz.prog
  have HB0 := Lib.hid H.out.tab
  by_cases hk6 : v.kind = 6
  · rw [hk6] at V0
    go_upto_region 19 with fail
    obtain ⟨wn, hwn⟩ : ∃ wn, wn = (w6.alloc (.cells (ndC (freshN v cl dir) (some (w6.heap.size + 1)) none 0).toArray 48)).alloc (Obj.map #[] 0) := ⟨_, rfl⟩
    have hwn' : wn = (w6.alloc (.cells #[.int .i64 6, .int .i64 v.mode, .int .i64 v.user, .int .i64 v.group, .int .i64 v.time, .string v.tgt, .int .i64 v.major, .int .i64 v.minor, .int .i64 v.size, .int .i64 1, .int .i64 cl, .map (some (w6.heap.size + 1)), .int .i64 dir, .slice none 0 0] 48)).alloc (Obj.map #[] 0) := by
      rw [hwn]; unfold freshN ndC nvC; rw [if_pos hk6, hk6]; rfl
    rw [← hwn']
    have kn : Kept NoB w6 wn := by rw [hwn]; exact ((Kept.refl NoB w6).alloc _).alloc _
    have nF : wn.heap[w6.heap.size]? = some (.cells (ndC (freshN v cl dir) (some (w6.heap.size + 1)) none 0).toArray 48 (0, 0)) := by
      rw [hwn]; exact ((Kept.refl NoB _).alloc _).obj (heap_alloc_new _ _) id
    have nM : NamesAt wn (w6.heap.size + 1) [] := by
      have h0 := MapF.made (w6.alloc (.cells (ndC (freshN v cl dir) (some (w6.heap.size + 1)) none 0).toArray 48)) Tryz.prog 9 (plainElem Tryz.prog 3)
      rw [← nmF_nil] at h0
      have e : (w6.alloc (.cells (ndC (freshN v cl dir) (some (w6.heap.size + 1)) none 0).toArray 48)).heap.size = w6.heap.size + 1 := by simp
      rw [e] at h0
      rw [hwn]; exact h0
    have sn : wn.heap.size = w6.heap.size + 2 := by rw [hwn]; simp
    have hmF : (v.kind = 6 → some (w6.heap.size + 1) = some (w6.heap.size + 1) ∧ w6.heap.size + 1 < wn.heap.size ∧ NamesAt wn (w6.heap.size + 1) []) ∧ (v.kind ≠ 6 → some (w6.heap.size + 1) = none) := ⟨fun _ => ⟨rfl, by omega, nM⟩, fun e => absurd hk6 e⟩
    have sF : w6.heap.size < wn.heap.size := by omega
    clear hwn hwn' nM sn
    obtain ⟨F, hFe⟩ : ∃ F, F = w6.heap.size := ⟨_, rfl⟩
    rw [← hFe] at nF hmF sF ⊢
    have HFe := Lib.hid hFe
    have tn : NodesAt wn mb B T.cnt := MapF.kept (MapF.kept (MapF.kept HB0.out HKw.out id) HK46.out (by have h1 := HN.out.obj; have h2 := H.out.obj; rintro (e | e); exact MapF.ne_cells HB0.out h2 e; exact MapF.ne_cells HB0.out h1 e)) kn id
    have hcm : T.cnt < maxLen := by have := HD.out.2.2.2.2.2.1; unfold maxLen; omega
    obtain ⟨w8, hr8, t8, k8d, s8⟩ := nodes_put (w := wn.drew) (MapF.heap tn rfl : NodesAt wn.drew mb B T.cnt) (nx + 1) (by omega) F hcm
    have k8 : Kept (OneB mb) wn w8 := ((Kept.refl (OneB mb) wn).drew).trans k8d
    have on := kn.obj HO6.out id
    have f0 : wn.cell? ⟨f, 0, none⟩ = some (.map (some mb)) := by rw [obj_cell on]; rfl
    have f1n : wn.cell? ⟨f, 1, none⟩ = some (.int .i64 (nx + 1)) := by rw [obj_cell on, HNx.out]; rfl
    have t8m : NamesAt w8 mb2 d.names := by
      have q1 : NamesAt w3 mb2 d.names := MapF.kept HM.out HK3.out id
      have q2 : NamesAt w6 mb2 d.names := MapF.kept q1 HK46.out (by have h1 := HN.out.obj; have h2 := H.out.obj; obtain ⟨z, z1, _, z2⟩ := HN.out.dir HD.out.2.1; cases z1; rintro (e | e); exact MapF.ne_cells z2 h2 e; exact MapF.ne_cells z2 h1 e)
      have q3 : NamesAt wn mb2 d.names := MapF.kept q2 kn id
      refine MapF.kept q3 k8 (fun e => ?_)
      have l1 := HD.out.2.2.2.2.2.2.2
      have l2 := H.out.labm
      rw [e, l2] at l1; cases l1
    have odd := H.out.ok.node dir d HD.out.1
    have hfew := odd.few
    obtain ⟨w9, hr9, t9, k9d, s9⟩ := names_put (w := w8.drew) (MapF.heap t8m rfl : NamesAt w8.drew mb2 d.names) odd.sorted part hs2 (nx + 1) (by omega) HG.out (by unfold maxLen; omega)
    have k9 : Kept (OneB mb2) w8 w9 := ((Kept.refl (OneB mb2) w8).drew).trans k9d
    have hfmb : f ≠ mb := fun e => MapF.ne_cells tn on e.symm
    have ob := kn.obj HNb6.out id
    have hbmb : b ≠ mb := fun e => MapF.ne_cells tn ob e.symm
    have o8 := k8.obj (R := f) on (fun e => hfmb e)
    have ob8 := k8.obj (R := b) ob (fun e => hbmb e)
    have m0 : w8.cell? ⟨b, 11, none⟩ = some (.map (some mb2)) := by rw [obj_cell ob8]; rfl
    have m1 : w8.cell? ⟨f, 1, none⟩ = some (.int .i64 (nx + 1)) := by rw [obj_cell o8, HNx.out]; rfl
    have hfm2 : f ≠ mb2 := fun e => MapF.ne_cells t8m o8 e.symm
    have hbm2 : b ≠ mb2 := fun e => MapF.ne_cells t8m ob8 e.symm
    have o9 := k9.obj (R := f) o8 (fun e => hfm2 e)
    have ob9 := k9.obj (R := b) ob8 (fun e => hbm2 e)
    have m9 : w9.cell? ⟨f, 1, none⟩ = some (.int .i64 (nx + 1)) := by rw [obj_cell o9, HNx.out]; rfl
    have HAll : Hid (FsSt (Grow S w w9) w9 f (makeT T dir d part v) ∧ Kept S w w9) := Lib.hid (by
      obtain ⟨q1, q2, q3, q4, q5, q6, q7, q8⟩ := HD.out
      have hwn : Kept (fun k => k = f ∨ k = b) w wn := ((HKw.out.mono (fun k _ e => e.elim)).trans HK46.out).trans (kn.mono (fun k _ e => e.elim))
      have hFw : w.heap.size ≤ F := by rw [HFe.out, HSz.out]; have := HKw.out.size; omega
      have hnF : F ≠ mb := by have := (H.out.low H.out.labm (by simp)).2; omega
      have hnF2 : F ≠ mb2 := by have := (H.out.low q8 (by simp)).2; omega
      have hnG : F + 1 ≠ mb := by have := (H.out.low H.out.labm (by simp)).2; omega
      have hnG2 : F + 1 ≠ mb2 := by have := (H.out.low q8 (by simp)).2; omega
      have nF9 := k9.obj (R := F) (k8.obj (R := F) nF (fun e => hnF e)) (fun e => hnF2 e)
      refine make_done H.out q1 q2 q3 q4 q5 q6 ht hclk q7 q8 HN.out (F := F) (mF := some (F + 1)) ((hwn.mono (fun k _ e => ?_)).trans ((k8.mono (fun k _ e => ?_)).trans (k9.mono (fun k _ e => ?_)))) hFw ?_ ?_ ?_ ?_ ?_ ?_ ?_
      · rcases e with e | e
        · exact .inl e
        · exact .inr (.inl e)
      · exact .inr (.inr (.inl e))
      · exact .inr (.inr (.inr e))
      · rw [s9]; show F < w8.heap.size; rw [s8]; exact sF
      · exact o9
      · exact ob9
      · have e0 : (B (T.next + 1)).isSome = false := by
          rw [H.out.dom]
          cases e : T.nd (T.next + 1) with
          | none => rfl
          | some x => have := (H.out.ok.node _ x e).high; omega
        have := t8
        rw [HNx.out, e0] at this
        exact MapF.kept this k9 (fun e => by have l1 := q8; have l2 := H.out.labm; rw [← e, l2] at l1; cases l1)
      · rw [HNx.out] at t9; exact t9
      · rw [HCl.out] at nF9; exact nF9
      · refine ⟨fun e => ?_, hmF.2⟩
        obtain ⟨z1, z2, z3⟩ := hmF.1 e
        exact ⟨z1, by rw [s9]; show F + 1 < w8.heap.size; rw [s8]; exact z2, MapF.kept (MapF.kept z3 k8 (fun e => hnG e)) k9 (fun e => hnG2 e)⟩)
    have HR8 := hr8; have HR9 := hr9
    clear k8d k9d hFe t8m odd hfew t9 k9 s9 hfmb ob hbmb o8 ob8 hfm2 hbm2 o9 ob9 t8 k8 s8 tn kn nF hmF sF on
    go_region
    go_upto_region 20 with fail
    go_region
    go_wp2
    go_ret2
    exact ⟨by rw [HNx.out]; rfl, HAll.out⟩
  · have hk6' : (v.kind == 6) = false := by simpa using hk6
    go_upto_region 19 with fail
    obtain ⟨wn, hwn⟩ : ∃ wn, wn = w6.alloc (.cells (ndC (freshN v cl dir) none none 0).toArray 48) := ⟨_, rfl⟩
    have hwn' : wn = w6.alloc (.cells #[.int .i64 v.kind, .int .i64 v.mode, .int .i64 v.user, .int .i64 v.group, .int .i64 v.time, .string v.tgt, .int .i64 v.major, .int .i64 v.minor, .int .i64 v.size, .int .i64 1, .int .i64 cl, .map none, .int .i64 0, .slice none 0 0] 48) := by
      rw [hwn]; unfold freshN ndC nvC; rw [if_neg hk6]; rfl
    rw [← hwn']
    have kn : Kept NoB w6 wn := by rw [hwn]; exact (Kept.refl NoB w6).alloc _
    have nF : wn.heap[w6.heap.size]? = some (.cells (ndC (freshN v cl dir) none none 0).toArray 48 (0, 0)) := by
      rw [hwn]; exact heap_alloc_new _ _
    have hmF : (v.kind = 6 → (none : Option Nat) = some (w6.heap.size + 1) ∧ w6.heap.size + 1 < wn.heap.size ∧ NamesAt wn (w6.heap.size + 1) []) ∧ (v.kind ≠ 6 → (none : Option Nat) = none) := ⟨fun e => absurd e hk6, fun _ => rfl⟩
    have sF : w6.heap.size < wn.heap.size := by rw [hwn]; simp
    clear hwn hwn'
    obtain ⟨F, hFe⟩ : ∃ F, F = w6.heap.size := ⟨_, rfl⟩
    rw [← hFe] at nF hmF sF ⊢
    have HFe := Lib.hid hFe
    have tn : NodesAt wn mb B T.cnt := MapF.kept (MapF.kept (MapF.kept HB0.out HKw.out id) HK46.out (by have h1 := HN.out.obj; have h2 := H.out.obj; rintro (e | e); exact MapF.ne_cells HB0.out h2 e; exact MapF.ne_cells HB0.out h1 e)) kn id
    have hcm : T.cnt < maxLen := by have := HD.out.2.2.2.2.2.1; unfold maxLen; omega
    obtain ⟨w8, hr8, t8, k8d, s8⟩ := nodes_put (w := wn.drew) (MapF.heap tn rfl : NodesAt wn.drew mb B T.cnt) (nx + 1) (by omega) F hcm
    have k8 : Kept (OneB mb) wn w8 := ((Kept.refl (OneB mb) wn).drew).trans k8d
    have on := kn.obj HO6.out id
    have f0 : wn.cell? ⟨f, 0, none⟩ = some (.map (some mb)) := by rw [obj_cell on]; rfl
    have f1n : wn.cell? ⟨f, 1, none⟩ = some (.int .i64 (nx + 1)) := by rw [obj_cell on, HNx.out]; rfl
    have t8m : NamesAt w8 mb2 d.names := by
      have q1 : NamesAt w3 mb2 d.names := MapF.kept HM.out HK3.out id
      have q2 : NamesAt w6 mb2 d.names := MapF.kept q1 HK46.out (by have h1 := HN.out.obj; have h2 := H.out.obj; obtain ⟨z, z1, _, z2⟩ := HN.out.dir HD.out.2.1; cases z1; rintro (e | e); exact MapF.ne_cells z2 h2 e; exact MapF.ne_cells z2 h1 e)
      have q3 : NamesAt wn mb2 d.names := MapF.kept q2 kn id
      refine MapF.kept q3 k8 (fun e => ?_)
      have l1 := HD.out.2.2.2.2.2.2.2
      have l2 := H.out.labm
      rw [e, l2] at l1; cases l1
    have odd := H.out.ok.node dir d HD.out.1
    have hfew := odd.few
    obtain ⟨w9, hr9, t9, k9d, s9⟩ := names_put (w := w8.drew) (MapF.heap t8m rfl : NamesAt w8.drew mb2 d.names) odd.sorted part hs2 (nx + 1) (by omega) HG.out (by unfold maxLen; omega)
    have k9 : Kept (OneB mb2) w8 w9 := ((Kept.refl (OneB mb2) w8).drew).trans k9d
    have hfmb : f ≠ mb := fun e => MapF.ne_cells tn on e.symm
    have ob := kn.obj HNb6.out id
    have hbmb : b ≠ mb := fun e => MapF.ne_cells tn ob e.symm
    have o8 := k8.obj (R := f) on (fun e => hfmb e)
    have ob8 := k8.obj (R := b) ob (fun e => hbmb e)
    have m0 : w8.cell? ⟨b, 11, none⟩ = some (.map (some mb2)) := by rw [obj_cell ob8]; rfl
    have m1 : w8.cell? ⟨f, 1, none⟩ = some (.int .i64 (nx + 1)) := by rw [obj_cell o8, HNx.out]; rfl
    have hfm2 : f ≠ mb2 := fun e => MapF.ne_cells t8m o8 e.symm
    have hbm2 : b ≠ mb2 := fun e => MapF.ne_cells t8m ob8 e.symm
    have o9 := k9.obj (R := f) o8 (fun e => hfm2 e)
    have ob9 := k9.obj (R := b) ob8 (fun e => hbm2 e)
    have m9 : w9.cell? ⟨f, 1, none⟩ = some (.int .i64 (nx + 1)) := by rw [obj_cell o9, HNx.out]; rfl
    have HAll : Hid (FsSt (Grow S w w9) w9 f (makeT T dir d part v) ∧ Kept S w w9) := Lib.hid (by
      obtain ⟨q1, q2, q3, q4, q5, q6, q7, q8⟩ := HD.out
      have hwn : Kept (fun k => k = f ∨ k = b) w wn := ((HKw.out.mono (fun k _ e => e.elim)).trans HK46.out).trans (kn.mono (fun k _ e => e.elim))
      have hFw : w.heap.size ≤ F := by rw [HFe.out, HSz.out]; have := HKw.out.size; omega
      have hnF : F ≠ mb := by have := (H.out.low H.out.labm (by simp)).2; omega
      have hnF2 : F ≠ mb2 := by have := (H.out.low q8 (by simp)).2; omega
      have hnG : F + 1 ≠ mb := by have := (H.out.low H.out.labm (by simp)).2; omega
      have hnG2 : F + 1 ≠ mb2 := by have := (H.out.low q8 (by simp)).2; omega
      have nF9 := k9.obj (R := F) (k8.obj (R := F) nF (fun e => hnF e)) (fun e => hnF2 e)
      refine make_done H.out q1 q2 q3 q4 q5 q6 ht hclk q7 q8 HN.out (F := F) (mF := none) ((hwn.mono (fun k _ e => ?_)).trans ((k8.mono (fun k _ e => ?_)).trans (k9.mono (fun k _ e => ?_)))) hFw ?_ ?_ ?_ ?_ ?_ ?_ ?_
      · rcases e with e | e
        · exact .inl e
        · exact .inr (.inl e)
      · exact .inr (.inr (.inl e))
      · exact .inr (.inr (.inr e))
      · rw [s9]; show F < w8.heap.size; rw [s8]; exact sF
      · exact o9
      · exact ob9
      · have e0 : (B (T.next + 1)).isSome = false := by
          rw [H.out.dom]
          cases e : T.nd (T.next + 1) with
          | none => rfl
          | some x => have := (H.out.ok.node _ x e).high; omega
        have := t8
        rw [HNx.out, e0] at this
        exact MapF.kept this k9 (fun e => by have l1 := q8; have l2 := H.out.labm; rw [← e, l2] at l1; cases l1)
      · rw [HNx.out] at t9; exact t9
      · rw [HCl.out] at nF9; exact nF9
      · refine ⟨fun e => ?_, hmF.2⟩
        obtain ⟨z1, z2, z3⟩ := hmF.1 e
        exact ⟨z1, by rw [s9]; show F + 1 < w8.heap.size; rw [s8]; exact z2, MapF.kept (MapF.kept z3 k8 (fun e => hnG e)) k9 (fun e => hnG2 e)⟩)
    have HR8 := hr8; have HR9 := hr9
    clear k8d k9d hFe t8m odd hfew t9 k9 s9 hfmb ob hbmb o8 ob8 hfm2 hbm2 o9 ob9 t8 k8 s8 tn kn nF hmF sF on
    go_region
    go_upto_region 20 with fail
    go_region
    go_wp2
    go_ret2
    exact ⟨by rw [HNx.out]; rfl, HAll.out⟩
end Go.Proofs.YtjjgadanobeamaaGreatDoor
