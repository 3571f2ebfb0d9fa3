/-
  walk.All: all that is below a directory.
  A way that is gone: where one is; a path's parts put ahead of those that are still to go.
-/
import Derived.Test.YtjjgadanobeamaaDoorMw10
namespace Go.Proofs.YtjjgadanobeamaaDoor
open Go.RowKit
set_option linter.unusedVariables false
set_option linter.unusedSimpArgs false
set_option maxRecDepth 20000

theorem RdS.keptD {S : Nat → Prop} {w w' : World} {B : Nat} {ao : Option Addr} {ps : List (List UInt8)} (h : RdS w B ao ps) (hk : Kept S w w') (hs : ∀ x, ao = some x → ¬ S x.block) : RdS w' B ao ps := by
  intro i hi
  obtain ⟨g, off, h1, h2, h3⟩ := h i hi
  exact ⟨g, off, h1, h2, (World.cell?_of_block (hk.block _ (World.block_lt_of_cell? w _ h3) (hs ⟨g, off, none⟩ h1))).trans h3⟩
structure SnP (w0 w w' : World) (a : Option Addr) (l c : Nat) (a2 : Option Addr) (l2 c2 : Nat) (qs : List SeenP) : Prop where
  st : SnSt w0 w' a2 l2 c2 qs
  kept : Kept (OwnB (.slice a l c)) w w'
  new : ∀ k, (Value.slice a2 l2 c2).ownBlock = some k → (Value.slice a l c).ownBlock = some k ∨ w.heap.size ≤ k
theorem SnP.refl {w0 w w' : World} {a : Option Addr} {l c : Nat} {qs : List SeenP} (h : SnSt w0 w a l c qs) (hk : Kept NoB w w') : SnP w0 w w' a l c a l c qs :=
  ⟨h.on hk, hk.mono (fun _ _ e => e.elim), fun k e => .inl e⟩
theorem SnP.on {w0 w w' w2 : World} {a a2 : Option Addr} {l c l2 c2 : Nat} {qs : List SeenP} (h : SnP w0 w w' a l c a2 l2 c2 qs) (hk : Kept NoB w' w2) : SnP w0 w w2 a l c a2 l2 c2 qs :=
  ⟨h.st.on hk, h.kept.trans (hk.mono (fun _ _ e => e.elim)), h.new⟩
theorem SnP.trans {w0 w w' w2 : World} {a a2 a3 : Option Addr} {l c l2 c2 l3 c3 : Nat} {qs qs3 : List SeenP} (h : SnP w0 w w' a l c a2 l2 c2 qs) (g : SnP w0 w' w2 a2 l2 c2 a3 l3 c3 qs3) : SnP w0 w w2 a l c a3 l3 c3 qs3 := by
  have h1 := h.kept; have g1 := g.kept
  have hs := h1.size
  refine ⟨g.st, ⟨g1.os.trans h1.os, g1.tape.trans h1.tape, g1.output.trans h1.output, Nat.le_trans h1.size g1.size, fun i hi hn => ?_⟩, fun k hk => ?_⟩
  · refine (g1.block i (Nat.lt_of_lt_of_le hi hs) (fun e => ?_)).trans (h1.block i hi hn)
    rcases h.new i e with q | q
    · exact hn q
    · omega
  · rcases g.new k hk with q | q
    · exact h.new k q
    · exact .inr (by omega)
def Dis (w : World) (na : Option Addr) (v : Value) : Prop := ∀ x, na = some x → x.block < w.heap.size ∧ v.ownBlock ≠ some x.block
theorem Dis.step {w0 w w' : World} {na a a2 : Option Addr} {l c l2 c2 : Nat} {qs : List SeenP} (h : Dis w na (.slice a l c)) (g : SnP w0 w w' a l c a2 l2 c2 qs) : Dis w' na (.slice a2 l2 c2) := by
  intro x hx
  obtain ⟨h1, h2⟩ := h x hx
  have := g.kept.size
  refine ⟨by omega, fun e => ?_⟩
  rcases g.new _ e with q | q
  · exact h2 q
  · omega
theorem nms_reads {w : World} {ao : Option Addr} {c : Nat} {l : Nms} (h : w.ownsRow 0 9 1 (.slice ao l.length c) l.length (nmC l)) : RdS w w.heap.size ao (l.map Prod.fst) := by
  refine own_readsS (base := 0) (n := l.length) (cap := c) ?_ (by simp)
  have e : (l.map Prod.fst).map strV = nmC l := by unfold nmC; rw [List.map_map]; rfl
  rw [e]; exact h
theorem joinB_two (a b : List UInt8) : joinB [a, b] = a ++ 47 :: b := by
  simp [joinB, Lib.join]
theorem row_two (w : World) (a b : List UInt8) : RdS (w.alloc (.cells #[.string (strB a), .string (strB b)] 9)) (w.heap.size + 1) (some ⟨w.heap.size, 0, none⟩) [a, b] := by
  intro i hi
  refine ⟨w.heap.size, 0, rfl, by omega, ?_⟩
  rw [Nat.zero_add, cell_new (k := w.heap.size) i rfl]
  rcases (show i = 0 ∨ i = 1 by simp at hi; omega) with rfl | rfl <;> rfl
def BelowR (w0 w : World) (a : Option Addr) (l c : Nat) (qs : List SeenP) : Ending → World → Prop := fun e w' => ∃ a2 l2 c2, e = .returned (.slice a2 l2 c2) ∧ Hid (SnP w0 w w' a l c a2 l2 c2 qs)
set_option maxHeartbeats 4000000 in
theorem allBelow_core {S : Nat → Prop} {w0 : World} {f : Nat} {T : FsP} (h : FsSt S w0 f T) (hclk : T.clock ≤ 1000000000) (go : Int → List UInt8 → List SeenP) (dir : Int) (hdir : -9223372036854775808 ≤ dir ∧ dir ≤ 9223372036854775807) (path : List UInt8) (hp : path.length ≤ 500000000)
    (IH : ∀ p ∈ namesP T dir, ∀ (W : World) (a : Option Addr) (l c : Nat) (qs : List SeenP), SnSt w0 W a l c qs → qs.length + (go p.2 (joinW path p.1)).length ≤ 1000000000 →
      Calls Tryd.prog 27 #[.pointer (some ⟨f, 0, none⟩), .int .i64 p.2, .string (strB (joinW path p.1)), .slice a l c] W (BelowR w0 W a l c (qs ++ go p.2 (joinW path p.1))))
    (w : World) (a : Option Addr) (l c : Nat) (qs : List SeenP) (hS : SnSt w0 w a l c qs) (hl : qs.length + (allL go path (namesP T dir)).length ≤ 1000000000) :
    Calls Tryd.prog 27 #[.pointer (some ⟨f, 0, none⟩), .int .i64 dir, .string (strB path), .slice a l c] w (BelowR w0 w a l c (qs ++ allL go path (namesP T dir))) := by
  have HNs := Lib.hid (names_any (h.keptNo hS.kept) dir hdir hclk)
  have hOk : OkT T := by obtain ⟨L, B, mb, h1⟩ := h; exact h1.ok
  have HFd := Lib.hid (fun (p : List UInt8 × Int) (hp : p ∈ namesP T dir) => find_mem hOk hp)
  have HFs := Lib.hid h
  obtain ⟨nms, hn⟩ : ∃ nms, nms = namesP T dir := ⟨_, rfl⟩
  rw [← hn] at HNs HFd IH hl ⊢
  have hnl : nms.length ≤ 1000000000 := by
    have := names_in hOk dir
    rw [← hn] at this; omega
  have HIH := Lib.hid IH
  have HS := Lib.hid hS
  have HL := Lib.hid hl
  clear h hn IH hS hl hOk
  obtain ⟨n, hnn⟩ : ∃ n, n = nms.length := ⟨_, rfl⟩
  rw [← hnn] at HNs hnl
  have HNn := Lib.hid hnn
  clear hnn
  go_enter Tryd.func27, Tryd.ntmps27
  go_wp2_with (go_at_call 32; refine HNs.out.mono ?_; rintro e w1 ⟨na, nc, rfl, hq⟩)
  have hq2 := hq.out
  rw [HNn.out] at hq2
  have HR1 : Hid (RdS w1 w1.heap.size na (nms.map Prod.fst)) := Lib.hid (nms_reads hq2.1)
  have HD1 : Hid (Dis w1 na (.slice a l c)) := Lib.hid (fun x hx => by
    have hb := hq2.2.1 x.block (by rw [hx]; rfl)
    refine ⟨(hq2.1.lt x.block (by rw [hx]; rfl)).2, fun e => ?_⟩
    have := HS.out.low _ e
    omega)
  have HP1 : Hid (SnP w0 w w1 a l c a l c (qs ++ allL go path (nms.take 0))) := Lib.hid (by
    rw [List.take_zero]
    show SnP w0 w w1 a l c a l c (qs ++ [])
    rw [List.append_nil]
    exact SnP.refl HS.out hq2.2.2)
  clear hq hq2 HNs
  obtain ⟨B, hB⟩ : ∃ B, B = w1.heap.size := ⟨_, rfl⟩
  rw [← hB] at HR1
  clear hB
  go_wp2_with fail
  go_loopw [3, 10, 11, 12, 13, 18] (fun v3 v10 v11 v12 v13 v18 wr => ∃ (i : Nat) (a' : Option Addr) (l' c' : Nat), v3 = .slice a' l' c' ∧ v18 = .int .i64 (i : Int) ∧ i ≤ n ∧ Hid (SnP w0 w wr a l c a' l' c' (qs ++ allL go path (nms.take i))) ∧ Hid (RdS wr B na (nms.map Prod.fst)) ∧ Hid (Dis wr na (.slice a' l' c'))) (fun _ _ _ _ _ v18 _ => n - (intOf v18).toNat)
  case atStart => exact ⟨0, a, l, c, rfl, rfl, by omega, HP1, HR1, HD1⟩
  case round =>
    obtain ⟨i, a', l', c', rfl, rfl, hi, HP, HR, HD⟩ := hrel
    clear HP1 HR1 HD1
    by_cases hlt : (i : Int) < n
    · have hin : i < nms.length := by have := HNn.out; omega
      obtain ⟨g, off, rfl, hgl, hc0⟩ := HR.out i (by simpa using hin)
      obtain ⟨p, hpe⟩ : ∃ p, p = nms[i] := ⟨_, rfl⟩
      have hpm : p ∈ nms := by rw [hpe]; exact List.getElem_mem hin
      have hc1 : (nms.map Prod.fst).getD i [] = p.1 := by rw [hpe]; simp [List.getD, hin]
      rw [hc1] at hc0
      have HSn : Hid (allL go path (nms.take (i + 1)) = allL go path (nms.take i) ++ ((joinW path p.1, p.2) :: go p.2 (joinW path p.1))) := Lib.hid (by rw [hpe]; exact allL_snoc go path nms i hin)
      obtain ⟨hf1, hf2, hf3, hf4⟩ := HFd.out p hpm
      have HFi : Hid (Calls Tryd.prog 25 #[.pointer (some ⟨f, 0, none⟩), .int .i64 dir, .string (strB p.1)] wr fun e w' => e = .returned (.tuple #[.int .i64 p.2, .int .i64 0]) ∧ Kept NoB wr w') := Lib.hid (by
        have := find_any (HFs.out.keptNo HP.out.st.kept) dir hdir p.1 (by omega)
        rw [hf1] at this
        exact this)
      have HLen : Hid ((qs ++ allL go path (nms.take i)).length + 1 + (go p.2 (joinW path p.1)).length ≤ 1000000000) := Lib.hid (by
        have h1 := allL_take_le go path nms (i + 1)
        have h2 := HL.out
        have h3 := congrArg List.length HSn.out
        simp only [List.length_append, List.length_cons] at h3 ⊢
        omega)
      have HI := Lib.hid (HIH.out p hpm)
      obtain ⟨ino, hino⟩ : ∃ ino, ino = p.2 := ⟨_, rfl⟩
      obtain ⟨part, hpart⟩ : ∃ part, part = p.1 := ⟨_, rfl⟩
      rw [← hino] at HFi HSn HLen HI
      rw [← hpart] at HFi HSn HLen HI hc0 hf2
      clear hpe hpm hc1 hf1 hf3 hf4 hino hpart hin
      have hl5 : l' ≤ 1000000000 := by
        have h1 := HP.out.st.len
        have h2 := HLen.out
        omega
      go_upto_region 5 with (first | (go_at_call 25; refine HFi.out.mono ?_; rintro e w2 ⟨rfl, hk2⟩) | fail)
      have HP2 := Lib.hid (HP.out.on hk2)
      have HR2 := Lib.hid (HR.out.keptNo hk2)
      have HD2 : Hid (Dis w2 (some ⟨g, off, none⟩) (.slice a' l' c')) := Lib.hid (HD.out.step (SnP.refl HP.out.st hk2))
      clear HP HR HD hk2 HFi hc0 hgl
      have HJn : Hid (path ≠ [] → Calls Tryd.prog 33 #[.slice (some ⟨w2.heap.size, 0, none⟩) 2 2] (w2.alloc (.cells #[.string (strB path), .string (strB part)] 9)) fun e w' => e = .returned (.string (strB (joinW path part))) ∧ Kept NoB w2 w') := Lib.hid (fun hne => by
        have hln : (joinB [path, part]).length ≤ 1000000000 := by rw [joinB_two]; simp; omega
        have := njoin_any (some ⟨w2.heap.size, 0, none⟩) 2 (w2.heap.size + 1) [path, part] _ (row_two w2 path part) (by simp) (by simp) hln
        rw [joinB_two] at this
        have e : joinW path part = path ++ 47 :: part := by unfold joinW; rw [if_neg hne]
        rw [e]
        refine this.mono ?_
        rintro e w' ⟨rfl, hb⟩
        exact ⟨rfl, ((Kept.refl NoB w2).alloc _).ofBelow hb⟩)
      have HX : Hid ((strB path).toList = path) := Lib.hid (strB_list path)
      go_upto_if 31 with fail
      go_cut [13] from 29 to 35 (fun v13 wx => v13 = .string (strB (joinW path part)) ∧ Hid (Kept NoB w2 wx))
      case first =>
        by_cases hne : path = []
        · have e1 : (strB path).toList = [] := by rw [HX.out]; exact hne
          have e2 : (strB path).toList.isEmpty = true := by rw [e1]; rfl
          have HE3 : Hid (joinW path part = part) := Lib.hid (by unfold joinW; rw [if_pos hne])
          clear hne e1
          rw [e2]
          go_wp2
          go_meet
          exact ⟨by rw [HE3.out], Lib.hid (Kept.refl _ _)⟩
        · have HJ := Lib.hid (HJn.out hne)
          have e2 : (strB path).toList.isEmpty = false := by rw [HX.out]; cases path with | nil => exact absurd rfl hne | cons => rfl
          clear hne
          rw [e2]
          go_wp2_with (go_at_call 33; refine HJ.out.mono ?_; rintro e w3 ⟨rfl, hk3⟩)
          go_meet
          exact ⟨rfl, Lib.hid hk3⟩
      case rest =>
        obtain ⟨rfl, HK3⟩ := hcut
        clear HJn HX
        have HP3 := Lib.hid (HP2.out.on HK3.out)
        have HR3 := Lib.hid (HR2.out.keptNo HK3.out)
        have HD3 : Hid (Dis wc (some ⟨g, off, none⟩) (.slice a' l' c')) := Lib.hid (HD2.out.step (SnP.refl HP2.out.st HK3.out))
        clear HP2 HR2 HD2 HK3
        obtain ⟨J, hJ⟩ : ∃ J, J = joinW path part := ⟨_, rfl⟩
        rw [← hJ] at HSn HLen HI ⊢
        clear hJ
        obtain ⟨w4, hw4⟩ : ∃ w4, w4 = wc.alloc (.cells #[.string (strB J), .int .i64 ino] 61) := ⟨_, rfl⟩
        have hk4 : Kept NoB wc w4 := by rw [hw4]; exact (Kept.refl NoB wc).alloc _
        have HP4 := Lib.hid (HP3.out.on hk4)
        have HR4 := Lib.hid (HR3.out.keptNo hk4)
        have HD4 : Hid (Dis w4 (some ⟨g, off, none⟩) (.slice a' l' c')) := Lib.hid (HD3.out.step (SnP.refl HP3.out.st hk4))
        have hc0 : w4.cell? ⟨wc.heap.size, 0, none⟩ = some (.string (strB J)) := by rw [hw4, cell_new (k := wc.heap.size) 0 rfl]; rfl
        have hc1 : w4.cell? ⟨wc.heap.size, 1, none⟩ = some (.int .i64 ino) := by rw [hw4, cell_new (k := wc.heap.size) 1 rfl]; rfl
        have HW4 := Lib.hid hw4
        clear HP3 HR3 HD3 hk4 hw4
        go_wp2_with (at_builtin; rw [← HW4.out]; refine wpList_seen rfl _ _ rfl HP4.out.st rfl wc.heap.size 1 (J, ino) rfl hc0 hc1 hl5 ?_; intro a2 c2 w5 hs5 hk5 hn5)
        have hs4 : Kept NoB wc w4 := by rw [HW4.out]; exact (Kept.refl NoB wc).alloc _
        have HP5 : Hid (SnP w0 w w5 a l c a2 (l' + 1) c2 ((qs ++ allL go path (nms.take i)) ++ [(J, ino)])) := Lib.hid (HP4.out.trans ⟨hs5, hk5, hn5⟩)
        have HR5 : Hid (RdS w5 B (some ⟨g, off, none⟩) (nms.map Prod.fst)) := Lib.hid (HR4.out.keptD hk5 (fun x hx e => (HD4.out x hx).2 e))
        have HD5 : Hid (Dis w5 (some ⟨g, off, none⟩) (.slice a2 (l' + 1) c2)) := Lib.hid (HD4.out.step ⟨hs5, hk5, hn5⟩)
        have HC : Hid (Calls Tryd.prog 27 #[.pointer (some ⟨f, 0, none⟩), .int .i64 ino, .string (strB J), .slice a2 (l' + 1) c2] w5 (BelowR w0 w5 a2 (l' + 1) c2 (((qs ++ allL go path (nms.take i)) ++ [(J, ino)]) ++ go ino J))) := Lib.hid (HI.out w5 a2 (l' + 1) c2 _ hs5 (by have := HLen.out; simp only [List.length_append, List.length_cons, List.length_nil] at this ⊢; omega))
        clear HP4 HR4 HD4 hc0 hc1 hs5 hk5 hn5 hs4 HI HLen HW4
        go_wp2_with (go_at_call 27; refine HC.out.mono ?_; rintro e w6 ⟨a3, l3, c3, rfl, HP6⟩)
        have HP7 : Hid (SnP w0 w w6 a l c a3 l3 c3 (qs ++ allL go path (nms.take (i + 1)))) := Lib.hid (by
          have := HP5.out.trans HP6.out
          rw [HSn.out]
          simpa using this)
        have HR7 : Hid (RdS w6 B (some ⟨g, off, none⟩) (nms.map Prod.fst)) := Lib.hid (HR5.out.keptD HP6.out.kept (fun x hx e => (HD5.out x hx).2 e))
        have HD7 : Hid (Dis w6 (some ⟨g, off, none⟩) (.slice a3 l3 c3)) := Lib.hid (HD5.out.step HP6.out)
        clear HP5 HR5 HD5 HP6 HSn HC
        go_wp2_with fail
        go_roundw
        case rel => exact ⟨i + 1, a3, l3, c3, rfl, by go_num, by omega, HP7, HR7, HD7⟩
        case measure => simp [intOf]; omega
    · have he : nms.take i = nms := List.take_of_length_le (by have := HNn.out; omega)
      rw [he] at HP
      clear he
      go_wp2
      go_ret
      exact ⟨_, _, _, rfl, HP⟩
theorem allBelow_any {S : Nat → Prop} {w0 : World} {f : Nat} {T : FsP} (h : FsSt S w0 f T) (hclk : T.clock ≤ 1000000000) : ∀ (k : Nat) (dir : Int), (-9223372036854775808 ≤ dir ∧ dir ≤ 9223372036854775807) → Deep T k dir → ∀ (path : List UInt8), path.length + 256 * k ≤ 500000000 →
    ∀ (w : World) (a : Option Addr) (l c : Nat) (qs : List SeenP), SnSt w0 w a l c qs → qs.length + (allP T k dir path).length ≤ 1000000000 →
    Calls Tryd.prog 27 #[.pointer (some ⟨f, 0, none⟩), .int .i64 dir, .string (strB path), .slice a l c] w (BelowR w0 w a l c (qs ++ allP T k dir path)) := by
  have hOk : OkT T := by obtain ⟨L, B, mb, h1⟩ := h; exact h1.ok
  intro k
  induction k with
  | zero =>
    intro dir hdir hd path hp w a l c qs hS hl
    have hn : namesP T dir = [] := hd
    have := allBelow_core h hclk (fun _ _ => []) dir hdir path (by omega) (fun p hp => by rw [hn] at hp; cases hp) w a l c qs hS (by rw [hn]; simpa [allL, allP] using hl)
    rw [hn] at this
    exact this
  | succ k ih =>
    intro dir hdir hd path hp w a l c qs hS hl
    refine allBelow_core h hclk (allP T k) dir hdir path (by omega) (fun p hpm W a l c qs hS hl => ?_) w a l c qs hS hl
    obtain ⟨_, h2, _, h4⟩ := find_mem hOk hpm
    have h5 := joinW_len path p.1
    have h6 := hOk.next.2
    exact ih p.2 (by omega) (hd p hpm) _ (by omega) W a l c qs hS hl
set_option maxHeartbeats 1000000 in
/-- All. -/
theorem all_any {S : Nat → Prop} {w : World} {f : Nat} {T : FsP} (h : FsSt S w f T) (hclk : T.clock ≤ 1000000000) (k : Nat) (hk : k ≤ 1000000) (dir : Int) (hdir : -9223372036854775808 ≤ dir ∧ dir ≤ 9223372036854775807) (hd : Deep T k dir) (hl : (allP T k dir []).length ≤ 1000000000) :
    Calls Tryd.prog 16 #[.pointer (some ⟨f, 0, none⟩), .int .i64 dir] w fun e w' => ∃ a l c, e = .returned (.slice a l c) ∧ Hid (SnSt w w' a l c (allP T k dir [])) := by
  have H := Lib.hid (allBelow_any h hclk k dir hdir hd [] (by simp; omega) w none 0 0 [] (SnSt.start (Kept.refl _ _)) (by simpa using hl))
  clear h hd hl
  go_enter Tryd.func16, Tryd.ntmps16
  go_wp2_with (go_at_call 27; refine H.out.mono ?_; rintro e w1 ⟨a, l, c, rfl, hq⟩)
  go_ret
  exact ⟨a, l, c, rfl, Lib.hid (by have := hq.out.st; simpa using this)⟩
end Go.Proofs.YtjjgadanobeamaaDoor

namespace Go.Proofs.YtjjgadanobeamaaDoor
open Go.RowKit Go.Shelf
set_option linter.unusedVariables false
set_option linter.unusedSimpArgs false
set_option maxRecDepth 20000

theorem infoI : (Tryd.prog.info? 3).map (fun i => (i.zero, i.size, i.bytes)) = some (some (.int .i64 0), 1, 8) := by kernel_rfl
def wayC (f : Nat) (dir : Int) (ga : Option Addr) (gl gc : Nat) (pa : Option Addr) (pl pc : Nat) (links : Int) : List Value := [.pointer (some ⟨f, 0, none⟩), .int .i64 dir, .slice ga gl gc, .slice pa pl pc, .int .i64 links]
structure WayIn (w0 w : World) (W f : Nat) (dir : Int) (gone : List Int) (todo : List (List UInt8)) (links : Int) (ga : Option Addr) (gl gc : Nat) (pa : Option Addr) (pl pc : Nat) : Prop where
  obj : w.heap[W]? = some (.cells (wayC f dir ga gl gc pa pl pc links).toArray 53 (0, 0))
  grow : w.ownsRow 0 3 1 (.slice ga gl gc) gl (gone.reverse.map (.int .i64))
  prow : w.ownsRow 0 9 1 (.slice pa pl pc) pl (todo.reverse.map strV)
  glen : gl = gone.length
  plen : pl = todo.length
  gown : ∀ k, (Value.slice ga gl gc).ownBlock = some k → w0.heap.size ≤ k ∧ k ≠ W
  pown : ∀ k, (Value.slice pa pl pc).ownBlock = some k → w0.heap.size ≤ k ∧ k ≠ W ∧ (Value.slice ga gl gc).ownBlock ≠ some k
  kept : Kept NoB w0 w
  low : w0.heap.size ≤ W
def WaySt (w0 w : World) (W f : Nat) (dir : Int) (gone : List Int) (todo : List (List UInt8)) (links : Int) : Prop := ∃ ga gl gc pa pl pc, WayIn w0 w W f dir gone todo links ga gl gc pa pl pc
theorem WayIn.on {w0 w w' : World} {W f : Nat} {dir : Int} {gone : List Int} {todo : List (List UInt8)} {links : Int} {ga : Option Addr} {gl gc : Nat} {pa : Option Addr} {pl pc : Nat} (h : WayIn w0 w W f dir gone todo links ga gl gc pa pl pc) (hk : Kept NoB w w') : WayIn w0 w' W f dir gone todo links ga gl gc pa pl pc :=
  ⟨hk.obj h.obj id, hk.row h.grow (fun _ _ e => e), hk.row h.prow (fun _ _ e => e), h.glen, h.plen, h.gown, h.pown, h.kept.trans hk, h.low⟩
theorem WaySt.on {w0 w w' : World} {W f : Nat} {dir : Int} {gone : List Int} {todo : List (List UInt8)} {links : Int} (h : WaySt w0 w W f dir gone todo links) (hk : Kept NoB w w') : WaySt w0 w' W f dir gone todo links := by
  obtain ⟨ga, gl, gc, pa, pl, pc, h⟩ := h
  exact ⟨ga, gl, gc, pa, pl, pc, h.on hk⟩
theorem own_low {w : World} {base e s n cap : Nat} {ao : Option Addr} {xs : List Value} (h : w.ownsRow base e s (.slice ao n cap) n xs) : n ≤ cap ∧ cap ≤ maxLen ∧ (ao = none → n = 0 ∧ cap = 0) := by
  rcases h.2 with ⟨hv, hn⟩ | ⟨g, c, cur, hv, _, _, h1, h2, _⟩
  · simp at hv; obtain ⟨rfl, rfl, rfl⟩ := hv; exact ⟨Nat.le_refl _, Nat.zero_le _, fun _ => ⟨rfl, rfl⟩⟩
  · simp at hv; obtain ⟨rfl, rfl⟩ := hv; exact ⟨h1, h2, fun e => by cases e⟩
theorem own_take {w : World} {base e n k cap : Nat} {ao : Option Addr} {xs : List Value} (h : w.ownsRow base e 1 (.slice ao n cap) n xs) (hk : k ≤ n) : w.ownsRow base e 1 (.slice ao k cap) k (xs.take k) := by
  have hl := h.1
  rcases h.2 with ⟨hv, hn⟩ | ⟨g, c, cur, hv, hb, hg, h1, h2, h3, h4⟩
  · simp at hv; obtain ⟨rfl, rfl, rfl⟩ := hv
    obtain rfl : k = 0 := by omega
    refine ⟨by simp, .inl ⟨rfl, rfl⟩⟩
  · simp at hv; obtain ⟨rfl, rfl⟩ := hv
    refine ⟨by rw [List.length_take, hl]; omega, .inr ⟨g, cap, cur, rfl, hb, hg, by omega, h2, h3, ?_⟩⟩
    rw [← h4, List.take_take]
    congr 1; omega
theorem WayIn.cell {w0 w : World} {W f : Nat} {dir : Int} {gone : List Int} {todo : List (List UInt8)} {links : Int} {ga : Option Addr} {gl gc : Nat} {pa : Option Addr} {pl pc : Nat} (h : WayIn w0 w W f dir gone todo links ga gl gc pa pl pc) :
    w.cell? ⟨W, 0, none⟩ = some (.pointer (some ⟨f, 0, none⟩)) ∧ w.cell? ⟨W, 1, none⟩ = some (.int .i64 dir) ∧ w.cell? ⟨W, 2, none⟩ = some (.slice ga gl gc) ∧ w.cell? ⟨W, 3, none⟩ = some (.slice pa pl pc) ∧ w.cell? ⟨W, 4, none⟩ = some (.int .i64 links) := by
  have h0 := h.obj
  exact ⟨by rw [obj_cell h0]; rfl, by rw [obj_cell h0]; rfl, by rw [obj_cell h0]; rfl, by rw [obj_cell h0]; rfl, by rw [obj_cell h0]; rfl⟩
theorem WayIn.turn {w0 w w1 w' : World} {W f : Nat} {dir : Int} {gone gone' : List Int} {todo todo' : List (List UInt8)} {links links' : Int} {ga ga' : Option Addr} {gl gc gl' gc' : Nat} {pa pa' : Option Addr} {pl pc pl' pc' : Nat} (h : WayIn w0 w W f dir gone todo links ga gl gc pa pl pc)
    (hk : Kept (OneB W) w1 w') (ho : w'.heap[W]? = some (.cells (wayC f dir ga' gl' gc' pa' pl' pc' links').toArray 53 (0, 0)))
    (h1 : w1.ownsRow 0 3 1 (.slice ga' gl' gc') gl' (gone'.reverse.map (.int .i64))) (h2 : w1.ownsRow 0 9 1 (.slice pa' pl' pc') pl' (todo'.reverse.map strV)) (hg : gl' = gone'.length) (hp : pl' = todo'.length)
    (h3 : ∀ k, (Value.slice ga' gl' gc').ownBlock = some k → w0.heap.size ≤ k ∧ k ≠ W) (h4 : ∀ k, (Value.slice pa' pl' pc').ownBlock = some k → w0.heap.size ≤ k ∧ k ≠ W ∧ (Value.slice ga' gl' gc').ownBlock ≠ some k) (hk0 : Kept NoB w0 w1) : WayIn w0 w' W f dir gone' todo' links' ga' gl' gc' pa' pl' pc' :=
  ⟨ho, hk.row h1 (fun k e q => (h3 k e).2 q), hk.row h2 (fun k e q => (h4 k e).2.1 q), hg, hp, h3, h4,
    ⟨hk.os.trans hk0.os, hk.tape.trans hk0.tape, hk.output.trans hk0.output, Nat.le_trans hk0.size hk.size, fun i hi _ => (hk.block i (Nat.lt_of_lt_of_le hi hk0.size) (fun q => by have := h.low; rw [q] at hi; omega)).trans (hk0.block i hi id)⟩, h.low⟩
set_option maxHeartbeats 1000000 in
theorem at_any {w0 w : World} {W f : Nat} {dir : Int} {gone : List Int} {todo : List (List UInt8)} {links : Int} (h : WaySt w0 w W f dir gone todo links) :
    Calls Tryd.prog 15 #[.pointer (some ⟨W, 0, none⟩)] w fun e w' => e = .returned (.int .i64 (atW dir gone)) ∧ Kept NoB w w' := by
  obtain ⟨ga, gl, gc, pa, pl, pc, h⟩ := h
  obtain ⟨c0, c1, c2, c3, c4⟩ := h.cell
  have hgl := h.glen
  cases gone with
  | nil =>
    obtain rfl : gl = 0 := hgl
    clear h
    go_enter Tryd.func15, Tryd.ntmps15
    go_wp2
    go_ret
    exact ⟨rfl, Kept.refl _ _⟩
  | cons x r =>
    have hlow := own_low h.grow
    obtain ⟨m, hm⟩ : ∃ m, m = r.length := ⟨_, rfl⟩
    obtain rfl : gl = m + 1 := by rw [hgl, hm]; rfl
    have hga : ∃ g, ga = some ⟨g, 0, none⟩ := by
      rcases h.grow.2 with ⟨_, hz⟩ | ⟨g, cc, cur, hv, _⟩
      · omega
      · simp at hv; exact ⟨g, hv.1⟩
    obtain ⟨g, rfl⟩ := hga
    have hc : w.cell? ⟨g, m, none⟩ = some (.int .i64 x) := by
      have := h.grow.cellAt m (by omega)
      rw [this, List.map_reverse, List.map_cons, List.reverse_cons, List.getElem?_append_right (by simp; omega)]
      simp [hm]
    have e1 : (((m + 1 : Nat) : Int) == 0) = false := by simp; omega
    have hw : IntKind.i64.wrap (m : Int) = (m : Int) := IntWalk.i64_in _ (by unfold maxLen at hlow; omega)
    clear h hgl hm
    go_enter Tryd.func15, Tryd.ntmps15
    go_wp2_with fail
    go_quiet (fail)
    go_wp2
    go_ret
    exact ⟨rfl, (Kept.refl NoB w).drewN _⟩
theorem prefix_roots (l : List UInt8) : Lib.hasPrefix l [47] = roots l := by
  cases l with
  | nil => rfl
  | cons b t =>
    unfold Lib.hasPrefix roots
    by_cases h : b = 47
    · subst h; rfl
    · have h1 : ((47 : UInt8) == b) = false := by simpa using fun e : (47 : UInt8) = b => h e.symm
      have h2 : (b == 47) = false := by simpa using h
      simp only [List.isPrefixOf, h1, Bool.false_and, List.head?_cons]
      simp [h]
theorem wpList_strs {ops : Array Oper} {rest : List Oper} {o : Oper} {a : Act} {w : World} {Q : Exit → Act → World → Prop} (hgd : o.guard = none) (s x : Operand)
    (ho : o.op = .call { callee := .builtin .append, args := #[s, x], argTypes := #[51, 51] })
    {pa : Option Addr} {pl pc : Nat} {ps : List (List UInt8)} (hS : w.ownsRow 0 9 1 (.slice pa pl pc) pl (ps.map strV)) (hs : a.eval s = .slice pa pl pc)
    (g m c : Nat) (news : List (List UInt8)) (hx : a.eval x = .slice (some ⟨g, 0, none⟩) m c) (hn : w.ownsRow 0 9 1 (.slice (some ⟨g, 0, none⟩) m c) m (news.map strV)) (hb : pl + m ≤ 1000000000)
    (h : ∀ a2 c2 w', w'.ownsRow 0 9 1 (.slice a2 (pl + m) c2) (pl + m) ((ps ++ news).map strV) → Kept (OwnB (Value.slice pa pl pc)) w w' → (∀ k, (Value.slice a2 (pl + m) c2).ownBlock = some k → (Value.slice pa pl pc).ownBlock = some k ∨ w.heap.size ≤ k) → wpList Tryd.prog ops Q rest (a.put o.dst (.slice a2 (pl + m) c2)) w') : wpList Tryd.prog ops Q (o :: rest) a w := by
  obtain ⟨i0, hi, hz0, hz1, hz2⟩ := info_parts infoS
  have hnl : news.length = m := by simpa using hn.1
  refine wpList_app w hgd s x 51 ho 9 i0 (.string ⟨#[]⟩) 1 16 (by kernel_rfl) hi hz0 hz1 hz2 rfl (by decide) _ pl (ps.map strV) hs hS ⟨g, 0, none⟩ m c (news.map strV) hx (by simp [hnl]) ?_ (fun u hu => by obtain ⟨y, _, rfl⟩ := List.mem_map.1 hu; rfl) (by unfold maxLen; omega) (by omega) ?_
  · intro j u hu
    have hj : j < m := by
      have := (List.getElem?_eq_some_iff.1 hu).1
      simpa [hnl] using this
    rw [addr_add, Nat.zero_add, hn.cellAt j (by omega)]
    exact hu
  intro v' w' h2 h3 h4
  obtain ⟨a2, c2, rfl⟩ := row_shape h2
  exact h _ _ _ (by rw [List.map_append]; exact h2) ((Kept.refl _ w).grown h3 (fun k hk e => e)) h4
set_option maxHeartbeats 4000000 in
theorem turn_any {w0 w : World} {W f : Nat} {dir : Int} {gone : List Int} {todo : List (List UInt8)} {links : Int} (h : WaySt w0 w W f dir gone todo links) (path : List UInt8) (hp : path.length ≤ 1000000) (ht : todo.length ≤ 100000000) :
    Calls Tryd.prog 13 #[.pointer (some ⟨W, 0, none⟩), .string (strB path)] w fun e w' => e = .returned (.tuple #[]) ∧ Hid (WaySt w0 w' W f dir (turnG path gone) (turnT path todo) links) := by
  have HPx : Hid (Calls Tryd.prog 22 #[.string (strB path), .string { data := #[47] }] w fun e w' => e = .returned (.bool (roots path)) ∧ w = w') := Lib.hid (by
    have := Tryd.strings_HasPrefix (strB path) ⟨#[47]⟩ w
    have e : Lib.hasPrefix (strB path).data.toList (⟨#[47]⟩ : ByteArray).data.toList = roots path := prefix_roots path
    rw [e] at this
    exact this.mono (fun e w' h => ⟨h.1, h.2.symm⟩))
  have HSp := Lib.hid (fun W => split_any path W hp)
  have HTn := Lib.hid (fun W W1 hW => turned_any path W W1 hW hp)
  obtain ⟨ga, gl, gc, pa, pl, pc, h⟩ := h
  obtain ⟨c0, c1, c2, c3, c4⟩ := h.cell
  have hfr := obj_free h.obj 2
  have HW := Lib.hid h
  clear h
  go_enter Tryd.func13, Tryd.ntmps13
  go_upto_if 6 with (first | (go_at_call 22; refine HPx.out.mono ?_; rintro e w1 ⟨rfl, rfl⟩) | fail)
  go_cut [] from 5 to 9 (fun wx => Hid (WaySt w0 wx W f dir (turnG path gone) todo links))
  case first =>
    cases hr : roots path
    · have HE : Hid (turnG path gone = gone) := Lib.hid (by unfold turnG; rw [hr]; rfl)
      clear hr
      go_wp2
      go_meet
      exact Lib.hid (by rw [HE.out]; exact ⟨_, _, _, _, _, _, HW.out⟩)
    · have HE : Hid (turnG path gone = []) := Lib.hid (by unfold turnG; rw [hr]; rfl)
      clear hr
      go_wp2
      go_meet
      refine Lib.hid (by
        rw [HE.out]
        refine ⟨none, 0, 0, pa, pl, pc, HW.out.turn (w1 := w) ((Kept.refl (OneB W) w).setCell (p := ⟨W, 2, none⟩) (.inl rfl) _) ?_ (World.ownsRow_nil _ _ _ _) HW.out.prow rfl HW.out.plen (fun k e => by simp [Value.ownBlock] at e) (fun k e => ⟨(HW.out.pown k e).1, (HW.out.pown k e).2.1, by simp [Value.ownBlock]⟩) HW.out.kept⟩
        have := obj_set HW.out.obj 2 (.slice none 0 0)
        exact this)
  case rest =>
    have HQ := hcut
    clear hcut HW c0 c1 c2 c3 c4 hfr HPx
    obtain ⟨gn, hgn⟩ : ∃ gn, gn = turnG path gone := ⟨_, rfl⟩
    rw [← hgn] at HQ
    have HGn := Lib.hid hgn
    clear hgn
    go_upto_region 3 with (first | (go_at_call 23; refine (HSp.out _).mono ?_; rintro e w1 ⟨rfl, rfl⟩) | fail)
    have HR := Lib.hid (HTn.out wc _ rfl)
    clear HSp HTn
    go_upto_region 4 with (first | (go_at_call 24; refine HR.out.mono ?_; rintro e w2 ⟨rfl, hr2, hk2⟩) | fail)
    have HW2 := Lib.hid (HQ.out.on hk2)
    have HR2 := Lib.hid hr2
    have HRn : Hid (∀ k, (Value.slice (some ⟨wc.heap.size, 0, none⟩) (pieces path).length (pieces path).length).ownBlock = some k → wc.heap.size ≤ k) := Lib.hid (fun k e => by simp [Value.ownBlock] at e; omega)
    clear HR hk2 hr2
    obtain ⟨pn, hpn⟩ : ∃ pn, pn = (pieces path).length := ⟨_, rfl⟩
    have hpl2 : pn ≤ 1000001 := by
      have h1 := pieces_cnt path
      have h2 : path.count 47 ≤ path.length := List.count_le_length
      omega
    rw [← hpn] at HR2 ⊢
    clear hpn
    obtain ⟨ga, gl, gc, pa, pl, pc, h⟩ := HW2.out
    obtain ⟨c0, c1, c2, c3, c4⟩ := h.cell
    have hpl := h.plen
    have hpb : pl ≤ 100000000 := by omega
    have HW3 := Lib.hid h
    obtain ⟨X, hX⟩ : ∃ X, X = wc.heap.size := ⟨_, rfl⟩
    rw [← hX] at HR2 ⊢
    clear h hpl HW2 HQ hX HRn
    have HNe : Hid (¬ OwnB (.slice pa pl pc) W) := Lib.hid (fun e => (HW3.out.pown W e).2.1 rfl)
    go_wp2_with (at_builtin; refine wpList_strs rfl _ _ rfl HW3.out.prow rfl X pn pn _ rfl HR2.out (by omega) ?_; intro a2 c2 w5 ho5 hk5 hn5; have c35 := World.cell?_of_block (a := ⟨W, 3, none⟩) (hk5.block W (obj_lt HW3.out.obj) HNe.out) |>.trans c3; have fr5 : w5.frozen? ⟨W, 3, none⟩ = false := obj_free (hk5.obj HW3.out.obj HNe.out) 3)
    go_end0
    refine ⟨rfl, Lib.hid ?_⟩
    have hS : Hid (WaySt w0 (w5.setCell ⟨W, 3, none⟩ (.slice a2 (pl + pn) c2)) W f dir gn (turnT path todo) links) := Lib.hid (by
      have hob := hk5.obj HW3.out.obj HNe.out
      have hs := hk5.size
      refine ⟨ga, gl, gc, a2, pl + pn, c2, HW3.out.turn (w1 := w5) ((Kept.refl (OneB W) w5).setCell (p := ⟨W, 3, none⟩) (.inl rfl) _) (obj_set hob 3 _) (hk5.row HW3.out.grow (fun k e q => (HW3.out.pown k q).2.2 e)) ?_ HW3.out.glen ?_ HW3.out.gown (fun k e => ?_) ?_⟩
      · have e : (turnT path todo).reverse = todo.reverse ++ (pieces path).reverse := by unfold turnT; rw [List.reverse_append]
        rw [e]; exact ho5
      · have h1 := HW3.out.plen
        have h2 : pn = (pieces path).length := by simpa using HR2.out.1.symm
        unfold turnT
        rw [List.length_append]; omega
      · rcases hn5 k e with q | q
        · exact HW3.out.pown k q
        · refine ⟨by have := HW3.out.kept.size; omega, fun h => ?_, fun h => ?_⟩
          · have := obj_lt HW3.out.obj; omega
          · have := (HW3.out.grow.lt k h).2; omega
      · have hk0 := HW3.out.kept
        exact ⟨hk5.os.trans hk0.os, hk5.tape.trans hk0.tape, hk5.output.trans hk0.output, Nat.le_trans hk0.size hs, fun i hi _ => (hk5.block i (Nat.lt_of_lt_of_le hi hk0.size) (fun q => by have := (HW3.out.pown i q).1; omega)).trans (hk0.block i hi id)⟩)
    rw [← HGn.out]
    exact hS.out
end Go.Proofs.YtjjgadanobeamaaDoor
