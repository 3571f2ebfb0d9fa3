/-
  The law TreeHoles.
-/
import Derived.Test.YtjjgadanobeamaaMh21
namespace Go.Proofs.Ytjjgadanobeamaa
open Go.RowKit
set_option linter.unusedVariables false
set_option linter.unusedSimpArgs false
set_option maxRecDepth 20000

theorem mask1023 (n : Int) : bits .and .i64 n 1023 = n % 1024 := i64_mask n 10 (by decide)
theorem mask3 (n : Int) : bits .and .i64 n 3 = n % 4 := i64_mask n 2 (by decide)
def zopC : Array Value := #[.int .i64 0, .int .i64 0, .int .i64 0, .int .i64 0, .int .i64 0, .string ⟨#[]⟩, .string ⟨#[]⟩, .int .i64 0, .int .i64 0, .int .i64 0, .int .i64 0, .int .i64 0, .string ⟨#[]⟩, .int .i64 0, .int .i64 0, .int .i64 0, .int .i64 0, .int .i64 0, .slice none 0 0, .bool false]
def zopA : Value := .agg zopC
theorem op_info : (Try.prog.info? 34).map (fun i => (i.zero, i.size)) = some (some zopA, 20) := by kernel_rfl
theorem op_zero (w : World) : (zeroValue 34).run Try.prog w = .ok zopA w := (zero_of_info (P := Try.prog) (n := 20) op_info).1 w
theorem op_size : (Try.prog.info? 34).map (·.size) = some 20 := (zero_of_info (P := Try.prog) (n := 20) op_info).2
theorem op_cells : zopA.cells = zopC := by kernel_rfl
def HoI (w W : World) (f BI BC : Nat) (q : Int) (clk size used : Nat) : Prop :=
  ∃ T is c, HoS w W f BI BC T is c ∧ Ho T q is c size used ∧ T.clock ≤ (clk : Int)

def StB (w W : World) (f BI BC BO : Nat) (T : FsP) : Prop := ∃ S : Nat → Prop, FsSt S W f T ∧ (∀ k, S k → w.heap.size ≤ k ∧ k < BO) ∧ ¬ S BI ∧ ¬ S BC
theorem StB.kept {w W W' : World} {f BI BC BO : Nat} {T : FsP} (h : StB w W f BI BC BO T) (hk : Kept (fun j => j = BI ∨ j = BC) W W') : StB w W' f BI BC BO T := by
  obtain ⟨S, h1, h2, h3, h4⟩ := h
  exact ⟨S, h1.kept hk (fun j hS e => by rcases e with e | e; exact h3 (by rw [← e]; exact hS); exact h4 (by rw [← e]; exact hS)), h2, h3, h4⟩
theorem HoS.callB {w W : World} {f BI BC BO : Nat} {T T' : FsP} {is : Int → Bool} {c : Int → UInt8} {fn : Nat} {args : Array Value} {v : Value} (h : HoS w W f BI BC T is c) (hb : StB w W f BI BC BO T) (hBO : BO < W.heap.size)
    (hc : ∀ S, FsSt S W f T → (∀ k, S k → w.heap.size ≤ k) → Calls Try.prog fn args W fun e w' => e = .returned v ∧ FsSt (Grow S W w') w' f T' ∧ Kept S W w') : Calls Try.prog fn args W fun e w' => e = .returned v ∧ Hid (HoS w w' f BI BC T' is c ∧ ∀ o u, W.cell? ⟨BO, o, none⟩ = some u → w'.cell? ⟨BO, o, none⟩ = some u) := by
  obtain ⟨S, h1, h2, h3⟩ := hb
  have hlt := h.lt
  refine (hc S h1 (fun k e => (h2 k e).1)).mono ?_
  rintro e w' ⟨rfl, q1, q2⟩
  have hs := q2.size
  have hw := h.keep.size
  refine ⟨rfl, Lib.hid ⟨⟨⟨_, q1, fun k e => ?_, fun e => ?_, fun e => ?_⟩, q2.obj h.oi h3.1, q2.obj h.oc h3.2, h.fresh, keep_on h.keep q2 (fun i hi e => by have := (h2 i e).1; omega)⟩, fun o u hu => q2.cellS hu (fun e => by have := (h2 BO e).2; omega)⟩⟩
  · rcases e with e | e
    · exact ⟨(h2 k e).1, by have := (h2 k e).2; omega⟩
    · exact ⟨by omega, e.2⟩
  · rcases e with e | e
    · exact h3.1 e
    · have := e.1; omega
  · rcases e with e | e
    · exact h3.2 e
    · have := e.1; omega
theorem nb_getD (b : List UInt8) (n : Nat) (h : n < b.length) : (nb b).getD n 0 = ((b.getD n 0).toNat : Int) := by
  simp [nb, List.getD_eq_getElem?_getD, h]
def HoN (w w5 W : World) (f BI BC BO : Nat) (q : Int) (clk size used s : Nat) (bs : List UInt8) (n u : Nat) : Prop :=
  ∃ T is c d, HoS w W f BI BC T (fun x => is x || ivD s (s + n) x) (fun x => if ivD s (s + n) x then bs.getD (x - s).toNat 0 else c x) ∧ Ho T q is c size used ∧ T.clock ≤ (clk : Int) ∧ WrL is bs.length s (q - used).toNat n d ∧ u = used + d ∧ (used : Int) ≤ q ∧ Kept (fun j => j = BI ∨ j = BC) w5 W ∧ StB w W f BI BC BO T
def HoG (w W : World) (f BI BC : Nat) (q : Int) (clk s used j u : Nat) : Prop :=
  ∃ T is c, HoS w W f BI BC T (fun x => is x && (decide (x < (s : Int)) || decide ((s : Int) + (j : Int) ≤ x))) c ∧ Ho T q (fun x => is x && decide (x < (s : Int))) c s (used - cntD is s (1100 - s)) ∧ T.clock ≤ (clk : Int) ∧ cntD is s (1100 - s) ≤ used ∧ u + cntD is s j = used ∧ used ≤ 1100

set_option maxHeartbeats 4000000 in
theorem treeHoles_core (q0 : Int) (oo : Option Addr) (os : List HOp) (co : Nat) (w : World) (hro : RdH w w.heap.size oo os) (hio : IntH os) (hoc : os.length ≤ co) (hom : co ≤ maxLen) :
    Calls Try.prog 3 #[.int .i64 q0, .slice oo os.length co] w fun e w' => e = .returned (.bool true) ∧ Kept NoB w w' := by
  have k1 := mask1023 q0
  obtain ⟨q, hq⟩ : ∃ q, q = q0 % 1024 := ⟨_, rfl⟩
  have hqb : 0 ≤ q ∧ q ≤ 1023 := by omega
  rw [← hq] at k1
  have HNew := Lib.hid (fun W => new_any q W (by omega))
  have HAw := Lib.hid awake_any
  obtain ⟨ol, hol⟩ : ∃ ol, ol = os.length := ⟨_, rfl⟩
  have HOl := Lib.hid hol
  have HRo := Lib.hid hro
  have HIo := Lib.hid hio
  rw [← hol] at hoc ⊢
  have hom2 : (co : Int) ≤ 9223372036854775807 := by unfold maxLen at hom; omega
  clear hro hol hio hq
  have z53 := (zero_of_info (P := Try.prog) (n := 1100) arr_info53).1
  have z54 := (zero_of_info (P := Try.prog) (n := 1100) arr_info54).1
  have HZ := Lib.hid (⟨z53, z54⟩ : _ ∧ _)
  clear z53 z54
  go_enter Try.func3, Try.ntmps3
  go_wp2_with fail
  refine (HNew.out w).mono ?_
  rintro e w1 ⟨f, rfl, hf1, hk1⟩
  have F1 := Lib.hid (FsOwn.made hf1 hk1)
  clear hf1 hk1 HNew k1
  have HMk : Hid (Calls Try.prog 5 #[.pointer (some ⟨f, 0, none⟩), .int .i64 1, .string { data := #[102] }, .agg #[.int .i64 1, .int .i64 0, .int .i64 0, .int .i64 0, .int .i64 0, .string { data := #[] }, .int .i64 0, .int .i64 0, .int .i64 0, .int .i64 0, .int .i64 0]] w1 fun e w' =>
      e = .returned (.tuple #[.int .i64 2, .int .i64 0]) ∧ Hid (FsOwn w w' f (ho0 q))) := Lib.hid (by
    have := make_any F1.out.st 1 (by decide) [102] (by decide) fileV (by decide) (by show (0 : Int) + 1 ≤ _; decide)
    refine Calls.mono this ?_
    rintro e w' ⟨rfl, h1, h2⟩
    rw [(ho_make q).1] at h1 ⊢
    exact ⟨rfl, Lib.hid (F1.out.step h1 h2)⟩)
  go_wp2_with fail
  refine HMk.out.mono ?_
  rintro e w2 ⟨rfl, F2⟩
  clear HMk F1
  go_wp2_with (first
    | (refine wpList_arr rfl 30 rfl _ _ HZ.out.1 arr_cells53 ?_)
    | (refine wpList_arr rfl 31 rfl _ _ HZ.out.2 arr_cells54 ?_))
  obtain ⟨BI, hBI⟩ : ∃ BI, BI = w2.heap.size := ⟨_, rfl⟩
  obtain ⟨BC, hBC⟩ : ∃ BC, BC = w2.heap.size + 1 := ⟨_, rfl⟩
  obtain ⟨w3, hw3⟩ : ∃ w3, w3 = (w2.alloc (.cells (arrV (fun _ => .bool false)) 30)).alloc (.cells (arrV (fun _ => .int .u8 0)) 31) := ⟨_, rfl⟩
  have H3 : Hid (HoI w w3 f BI BC q 1 0 0) := Lib.hid (by
    obtain ⟨s1, s2⟩ := ho_start q hqb.1
    refine ⟨ho0 q, _, _, ?_, s1, by rw [s2]; decide⟩
    rw [hw3, hBI, hBC]
    exact HoS.start F2.out)
  rw [← hBC, ← hBI, ← hw3]
  clear hBI hBC hw3 F2 HZ
  go_loopw [10, 11, 12] (fun v10 v11 v12 wr => ∃ (size used i : Nat), v10 = .int .i64 (size : Int) ∧ v11 = .int .i64 (used : Int) ∧ v12 = .int .i64 (i : Int) ∧ i ≤ ol ∧ i ≤ 40 ∧ Hid (HoI w wr f BI BC q (1 + i) size used)) (fun _ _ v12 _ => ol - (intOf v12).toNat)
  case atStart => exact ⟨0, 0, 0, rfl, rfl, rfl, by omega, by omega, H3⟩
  case round =>
    obtain ⟨size, used, i, rfl, rfl, rfl, hio, hi40, HR⟩ := hrel
    clear H3
    obtain ⟨cc, hcc⟩ : ∃ cc : Bool, cc = (decide ((i : Int) < (ol : Int)) && decide ((i : Int) < 40)) := ⟨_, rfl⟩
    go_upto_region 12 with fail
    go_cut [48] from 41 to 47 (fun v48 wx => v48 = .bool cc ∧ wx = wr)
    case first =>
      by_cases hlt : (i : Int) < (ol : Int)
      · have g1 : decide ((i : Int) < (ol : Int)) = true := by simpa using hlt
        rw [g1, Bool.true_and] at hcc
        have HCc := Lib.hid hcc
        clear hcc
        go_wp2
        go_meet
        exact ⟨by rw [HCc.out], rfl⟩
      · have g1 : decide ((i : Int) < (ol : Int)) = false := by simpa using hlt
        rw [g1, Bool.false_and] at hcc
        subst hcc
        go_wp2
        go_meet
        exact ⟨rfl, rfl⟩
    case rest =>
    obtain ⟨rfl, rfl⟩ := hcut
    obtain ⟨wr, rfl⟩ : ∃ wr, wr = wc := ⟨_, rfl⟩
    have HCc := Lib.hid hcc
    clear hcc
    cases cc with
    | false =>
      -- <<D
      obtain ⟨w0, rfl⟩ : ∃ w0, w0 = wr := ⟨_, rfl⟩
      obtain ⟨T, is, c, g1, g2, g3⟩ := HR.out
      have hszb := g2.size
      have HG := Lib.hid (⟨g1, g2, g3⟩ : _ ∧ _ ∧ _)
      clear g1 g2 g3 HR HRo HIo HOl
      go_upto_region 40 with (first | (refine wpList_make_bytes _ rfl (.tmp 155) (.tmp 155) rfl size rfl rfl (by omega) ?_; intro w6 hz6 hk6) | fail)
      obtain ⟨g, hg⟩ : ∃ g, g = w0.heap.size := ⟨_, rfl⟩
      rw [← hg] at hz6 ⊢
      have H6 : Hid (Kept NoB w0 w6 ∧ w6.heap[g]? = some (.cells (bc (wantB is c size 0)).toArray 5 (0, 0))) := Lib.hid ⟨hk6, by rw [wantB_zero]; exact hz6⟩
      have HGe := Lib.hid hg
      clear hz6 hk6 hg
      go_wp2_with fail
      go_loopw [19] (fun v19 wx => ∃ k : Nat, v19 = .int .i64 (k : Int) ∧ k ≤ size ∧ Hid (Kept NoB w0 wx ∧ wx.heap[g]? = some (.cells (bc (wantB is c size k)).toArray 5 (0, 0)))) (fun v19 _ => size - (intOf v19).toNat)
      case atStart => exact ⟨0, rfl, Nat.zero_le _, H6⟩
      case round =>
        obtain ⟨k, rfl, hk, HK⟩ := hrel
        clear H6
        by_cases hks : (k : Int) < (size : Int)
        · -- <<E
          have hk11 : k < 1100 := by omega
          have hsw := HG.out.1.kept HK.out.1
          have ci := hsw.isAt k hk11
          have cc2 := hsw.cAt k hk11
          have fg := obj_free HK.out.2 k
          have cg : ∃ z, wr.cell? ⟨g, k, none⟩ = some z := by
            rw [obj_cell HK.out.2]
            have : k < (bc (wantB is c size k)).toArray.size := by rw [List.size_toArray, bc_len, wantB_len]; omega
            exact ⟨_, Array.getElem?_eq_getElem this⟩
          obtain ⟨z, cg⟩ := cg
          clear hsw
          obtain ⟨v, hv⟩ : ∃ v, v = is (k : Int) := ⟨_, rfl⟩
          rw [← hv] at ci
          obtain ⟨x, hx⟩ : ∃ x, x = c (k : Int) := ⟨_, rfl⟩
          rw [← hx] at cc2
          cases v with
          | true =>
            have H8 : Hid (Kept NoB w0 (wr.setCell ⟨g, k, none⟩ (.int .u8 (x.toNat : Int))) ∧ (wr.setCell ⟨g, k, none⟩ (.int .u8 (x.toNat : Int))).heap[g]? = some (.cells (bc (wantB is c size (k + 1))).toArray 5 (0, 0))) := Lib.hid ⟨kept_on2 HK.out.1 (kept_one _ _ _ _ : Kept (OneB g) _ _) (fun j hj e => by have e : j = g := e; have := HGe.out; omega), by
              rw [wantB_set c size k (by omega) hv.symm, ← hx]
              exact row_set HK.out.2 k x⟩
            clear hv hx HK
            go_wp2
            go_roundw
            · exact ⟨k + 1, by simp, by omega, H8⟩
            · simp only [intOf]; omega
          | false =>
            have H8 : Hid (Kept NoB w0 wr ∧ wr.heap[g]? = some (.cells (bc (wantB is c size (k + 1))).toArray 5 (0, 0))) := Lib.hid ⟨HK.out.1, by rw [wantB_skip c size k hv.symm]; exact HK.out.2⟩
            clear hv hx HK
            go_wp2
            go_roundw
            · exact ⟨k + 1, by simp, by omega, H8⟩
            · simp only [intOf]; omega
          -- E>>
        · have hk2 : k = size := by omega
          have HW : Hid (Kept NoB w0 wr ∧ wr.heap[g]? = some (.cells (bc (hoB is c size)).toArray 5 (0, 0))) := Lib.hid ⟨HK.out.1, by have := HK.out.2; rw [hk2, wantB_all] at this; exact this⟩
          have hol2 : (hoB is c size).length = size := by simp [hoB]
          have HRd : Hid (Calls Try.prog 9 #[.pointer (some ⟨f, 0, none⟩), .int .i64 2, .int .i64 0, .int .i64 2000] wr fun e w' => ∃ ar cr, e = .returned (.tuple #[.slice ar size cr, .int .i64 0]) ∧ Hid (ReadR wr (hoB is c size) ar cr w')) := Lib.hid (by
            obtain ⟨S, h1, _⟩ := (HG.out.1.kept HW.out.1).st
            have := read_any h1 2 (by decide) 0 (by decide) 2000 (by decide)
            rw [ho_read HG.out.2.1 HG.out.1.ok] at this
            simp only [hol2] at this
            exact this)
          have HPc : Hid (∀ W, Kept NoB w0 W → Calls Try.prog 10 #[.pointer (some ⟨f, 0, none⟩), .int .i64 2] W fun e w' => ∃ ao cp, e = .returned (.slice ao (piecesP T 2).length cp) ∧ Hid (PcsP W (piecesP T 2) ao cp w')) := Lib.hid (fun W hW => by
            obtain ⟨S, h1, _⟩ := (HG.out.1.kept hW).st
            exact pieces_any h1 2 (by decide))
          obtain ⟨ps, hps⟩ : ∃ ps, ps = piecesP T 2 := ⟨_, rfl⟩
          obtain ⟨pn, hpn⟩ : ∃ pn, pn = ps.length := ⟨_, rfl⟩
          rw [← hps] at HPc
          rw [← hpn] at HPc
          have HPs := Lib.hid (⟨hps, hpn⟩ : _ ∧ _)
          clear hps hpn hk2 HK hol2
          go_wp2_with fail
          refine HRd.out.mono ?_
          rintro e w7 ⟨ar, cr, rfl, H7⟩
          clear HRd
          go_wp2_with fail
          refine (HPc.out w7 (HW.out.1.trans H7.out.2.2)).mono ?_
          rintro e w8 ⟨ap, cp, rfl, H8⟩
          clear HPc
          go_wp2_with fail
          have HB : Hid (HoPs ps is c used) := Lib.hid (by rw [HPs.out.1]; exact ho_pieces HG.out.2.1 HG.out.1.ok)
          have HK8 : Hid (Kept NoB w0 w8) := Lib.hid (by obtain ⟨qs, _, h2⟩ := H8.out; exact (HW.out.1.trans H7.out.2.2).trans h2.kept)
          obtain ⟨qs, hqm, hqs⟩ := H8.out
          rw [← HPs.out.2] at hqs
          have hpq : pn = qs.length := hqs.len
          have HQ := Lib.hid (⟨hqm, hqs⟩ : _ ∧ _)
          have hpc : pn ≤ cp ∧ cp ≤ maxLen := by
            rcases hqs.own.2 with ⟨h1, h2⟩ | ⟨g', cc, cur, h1, _, _, h2, h3, _⟩
            · simp at h1; exact ⟨by omega, by unfold maxLen; omega⟩
            · simp at h1; obtain ⟨_, rfl⟩ := h1; exact ⟨h2, h3⟩
          have hcp63 : (cp : Int) ≤ 9223372036854775807 := by have := hpc.2; unfold maxLen at this; omega
          have hAp : 0 < pn → ∃ ga, ap = some ⟨ga, 0, none⟩ := fun h0 => by
            rcases hqs.own.2 with ⟨h1, h2⟩ | ⟨g', cc, cur, h1, _⟩
            · omega
            · simp only [Value.slice.injEq] at h1; exact ⟨g', h1.1⟩
          have HAp := Lib.hid hAp
          have HPq := Lib.hid hpq
          clear hqm hqs H8 hpq hAp hk hks
          go_loopw [23, 24] (fun v23 v24 wx => ∃ i2 : Nat, v23 = .int .i64 (sizeD (ps.take i2) : Nat) ∧ v24 = .int .i64 (i2 : Int) ∧ i2 ≤ pn ∧ Hid (Kept NoB w8 wx)) (fun _ v24 _ => pn - (intOf v24).toNat)
          case atStart => exact ⟨0, rfl, rfl, Nat.zero_le _, Lib.hid (Kept.refl _ _)⟩
          case round =>
            obtain ⟨i2, rfl, rfl, hi2, HK9⟩ := hrel
            by_cases hip : (i2 : Int) < (pn : Int)
            · obtain ⟨ga, rfl⟩ := HAp.out (by omega)
              obtain ⟨qq, hqq⟩ : ∃ qq, qs[i2]? = some qq := ⟨qs[i2]'(by have := HPq.out; omega), List.getElem?_eq_getElem _⟩
              obtain ⟨z, hz⟩ : ∃ z, z = qq.1.1 := ⟨_, rfl⟩
              obtain ⟨m, hm⟩ : ∃ m, m = qq.1.2.length := ⟨_, rfl⟩
              have hpi : ps[i2]? = some qq.1 := by rw [← HQ.out.1, List.getElem?_map, hqq]; rfl
              have hrow : ∀ W, Kept NoB w8 W → W.ownsRow 0 43 2 (.slice (some ⟨ga, 0, none⟩) pn cp) pn (fcells qs) := fun W hW => hW.row HQ.out.2.own (fun _ _ e => e)
              have hone := HB.out.ok.each qq.1 (List.mem_of_getElem? hpi)
              have hm0 : 0 < m := by rw [hm]; exact List.length_pos_iff.2 hone.2.1
              have hend := HB.out.inside qq.1 (List.mem_of_getElem? hpi)
              unfold endP at hend
              rw [← hz, ← hm] at hend
              have hz0 : 0 ≤ z := by rw [hz]; exact hone.1
              obtain ⟨gb, hgb⟩ : ∃ gb, qq.2.1 = some ⟨gb, 0, none⟩ := by
                rcases (HQ.out.2.each qq (List.mem_of_getElem? hqq)).2 with ⟨h1, h2⟩ | ⟨gx, cc, cux, h1, _⟩
                · omega
                · simp only [Value.slice.injEq] at h1; exact ⟨gx, h1.1⟩
              obtain ⟨bc, hbc⟩ : ∃ bc, bc = qq.2.2 := ⟨_, rfl⟩
              have C0 : ∀ W, Kept NoB w8 W → W.cell? ⟨ga, i2 * 2, none⟩ = some (.int .i64 z) ∧ W.cell? ⟨ga, i2 * 2 + 1, none⟩ = some (.slice (some ⟨gb, 0, none⟩) m bc) := fun W hW => by
                have h1 := (hrow W hW).cells (g := ga) rfl
                obtain ⟨q1, q2⟩ := fcells_at2 qs i2 qq hqq
                have h2 := h1 _ _ q1
                have h3 := h1 _ _ q2
                rw [Addr.add_lit, Nat.zero_add] at h2 h3
                rw [hz, hm, hbc, ← hgb]
                exact ⟨h2, h3⟩
              have HC0 := Lib.hid C0
              have y0 := (C0 wr HK9.out).1
              have y1 := (C0 wr HK9.out).2
              have HQq := Lib.hid (⟨hqq, hpi, hz, hm, hgb, hbc⟩ : _ ∧ _ ∧ _ ∧ _ ∧ _ ∧ _)
              have hmz : ((m : Int) == 0) = false := by simp; omega
              have hmz2 : decide ((m : Int) = 0) = false := by simp; omega
              have hmz3 : ¬ m = 0 := by omega
              have hd3 : decide ((i2 : Int) < (pn : Int)) = true := by simpa using hip
              clear C0 hrow hqq hpi hz hm hgb hbc hone
              go_upto_region 51 with fail
              go_cut [218] from 186 to 217 (fun v218 wx => v218 = .bool false ∧ Hid (Kept NoB w8 wx))
              case first =>
                by_cases hi0 : (0 : Int) < (i2 : Int)
                · obtain ⟨qp, hqp⟩ : ∃ qp, qs[i2 - 1]? = some qp := ⟨qs[i2 - 1]'(by have := HPq.out; omega), List.getElem?_eq_getElem _⟩
                  obtain ⟨z1, hz1⟩ : ∃ z1, z1 = qp.1.1 := ⟨_, rfl⟩
                  obtain ⟨m1, hm1⟩ : ∃ m1, m1 = qp.1.2.length := ⟨_, rfl⟩
                  have hpp : ps[i2 - 1]? = some qp.1 := by rw [← HQ.out.1, List.getElem?_map, hqp]; rfl
                  have hlt9 : z1 + (m1 : Int) < z := by
                    have := List.pairwise_iff_getElem.1 HB.out.ok.apart (i2 - 1) i2 (List.getElem?_eq_some_iff.1 hpp).1 (List.getElem?_eq_some_iff.1 HQq.out.2.1).1 (by omega)
                    rw [(List.getElem?_eq_some_iff.1 hpp).2, (List.getElem?_eq_some_iff.1 HQq.out.2.1).2] at this
                    unfold endP at this
                    rw [← hz1, ← hm1, ← HQq.out.2.2.1] at this
                    exact this
                  have hz10 : 0 ≤ z1 := by rw [hz1]; exact (HB.out.ok.each qp.1 (List.mem_of_getElem? hpp)).1
                  obtain ⟨i3, hi3⟩ : ∃ i3, i3 = i2 - 1 := ⟨_, rfl⟩
                  have hiw : IntKind.i64.wrap ((i2 : Int) - 1) = (i3 : Int) := by rw [IntKind.wrap_i64]; omega
                  have hi3n : (i3 : Int) < (pn : Int) := by omega
                  have h1 := (HK9.out.row HQ.out.2.own (fun _ _ e => e)).cells (g := ga) rfl
                  obtain ⟨q1, q2⟩ := fcells_at2 qs (i2 - 1) qp hqp
                  have x0 := h1 _ _ q1
                  have x1 := h1 _ _ q2
                  rw [Addr.add_lit, Nat.zero_add, ← hi3, ← hz1] at x0
                  rw [Addr.add_lit, Nat.zero_add, ← hi3, ← hm1] at x1
                  have hnle : ¬ z ≤ z1 + (m1 : Int) := by omega
                  have hw9 : IntKind.i64.wrap (z1 + (m1 : Int)) = z1 + (m1 : Int) := by rw [IntKind.wrap_i64]; omega
                  have hd0 : decide (0 < i2) = true := by simp; omega
                  have hd1 : decide (z ≤ z1 + (m1 : Int)) = false := by simp; omega
                  have hd2 : decide ((i3 : Int) < (pn : Int)) = true := by simpa using hi3n
                  clear h1 q1 q2 hi3 hz1 hm1 hpp hqp hi0
                  go_quiet (fail)
                  go_wp2
                  go_meet
                  exact ⟨rfl, Lib.hid (HK9.out.trans ((Kept.refl _ _).drewN _))⟩
                · have hd0 : decide (0 < i2) = false := by simp; omega
                  clear hi0
                  go_quiet (fail)
                  go_wp2
                  go_meet
                  exact ⟨rfl, Lib.hid (HK9.out.trans ((Kept.refl _ _).drewN _))⟩
              case rest =>
              obtain ⟨rfl, HK10⟩ := hcut
              clear y0 y1
              go_wp2_with fail
              go_loopw [25] (fun v25 wx => ∃ k2 : Nat, v25 = .int .i64 (k2 : Int) ∧ k2 ≤ m ∧ Hid (Kept NoB w8 wx)) (fun v25 _ => m - (intOf v25).toNat)
              case atStart => exact ⟨0, rfl, Nat.zero_le _, HK10⟩
              case round =>
                obtain ⟨k2, rfl, hk2, HK11⟩ := hrel
                clear HK10 HK9
                have y0 := (HC0.out wr HK11.out).1
                have y1 := (HC0.out wr HK11.out).2
                by_cases hkm : (k2 : Int) < (m : Int)
                · obtain ⟨x, hx⟩ : ∃ x, qq.1.2[k2]? = some x := ⟨qq.1.2[k2]'(by have := HQq.out.2.2.2.1; omega), List.getElem?_eq_getElem _⟩
                  obtain ⟨e1, e2⟩ := HB.out.has i2 qq.1 HQq.out.2.1 k2 x hx
                  obtain ⟨pz, hpz⟩ : ∃ pz : Nat, (pz : Int) = z + (k2 : Int) := ⟨(z + (k2 : Int)).toNat, by omega⟩
                  have hpz11 : pz < 1100 := by omega
                  rw [← HQq.out.2.2.1, ← hpz] at e1 e2
                  have hsw := HG.out.1.kept (HK8.out.trans HK11.out)
                  have ci := hsw.isAt pz hpz11
                  have cc2 := hsw.cAt pz hpz11
                  rw [e1] at ci
                  rw [e2] at cc2
                  have cb : wr.cell? ⟨gb, k2, none⟩ = some (.int .u8 (x.toNat : Int)) := by
                    have h1 := (HK11.out.row (HQ.out.2.each qq (List.mem_of_getElem? HQq.out.1)) (fun _ _ e => e)).cells (g := gb) (by rw [HQq.out.2.2.2.2.1]; rfl) k2 (.int .u8 (x.toNat : Int)) (by simp [Go.Proofs.Ytjjgadanobeamaa.bc, hx])
                    rw [Addr.add_lit, Nat.zero_add] at h1
                    exact h1
                  have hbcm : (bc : Int) ≤ 9223372036854775807 ∧ m ≤ bc := by
                    rcases (HQ.out.2.each qq (List.mem_of_getElem? HQq.out.1)).2 with ⟨h1, h2⟩ | ⟨gx, cc, cux, h1, _, _, h2, h3, _⟩
                    · have := HQq.out.2.2.2.1; omega
                    · simp only [Value.slice.injEq, true_and] at h1
                      have h4 := HQq.out.2.2.2.2.2
                      have h5 := HQq.out.2.2.2.1
                      unfold maxLen at h3
                      omega
                  have hwz : IntKind.i64.wrap (z + (k2 : Int)) = (pz : Int) := by rw [IntKind.wrap_i64]; omega
                  have hz9 : decide ((pz : Int) < 0) = false := by simp
                  have hz10 : decide ((1100 : Int) ≤ (pz : Int)) = false := by simp; omega
                  have hz11 : decide (1100 ≤ pz) = false := by simp; omega
                  have hz12 : (pz : Int) < 1100 := by omega
                  have hkm2 : decide ((k2 : Int) < (m : Int)) = true := by simpa using hkm
                  clear hsw e1 e2 hx hpz hz0 hend
                  go_upto_region 57 with fail
                  go_cut [261] from 236 to 260 (fun v261 wx => v261 = .bool false ∧ Hid (Kept NoB w8 wx))
                  case first =>
                    go_quiet (fail)
                    go_wp2
                    go_meet
                    exact ⟨by simp, Lib.hid (HK11.out.trans ((Kept.refl _ _).drewN _))⟩
                  case rest =>
                  obtain ⟨rfl, HK12⟩ := hcut
                  clear y0 y1 ci cc2 cb
                  go_wp2
                  go_roundw
                  · exact ⟨k2 + 1, by simp, by omega, HK12⟩
                  · simp only [intOf]; omega
                · have hsum : (sizeD (ps.take i2) : Int) + (m : Int) = ((sizeD (ps.take (i2 + 1)) : Nat) : Int) := by
                    rw [List.take_add_one, HQq.out.2.1, sizeD_append, HQq.out.2.2.2.1]
                    show _ = (((sizeD (ps.take i2) + sizeD [qq.1] : Nat)) : Int)
                    rw [sizeD_cons]
                    have : sizeD [] = 0 := rfl
                    push_cast; omega
                  have HSm := Lib.hid hsum
                  have hle : sizeD (ps.take (i2 + 1)) ≤ 1100 := by
                    have h1 := HB.out.sum
                    have h2 := HG.out.2.1.cnt
                    have h3 := cnt_le is 1100 0
                    have h4 := congrArg sizeD (List.take_append_drop (i2 + 1) ps)
                    rw [sizeD_append] at h4
                    omega
                  have hwz : IntKind.i64.wrap ((sizeD (ps.take i2) : Int) + (m : Int)) = ((sizeD (ps.take (i2 + 1)) : Nat) : Int) := by rw [IntKind.wrap_i64]; omega
                  clear hsum
                  go_wp2
                  go_roundw
                  · exact ⟨i2 + 1, rfl, by simp, by omega, HK11⟩
                  · simp only [intOf]; omega
            · have hi3 : i2 = pn := by omega
              have htk : sizeD (ps.take i2) = used := by rw [hi3, HPs.out.2, List.take_length]; exact HB.out.sum
              have HKw : Hid (Kept NoB w0 wr) := Lib.hid (HK8.out.trans HK9.out)
              have HUs : Hid (∀ W, Kept NoB w0 W → Calls Try.prog 11 #[.pointer (some ⟨f, 0, none⟩)] W fun e w' => e = .returned (.int .i64 (used : Int)) ∧ w' = W) := Lib.hid (fun W hW => by
                obtain ⟨S, h1, _⟩ := (HG.out.1.kept hW).st
                have := used_any h1
                rw [HG.out.2.1.sum] at this
                exact this)
              have huq : (used : Int) ≤ q := by
                have hrm := HG.out.1.ok.room
                rw [HG.out.2.1.sum, HG.out.2.1.quo] at hrm
                exact hrm
              have hlb : (hoB is c size).length = size := by simp [hoB]
              have hw78 : Kept NoB w7 wr := HQ.out.2.kept.trans HK9.out
              have hcv1 : (convert 32 9 (.slice ar size cr)).run Try.prog wr = .ok (.string (strOfNums (nb (hoB is c size)))) wr := by
                have ho := H7.out.1
                rw [bc_nb] at ho
                refine conv_reads ((own_reads (xs := nb (hoB is c size)) (by rw [nb_len]; exact ho) (by rw [nb_len])).keptNo hw78) (by rw [nb_len, hlb]) (fun h0 => ?_)
                rcases H7.out.1.2 with ⟨h1, h2⟩ | ⟨gx, cc, cux, h1, _⟩
                · simp at h1; exact h1.2.2
                · rw [h0] at h1; simp at h1
              have hcv2 : (convert 32 9 (.slice (some ⟨g, 0, none⟩) size size)).run Try.prog wr = .ok (.string (strOfNums (nb (hoB is c size)))) wr := by
                refine conv_reads (lit_reads (nb (hoB is c size)) ((H7.out.2.2.trans hw78).obj HW.out.2 id) (by rw [bc_nb])) (by rw [nb_len, hlb]) (fun h0 => by cases h0)
              have HFin : Hid (Kept NoB w wr) := Lib.hid (HG.out.1.keep.trans HKw.out)
              rw [htk]
              clear hi3 htk hw78
              go_wp2_with (first | (go_at_call 11; (with_reducible refine (HUs.out _ HKw.out).mono ?_); rintro e w9 ⟨rfl, rfl⟩) | (go_at_call 6; (with_reducible refine (HAw.out _).mono ?_); rintro e w10 ⟨rfl, hk10⟩) | fail)
              go_ret
              exact ⟨rfl, HFin.out.trans hk10⟩
      -- D>>
    | true =>
    -- <<T
    obtain ⟨hlt, hl40⟩ : (i : Int) < (ol : Int) ∧ (i : Int) < 40 := by have := HCc.out; simpa using this.symm
    have hp : ∃ p, os[i]? = some p := ⟨os[i]'(by have := HOl.out; omega), List.getElem?_eq_getElem _⟩
    obtain ⟨p, hp⟩ := hp
    obtain ⟨b, off, us, rfl, hbw, hyw, bo, bc, hul, hu1, u0, u3, u18, hrb, hbl, hbm⟩ := HRo.out i p hp
    have hy : ∀ j v, us[j]? = some v → wr.cell? ⟨b, off + i * 20 + j, none⟩ = some v := fun j v hj => by
      obtain ⟨T, is, c, h1, _⟩ := HR.out
      exact h1.keep.cell (hyw j v hj)
    have hint := HIo.out p (List.mem_of_getElem? hp)
    obtain ⟨kd, hkd⟩ : ∃ kd, kd = p.1 := ⟨_, rfl⟩
    obtain ⟨pl, hpl⟩ : ∃ pl, pl = p.2.1 := ⟨_, rfl⟩
    obtain ⟨bs, hbs⟩ : ∃ bs, bs = p.2.2 := ⟨_, rfl⟩
    obtain ⟨L, hL⟩ : ∃ L, L = bs.length := ⟨_, rfl⟩
    rw [← hkd] at u0 hint
    rw [← hpl] at u3 hint
    rw [← hbs] at u18 hbl hrb
    rw [← hL] at u18 hbl
    have HRg : Hid (wr.rangeAt b (off + i * 20) us) := Lib.hid (fun j v hj => hy j v hj)
    have HU := Lib.hid (⟨hp, hbw, hrb, hL, hbs⟩ : _ ∧ _ ∧ _ ∧ _ ∧ _)
    have hbm2 : (bc : Int) ≤ 9223372036854775807 := by unfold maxLen at hbm; omega
    obtain ⟨BO, hBO⟩ : ∃ BO, BO = wr.heap.size := ⟨_, rfl⟩
    obtain ⟨w5, hw5⟩ : ∃ w5, w5 = (wr.alloc (.cells zopC 34)).setRow BO us.toArray := ⟨_, rfl⟩
    have o5 : w5.heap[BO]? = some (.cells us.toArray 34 (0, 0)) := by rw [hw5]; exact setRow_heap _ _ _ _ _ _ (by rw [hBO]; exact heap_push _ _)
    have k5 : Kept NoB wr w5 := by
      rw [hw5]
      exact kept_on2 ((Kept.refl NoB wr).alloc _) (Kept.setRow (S := OneB BO) (Kept.refl _ _) (.inl rfl) _) (fun j hj e => by have e : j = BO := e; omega)
    have y0 : w5.cell? ⟨BO, 0, none⟩ = some (.int .i64 kd) := by rw [obj_cell o5]; simpa using u0
    have y3 : w5.cell? ⟨BO, 3, none⟩ = some (.int .i64 pl) := by rw [obj_cell o5]; simpa using u3
    have y18 : w5.cell? ⟨BO, 18, none⟩ = some (.slice bo L bc) := by rw [obj_cell o5]; simpa using u18
    have HSt : Hid ((Try.prog.info? 34).map (·.size) = some us.toArray.size ∧ zopC.size = us.toArray.size ∧ us.toArray.all (·.oneCell') = true ∧ (Try.prog.info? 34).map (·.size) = some us.length) := Lib.hid ⟨by rw [List.size_toArray, hul]; exact op_size, by show 20 = _; rw [List.size_toArray, hul], all_oneCell_toArray hu1, by rw [hul]; exact op_size⟩
    have HR5 : Hid (HoI w w5 f BI BC q (1 + i) size used) := Lib.hid (by
      obtain ⟨T, is, c, h1, h2⟩ := HR.out
      exact ⟨T, is, c, h1.kept k5, h2⟩)
    have HO5 := Lib.hid (⟨o5, k5⟩ : _ ∧ _)
    have HBl : Hid (BI < BO ∧ BC < BO) := Lib.hid (by obtain ⟨T, is, c, h1, _⟩ := HR.out; rw [hBO]; exact h1.lt)
    have HSB : Hid (∃ T is c, HoS w w5 f BI BC T is c ∧ Ho T q is c size used ∧ T.clock ≤ ((1 + i : Nat) : Int) ∧ StB w w5 f BI BC BO T) := Lib.hid (by
      obtain ⟨T, is, c, h1, h2⟩ := HR.out
      obtain ⟨S, q1, q2, q3⟩ := h1.st
      exact ⟨T, is, c, h1.kept k5, h2.1, h2.2, ⟨S, q1.keptNo k5, fun k e => by rw [hBO]; exact q2 k e, q3⟩⟩)
    have HW5 := Lib.hid hw5
    have HBO := Lib.hid hBO
    clear hp hbw hy hyw hul hu1 u0 u3 u18 hrb hkd hpl hbs hL HR hw5 hBO o5 k5
    go_upto_region 15 with (first
      | (refine wpList_load_mid rfl 34 (.tmp 53) rfl b (off + i * 20) rfl us _ HRg.out Try.underlying34 rfl HSt.out.2.2.2 ?_)
      | (refine wpList_arr rfl 34 rfl _ _ op_zero op_cells ?_; rw [← HBO.out])
      | (refine wpList_store_row rfl 34 (.tmp 13) (.tmp 54) rfl BO us.toArray rfl rfl _ _ (by rw [HBO.out]; exact heap_push _ _) HSt.out.1 HSt.out.2.1 HSt.out.2.2.1 ?_; rw [← HW5.out])
      | fail)
    by_cases hL80 : (80 : Int) < (L : Int)
    · go_wp2_with (go_at_call 6; refine (HAw.out _).mono ?_; rintro e w7 ⟨rfl, hk7⟩)
      go_ret
      exact ⟨rfl, by obtain ⟨T, is, c, h1, _⟩ := HR5.out; exact h1.keep.trans hk7⟩
    have m1 := mask65535 pl
    have m3 := mask3 kd
    obtain ⟨s, hs⟩ : ∃ s : Nat, pl % 65536 % 1000 = (s : Int) := ⟨(pl % 65536 % 1000).toNat, by omega⟩
    have hs1 : s < 1000 := by omega
    by_cases hk0 : kd % 4 = 0
    · have HGr : Hid (Calls Try.prog 7 #[.pointer (some ⟨f, 0, none⟩), .int .i64 2, .int .i64 (s : Int)] w5 fun e w' => e = .returned (.int .i64 0) ∧ Hid (HoG w w' f BI BC q (1 + (i + 1)) s used 0 used)) := Lib.hid (by
        obtain ⟨T, is, c, h1, h2, h3⟩ := HR5.out
        obtain ⟨g0, T', g1, g2, g3⟩ := ho_grow h2 h1.ok s (by omega)
        refine (h1.call (T' := T') (v := .int .i64 0) (fun S hS _ => ?_)).mono ?_
        · have := grow_any hS 2 (by decide) s (by omega) (by omega) (by rw [h2.quo]; omega)
          rw [g1] at this
          exact this
        · rintro e w' ⟨rfl, h4⟩
          exact ⟨rfl, Lib.hid ⟨T', is, c, h4.out.congr (fun x h5 h6 => by
            have : (decide (x < (s : Int)) || decide ((s : Int) + ((0 : Nat) : Int) ≤ x)) = true := by simp; omega
            rw [this, Bool.and_true]) (fun _ _ _ => rfl), g2, by rw [g3]; push_cast; omega, g0, by simp [cntD], by rw [h2.cnt]; exact cnt_le _ _ _⟩⟩)
      go_wp2_with fail
      refine HGr.out.mono ?_
      rintro e w6 ⟨rfl, H6⟩
      clear HGr HR5 y0 y3 y18 HO5 HRg HSt HU HSB
      go_wp2_with fail
      go_loopw [11, 15] (fun v11 v15 wx => ∃ (u k : Nat), v11 = .int .i64 (u : Int) ∧ v15 = .int .i64 (k : Int) ∧ s ≤ k ∧ k ≤ 1100 ∧ Hid (HoG w wx f BI BC q (1 + (i + 1)) s used (k - s) u)) (fun _ v15 _ => 1100 - (intOf v15).toNat)
      case atStart => exact ⟨used, s, rfl, rfl, Nat.le_refl _, by omega, by rw [Nat.sub_self]; exact H6⟩
      case round =>
        obtain ⟨u, k, rfl, rfl, hsk, hk, HG⟩ := hrel
        clear H6
        by_cases hk11 : (k : Int) < 1100
        · -- <<A
          obtain ⟨T, is, c, g1, g2, g3, g4, g5, g6⟩ := HG.out
          obtain ⟨j, hj⟩ : ∃ j, j = k - s := ⟨_, rfl⟩
          rw [← hj] at g1 g5
          have hkj : (k : Int) = (s : Int) + (j : Int) := by omega
          have hkj1 : k + 1 - s = j + 1 := by omega
          have ci : wr.cell? ⟨BI, k, none⟩ = some (.bool (is k)) := by
            rw [g1.isAt k (by omega)]
            have : (decide ((k : Int) < (s : Int)) || decide ((s : Int) + (j : Int) ≤ (k : Int))) = true := by simp; omega
            rw [this, Bool.and_true]
          have cf : wr.frozen? ⟨BI, k, none⟩ = false := obj_free g1.oi k
          have hst := cnt_step is s j
          rw [← hkj] at hst
          have hle : cntD is s (j + 1) ≤ cntD is s (1100 - s) := by
            have := cnt_add is (j + 1) (1100 - s - (j + 1)) s
            rw [show j + 1 + (1100 - s - (j + 1)) = 1100 - s by omega] at this
            omega
          have H7 : Hid (∀ u', u' + cntD is s (j + 1) = used → HoG w (wr.setCell ⟨BI, k, none⟩ (.bool false)) f BI BC q (1 + (i + 1)) s used (k + 1 - s) u') := Lib.hid (fun u' hu' => by
            refine ⟨T, is, c, (g1.setI k false).congr (fun x _ _ => ?_) (fun _ _ _ => rfl), g2, g3, g4, by rw [hkj1]; exact hu', g6⟩
            rw [hkj1, ← gone_step is s j x, hkj])
          obtain ⟨v, hv⟩ : ∃ v, v = is k := ⟨_, rfl⟩
          rw [← hv] at ci hst
          cases v with
          | true =>
            simp only [if_true] at hst
            have hu : 1 ≤ u := by omega
            have H8 := Lib.hid (H7.out (u - 1) (by omega))
            have hub : (u : Int) ≤ 1100 := by omega
            have hwr : IntKind.i64.wrap ((u : Int) - 1) = ((u - 1 : Nat) : Int) := by rw [IntKind.wrap_i64]; omega
            clear H7 hst hle g1 g2 g3 g4 g5 hv HG hkj hkj1 hj
            go_wp2
            go_roundw
            · exact ⟨u - 1, k + 1, rfl, by simp, by omega, by omega, H8⟩
            · simp only [intOf]; omega
          | false =>
            simp only [Bool.false_eq_true, if_false, Nat.add_zero] at hst
            have H8 := Lib.hid (H7.out u (by omega))
            clear H7 hst hle g1 g2 g3 g4 g5 hv HG hkj hkj1 hj
            go_wp2
            go_roundw
            · exact ⟨u, k + 1, rfl, by simp, by omega, by omega, H8⟩
            · simp only [intOf]; omega
          -- A>>
        · have hk12 : k = 1100 := by omega
          have H9 : Hid (HoI w wr f BI BC q (1 + (i + 1)) s u) := Lib.hid (by
            obtain ⟨T, is, c, g1, g2, g3, g4, g5, g6⟩ := HG.out
            rw [hk12] at g1 g5
            refine ⟨T, fun x => is x && decide (x < (s : Int)), c, g1.congr (fun x h1 h2 => ?_) (fun _ _ _ => rfl), ?_, g3⟩
            · have : decide ((s : Int) + ((1100 - s : Nat) : Int) ≤ x) = false := by simp; omega
              rw [this, Bool.or_false]
            · have : u = used - cntD is s (1100 - s) := by omega
              rw [this]; exact g2)
          clear HG hk12
          go_wp2
          go_roundw
          · exact ⟨s, u, i + 1, rfl, rfl, by simp, by omega, by omega, H9⟩
          · simp only [intOf]; omega
    · have hbb : BO ≠ BI ∧ BO ≠ BC := by
        obtain ⟨T, is, c, h1, _⟩ := HR5.out
        have := h1.fresh
        have h2 := HBl.out
        omega
      have H6 : Hid (HoN w w5 w5 f BI BC BO q (1 + i) size used s bs 0 used) := Lib.hid (by
        obtain ⟨T, is, c, h1, h2, h3, h8⟩ := HSB.out
        have hrm := h1.ok.room
        rw [h2.sum, h2.quo] at hrm
        refine ⟨T, is, c, 0, h1.congr (fun x _ _ => by rw [iv_none, Bool.or_false]) (fun x _ _ => by rw [iv_none]; rfl), h2, h3, WrL.start _ _ _ _, by omega, hrm, Kept.refl _ _, h8⟩)
      have HY := Lib.hid (⟨y0, y3, y18⟩ : _ ∧ _ ∧ _)
      go_wp2_with fail
      have HB5 : Hid (BO < w5.heap.size) := Lib.hid (World.block_lt_of_cell? _ _ HY.out.1)
      clear HR5 y0 y3 y18 HO5 HRg HSt HSB
      go_loopw [11, 16] (fun v11 v16 wx => ∃ (u n : Nat), v11 = .int .i64 (u : Int) ∧ v16 = .int .i64 (n : Int) ∧ n ≤ L ∧ Hid (HoN w w5 wx f BI BC BO q (1 + i) size used s bs n u)) (fun _ v16 _ => L - (intOf v16).toNat)
      case atStart => exact ⟨used, 0, rfl, rfl, Nat.zero_le _, H6⟩
      case round =>
        obtain ⟨u, n, rfl, rfl, hn, HN⟩ := hrel
        clear H6
        obtain ⟨T, is, c, d, g1, g2, g3, g4, g5, g6, g7, g8⟩ := HN.out
        have HG := Lib.hid (⟨g1, g2, g3, g4, g5, g6, g7, g8⟩ : _ ∧ _ ∧ _ ∧ _ ∧ _ ∧ _ ∧ _ ∧ _)
        have x18 : wr.cell? ⟨BO, 18, none⟩ = some (.slice bo L bc) := g7.cellS HY.out.2.2 (fun e => by rcases e with e | e; exact hbb.1 e; exact hbb.2 e)
        have hub : u ≤ 2000 := by
          have h1 := g4.le
          have h2 := g4.room
          omega
        obtain ⟨k, hk⟩ : ∃ k, k = s + n := ⟨_, rfl⟩
        have hk11 : k < 1100 := by omega
        have hkz : (k : Int) = (s : Int) + (n : Int) := by omega
        obtain ⟨v, hv⟩ : ∃ v, v = is k := ⟨_, rfl⟩
        have ci : wr.cell? ⟨BI, k, none⟩ = some (.bool v) := by
          rw [g1.isAt k hk11, hkz, iv_at, Bool.or_false, hv, hkz]
        clear g1 g2 g3 g4 g5 g6 g7 g8 HN
        have hkw : IntKind.i64.wrap ((s : Int) + (n : Int)) = (k : Int) := by rw [IntKind.wrap_i64]; omega
        have HKz := Lib.hid (⟨hk, hkz, hv⟩ : _ ∧ _ ∧ _)
        clear hk hkz hv
        obtain ⟨cb, hcb⟩ : ∃ cb : Bool, cb = (decide ((n : Int) < (L : Int)) && (v || decide ((u : Int) < q))) := ⟨_, rfl⟩
        go_upto_region 29 with fail
        go_cut [102] from 86 to 101 (fun v102 wx => v102 = .bool cb ∧ wx = wr)
        case first =>
          by_cases hlt2 : (n : Int) < (L : Int)
          · have e1 : decide ((n : Int) < (L : Int)) = true := by simpa using hlt2
            rw [e1, Bool.true_and] at hcb
            cases v with
            | true =>
              rw [Bool.true_or] at hcb
              subst hcb
              go_wp2
              go_meet
              exact ⟨rfl, rfl⟩
            | false =>
              rw [Bool.false_or] at hcb
              have HCb := Lib.hid hcb
              clear hcb
              go_wp2
              go_meet
              exact ⟨by rw [HCb.out], rfl⟩
          · have e1 : decide ((n : Int) < (L : Int)) = false := by simpa using hlt2
            rw [e1, Bool.false_and] at hcb
            subst hcb
            go_wp2
            go_meet
            exact ⟨rfl, rfl⟩
        case rest =>
        obtain ⟨rfl, rfl⟩ := hcut
        obtain ⟨wr, rfl⟩ : ∃ wr, wr = wc := ⟨_, rfl⟩
        have HCb := Lib.hid hcb
        clear hcb
        cases cb with
        | true =>
          -- <<B
          obtain ⟨hlt2, hvu⟩ : (n : Int) < (L : Int) ∧ (v = true ∨ (u : Int) < q) := by have := HCb.out; simpa using this.symm
          have hnL : n < bs.length := by have := HU.out.2.2.2.1; omega
          obtain ⟨bk, bf, rfl, hbk, hbc⟩ := HU.out.2.2.1.at (by rw [nb_len]; omega)
          have xb : wr.cell? ⟨bk, bf + n, none⟩ = some (.int .u8 ((bs.getD n 0).toNat : Int)) := by
            rw [← nb_getD bs n hnL]
            exact HG.out.1.keep.cell (hbc n (by rw [nb_len]; exact hnL))
          obtain ⟨x, hx⟩ : ∃ x, x = bs.getD n 0 := ⟨_, rfl⟩
          rw [← hx] at xb
          obtain ⟨co0, hco0⟩ : ∃ z, wr.cell? ⟨BC, k, none⟩ = some z := ⟨_, HG.out.1.cAt k hk11⟩
          have fi : wr.frozen? ⟨BI, k, none⟩ = false := obj_free HG.out.1.oi k
          have fc : wr.frozen? ⟨BC, k, none⟩ = false := obj_free HG.out.1.oc k
          obtain ⟨u2, hu2⟩ : ∃ u2, u2 = if v = true then u else u + 1 := ⟨_, rfl⟩
          have HX := Lib.hid hx
          have HU2 := Lib.hid hu2
          clear hx hu2 hbk hbc hnL
          have hbibc : BI ≠ BC := HG.out.1.fresh.2.2
          have kA : Kept (OneB BI) wr (wr.setCell ⟨BI, k, none⟩ (.bool true)) := kept_one _ _ _ _
          have kB : Kept (OneB BC) wr (wr.setCell ⟨BC, k, none⟩ (.int .u8 (x.toNat : Int))) := kept_one _ _ _ _
          have hbkn : bk ≠ BI ∧ bk ≠ BC := by
            obtain ⟨b2, f2, e2, h2, _⟩ := HU.out.2.2.1.at (by rw [nb_len]; have := HU.out.2.2.2.1; omega)
            have e3 : bk = b2 := by injection e2 with e4; injection e4
            have h3 := HG.out.1.fresh
            omega
          have a18 := kA.cellS x18 (fun e => hbb.1 e)
          have b18 := kB.cellS x18 (fun e => hbb.2 e)
          have ab := kA.cellS xb (fun e => hbkn.1 e)
          have bb := kB.cellS xb (fun e => hbkn.2 e)
          have ac := kA.cellS hco0 (fun e => hbibc (by have e : BC = BI := e; exact e.symm))
          have bi := kB.cellS ci (fun e => hbibc e)
          have H8 : Hid (∀ W W', (W = (wr.setCell ⟨BI, k, none⟩ (.bool true)).setCell ⟨BC, k, none⟩ (.int .u8 (x.toNat : Int)) ∨ W = (wr.setCell ⟨BC, k, none⟩ (.int .u8 (x.toNat : Int))).setCell ⟨BI, k, none⟩ (.bool true)) → Kept NoB W W' → HoN w w5 W' f BI BC BO q (1 + i) size used s bs (n + 1) u2) := Lib.hid (fun W W' hW hWW => by
            obtain ⟨g1, g2, g3, g4, g5, g6, g7, g8⟩ := HG.out
            obtain ⟨hk1, hkz, hv⟩ := HKz.out
            have hL := HU.out.2.2.2.1
            have k2 : Kept (fun j => j = BI ∨ j = BC) wr W := by
              rcases hW with rfl | rfl
              · exact (kA.mono (fun j _ e => .inl e)).trans ((kept_one _ _ _ _ : Kept (OneB BC) _ _).mono (fun j _ e => .inr e))
              · exact (kB.mono (fun j _ e => .inr e)).trans ((kept_one _ _ _ _ : Kept (OneB BI) _ _).mono (fun j _ e => .inl e))
            have hs2 : HoS w W f BI BC T (fun y => if y = (k : Int) then true else (is y || ivD s (s + n) y)) (fun y => if y = (k : Int) then x else (if ivD s (s + n) y then bs.getD (y - s).toNat 0 else c y)) := by
              rcases hW with rfl | rfl
              · exact (g1.setI k true).setC k x
              · exact (g1.setC k x).setI k true
            have hs3 := hs2.congr (is' := fun y => is y || ivD s (s + ((n + 1 : Nat) : Int)) y) (c' := fun y => if ivD s (s + ((n + 1 : Nat) : Int)) y then bs.getD (y - s).toNat 0 else c y) (fun y _ _ => by rw [hkz]; exact more_step is s n y) (fun y _ _ => by rw [hkz]; exact byte_step c bs s n x HX.out.symm y)
            have hlb : n < bs.length := by omega
            have hs4 := hs3.kept hWW
            have k3 := k2.trans (hWW.mono (fun _ _ e => e.elim))
            by_cases hvt : v = true
            · have e2 : u2 = u := by rw [HU2.out, if_pos hvt]
              exact ⟨T, is, c, d, hs4, g2, g3, g4.yes hlb (by rw [← hkz, ← hv, hvt]), by rw [e2]; exact g5, g6, g7.trans k3, g8.kept k3⟩
            · have e2 : u2 = u + 1 := by rw [HU2.out, if_neg hvt]
              have hvf : v = false := by cases v; rfl; exact absurd rfl hvt
              have hlt3 : (u : Int) < q := by rcases hvu with e | e; exact absurd e hvt; exact e
              exact ⟨T, is, c, d + 1, hs4, g2, g3, g4.no hlb (by rw [← hkz, ← hv, hvf]) (by omega), by rw [e2]; omega, g6, g7.trans k3, g8.kept k3⟩)
          clear kA kB
          go_upto_if 108 with fail
          go_cut [11] from 103 to 110 (fun v11 wx => v11 = .int .i64 (u2 : Int) ∧ wx = wr)
          case first =>
            cases v with
            | true =>
              go_wp2
              go_meet
              exact ⟨by rw [HU2.out]; rfl, rfl⟩
            | false =>
              have hwu : IntKind.i64.wrap ((u : Int) + 1) = (u : Int) + 1 := by rw [IntKind.wrap_i64]; omega
              go_wp2
              go_meet
              exact ⟨by rw [HU2.out]; simp, rfl⟩
          case rest =>
          obtain ⟨rfl, rfl⟩ := hcut
          obtain ⟨wr, rfl⟩ : ∃ wr, wr = wc := ⟨_, rfl⟩
          go_upto_region 32 with fail
          go_region
          all_goals go_wp2
          all_goals go_roundw
          all_goals first
            | exact ⟨u2, n + 1, rfl, by simp, by omega, H8.out _ _ (.inl rfl) (Kept.refl _ _).drew⟩
            | exact ⟨u2, n + 1, rfl, by simp, by omega, H8.out _ _ (.inr rfl) (Kept.refl _ _).drew⟩
            | (simp only [intOf]; omega)
          -- B>>
        | false =>
          -- <<C
          obtain ⟨g1, g2, g3, g4, g5, g6, g7, g8⟩ := HG.out
          have hLb := HU.out.2.2.2.1
          have hfit : fitB is bs.length s (q - used).toNat = (n, d) := by
            obtain ⟨hk1, hkz, hv⟩ := HKz.out
            by_cases hnl : n = L
            · exact g4.all (by omega)
            · have hlt3 : (n : Int) < (L : Int) := by omega
              have h1 := HCb.out
              have h2 : decide ((n : Int) < (L : Int)) = true := by simpa using hlt3
              rw [h2, Bool.true_and] at h1
              have h3 : v = false ∧ ¬ (u : Int) < q := by simpa using h1.symm
              have hrm := g4.room
              exact g4.full (by omega) (by rw [← hkz, ← hv]; exact h3.1) (by omega)
          obtain ⟨T', t1, t2, t3⟩ := ho_write g2 g1.ok s (by omega) bs (by omega) (n, d) hfit.symm
          obtain ⟨sz, hsz⟩ : ∃ sz, sz = if 0 < n then max size (s + n) else size := ⟨_, rfl⟩
          have HWr : Hid (Calls Try.prog 8 #[.pointer (some ⟨f, 0, none⟩), .int .i64 2, .int .i64 (s : Int), .slice bo L bc] wr fun e w' => e = .returned (.int .i64 (if n < L then 5 else 0)) ∧ Hid (HoI w w' f BI BC q (1 + (i + 1)) sz u ∧ w'.cell? ⟨BO, 18, none⟩ = some (.slice bo L bc))) := Lib.hid (by
            refine (g1.callB (T' := T') (v := .int .i64 (if n < L then 5 else 0)) g8 (Nat.lt_of_lt_of_le HB5.out g7.size) (fun S hS hlow => ?_)).mono ?_
            · have := write_all hS 2 (by decide) s (by omega) bs bo bc (HU.out.2.2.1.keptNo g1.keep) (by omega) hbm (by omega) (fun hne x hx hSx => ?_) (by omega) (by rw [g2.quo]; omega)
              · rw [t1, ← hLb] at this
                exact this
              · obtain ⟨b2, f2, e2, h2, _⟩ := HU.out.2.2.1.at (by rw [nb_len]; exact List.length_pos_iff.2 hne)
                rw [e2] at hx
                cases hx
                have := hlow _ hSx
                dsimp only at this
                omega
            · rintro e w' ⟨rfl, h4⟩
              exact ⟨rfl, Lib.hid ⟨⟨T', _, _, h4.out.1, by rw [hsz, g5]; exact t2, by push_cast; omega⟩, h4.out.2 _ _ x18⟩⟩)
          have HSz := Lib.hid hsz
          have hszb : sz ≤ 1080 := t2.size |> fun h => by rw [hsz]; exact h
          clear g1 g2 g3 g4 g5 g6 g7 g8 hfit t1 t2 t3 hLb hsz HG ci
          by_cases hnl : n < L
          · rw [if_pos hnl] at HWr
            have hnl2 : ¬ (n : Int) = (L : Int) := by omega
            have hnl3 : ((n : Int) == (L : Int)) = false := by simp; omega
            by_cases hn0 : (0 : Int) < (n : Int)
            · skip
              have hszk : max (size : Int) (k : Int) = (sz : Int) := by have h1 := HKz.out.1; rw [HSz.out, if_pos (by omega)]; omega
              go_wp2_with fail
              refine HWr.out.mono ?_
              rintro e w7 ⟨rfl, H7⟩
              have x18' := H7.out.2
              go_wp2
              exact ⟨⟨sz, u, i + 1, by first | rfl | rw [hszk], rfl, by simp, by omega, by omega, Lib.hid H7.out.1⟩, by simp only [intOf]; omega⟩
            · skip
              have hszk : (size : Int) = (sz : Int) := by rw [HSz.out, if_neg (by omega)]
              go_wp2_with fail
              refine HWr.out.mono ?_
              rintro e w7 ⟨rfl, H7⟩
              have x18' := H7.out.2
              go_wp2
              exact ⟨⟨sz, u, i + 1, by first | rfl | rw [hszk], rfl, by simp, by omega, by omega, Lib.hid H7.out.1⟩, by simp only [intOf]; omega⟩
          · rw [if_neg hnl] at HWr
            have hnl2 : n = L := by omega
            subst hnl2
            clear hnl
            by_cases hn0 : (0 : Int) < (n : Int)
            · skip
              have hszk : max (size : Int) (k : Int) = (sz : Int) := by have h1 := HKz.out.1; rw [HSz.out, if_pos (by omega)]; omega
              go_wp2_with fail
              refine HWr.out.mono ?_
              rintro e w7 ⟨rfl, H7⟩
              have x18' := H7.out.2
              go_wp2
              exact ⟨⟨sz, u, i + 1, by first | rfl | rw [hszk], rfl, by simp, by omega, by omega, Lib.hid H7.out.1⟩, by simp only [intOf]; omega⟩
            · skip
              have hszk : (size : Int) = (sz : Int) := by rw [HSz.out, if_neg (by omega)]
              go_wp2_with fail
              refine HWr.out.mono ?_
              rintro e w7 ⟨rfl, H7⟩
              have x18' := H7.out.2
              go_wp2
              exact ⟨⟨sz, u, i + 1, by first | rfl | rw [hszk], rfl, by simp, by omega, by omega, Lib.hid H7.out.1⟩, by simp only [intOf]; omega⟩
          -- C>>
    -- T>>
theorem treeHoles_law (v0 v1 : Value) (w : World) (r0 : Arg w 3 v0) (r1 : Arg w 22 v1) : Calls Try.prog 3 #[v0, v1] w fun e w' => e = .returned (.bool true) ∧ Below w.heap.size w w' := by
  obtain ⟨n, rfl, _⟩ := r0.int rfl
  obtain ⟨oo, co, os, rfl, hro, hoc, hom, hio⟩ := ops_open r1
  refine (treeHoles_core n oo os co w hro hio hoc hom).mono ?_
  rintro e w' ⟨rfl, hk⟩
  exact ⟨rfl, hk.belowNo (Below.refl _ _)⟩
end Go.Proofs.Ytjjgadanobeamaa
