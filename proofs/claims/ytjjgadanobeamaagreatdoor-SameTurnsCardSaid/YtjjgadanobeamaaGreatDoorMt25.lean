/-
  same.Text: a line for each name.
-/
import Derived.Test.YtjjgadanobeamaaGreatDoorMt24
import Derived.Deep.CutBlock
import Derived.Lib.ItoaLen
namespace Go.Proofs.YtjjgadanobeamaaGreatDoor
open Go.RowKit Go.Shelf
set_option linter.unusedVariables false
set_option linter.unusedSimpArgs false
set_option maxRecDepth 20000

theorem join32_any (ao : Option Addr) (cap B : Nat) (ps : List (List UInt8)) (w : World) (hr : RdS w B ao ps) (hc : ps.length ≤ cap) (hl : ps.length ≤ 1000000) (hj : (lineW ps).length ≤ 1000000000) :
    Calls Tryz.prog 45 #[.slice ao ps.length cap, .string { data := #[32] }] w fun e w' => e = .returned (.string (strB (lineW ps))) ∧ Kept NoB w w' := by
  cases ps with
  | nil =>
    refine (Tryz.strings_Join_none ao cap ⟨#[32]⟩ w).mono ?_
    rintro e w' ⟨rfl, rfl⟩
    exact ⟨rfl, Kept.refl _ _⟩
  | cons p q =>
    obtain ⟨g, off, rfl, hg, h0⟩ := hr 0 (by simp)
    have hx : ∀ (j : Nat) x, ((p :: q).map strB)[j]? = some x → w.cell? ⟨g, off + j, none⟩ = some (.string x) := by
      intro j x hjx
      have hjl : j < (p :: q).length := by
        have := (List.getElem?_eq_some_iff.1 hjx).1
        simpa using this
      obtain ⟨g2, off2, h1, _, h2⟩ := hr j hjl
      cases h1
      rw [h2]
      rw [List.getElem?_map, List.getElem?_eq_getElem hjl] at hjx
      simp at hjx
      rw [← hjx, List.getD_eq_getElem?_getD, List.getElem?_eq_getElem hjl]
      rfl
    have hjj : Lib.join (((p :: q).map strB).map (·.data.toList)) (⟨#[32]⟩ : ByteArray).data.toList = lineW (p :: q) := by rw [map_back]; rfl
    have hlen : ((p :: q).map strB).length = (p :: q).length := List.length_map _
    have := Tryz.strings_Join g off cap ((p :: q).map strB) ⟨#[32]⟩ w hx (World.block_lt_of_cell? w _ h0) (by rw [hlen]; omega) (by rw [hlen]; exact hc) (by rw [hjj]; omega)
    rw [hjj, hlen] at this
    exact this.mono (fun e w' h => ⟨h.1, (Kept.refl NoB w).ofBelow h.2⟩)
theorem txt1_any (x : Int) (w : World) : Calls Tryz.prog 25 #[.int .i64 x] w fun e w' => e = .returned (.int .i64 x) ∧ w = w' := by
  go_enter Tryz.func25, Tryz.ntmps25
  go_wp2
  go_ret
  exact ⟨rfl, rfl⟩
structure TxIn (w4 wr : World) (M : Nat) (la : Option Addr) (ll lc : Nat) (ls : List (List UInt8)) (F : Int → Option Int) (i : Nat) : Prop where
  kept : Kept (OneB M) w4 wr
  fst : ∃ c, c ≤ i ∧ FstAt wr M F c
  row : wr.ownsRow 0 9 1 (.slice la ll lc) ll (ls.map strV)
  len : ll = ls.length
  fresh : ∀ k, (Value.slice la ll lc).ownBlock = some k → w4.heap.size ≤ k
structure OkV (v : NodeV) : Prop where
  mode : 0 ≤ v.mode ∧ v.mode ≤ 4095
  user : 0 ≤ v.user ∧ v.user ≤ 2147483647
  group : 0 ≤ v.group ∧ v.group ≤ 2147483647
  time : -9223372036854775808 ≤ v.time ∧ v.time ≤ 9223372036854775807
  kind : v.kind = 1 ∨ v.kind = 3 ∨ v.kind = 4 ∨ v.kind = 5 ∨ v.kind = 6 ∨ v.kind = 7
  dev : 0 ≤ v.major ∧ v.major ≤ 1048575 ∧ 0 ≤ v.minor ∧ v.minor ≤ 1048575
theorem OkV.five {v : NodeV} (h : OkV v) : ∀ z ∈ [v.kind, v.mode, v.user, v.group, v.time], -9223372036854775808 ≤ z ∧ z ≤ 9223372036854775807 := by
  intro z hz
  have h1 := h.mode; have h2 := h.user; have h3 := h.group; have h4 := h.time; have h5 := h.kind
  simp only [List.mem_cons, List.not_mem_nil, or_false] at hz
  rcases hz with rfl | rfl | rfl | rfl | rfl <;> omega
theorem appN_lit {w0 w9 : World} {a : Option Addr} {l c : Nat} {ps : List (List UInt8)} (hS : StrSt w0 w9 a l c ps) (htab : Pow10 w0) (zs : List Int) (n : Nat) (hn : n = zs.length) (hzb : ∀ z ∈ zs, -9223372036854775808 ≤ z ∧ z ≤ 9223372036854775807) (hb : ps.length + zs.length ≤ 100000000) (W : World) (cs : Array Value) (hk : Kept NoB w9 W) (hc : W.heap[w9.heap.size]? = some (.cells cs 3 (0, 0))) (hcs : cs = (zs.map (Value.int .i64)).toArray) :
    Calls Tryz.prog 43 #[.slice a l c, .slice (some ⟨w9.heap.size, 0, none⟩) n n] W fun e w' => ∃ a2 l2 c2, e = .returned (.slice a2 l2 c2) ∧ Hid (StrSt w0 w' a2 l2 c2 (ps ++ zs.map numB)) := by
  refine appNums_any (hS.on hk) htab (some ⟨w9.heap.size, 0, none⟩) n n zs hn ?_ ?_ hzb hb
  · intro i hi
    refine ⟨w9.heap.size, 0, rfl, ?_⟩
    rw [Nat.zero_add, obj_cell hc, hcs]
    simp [List.getD, hi]
  · intro x hx
    cases hx
    have hlt := obj_lt hc
    refine ⟨hlt, fun e => ?_⟩
    have := (hS.own.lt _ e).2
    simp at this
theorem numB_len (z : Int) (h : -9223372036854775808 ≤ z ∧ z ≤ 9223372036854775807) : (numB z).length ≤ 21 := Lib.itoa_length_le z h.1 h.2
theorem lineW_low (ws : List (List UInt8)) (B : Nat) (h : ∀ x ∈ ws, x.length ≤ B) : (lineW ws).length ≤ ws.length * (B + 1) := by
  cases ws with
  | nil => exact Nat.zero_le _
  | cons x r =>
    have ht : ∀ r : List (List UInt8), (∀ x ∈ r, x.length ≤ B) → (Lib.joinTail [32] r).length ≤ r.length * (B + 1) := by
      intro r
      induction r with
      | nil => intro _; exact Nat.zero_le _
      | cons y t ih =>
        intro hh
        have h1 := ih (fun x hx => hh x (by simp [hx]))
        have h2 := hh y (by simp)
        have e : Lib.joinTail [32] (y :: t) = ([32] ++ y) ++ Lib.joinTail [32] t := by simp [Lib.joinTail]
        have e2 : (y :: t).length * (B + 1) = t.length * (B + 1) + (B + 1) := by rw [List.length_cons, Nat.succ_mul]
        rw [e, e2]
        simp only [List.length_append, List.length_cons, List.length_nil]
        omega
    unfold lineW
    have e2 : (x :: r).length * (B + 1) = r.length * (B + 1) + (B + 1) := by rw [List.length_cons, Nat.succ_mul]
    rw [Lib.join_cons, e2, List.length_append]
    have h1 := ht r (fun y hy => h y (by simp [hy]))
    have h2 := h x (by simp)
    omega
theorem words_low {v : NodeV} (hv : OkV v) (hs : 0 ≤ v.size ∧ v.size ≤ 1048576) (ht : v.tgt.data.toList.length ≤ 1024) {T : FsP} {ino : Int} (p : List UInt8) (hp : p.length ≤ 1000000) (fp : Int) (hf : 0 ≤ fp ∧ fp ≤ 9223372036854775807) :
    ∀ x ∈ (([hexB p] ++ [v.kind, v.mode, v.user, v.group, v.time].map numB) ++ moreW T ino v) ++ [fp].map numB, x.length ≤ 2000000 := by
  have hn : ∀ z : Int, (-9223372036854775808 ≤ z ∧ z ≤ 9223372036854775807) → (numB z).length ≤ 2000000 := fun z h => by have := numB_len z h; omega
  intro x hx
  rcases List.mem_append.1 hx with hx | hx
  · rcases List.mem_append.1 hx with hx | hx
    · rcases List.mem_append.1 hx with hx | hx
      · simp at hx; subst hx; rw [hexB_len]; omega
      · obtain ⟨z, hz, rfl⟩ := List.mem_map.1 hx
        exact hn z (hv.five z hz)
    · unfold moreW at hx
      have hd := hv.dev
      split at hx
      · simp at hx
        rcases hx with rfl | rfl
        · exact hn _ (by omega)
        · refine hn _ ?_
          have : contentP T ino v.size < 4294967296 := by unfold contentP; split <;> exact crcOf_lt _ _
          omega
      · split at hx
        · simp only [List.mem_cons, List.not_mem_nil, or_false] at hx; subst hx; rw [hexB_len]; omega
        · split at hx
          · simp at hx
            rcases hx with rfl | rfl
            · exact hn _ (by omega)
            · exact hn _ (by omega)
          · cases hx
  · obtain ⟨z, hz, rfl⟩ := List.mem_map.1 hx
    simp at hz; subst hz
    exact hn _ (by omega)
set_option maxHeartbeats 4000000 in
theorem text_core {S : Nat → Prop} {w : World} {f : Nat} {T : FsP} (h : FsSt S w f T) (htab : Pow10 w) (hclk : T.clock ≤ 1000000000) (k : Nat) (hk : k ≤ 1000000) (dir : Int) (hdir : -9223372036854775808 ≤ dir ∧ dir ≤ 9223372036854775807) (hd : Deep T k dir) (all : List SeenP) (hall : allP T k dir [] = all) (hl : all.length ≤ 1000000)
    (hq : ∀ q ∈ all, q.1.length ≤ 1000000 ∧ (1 ≤ q.2 ∧ q.2 ≤ 4611686018427387904) ∧ ∃ n, T.nd q.2 = some n ∧ n.v.size ≤ 1048576) :
    Calls Tryz.prog 24 #[.pointer (some ⟨f, 0, none⟩), .int .i64 dir, .func (.func 25) #[] #[]] w fun e w' => ∃ a l c, e = .returned (.slice a l c) ∧ Hid (StrSt w w' a l c (textP T id all)) := by
  have hOk : OkT T := by obtain ⟨L, B, mb, h1⟩ := h; exact h1.ok
  have HF := Lib.hid h; have HTb := Lib.hid htab; have HQ := Lib.hid hq; have HOk := Lib.hid hOk
  have HNt := Lib.hid (newt_any w)
  have HAl : Hid (∀ W, Kept NoB w W → Calls Tryz.prog 40 #[.pointer (some ⟨f, 0, none⟩), .int .i64 dir] W fun e w' => ∃ a l c, e = .returned (.slice a l c) ∧ Hid (SnSt W w' a l c all)) := Lib.hid (fun W hW => by
    have := all_any (h.keptNo hW) hclk k hk dir hdir hd (by rw [hall]; omega)
    rw [hall] at this
    exact this)
  clear h htab hq hOk hall hd
  go_enter Tryz.func24, Tryz.ntmps24
  go_upto_region 2 with (first | (go_at_call 39; refine HNt.out.mono ?_; rintro e w1 ⟨Tb, rfl, hT1, hTl, hk1⟩) | fail)
  have HT1 := Lib.hid hT1; have HTl := Lib.hid hTl; have HK1 := Lib.hid hk1
  clear hT1 hTl hk1 HNt
  have hmm := @run_makeMap Tryz.prog
  go_upto_region 4 with fail
  clear hmm
  obtain ⟨w2, hw2⟩ : ∃ w2, w2 = w1.alloc (Obj.map #[] 0) := ⟨_, rfl⟩
  have hk2 : Kept NoB w1 w2 := by rw [hw2]; exact (Kept.refl NoB w1).alloc _
  have hM2 : FstAt w2 w1.heap.size (fstF all 0) 0 := by
    unfold FstAt
    rw [fstF_zero, fsF_none, hw2]
    exact MapF.made w1 _ _ _
  rw [← hw2]
  obtain ⟨M, hM⟩ : ∃ M, M = w1.heap.size := ⟨_, rfl⟩
  have hMl : w.heap.size ≤ M := by have := HK1.out.size; omega
  have hMT : Tb ≠ M := by have := obj_lt HT1.out; omega
  have hM2l : M < w2.heap.size := by rw [hw2, hM]; simp
  rw [← hM] at hM2 ⊢
  have HM2 := Lib.hid hM2
  have HT2 := Lib.hid (HT1.out.keptNo hk2)
  have HK2 := Lib.hid (HK1.out.trans hk2)
  have HAl2 := Lib.hid (HAl.out w2 HK2.out)
  clear hw2 hk2 hM2 hM HT1 HK1 HAl
  go_upto_region 5 with (first | (go_at_call 40; refine HAl2.out.mono ?_; rintro e w4 ⟨ao, n, c, rfl, HSn⟩) | fail)
  clear HAl2
  have hn := HSn.out.len
  have HK4 := Lib.hid (HK2.out.trans HSn.out.kept)
  have HT4 := Lib.hid (HT2.out.keptNo HSn.out.kept)
  have HM4 : Hid (FstAt w4 M (fstF all 0) 0) := Lib.hid (MapF.kept HM2.out HSn.out.kept id)
  have hM4 : M < w4.heap.size := by have := HSn.out.kept.size; omega
  have HI0 : Hid (TxIn w4 w4 M none 0 0 ((textP T id all).take 0) (fstF all 0) 0) := Lib.hid ⟨Kept.refl _ _, ⟨0, by omega, HM4.out⟩, World.ownsRow_nil _ _ _ _, rfl, fun k e => by simp [Value.ownBlock] at e⟩
  have hn2 : n ≤ 1000000 := by omega
  have HN := Lib.hid hn
  have HM2l := Lib.hid hM2l
  clear HM2 HT2 HK2 HM4 hM2l hn
  go_loopw [9, 10, 11, 12, 13, 14, 15, 16, 23] (fun v9 v10 v11 v12 v13 v14 v15 v16 v23 wr => ∃ (i : Nat) (la : Option Addr) (ll lc : Nat), v9 = .slice la ll lc ∧ v23 = .int .i64 (i : Int) ∧ i ≤ n ∧ Hid (TxIn w4 wr M la ll lc ((textP T id all).take i) (fstF all i) i)) (fun _ _ _ _ _ _ _ _ v23 _ => n - (intOf v23).toNat)
  case atStart => exact ⟨0, none, 0, 0, rfl, rfl, by omega, HI0⟩
  case round =>
    obtain ⟨i, la, ll, lc, rfl, rfl, hi, HI⟩ := hrel
    clear HI0
    by_cases hlt : (i : Int) < n
    · have hin : i < all.length := by have := HN.out; omega
      obtain ⟨g, rfl, s1, s2⟩ := HSn.out.at i hin
      have hgM : g ≠ M := fun e => by
        have := HSn.out.fresh g rfl
        have := HM2l.out
        omega
      obtain ⟨q, hqe⟩ : ∃ q, q = all[i] := ⟨_, rfl⟩
      rw [← hqe] at s1 s2
      have hqm : q ∈ all := by rw [hqe]; exact List.getElem_mem hin
      obtain ⟨q1, q2, nq, q3, q4⟩ := HQ.out q hqm
      have t1 : wr.cell? ⟨g, i * 2, none⟩ = some (.string (strB q.1)) := (World.cell?_of_block (a := ⟨g, i * 2, none⟩) (HI.out.kept.block g (World.block_lt_of_cell? w4 _ s1) (fun e => hgM e))).trans s1
      have t2 : wr.cell? ⟨g, i * 2 + 1, none⟩ = some (.int .i64 q.2) := (World.cell?_of_block (a := ⟨g, i * 2 + 1, none⟩) (HI.out.kept.block g (World.block_lt_of_cell? w4 _ s2) (fun e => hgM e))).trans s2
      obtain ⟨P, hP⟩ : ∃ P, P = strB q.1 := ⟨_, rfl⟩
      obtain ⟨ino, hino⟩ : ∃ ino, ino = q.2 := ⟨_, rfl⟩
      rw [← hP] at t1
      rw [← hino] at t2 q2 q3
      have HQe := Lib.hid hqe; have HPe := Lib.hid hP; have HIe := Lib.hid hino; have HQ3 := Lib.hid q3
      have hql := q1
      have hsz := q4
      -- what the whole tree is in wr
      have hkr : Kept NoB w wr := keep_on HK4.out HI.out.kept (fun k hk e => by have : k = M := e; omega)
      have HFr := Lib.hid (HF.out.keptNo hkr)
      have HTr : Hid (Tbl wr Tb) := Lib.hid (HI.out.kept.obj HT4.out (fun e => hMT e))
      have HPr := Lib.hid (HTb.out.keptNo hkr)
      have hgm2 : g < wr.heap.size := World.block_lt_of_cell? wr _ t1
      clear s1 s2 hkr hqe hP hino q3 q1 q4 hqm hgM
      go_upto_region 7 with fail
      obtain ⟨w5, hw5⟩ : ∃ w5, w5 = wr.alloc (.cells #[.string P, .int .i64 ino] 82) := ⟨_, rfl⟩
      have hk5 : Kept NoB wr w5 := by rw [hw5]; exact (Kept.refl NoB wr).alloc _
      obtain ⟨N1, hN1⟩ : ∃ N1, N1 = wr.heap.size := ⟨_, rfl⟩
      have u1 : w5.cell? ⟨N1, 0, none⟩ = some (.string P) := by rw [hw5, hN1, cell_new (k := wr.heap.size) 0 rfl]; rfl
      have u2 : w5.cell? ⟨N1, 1, none⟩ = some (.int .i64 ino) := by rw [hw5, hN1, cell_new (k := wr.heap.size) 1 rfl]; rfl
      have hN1M : N1 ≠ M := by have := HI.out.kept.size; omega
      rw [← hw5, ← hN1]
      have HK5 := Lib.hid hk5
      obtain ⟨v, hv⟩ : ∃ v, v = nq.v := ⟨_, rfl⟩
      have HSt : Hid (Calls Tryz.prog 41 #[.pointer (some ⟨f, 0, none⟩), .int .i64 ino] w5 fun e w' => e = .returned (.tuple #[.agg (nvC v).toArray, .int .i64 0]) ∧ Kept NoB w5 w') := Lib.hid (by
        have := stat_any (HFr.out.keptNo hk5) ino (by omega)
        have e : statP T ino = (nq.v, 0) := by unfold statP; rw [HQ3.out]
        rw [e, ← hv] at this
        exact this)
      have HOne := Lib.hid (nv_one v)
      have HVe := Lib.hid hv
      clear t1 t2 hw5 hk5 hN1 hv
      go_upto_region 8 with (first | (go_at_call 41; refine HSt.out.mono ?_; rintro e w6 ⟨rfl, hk6⟩) | (refine wpList_store_row rfl 25 (.tmp 12) (.tmp 33) rfl w6.heap.size (nvC v).toArray rfl rfl _ _ (heap_alloc_new _ _) infoNd rfl HOne.out ?_) | fail)
      obtain ⟨w7, hw7⟩ : ∃ w7, w7 = (w6.alloc (.cells #[.int .i64 0, .int .i64 0, .int .i64 0, .int .i64 0, .int .i64 0, .string { data := #[] }, .int .i64 0, .int .i64 0, .int .i64 0, .int .i64 0, .int .i64 0] 25)).setRow w6.heap.size (nvC v).toArray := ⟨_, rfl⟩
      have hk7 : Kept NoB w6 w7 := by rw [hw7]; exact ((Kept.refl NoB w6).alloc _).setRow (.inr (Nat.le_refl _)) _
      have dd : ∀ j, w7.cell? ⟨w6.heap.size, j, none⟩ = (nvC v).toArray[j]? := fun j => by rw [hw7]; exact cell_of_row _ _ _ _ _ (0, 0) (setRow_heap _ _ _ _ _ _ (heap_alloc_new _ _))
      rw [← hw7]
      obtain ⟨N2, hN2⟩ : ∃ N2, N2 = w6.heap.size := ⟨_, rfl⟩
      rw [← hN2] at dd ⊢
      have hkr7 := HK5.out.trans (hk6.trans hk7)
      have hN2M : N2 ≠ M := by have := HI.out.kept.size; have := HK5.out.size; have := hk6.size; omega
      have HD2 := Lib.hid dd
      have u2' := (hk6.trans hk7).cell u2
      have u1' := (hk6.trans hk7).cell u1
      have HK7 := Lib.hid hkr7
      have HM7 : Hid (∃ c, c ≤ i ∧ FstAt w7 M (fstF all i) c) := Lib.hid (by
        obtain ⟨c, q1, q2⟩ := HI.out.fst
        exact ⟨c, q1, MapF.kept q2 hkr7 id⟩)
      clear dd hw7 hk7 hk6 hN2 hkr7 u1 u2 HSt HOne
      obtain ⟨fc, hfc, hM7⟩ := HM7.out
      have HMx := Lib.hid hM7
      obtain ⟨x0, hx0⟩ : ∃ x0, x0 = (fstF all i ino).getD 0 := ⟨_, rfl⟩
      obtain ⟨b0, hb0⟩ : ∃ b0, b0 = (fstF all i ino).isSome := ⟨_, rfl⟩
      have HB0 := Lib.hid hb0
      have HX0 := Lib.hid hx0
      have hi64 : -9223372036854775808 ≤ ino ∧ ino ≤ 9223372036854775807 := by omega
      clear hM7 hx0 hb0 HM7
      go_upto_if 43 with (first | (at_lookup; refine wpList_fst_ok rfl _ _ rfl HMx.out rfl rfl hi64 ?_; rw [← HX0.out, ← HB0.out]) | fail)
      go_cut [] from 42 to 47 (fun wx => Hid (Kept (OneB M) w7 wx) ∧ Hid (∃ c, c ≤ i + 1 ∧ FstAt wx M (fstF all (i + 1)) c))
      case first =>
        cases b0
        · have hns : ¬ firstP all all[i].2 < i := fun h => by
            have h1 := HB0.out
            rw [HIe.out, HQe.out] at h1
            unfold fstF at h1
            rw [if_pos h] at h1
            cases h1
          have hnew := fstF_new hin hns
          have hnone : (fstF all i ino).isSome = false := HB0.out.symm
          obtain ⟨w8, hr8, q1, q2, q3⟩ := fst_put HMx.out ino hi64 (i : Int) (by omega) (by unfold maxLen; omega)
          rw [hnone] at q1
          have HF8 : Hid (∃ c, c ≤ i + 1 ∧ FstAt w8 M (fstF all (i + 1)) c) := Lib.hid ⟨fc + 1, by omega, by
            rw [hnew, ← HQe.out, ← HIe.out]
            exact q1⟩
          have HK8 := Lib.hid q2
          clear q1 q2 q3 hnone hnew hns HMx
          go_wp2
          go_meet
          exact ⟨HK8, HF8⟩
        · have hs : firstP all all[i].2 < i := Classical.byContradiction fun h => by
            have h1 := HB0.out
            rw [HIe.out, HQe.out] at h1
            unfold fstF at h1
            rw [if_neg h] at h1
            cases h1
          have HF8 : Hid (∃ c, c ≤ i + 1 ∧ FstAt w7 M (fstF all (i + 1)) c) := Lib.hid ⟨fc, by omega, by rw [fstF_same hin hs]; exact HMx.out⟩
          clear hs
          go_wp2
          go_meet
          exact ⟨Lib.hid (Kept.refl _ _), HF8⟩
      case rest =>
        obtain ⟨wm, hwm⟩ : ∃ wm : World, wm = wc := ⟨_, rfl⟩
        subst hwm
        obtain ⟨HK8, HM8⟩ := hcut
        clear HMx HB0 HX0
        have c1 : wm.cell? ⟨N1, 0, none⟩ = some (.string P) := (World.cell?_of_block (a := ⟨N1, 0, none⟩) (HK8.out.block N1 (World.block_lt_of_cell? w7 _ u1') (fun e => hN1M e))).trans u1'
        have c2 : wm.cell? ⟨N1, 1, none⟩ = some (.int .i64 ino) := (World.cell?_of_block (a := ⟨N1, 1, none⟩) (HK8.out.block N1 (World.block_lt_of_cell? w7 _ u2') (fun e => hN1M e))).trans u2'
        have HDc : Hid (∀ j, wm.cell? ⟨N2, j, none⟩ = (nvC v).toArray[j]?) := Lib.hid (fun j => by
          have h0 := HD2.out 0
          have hlt7 : N2 < w7.heap.size := World.block_lt_of_cell? w7 (a := ⟨N2, 0, none⟩) (u := .int .i64 v.kind) (by rw [h0]; rfl)
          exact (World.cell?_of_block (a := ⟨N2, j, none⟩) (HK8.out.block N2 hlt7 (fun e => hN2M e))).trans (HD2.out j))
        have HK4c : Hid (Kept (OneB M) w4 wm) := Lib.hid ((HI.out.kept.trans (HK7.out.mono (fun _ _ e => e.elim))).trans HK8.out)
        have HKc : Hid (Kept NoB w wm) := Lib.hid (keep_on HK4.out HK4c.out (fun k hk e => by have : k = M := e; omega))
        have HFc := Lib.hid (HF.out.keptNo HKc.out)
        have HTc : Hid (Tbl wm Tb) := Lib.hid (HK4c.out.obj HT4.out (fun e => hMT e))
        have HPc := Lib.hid (HTb.out.keptNo HKc.out)
        obtain ⟨p, hp⟩ : ∃ p, p = q.1 := ⟨_, rfl⟩
        have HHx : Hid (Calls Tryz.prog 42 #[.string P] wm fun e w' => e = .returned (.string (strB (hexB p))) ∧ Kept NoB wm w') := Lib.hid (by
          have := hexed_any q.1 wm hql
          rw [← HPe.out, ← hp] at this
          exact this)
        have HPp := Lib.hid hp
        clear hp u1' u2' HD2 HFr HTr HPr hgm2
        go_upto_region 12 with (first | (go_at_call 42; refine HHx.out.mono ?_; rintro e w8 ⟨rfl, hk8⟩) | fail)
        clear HHx
        obtain ⟨w9, hw9⟩ : ∃ w9, w9 = w8.alloc (.cells #[.string (strB (hexB p))] 9) := ⟨_, rfl⟩
        obtain ⟨X, hX⟩ : ∃ X, X = w8.heap.size := ⟨_, rfl⟩
        have hS9 : StrSt wm w9 (some ⟨X, 0, none⟩) 1 1 [hexB p] := by
          refine ⟨rfl, ?_, by rw [hw9]; exact hk8.alloc _, fun k e => by have := hk8.size; simp [Value.ownBlock] at e; omega⟩
          rw [hw9, hX]
          have := World.ownsRow_lit (e := 9) (base := 0) (size := 1) w8 #[.string (strB (hexB p))] 1 (Nat.zero_le _) (by decide) rfl
          exact this
        rw [← hw9, ← hX]
        have HS9 := Lib.hid hS9
        have hk9 := hS9.kept
        have d1 := hk9.cell c1
        have d2 := hk9.cell c2
        have HDW : Hid (∀ W, Kept NoB wm W → ∀ j, W.cell? ⟨N2, j, none⟩ = (nvC v).toArray[j]?) := Lib.hid (fun W hW j => by
          have h0 : wm.cell? ⟨N2, 0, none⟩ = some (.int .i64 v.kind) := by rw [HDc.out 0]; rfl
          have hb1 := World.cell?_of_block (a := ⟨N2, j, none⟩) (hW.block N2 (World.block_lt_of_cell? wm _ h0) (fun e => e))
          rw [hb1, HDc.out j])
        have HC2 := Lib.hid c2
        clear hw9 hk8 hX hS9 c1 c2
        have HTx := Lib.hid (fun x W => txt1_any x W)
        have HAll : ∀ W, Kept NoB wm W → (Kept NoB wm W ∧ W.cell? ⟨N2, 0, none⟩ = some (.int .i64 v.kind) ∧ W.cell? ⟨N2, 1, none⟩ = some (.int .i64 v.mode) ∧ W.cell? ⟨N2, 2, none⟩ = some (.int .i64 v.user) ∧ W.cell? ⟨N2, 3, none⟩ = some (.int .i64 v.group) ∧ W.cell? ⟨N2, 4, none⟩ = some (.int .i64 v.time)) := fun W hW => ⟨hW, by rw [HDW.out W hW 0]; rfl, by rw [HDW.out W hW 1]; rfl, by rw [HDW.out W hW 2]; rfl, by rw [HDW.out W hW 3]; rfl, by rw [HDW.out W hW 4]; rfl⟩
        have hkd : Kept NoB wm w9.drew := hk9.drew
        have hnew : ∀ o, ((w9.alloc o).drew).heap[w9.heap.size]? = some o := fun o => heap_alloc_new w9 o
        have hkd2 : ∀ o, Kept NoB wm ((w9.alloc o).drew) := fun o => (hk9.alloc o).drew
        have hv : OkV v := by
          have := (HOk.out.node _ _ HQ3.out)
          rw [HVe.out]
          exact ⟨this.mode, this.user, this.group, this.time, this.kind, this.dev⟩
        have HV := Lib.hid hv
        have HAp := Lib.hid (appN_lit HS9.out HPc.out [v.kind, v.mode, v.user, v.group, v.time] 5 rfl hv.five (by simp))
        clear hv
        go_region_held3 (fun W => Kept NoB wm W ∧ W.cell? ⟨N2, 0, none⟩ = some (.int .i64 v.kind) ∧ W.cell? ⟨N2, 1, none⟩ = some (.int .i64 v.mode) ∧ W.cell? ⟨N2, 2, none⟩ = some (.int .i64 v.user) ∧ W.cell? ⟨N2, 3, none⟩ = some (.int .i64 v.group) ∧ W.cell? ⟨N2, 4, none⟩ = some (.int .i64 v.time)) (first | assumption | exact HAll _ hkd | exact HAll _ (hkd2 _) | exact HAll _ HS10.out.kept) ((first | (go_at_call 25; ((with_reducible refine (HTx.out _ _).mono ?_); rintro e wq ⟨rfl, rfl⟩)) | (go_at_call 43; ((with_reducible refine (HAp.out _ #[.int .i64 v.kind, .int .i64 v.mode, .int .i64 v.user, .int .i64 v.group, .int .i64 v.time] (((Kept.refl NoB w9).alloc _).drew) (hnew _) rfl).mono ?_); rintro e w10 ⟨a2, l2, c2', rfl, HS10⟩))))
        have HD10 := Lib.hid (fun W (hW : Kept NoB w10 W) => HDW.out W (HS10.out.kept.trans hW))
        clear HAp HS9 HDc HTx HAll hkd hkd2 hnew hk9 d1 d2
        have m0 : w10.cell? ⟨N2, 0, none⟩ = some (.int .i64 v.kind) := by rw [HD10.out w10 (Kept.refl _ _) 0]; rfl
        have hkc := HV.out.kind
        obtain ⟨ws, hws⟩ : ∃ ws, ws = [hexB p] ++ [v.kind, v.mode, v.user, v.group, v.time].map numB := ⟨_, rfl⟩
        rw [← hws] at HS10
        have hwl : ws.length = 6 := by rw [hws]; rfl
        have HWs := Lib.hid hws
        clear hws
        have HN1 : Hid (∀ W, Kept NoB wm W → W.cell? ⟨N1, 1, none⟩ = some (.int .i64 ino)) := Lib.hid (fun W hW => hW.cell HC2.out)
        go_upto_block 2 with fail
        go_cut [16] from 50 to 101 (fun v16 wx => ∃ a3 l3 c3, v16 = .slice a3 l3 c3 ∧ Hid (StrSt wm wx a3 l3 c3 (ws ++ moreW T ino v)))
        case first =>
          -- <<A
          rcases hkc with hk | hk | hk | hk | hk | hk
          all_goals have HKd := Lib.hid hk
          · have hmw : moreW T ino v = [v.size, ((contentP T ino v.size : Nat) : Int)].map numB := by unfold moreW; rw [if_pos HKd.out]; rfl
            obtain ⟨cN, hcN⟩ : ∃ cN, cN = contentP T ino v.size := ⟨_, rfl⟩
            have hclt : cN < 4294967296 := by rw [hcN]; unfold contentP; split <;> exact crcOf_lt _ _
            have hszv : 0 ≤ v.size ∧ v.size ≤ 1048576 := by
              refine ⟨?_, by rw [HVe.out]; exact hsz⟩
              rw [HVe.out]; exact (HOk.out.node _ _ HQ3.out).size.1
            have HCt : Hid (∀ W, Kept NoB w10 W → Calls Tryz.prog 44 #[.pointer (some ⟨f, 0, none⟩), .pointer (some ⟨Tb, 0, none⟩), .int .i64 ino, .int .i64 v.size] W fun e w' => e = .returned (.int .u32 (cN : Int)) ∧ Kept NoB W w') := Lib.hid (fun W hW => by
              have hk2 := HS10.out.kept.trans hW
              have := content_any (HFc.out.keptNo hk2) (HTc.out.keptNo hk2) ino hi64 v.size hszv
              rw [← hcN] at this
              exact this)
            rw [← hcN] at hmw
            have HMw := Lib.hid hmw
            have hcw : IntKind.i64.wrap (cN : Int) = (cN : Int) := IntWalk.i64_in _ (by omega)
            have HAp : Hid (∀ W, Kept NoB w10 W → ∀ cs, cs = (#[Value.int .i64 v.size, Value.int .i64 (cN : Int)] : Array Value) → Calls Tryz.prog 43 #[.slice a2 l2 c2', .slice (some ⟨W.heap.size, 0, none⟩) 2 2] (W.alloc (.cells cs 3)) fun e w' => ∃ a2 l2 c2, e = .returned (.slice a2 l2 c2) ∧ Hid (StrSt wm w' a2 l2 c2 (ws ++ [v.size, (cN : Int)].map numB))) := Lib.hid (fun W hW cs hcs => appN_lit (HS10.out.on hW) HPc.out [v.size, (cN : Int)] 2 rfl (by
              intro z hz
              simp only [List.mem_cons, List.not_mem_nil, or_false] at hz
              rcases hz with rfl | rfl <;> omega) (by rw [hwl]; show 6 + 2 ≤ 100000000; decide) (W.alloc (.cells cs 3)) cs ((Kept.refl NoB W).alloc _) (heap_alloc_new W _) (by rw [hcs]; rfl))
            have HAll : ∀ W, Kept NoB wm W → (Kept NoB wm W ∧ W.cell? ⟨N2, 8, none⟩ = some (.int .i64 v.size) ∧ W.cell? ⟨N1, 1, none⟩ = some (.int .i64 ino)) := fun W hW => ⟨hW, by rw [HDW.out W hW 8]; rfl, HN1.out W hW⟩
            have hk10 := HS10.out.kept
            have hkd : Kept NoB wm w10.drew := hk10.drew
            have hkt : ∀ W, Kept NoB w10 W → Kept NoB wm W := fun W hW => hk10.trans hW
            have hka : ∀ W o, Kept NoB w10 W → Kept NoB wm (W.alloc o) := fun W o hW => (hk10.trans hW).alloc o
            clear hcN hmw hclt hszv
            go_wp2_with fail
            go_region_held3 (fun W => Kept NoB wm W ∧ W.cell? ⟨N2, 8, none⟩ = some (.int .i64 v.size) ∧ W.cell? ⟨N1, 1, none⟩ = some (.int .i64 ino)) (first | assumption | exact HAll _ hkd | exact HAll _ HS11.out.kept | exact HAll _ (hkt _ hkn) | exact HAll _ (hka _ _ hkn)) ((first | (go_at_call 44; ((with_reducible refine (HCt.out _ ((Kept.refl NoB w10).drew)).mono ?_); rintro e wn ⟨rfl, hkn⟩; replace hkn : Kept NoB w10 wn := ((Kept.refl NoB w10).drew).trans hkn)) | (go_at_call 43; ((with_reducible refine (HAp.out _ hkn _ rfl).mono ?_); rintro e w11 ⟨a3, l3, c3, rfl, HS11⟩))))
            go_wp2
            go_meet
            exact ⟨a3, l3, c3, rfl, by rw [HMw.out]; exact HS11⟩
          · have hmw : moreW T ino v = [hexB v.tgt.data.toList] := by unfold moreW; rw [if_neg (by rw [HKd.out]; decide), if_pos HKd.out]
            have HMw := Lib.hid hmw
            have htl : v.tgt.data.toList.length ≤ 1024 := by
              have := (HOk.out.node _ _ HQ3.out).tgt
              rw [← HVe.out] at this
              exact this
            have HHx : Hid (Calls Tryz.prog 42 #[.string v.tgt] w10 fun e w' => e = .returned (.string (strB (hexB v.tgt.data.toList))) ∧ Kept NoB w10 w') := Lib.hid (by
              have := hexed_any v.tgt.data.toList w10 (by omega)
              rw [strB_of] at this
              exact this)
            obtain ⟨hx, hhx⟩ : ∃ hx, hx = hexB v.tgt.data.toList := ⟨_, rfl⟩
            rw [← hhx] at HHx HMw
            have m5 : w10.cell? ⟨N2, 5, none⟩ = some (.string v.tgt) := by rw [HD10.out w10 (Kept.refl _ _) 5]; rfl
            have hll : l2 ≤ 1000000000 := by have := HS10.out.len; omega
            clear hmw htl hhx
            go_wp2_with (first | (go_at_call 42; refine HHx.out.mono ?_; rintro e w11 ⟨rfl, hk11⟩; have HK11 := Lib.hid hk11; clear hk11) | (at_builtin; refine wpList_text rfl _ _ rfl ((((Kept.refl NoB w11).alloc _)).row ((HS10.out.on HK11.out).own) (fun _ _ h => h)) rfl w11.heap.size 1 hx rfl (cell_new (k := w11.heap.size) 0 rfl) hll ?_; intro a3 c3 w12 ho12 hk12 hn12))
            go_meet
            refine ⟨a3, l2 + 1, c3, rfl, Lib.hid ?_⟩
            rw [HMw.out]
            have h2 := (HS10.out.on HK11.out).alloc (.cells #[.string (strB hx)] 9)
            refine h2.of ho12 ?_ hk12 hn12
            have := h2.len
            simp only [List.length_append, List.length_cons, List.length_nil] at this ⊢
            omega
          · have hmw : moreW T ino v = [v.major, v.minor].map numB := by unfold moreW; rw [if_neg (by rw [HKd.out]; decide), if_neg (by rw [HKd.out]; decide), if_pos (.inl HKd.out)]; rfl
            have HMw := Lib.hid hmw
            have m6 : w10.cell? ⟨N2, 6, none⟩ = some (.int .i64 v.major) := by rw [HD10.out w10 (Kept.refl _ _) 6]; rfl
            have m7 : w10.cell? ⟨N2, 7, none⟩ = some (.int .i64 v.minor) := by rw [HD10.out w10 (Kept.refl _ _) 7]; rfl
            have HAp := Lib.hid (appN_lit HS10.out HPc.out [v.major, v.minor] 2 rfl (by
              intro z hz
              have := HV.out.dev
              simp only [List.mem_cons, List.not_mem_nil, or_false] at hz
              rcases hz with rfl | rfl <;> omega) (by rw [hwl]; show 6 + 2 ≤ 100000000; decide))
            clear hmw
            go_wp2_with (go_at_call 43; refine (HAp.out _ #[.int .i64 v.major, .int .i64 v.minor] ((Kept.refl NoB w10).alloc _) (heap_alloc_new w10 _) rfl).mono ?_; rintro e w11 ⟨a3, l3, c3, rfl, HS11⟩)
            go_meet
            exact ⟨a3, l3, c3, rfl, by rw [HMw.out]; exact HS11⟩
          · have hmw : moreW T ino v = [v.major, v.minor].map numB := by unfold moreW; rw [if_neg (by rw [HKd.out]; decide), if_neg (by rw [HKd.out]; decide), if_pos (.inr HKd.out)]; rfl
            have HMw := Lib.hid hmw
            have m6 : w10.cell? ⟨N2, 6, none⟩ = some (.int .i64 v.major) := by rw [HD10.out w10 (Kept.refl _ _) 6]; rfl
            have m7 : w10.cell? ⟨N2, 7, none⟩ = some (.int .i64 v.minor) := by rw [HD10.out w10 (Kept.refl _ _) 7]; rfl
            have HAp := Lib.hid (appN_lit HS10.out HPc.out [v.major, v.minor] 2 rfl (by
              intro z hz
              have := HV.out.dev
              simp only [List.mem_cons, List.not_mem_nil, or_false] at hz
              rcases hz with rfl | rfl <;> omega) (by rw [hwl]; show 6 + 2 ≤ 100000000; decide))
            clear hmw
            go_wp2_with (go_at_call 43; refine (HAp.out _ #[.int .i64 v.major, .int .i64 v.minor] ((Kept.refl NoB w10).alloc _) (heap_alloc_new w10 _) rfl).mono ?_; rintro e w11 ⟨a3, l3, c3, rfl, HS11⟩)
            go_meet
            exact ⟨a3, l3, c3, rfl, by rw [HMw.out]; exact HS11⟩
          · have hmw : moreW T ino v = [] := by unfold moreW; rw [if_neg (by rw [HKd.out]; decide), if_neg (by rw [HKd.out]; decide), if_neg (by rw [HKd.out]; decide)]
            have HMw := Lib.hid hmw
            clear hmw
            go_wp2
            go_meet
            exact ⟨a2, l2, c2', rfl, by rw [HMw.out, List.append_nil]; exact HS10⟩
          · have hmw : moreW T ino v = [] := by unfold moreW; rw [if_neg (by rw [HKd.out]; decide), if_neg (by rw [HKd.out]; decide), if_neg (by rw [HKd.out]; decide)]
            have HMw := Lib.hid hmw
            clear hmw
            go_wp2
            go_meet
            exact ⟨a2, l2, c2', rfl, by rw [HMw.out, List.append_nil]; exact HS10⟩
          -- A>>
        case rest =>
          -- <<B
          obtain ⟨a3, l3, c3, rfl, HS11⟩ := hcut
          have c2r := HN1.out wc HS11.out.kept
          obtain ⟨fc2, hfc2, hm8⟩ := HM8.out
          have HM11 : Hid (FstAt wc M (fstF all (i + 1)) fc2) := Lib.hid (MapF.kept hm8 HS11.out.kept id)
          obtain ⟨fp, hfp⟩ : ∃ fp, fp = firstP all ino := ⟨_, rfl⟩
          have hfl : fp ≤ i := by
            have := firstP_le hin
            rw [← HQe.out, ← HIe.out] at this
            omega
          have HFv : Hid ((fstF all (i + 1) ino).getD 0 = (fp : Int)) := Lib.hid (by
            unfold fstF
            rw [← hfp, if_pos (by omega)]; rfl)
          obtain ⟨wd1, hwd1⟩ : ∃ wd1, wd1 = ws ++ moreW T ino v := ⟨_, rfl⟩
          rw [← hwd1] at HS11
          have hwdl : wd1.length ≤ 100 := by
            rw [hwd1, List.length_append, hwl]
            unfold moreW
            split
            · simp
            · split
              · simp
              · split <;> simp
          have HAp := Lib.hid (appN_lit HS11.out HPc.out [(fp : Int)] 1 rfl (by
            intro z hz
            simp only [List.mem_cons, List.not_mem_nil, or_false] at hz
            subst hz; omega) (by show wd1.length + 1 ≤ 100000000; omega))
          have HWd : Hid (wd1 ++ [(fp : Int)].map numB = wordsP T id all q) := Lib.hid (by
            have e : statP T q.2 = (nq.v, 0) := by unfold statP; rw [← HIe.out, HQ3.out]
            unfold wordsP
            rw [e, hwd1, HWs.out, hfp, HIe.out, HPp.out, HVe.out]
            rfl)
          have HWl : Hid (∀ x ∈ wordsP T id all q, x.length ≤ 2000000) := Lib.hid (by
            have hszv : 0 ≤ v.size ∧ v.size ≤ 1048576 := by
              refine ⟨?_, by rw [HVe.out]; exact hsz⟩
              rw [HVe.out]; exact (HOk.out.node _ _ HQ3.out).size.1
            have htl : v.tgt.data.toList.length ≤ 1024 := by
              have := (HOk.out.node _ _ HQ3.out).tgt
              rw [← HVe.out] at this
              exact this
            have := words_low HV.out hszv htl (T := T) (ino := ino) p (by rw [HPp.out]; exact hql) (fp : Int) (by omega)
            rw [← HWd.out, hwd1, HWs.out]
            exact this)
          clear hm8 hfp hwd1 hfc2 m0 hkc
          go_upto_region 22 with (first | (at_lookup; refine wpList_fst_at rfl _ _ rfl HM11.out rfl rfl hi64 ?_; rw [HFv.out]) | (go_at_call 43; refine (HAp.out _ #[.int .i64 (fp : Int)] ((Kept.refl NoB wc).alloc _) (heap_alloc_new wc _) rfl).mono ?_; rintro e w12 ⟨a4, l4, c4, rfl, HS12⟩) | fail)
          obtain ⟨wds, hwds⟩ : ∃ wds, wds = wd1 ++ [(fp : Int)].map numB := ⟨_, rfl⟩
          rw [← hwds] at HS12 HWd
          have hl4 := HS12.out.len
          obtain rfl : l4 = wds.length := hl4
          have hwdl2 : wds.length ≤ 101 := by rw [hwds, List.length_append]; show wd1.length + 1 ≤ 101; omega
          have HJ : Hid (Calls Tryz.prog 45 #[.slice a4 wds.length c4, .string { data := #[32] }] w12 fun e w' => e = .returned (.string (strB (lineW wds))) ∧ Kept NoB w12 w') := Lib.hid (by
            refine join32_any a4 c4 w12.heap.size wds w12 HS12.out.reads (own_cap HS12.out.own).1 (by omega) ?_
            have := lineW_low wds 2000000 (by rw [HWd.out]; exact HWl.out)
            have h2 : wds.length * 2000001 ≤ 101 * 2000001 := Nat.mul_le_mul_right _ hwdl2
            omega)
          obtain ⟨ln, hln⟩ : ∃ ln, ln = lineW wds := ⟨_, rfl⟩
          rw [← hln] at HJ
          have HLn : Hid (ln = lineW (wordsP T id all q)) := Lib.hid (by rw [hln, HWd.out])
          obtain ⟨wdn, hwdn⟩ : ∃ wdn, wdn = wds.length := ⟨_, rfl⟩
          rw [← hwdn] at HJ HS12 ⊢
          have HKrm : Hid (Kept (OneB M) wr wm) := Lib.hid ((HK7.out.mono (fun _ _ e => e.elim)).trans HK8.out)
          have HK12 := Lib.hid HS12.out.kept
          have HTk : Hid ((textP T id all).take (i + 1) = (textP T id all).take i ++ [ln]) := Lib.hid (by
            have hlt3 : i < (textP T id all).length := by unfold textP; simpa using hin
            rw [List.take_succ_eq_append_getElem hlt3, HLn.out, HQe.out]
            congr 2
            simp [textP])
          have hll : ll ≤ 1000000000 := by
            have h1 := HI.out.len
            rw [List.length_take] at h1
            omega
          have HRow : Hid (∀ W, Kept NoB w12 W → W.ownsRow 0 9 1 (.slice la ll lc) ll (((textP T id all).take i).map strV)) := Lib.hid (fun W hW => (HK12.out.trans hW).row (HKrm.out.row HI.out.row (fun k e hm => by
            have h1 := HI.out.fresh k e
            have h2 : k = M := hm
            omega)) (fun _ _ e => e))
          have HM12 : Hid (∃ c, c ≤ i + 1 ∧ FstAt w12 M (fstF all (i + 1)) c) := Lib.hid (by
            obtain ⟨fc3, hfc3, h3⟩ := HM8.out
            exact ⟨fc3, hfc3, MapF.kept h3 HK12.out id⟩)
          clear hln hwds hwdn HAp HM11 c2r
          go_wp2_with (first | (go_at_call 45; refine HJ.out.mono ?_; rintro e w13 ⟨rfl, hk13⟩; have HK13 := Lib.hid hk13; clear hk13) | (at_builtin; refine wpList_text rfl _ _ rfl (HRow.out _ (HK13.out.alloc _)) rfl w13.heap.size 1 ln rfl (cell_new (k := w13.heap.size) 0 rfl) hll ?_; intro a5 c5 w14 ho14 hk14 hn14))
          have hkA : Kept NoB wm (w13.alloc (.cells #[.string (strB ln)] 9)) := (HK12.out.trans HK13.out).alloc _
          have HKA : Hid (Kept (OneB M) w4 (w13.alloc (.cells #[.string (strB ln)] 9))) := Lib.hid (HK4c.out.trans (hkA.mono (fun _ _ e => e.elim)))
          have HIn : Hid (TxIn w4 w14 M a5 (ll + 1) c5 ((textP T id all).take (i + 1)) (fstF all (i + 1)) (i + 1)) := Lib.hid (by
            have h0 := HKA.out
            refine ⟨⟨hk14.os.trans h0.os, hk14.tape.trans h0.tape, hk14.output.trans h0.output, Nat.le_trans h0.size hk14.size, fun b hb hne => (hk14.block b (Nat.lt_of_lt_of_le hb h0.size) (fun e => by have := HI.out.fresh b e; omega)).trans (h0.block b hb hne)⟩, ?_, by rw [HTk.out]; exact ho14, ?_, fun b e => ?_⟩
            · obtain ⟨fc3, hfc3, h3⟩ := HM12.out
              refine ⟨fc3, hfc3, MapF.kept (MapF.kept h3 (HK13.out.alloc _) id) hk14 (fun e => ?_)⟩
              have := HI.out.fresh M e
              omega
            · rw [HTk.out, List.length_append, ← HI.out.len]; rfl
            · rcases hn14 b e with z | z
              · exact HI.out.fresh b z
              · have := h0.size
                omega)
          clear hkA HKA ho14 hk14 hn14
          go_wp2
          go_roundw
          case rel => exact ⟨i + 1, a5, ll + 1, c5, rfl, by go_num, by omega, HIn⟩
          case measure => simp [intOf]; omega
          -- B>>
    · have he : (textP T id all).take i = textP T id all := List.take_of_length_le (by have := HN.out; unfold textP; simp; omega)
      rw [he] at HI
      have HK5 : Hid (Kept NoB w wr) := Lib.hid (keep_on HK4.out HI.out.kept (fun k hk e => by have : k = M := e; omega))
      have HSz := Lib.hid HK4.out.size
      clear he
      go_wp2
      go_ret
      exact ⟨la, ll, lc, rfl, Lib.hid ⟨HI.out.len, HI.out.row, HK5.out, fun k e => by have := HI.out.fresh k e; have := HSz.out; omega⟩⟩
end Go.Proofs.YtjjgadanobeamaaGreatDoor
