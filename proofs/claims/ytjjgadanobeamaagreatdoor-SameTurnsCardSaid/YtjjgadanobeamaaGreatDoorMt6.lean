/-
  A tree of files in memory: Stat; a directory and a part; Find.
  append onto an own row from whatever source, of another slice type too; elements of any number of cells.
-/
import Derived.Test.YtjjgadanobeamaaGreatDoorMt5
import Derived.Deep.AppendSrc
import Derived.Lib.AppendZerosOnto
import Derived.Lib.AppendZeros
namespace Go.Proofs.YtjjgadanobeamaaGreatDoor
open Go.RowKit
open Go.Maps (Keyed)
set_option linter.unusedVariables false
set_option linter.unusedSimpArgs false
set_option maxRecDepth 20000

section
variable {ops : Array Oper} {rest : List Oper} {o : Oper} {a : Act} {w : World} {Q : Exit → Act → World → Prop}
theorem wpList_nodes_ok (hgd : o.guard = none) (m x : Operand) (hop : o.op = Op.lookup 49 m x true) {mb : Nat} {B : Int → Option Nat} {c : Nat} (hM : NodesAt w mb B c) (hm : a.eval m = .map (some mb)) {k : Int} (hx : a.eval x = .int .i64 k) (hk : -9223372036854775808 ≤ k ∧ k ≤ 9223372036854775807)
    (h : wpList Tryz.prog ops Q rest (a.put o.dst (.tuple #[ptrV (B k), .bool (B k).isSome])) w) : wpList Tryz.prog ops Q (o :: rest) a w := by
  refine wpList_plain hgd fun K' hK' => ?_
  unfold Oper.wp
  simp [execOp, hop, hm, hx, nodes_ok hM k hk w rfl, Result.andThen]
  exact hK' _ _ h
theorem wpList_names_ok (hgd : o.guard = none) (m x : Operand) (hop : o.op = Op.lookup 44 m x true) {mb : Nat} {l : Nms} (hM : NamesAt w mb l) (hm : a.eval m = .map (some mb)) {s : List UInt8} (hx : a.eval x = .string (strB s)) (hs : s.length ≤ maxLen)
    (h : wpList Tryz.prog ops Q rest (a.put o.dst (.tuple #[.int .i64 ((getK l s).getD 0), .bool (getK l s).isSome])) w) : wpList Tryz.prog ops Q (o :: rest) a w := by
  refine wpList_plain hgd fun K' hK' => ?_
  have := names_ok hM (strB s) (by rw [strB_size]; exact hs) w rfl
  rw [strB_data] at this
  unfold Oper.wp
  simp [execOp, hop, hm, hx, this, Result.andThen]
  exact hK' _ _ h
end
theorem ptrV_some (b : Nat) : ptrV (some b) = .pointer (some ⟨b, 0, none⟩) := rfl
theorem ptrV_none : ptrV none = .pointer none := rfl
theorem Kept.setRow {S : Nat → Prop} {a b : World} (h : Kept S a b) {B : Nat} (hp : S B ∨ a.heap.size ≤ B) (cs : Array Value) : Kept S a (b.setRow B cs) :=
  ⟨h.os, h.tape, h.output, by show _ ≤ (b.heap.modify B _).size; rw [Array.size_modify]; exact h.size, fun i hi hs => (setRow_other b B i cs (fun e => by rcases hp with hp | hp; exact hs (e ▸ hp); omega)).trans (h.block i hi hs)⟩
theorem results_cell_tmp {P : Program} {fn : Func} {p t : Tmp} {ty : TypeId} (h : fn.results = #[.cell p ty, .tmp t]) (tmps : Array Value) (w : World) (g : Nat) (t' : TypeId) (cs : Array Value) (fr : Nat × Nat) (d : TypeDesc)
    (hp : tmps.getD p undef = .pointer (some ⟨g, 0, none⟩)) (hg : w.heap[g]? = some (.cells cs t' fr))
    (hu : P.underlying ty = some d) (hd : (match d with | .struct _ | .array _ _ => true | _ => false) = true) (hi : (P.info? ty).map (·.size) = some cs.size) :
    (results fn tmps).run P w = .ok (.tuple #[.agg cs, tmps.getD t undef]) w := by
  have hp' := hp
  simp only [Array.getD_eq_getD_getElem?] at hp' ⊢
  simp [results, h, hp', asAddr, run_loadVar_row w g t' ty cs fr d hg hu hd hi]
theorem FsIn.at {L : Nat → Lab} {B : Int → Option Nat} {mb : Nat} {S : Nat → Prop} {w : World} {f : Nat} {T : FsP} (h : FsIn L B mb S w f T) {i : Int} {n : NdP} (hn : T.nd i = some n) : ∃ b m a c qs, B i = some b ∧ NdSt L i w b n m a c qs := by
  have hd := h.dom i
  rw [hn] at hd
  cases hb : B i with
  | none => rw [hb] at hd; cases hd
  | some b =>
    obtain ⟨m, a, c, qs, hq⟩ := h.node i n b hn hb
    exact ⟨b, m, a, c, qs, rfl, hq⟩
theorem FsIn.gone {L : Nat → Lab} {B : Int → Option Nat} {mb : Nat} {S : Nat → Prop} {w : World} {f : Nat} {T : FsP} (h : FsIn L B mb S w f T) {i : Int} (hn : T.nd i = none) : B i = none := by
  have hd := h.dom i
  rw [hn] at hd
  cases hb : B i with
  | none => rfl
  | some b => rw [hb] at hd; cases hd
theorem NdSt.cell {L : Nat → Lab} {i : Int} {w : World} {b : Nat} {n : NdP} {m : Option Nat} {a : Option Addr} {c : Nat} {qs : List FpQ} (h : NdSt L i w b n m a c qs) (j : Nat) : w.cell? ⟨b, j, none⟩ = (ndC n m a c)[j]? := by
  rw [obj_cell h.obj]; simp
theorem NdSt.lt {L : Nat → Lab} {i : Int} {w : World} {b : Nat} {n : NdP} {m : Option Nat} {a : Option Addr} {c : Nat} {qs : List FpQ} (h : NdSt L i w b n m a c qs) : b < w.heap.size := obj_lt h.obj
theorem NdSt.range {L : Nat → Lab} {i : Int} {w : World} {b : Nat} {n : NdP} {m : Option Nat} {a : Option Addr} {c : Nat} {qs : List FpQ} (h : NdSt L i w b n m a c qs) : w.rangeAt b 0 (nvC n.v) := by
  intro j v hj
  have : j < 11 := by have := (List.getElem?_eq_some_iff.1 hj).1; simpa [nvC] using this
  rw [Nat.zero_add, h.cell j, ndC, List.getElem?_append_left (by simpa [nvC] using this)]
  exact hj

def zeroNV : NodeV := { kind := 0, mode := 0, user := 0, group := 0, time := 0, tgt := ⟨#[]⟩, major := 0, minor := 0, size := 0, links := 0, change := 0 }
def statP (T : FsP) (i : Int) : NodeV × Int := match T.nd i with | some n => (n.v, 0) | none => (zeroNV, 10)

set_option maxHeartbeats 1000000 in
theorem place_in {L : Nat → Lab} {B : Int → Option Nat} {mb : Nat} {S : Nat → Prop} {w : World} {f : Nat} {T : FsP} (h : FsIn L B mb S w f T) (dir : Int) (hdir : -9223372036854775808 ≤ dir ∧ dir ≤ 9223372036854775807) (part : List UInt8) (hs : part.length < 4294967281) :
    Calls Tryz.prog 16 #[.pointer (some ⟨f, 0, none⟩), .int .i64 dir, .string (strB part)] w fun e w' =>
      e = .returned (.tuple #[ptrV (if placeE T dir part = 0 then B dir else none), .int .i64 (placeE T dir part)]) ∧ Kept NoB w w' := by
  obtain ⟨c0, c1, c2, c3, c4⟩ := h.cells
  have HT := Lib.hid h.tab
  have HOk := Lib.hid (ok_calls (strB part) w (by rw [strB_size]; exact hs))
  cases hn : T.nd dir with
  | none =>
    have hB := h.gone hn
    have hp : placeE T dir part = 10 := by unfold placeE; rw [hn]
    rw [hp]
    clear h hp hn
    go_enter Tryz.func16, Tryz.ntmps16
    go_wp2_with (at_lookup; refine wpList_nodes_ok rfl _ _ rfl HT.out rfl rfl hdir ?_; rw [hB, ptrV_none])
    go_ret2
    exact ⟨rfl, Kept.refl _ _⟩
  | some n =>
    obtain ⟨b, m, a, c, qs, hB, hN⟩ := h.at hn
    have k0 := hN.cell 0
    have hp : placeE T dir part = if n.v.kind = 6 then (if okN (strB part) = true then 0 else 9) else 12 := by unfold placeE; rw [hn]
    rw [hp, hB]
    simp [ndC, nvC] at k0
    obtain ⟨kd, hkd⟩ : ∃ kd, kd = n.v.kind := ⟨_, rfl⟩
    rw [← hkd] at k0 ⊢
    clear h hp hn hN hkd
    go_enter Tryz.func16, Tryz.ntmps16
    by_cases h6 : kd = 6
    · subst h6
      obtain ⟨q, hq⟩ : ∃ q, q = okN (strB part) := ⟨_, rfl⟩
      rw [← hq] at HOk ⊢
      clear hq
      cases q
      · go_wp2_with (first | (at_lookup; refine wpList_nodes_ok rfl _ _ rfl HT.out rfl rfl hdir ?_; rw [hB, ptrV_some]) | (go_at_call 26; refine HOk.out.mono ?_; rintro e w1 ⟨rfl, hb1⟩))
        go_ret2
        exact ⟨rfl, (Kept.refl NoB _).ofBelow hb1⟩
      · go_wp2_with (first | (at_lookup; refine wpList_nodes_ok rfl _ _ rfl HT.out rfl rfl hdir ?_; rw [hB, ptrV_some]) | (go_at_call 26; refine HOk.out.mono ?_; rintro e w1 ⟨rfl, hb1⟩))
        go_ret2
        exact ⟨rfl, (Kept.refl NoB _).ofBelow hb1⟩
    · have h6' : (kd == 6) = false := by simpa using h6
      rw [if_neg h6]
      go_wp2_with (at_lookup; refine wpList_nodes_ok rfl _ _ rfl HT.out rfl rfl hdir ?_; rw [hB, ptrV_some])
      go_ret2
      exact ⟨rfl, Kept.refl _ _⟩
set_option maxHeartbeats 1000000 in
theorem stat_any {S : Nat → Prop} {w : World} {f : Nat} {T : FsP} (h : FsSt S w f T) (i : Int) (hi : -9223372036854775808 ≤ i ∧ i ≤ 9223372036854775807) :
    Calls Tryz.prog 41 #[.pointer (some ⟨f, 0, none⟩), .int .i64 i] w fun e w' =>
      e = .returned (.tuple #[.agg (nvC (statP T i).1).toArray, .int .i64 (statP T i).2]) ∧ Kept NoB w w' := by
  obtain ⟨L, B, mb, h⟩ := h
  have c0 := h.cells.1
  have d0 : ∀ o, (w.alloc o).cell? ⟨f, 0, none⟩ = some (.map (some mb)) := fun o => ((Kept.refl NoB w).alloc o).cell c0
  have HT := Lib.hid h.tab
  cases hn : T.nd i with
  | none =>
    have hB := h.gone hn
    have hp : statP T i = (zeroNV, 10) := by unfold statP; rw [hn]
    rw [hp]
    clear h hp hn
    have HOne := Lib.hid (nv_one zeroNV)
    go_enter Tryz.func41, Tryz.ntmps41
    go_wp2_with (first | (at_lookup; refine wpList_nodes_ok rfl _ _ rfl (MapF.kept HT.out ((Kept.refl NoB w).alloc _) id) rfl rfl hi ?_; rw [hB, ptrV_none]) | (refine wpList_store_row rfl 25 (.tmp 4) (.tmp 19) rfl w.heap.size (nvC zeroNV).toArray rfl rfl _ _ (heap_alloc_new _ _) infoNd rfl HOne.out ?_))
    refine bodyPost_ret (results_cell_tmp rfl _ _ w.heap.size 25 _ (0, 0) _ rfl (setRow_heap _ _ _ _ _ _ (heap_alloc_new _ _)) Tryz.underlying25 rfl infoNd) rfl ?_
    exact ⟨rfl, ((Kept.refl NoB w).alloc _).setRow (.inr (Nat.le_refl _)) _⟩
  | some n =>
    obtain ⟨b, m, a, c, qs, hB, hN⟩ := h.at hn
    have hp : statP T i = (n.v, 0) := by unfold statP; rw [hn]
    rw [hp]
    have HN := Lib.hid hN
    have HOne := Lib.hid (nv_one n.v)
    have HR : Hid (∀ o, (w.alloc o).rangeAt b 0 (nvC n.v)) := Lib.hid fun o => by
      intro j v hj
      exact ((Kept.refl NoB w).alloc o).cell (hN.range j v hj)
    clear h hp hn hN
    go_enter Tryz.func41, Tryz.ntmps41
    go_wp2_with (first | (at_lookup; refine wpList_nodes_ok rfl _ _ rfl (MapF.kept HT.out ((Kept.refl NoB w).alloc _) id) rfl rfl hi ?_; rw [hB, ptrV_some]) | (refine wpList_load_mid rfl 25 (.tmp 22) rfl b 0 rfl (nvC n.v) _ (HR.out _) Tryz.underlying25 rfl infoNd ?_) | (refine wpList_store_row rfl 25 (.tmp 4) (.tmp 23) rfl w.heap.size (nvC n.v).toArray rfl rfl _ _ (heap_alloc_new _ _) infoNd rfl HOne.out ?_))
    refine bodyPost_ret (results_cell_tmp rfl _ _ w.heap.size 25 _ (0, 0) _ rfl (setRow_heap _ _ _ _ _ _ (heap_alloc_new _ _)) Tryz.underlying25 rfl infoNd) rfl ?_
    exact ⟨rfl, ((Kept.refl NoB w).alloc _).setRow (.inr (Nat.le_refl _)) _⟩
set_option maxHeartbeats 1000000 in
theorem find_any {S : Nat → Prop} {w : World} {f : Nat} {T : FsP} (h : FsSt S w f T) (dir : Int) (hdir : -9223372036854775808 ≤ dir ∧ dir ≤ 9223372036854775807) (part : List UInt8) (hs : part.length < 4294967281) :
    Calls Tryz.prog 10 #[.pointer (some ⟨f, 0, none⟩), .int .i64 dir, .string (strB part)] w fun e w' =>
      e = .returned (.tuple #[.int .i64 (findP T dir part).1, .int .i64 (findP T dir part).2]) ∧ Kept NoB w w' := by
  obtain ⟨L, B, mb, h⟩ := h
  have HP := Lib.hid (place_in h dir hdir part hs)
  by_cases hp : placeE T dir part = 0
  · rw [if_pos hp, hp] at HP
    have hdn : ∃ d, T.nd dir = some d ∧ d.v.kind = 6 := by
      unfold placeE at hp
      cases hn : T.nd dir with
      | none => rw [hn] at hp; simp at hp
      | some d =>
        rw [hn] at hp
        simp only at hp
        by_cases h6 : d.v.kind = 6
        · exact ⟨d, rfl, h6⟩
        · rw [if_neg h6] at hp; omega
    obtain ⟨d, hd, h6⟩ := hdn
    obtain ⟨b, m, a, c, qs, hB, hN⟩ := h.at hd
    obtain ⟨mb2, rfl, hl, hM⟩ := hN.dir h6
    rw [hB, ptrV_some] at HP
    have hf : findP T dir part = askK (getK d.names part) := by
      unfold findP namesP; rw [if_pos hp]; simp only [hd]
    have k11 : w.cell? ⟨b, 11, none⟩ = some (.map (some mb2)) := by rw [hN.cell 11]; rfl
    have HM := Lib.hid hM
    have hs2 : part.length ≤ maxLen := by unfold maxLen; omega
    clear h hN hM hp hd
    cases hg : getK d.names part with
    | none =>
      rw [hg] at hf
      rw [hf]
      have HG := Lib.hid hg
      clear hf hg
      go_enter Tryz.func10, Tryz.ntmps10
      go_wp2_with fail
      refine HP.out.mono ?_
      rintro e w1 ⟨rfl, hk1⟩
      have l11 := hk1.cell k11
      have HK := Lib.hid hk1
      clear hk1
      go_wp2_with (at_lookup; refine wpList_names_ok rfl _ _ rfl (MapF.kept HM.out HK.out id) rfl rfl hs2 ?_; rw [HG.out])
      go_ret2
      exact ⟨rfl, HK.out⟩
    | some i =>
      rw [hg] at hf
      rw [hf]
      have HG := Lib.hid hg
      clear hf hg
      go_enter Tryz.func10, Tryz.ntmps10
      go_wp2_with fail
      refine HP.out.mono ?_
      rintro e w1 ⟨rfl, hk1⟩
      have l11 := hk1.cell k11
      have HK := Lib.hid hk1
      clear hk1
      go_wp2_with (at_lookup; refine wpList_names_ok rfl _ _ rfl (MapF.kept HM.out HK.out id) rfl rfl hs2 ?_; rw [HG.out])
      go_ret2
      exact ⟨rfl, HK.out⟩
  · rw [if_neg hp, ptrV_none] at HP
    have hf : findP T dir part = (0, placeE T dir part) := by unfold findP; rw [if_neg hp]
    rw [hf]
    obtain ⟨z, hz⟩ : ∃ z, z = placeE T dir part := ⟨_, rfl⟩
    rw [← hz] at hp HP ⊢
    have hz2 : (z == 0) = false := by simpa using hp
    clear hz hf h hp
    go_enter Tryz.func10, Tryz.ntmps10
    go_wp2_with fail
    refine HP.out.mono ?_
    rintro e w1 ⟨rfl, hk1⟩
    go_wp2
    go_ret2
    exact ⟨rfl, hk1⟩
end Go.Proofs.YtjjgadanobeamaaGreatDoor

namespace Go.Proofs.YtjjgadanobeamaaGreatDoor
open Go.RowKit
set_option linter.unusedVariables false
set_option linter.unusedSimpArgs false
set_option maxRecDepth 20000

theorem run_app_src {P : Program} (w : World) (t tx ty e : TypeId) (i : TypeInfo) (z : Value) (size bytes : Nat) (ht : P.underlying t = some (.slice e)) (hi : P.info? e = some i) (hz : i.zero = some z)
    (hsize : i.size = size) (hby : i.bytes = bytes) (hzs : z.cells.size = size) (hsz : 0 < size) (v : Value) (n : Nat) (xs : List Value) (hown : w.ownsRow 0 e size v n xs)
    (x : Value) (m : Nat) (news : List Value) (hsrc : Src P size tx x m news w) (hl : news.length = m * size) (h1 : ∀ u ∈ news, u.oneCell' = true) (hm : 0 < m)
    (h63 : n + m ≤ maxLen) (hbytes : (n + m) * bytes ≤ 140737488355328) :
    ∃ v' w', (Builtin.append_ #[t, tx] ty #[v, x]).run P w = .ok v' w' ∧ w'.ownsRow 0 e size v' (n + m) (xs ++ news) ∧ w.grownBy w' v.ownBlock ∧
      (∀ k, v'.ownBlock = some k → v.ownBlock = some k ∨ w.heap.size ≤ k) := by
  have hlen : (xs ++ news).length = (n + m) * size := by rw [List.length_append, hown.1, hl, Nat.add_mul]
  have grow : ∀ (base : Option Addr) (c : Nat), v = .slice base n c → n ≤ c → c < n + m → (Builtin.firstCells i.size n (.slice base n c)).run P w.drew = .ok xs.toArray w.drew →
      ∃ v' w', (Builtin.append_ #[t, tx] ty #[v, x]).run P w = .ok v' w' ∧ w'.ownsRow 0 e size v' (n + m) (xs ++ news) ∧ w.grownBy w' v.ownBlock ∧ (∀ k, v'.ownBlock = some k → v.ownBlock = some k ∨ w.heap.size ≤ k) := by
    intro base c hv hnc hlt hold
    subst hv
    have hr := run_append_grow_src (P := P) w t tx ty e i z ht hi hz base n c xs hold x m news (by rw [hsize]; exact hsrc) hlt (by simp only [maxLen] at h63; omega) (by rw [hby]; exact growslice_fits (by omega) hbytes)
    have hge := grownCap_ge w (n + m) c e
    have hcm2 : grownCap w (n + m) c e ≤ maxLen := grownCap_le_maxLen w (n + m) c e h63
    refine ⟨_, _, hr, ⟨hlen, .inr ⟨w.heap.size, _, _, rfl, Nat.zero_le _, heap_alloc_new w.drew _, hge, hcm2, ?_, ?_⟩⟩, ⟨rfl, rfl, rfl, by simp, fun k hk _ => heap_alloc_old w.drew _ hk⟩, fun k hk => .inr (by simp [Value.ownBlock] at hk; omega)⟩
    · simp only [Array.size_append, List.size_toArray, size_zeroCells, hzs, hlen]
      rw [← Nat.add_mul]
      congr 1
      omega
    · rw [Array.toList_append, List.toList_toArray, ← hlen, List.take_left]
  rcases hown.2 with ⟨rfl, rfl⟩ | ⟨g, c, cur, rfl, hbg, hg, hnc, hcm, hcs, htake⟩
  · have hx : xs = [] := List.eq_nil_of_length_eq_zero (by simpa using hown.1)
    subst hx
    exact grow none 0 rfl (Nat.le_refl _) (by omega) (run_firstCells_none w.drew i.size 0 0 0)
  · by_cases hroom : n + m ≤ c
    · have hfit : n * size + news.length ≤ cur.size := by rw [hcs, hl, ← Nat.add_mul]; exact Nat.mul_le_mul_right _ hroom
      have hst := run_storeCells_at P g (n * size) e news 0 cur w hg (by simpa using hfit) h1
      simp only [Nat.add_zero] at hst
      obtain ⟨row, hrow⟩ : ∃ row, row = (cur.toList.take (n * size) ++ news ++ cur.toList.drop (n * size + news.length)).toArray := ⟨_, rfl⟩
      have hrun : (Builtin.append_ #[t, tx] ty #[.slice (some ⟨g, 0, none⟩) n c, x]).run P w = .ok (.slice (some ⟨g, 0, none⟩) (n + m) c) (w.setRow g row) := by
        rw [← hrow] at hst
        have h2 := hsrc.cells
        have h3 := hsrc.len
        rcases hsrc.kind with ⟨e', hk⟩ | hk <;> simp [Builtin.append_, run_underlying ht, run_underlying hk, sizeOf, typeInfo, hi, h3, hroom, hsize, h2, Addr.add_lit, hst]
      have hrs : row.size = c * size := by
        rw [hrow]
        simp only [List.size_toArray, List.length_append, List.length_take, List.length_drop, Array.length_toList]
        omega
      have hrt : row.toList.take ((n + m) * size) = xs ++ news := by
        rw [hrow, List.toList_toArray, htake, ← hlen]
        exact List.take_left
      exact ⟨_, _, hrun, ⟨hlen, .inr ⟨g, c, row, rfl, hbg, setRow_heap w g cur _ _ _ hg, hroom, hcm, hrs, hrt⟩⟩, ⟨rfl, rfl, rfl, by simp, fun k hk _ => setRow_other w g k _ (fun e => by subst e; simp [Value.ownBlock] at *)⟩, fun k hk => .inl (by simpa [Value.ownBlock] using hk)⟩
    · have hnew : ∀ j u, xs[j]? = some u → w.drew.cell? ((⟨g, 0, none⟩ : Addr).add j) = some u := hown.cells (g := g) rfl
      have hold := run_firstCells_some (P := P) w.drew i.size n ⟨g, 0, none⟩ n c xs (by rw [hsize]; exact hown.1) hnew
      exact grow (some ⟨g, 0, none⟩) c rfl hnc (by omega) hold
theorem wpList_app_src {P : Program} {w : World} {ops : Array Oper} {rest : List Oper} {o : Oper} {a : Act} {Q : Exit → Act → World → Prop} (hgd : o.guard = none) (s x : Operand) (t tx : TypeId)
    (ho : o.op = .call { callee := .builtin .append, args := #[s, x], argTypes := #[t, tx] })
    (e : TypeId) (i : TypeInfo) (z : Value) (size bytes : Nat) (ht : P.underlying t = some (.slice e)) (hi : P.info? e = some i) (hz : i.zero = some z)
    (hsize : i.size = size) (hby : i.bytes = bytes) (hzs : z.cells.size = size) (hsz : 0 < size) (v : Value) (n : Nat) (xs : List Value) (hs : a.eval s = v) (hown : w.ownsRow 0 e size v n xs)
    (xv : Value) (hx : a.eval x = xv) (m : Nat) (news : List Value) (hsrc : Src P size tx xv m news w) (hl : news.length = m * size) (h1 : ∀ u ∈ news, u.oneCell' = true) (hm : 0 < m)
    (h63 : n + m ≤ maxLen) (hbytes : (n + m) * bytes ≤ 140737488355328)
    (h : ∀ v' w', w'.ownsRow 0 e size v' (n + m) (xs ++ news) → w.grownBy w' v.ownBlock → (∀ k, v'.ownBlock = some k → v.ownBlock = some k ∨ w.heap.size ≤ k) → wpList P ops Q rest (a.put o.dst v') w') : wpList P ops Q (o :: rest) a w :=
  wpList_plain hgd fun _ hK => by
    obtain ⟨v', w', hr, h2, h3, h4⟩ := run_app_src (P := P) w t tx o.type e i z size bytes ht hi hz hsize hby hzs hsz v n xs hown xv m news hsrc hl h1 hm h63 hbytes
    unfold Oper.wp execOp
    simp only [ho, resolve, invoke, builtin, Sem.run_bind, Sem.run_pure, Result.andThen_ok, List.map_toArray, List.map_cons, List.map_nil, hs, hx, hr]
    exact hK _ _ (h v' w' h2 h3 h4)
end Go.Proofs.YtjjgadanobeamaaGreatDoor
