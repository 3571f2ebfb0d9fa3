/-
  Inflater.putOut: fresh bytes go to the sink, and the window is kept short.
  readNumber: the rest behind a symbol.
  readStored: the head of a stored block.
  The document's own reader of bits: Left, Take, Align.
  Reader.Bytes, and the document's own.
  slices.Clone of a row of numbers: an own row.
-/
import Derived.Test.YtfmjfgmbjdhogaaGreatDoorMg15
import Derived.Deep.RegionWith
namespace Go.Proofs.YtfmjfgmbjdhogaaGreatDoor
open Go.RowKit
set_option linter.unusedVariables false
set_option linter.unusedSimpArgs false

theorem iv_cs {v : IV} {cs1 : Array Value} {x : Value} (h0 : cs1[0]? = some x) (hs : cs1.size = v.cs.size) (h : ∀ i, i ≠ 0 → cs1[i]? = v.cs[i]?) : cs1 = ({ v with sk := x } : IV).cs := by
  apply Array.ext_getElem?
  intro i
  by_cases e : i = 0
  · subst e; rw [h0]; rfl
  · rw [h i e]
    match i, e with
    | j + 1, _ => rfl
theorem wpList_copy_kept {P : Program} {w : World} {ops : Array Oper} {rest : List Oper} {o : Oper} {a : Act} {Q : Exit → Act → World → Prop} (hgd : o.guard = none) (d s : Operand) (dT sT : TypeId)
    (ho : o.op = .call { callee := .builtin .copy, args := #[d, s], argTypes := #[dT, sT] }) (elem : TypeId) (hu : P.underlying dT = some (.slice elem)) (hsz : (P.info? elem).map (·.size) = some 1)
    (g off dLen dCap : Nat) (ad : Addr) (sLen sCap : Nat) (hd : a.eval d = .slice (some ⟨g, off, none⟩) dLen dCap) (hs : a.eval s = .slice (some ad) sLen sCap)
    (cur : Array Value) (t : TypeId) (hg : w.heap[g]? = some (.cells cur t (0, 0))) (cs : List Value) (hn : cs.length = Nat.min sLen dLen)
    (hsrc : ∀ j v, cs[j]? = some v → w.cell? (ad.add j) = some v) (hfit : off + cs.length ≤ cur.size) (h1 : ∀ v ∈ cs, v.oneCell' = true) (x : Value) (hx : goInt cs.length = x)
    (h : ∀ w', Hid (w'.heap[g]? = some (.cells (splice cur.toList off cs).toArray t (0, 0))) → Hid (Kept (OneB g) w w') → wpList P ops Q rest (a.put o.dst x) w') : wpList P ops Q (o :: rest) a w := by
  subst hx
  refine wpList_copy_own hgd d s dT sT ho elem hu hsz g off dLen dCap ad sLen sCap hd hs cur t hg cs hn hsrc hfit h1 ?_
  exact h _ (show _ = _ by simpa [splice] using setRow_heap w g _ _ t _ hg) (Lib.hid (Kept.setRow (S := OneB g) (Kept.refl _ w) (.inl rfl) _))
set_option maxRecDepth 20000 in
set_option maxHeartbeats 4000000 in
theorem putOut_any (lo : Nat) (w : World) (D : Nat) (v : IV) (out : List Int) (a0 : Option Addr) (c0 g n c k : Nat) (wnd : List Int) (h : InfO w D v) (hlo : lo ≤ D) (hsk : v.sk = .slice a0 out.length c0) (hs : RowU w lo v.sk out)
    (hw : w.ownsRow 0 5 1 (.slice (some ⟨g, 0, none⟩) n c) n (wnd.map (.int .u8))) (hg : lo ≤ g) (hn : n = wnd.length) (hk : k ≤ n) (hk1 : 1 ≤ k) (hall : AllB out) (hwa : AllB wnd) (hsep : v.sk.ownBlock ≠ some g) (hfit : out.length + k ≤ v.most) (hbig : v.most ≤ 9223372036854775807) (hm : out.length + k ≤ 1000000) (hn2 : n ≤ 1000000) :
    Calls Tryz.prog 156 #[.pointer (some ⟨D, 0, none⟩), .slice (some ⟨g, 0, none⟩) n c, .int .i64 (k : Int)] w fun e w' => e = .returned (.tuple #[]) ∧ ∃ (a1 : Option Addr) (c1 : Nat) (wnd' : List Int),
      InfO w' D { v with sk := .slice a1 (out.length + k) c1, wn := .slice (some ⟨g, 0, none⟩) wnd'.length c } ∧ RowU w' lo (.slice a1 (out.length + k) c1) (out ++ wnd.drop (n - k)) ∧ RowU w' lo (.slice (some ⟨g, 0, none⟩) wnd'.length c) wnd' ∧
      wnd' = (if n < 98304 then wnd else wnd.drop (n - 32768)) ∧ (Value.slice a1 (out.length + k) c1).ownBlock ≠ some g ∧ Kept (fun j => j = D ∨ j = g ∨ v.sk.ownBlock = some j) w w' ∧ (∀ j, (Value.slice a1 (out.length + k) c1).ownBlock = some j → v.sk.ownBlock = some j ∨ w.heap.size ≤ j) := by
  have hcap := own_cap hw
  have hgl := (hw.lt g rfl).2
  have hn0 : (0 : Int) ≤ (n : Int) - k := by omega
  obtain ⟨q, hq⟩ : ∃ q, q = n - k := ⟨_, rfl⟩
  have hq1 : IntKind.i64.wrap ((n : Int) - k) = (q : Int) := by rw [IntWalk.i64_in _ (by omega)]; omega
  have hq2 : (q : Int) ≤ n := by omega
  have hSnk : Snk w 111 v.cs D lo a0 c0 out v.most := ⟨h, by rw [← hsk]; rfl, rfl, by rw [← hsk]; exact hs.own, fun k hk => hs.fresh k (by rw [hsk]; exact hk), hlo, by omega, hbig, by omega, by decide, hall⟩
  have hgD : g ≠ D := row_ne hw h (by decide) g rfl
  have hrd : Reads w (some ⟨g, 0, none⟩) wnd := own_reads (by rw [← hn]; exact hw) hn
  have hdl : (wnd.drop q).length = k := by rw [List.length_drop]; omega
  have HWr : Hid (∀ W H, Kept NoB w W → w.heap.size ≤ H → W.cell? ⟨H, 0, none⟩ = some (.slice (some ⟨g, q, none⟩) k (c - q)) → Calls Tryz.prog 174 #[.pointer (some ⟨D, 0, none⟩), .slice (some ⟨H, 0, none⟩) 1 1] W fun e w' => ∃ z, e = .returned (.int .i64 z) ∧ WrR W 111 v.cs D lo (.slice a0 out.length c0) (out ++ wnd.drop q) v.most w' ∧ Kept NoB w W) := Lib.hid (fun W H hW hH hc => by
    have hDl := obj_lt h
    have hrW : Reads W (some ⟨g, 0, none⟩) wnd := hrd.kept hW (fun _ _ h => h)
    have hrT : ∀ W', Kept (OrB (OneB D) (OwnB (.slice a0 out.length c0))) W W' → Parts W' (some ⟨H, 0, none⟩) [wnd.drop q] := fun W' hk => by
      have hHn : ∀ j, j < w.heap.size → H ≠ j := fun j hj e => by omega
      have hSk : ∀ j, (Value.slice a0 out.length c0).ownBlock = some j → j < w.heap.size := fun j hj => (hs.own.lt j (by rw [hsk]; exact hj)).2
      have hb2 : ∀ W1 : World, Kept (OrB (OneB D) (OwnB (.slice a0 out.length c0))) W W1 → Reads W1 (some ⟨g, 0, none⟩) wnd := fun W1 hk1 => hrW.kept hk1 (fun a ha hS => by
        obtain rfl := Option.some.inj ha
        rcases hS with e | e
        · exact hgD e
        · exact hsep (by rw [hsk]; exact e))
      have hHc : W'.cell? ⟨H, 0, none⟩ = some (.slice (some ⟨g, q, none⟩) k (c - q)) := (World.cell?_of_block (hk.block _ (World.block_lt_of_cell? _ _ hc) (fun hS => by
        rcases hS with e | e
        · exact hHn D hDl e
        · exact hHn H (hSk H e) rfl))).trans hc
      refine .inr ⟨H, 0, rfl, World.block_lt_of_cell? _ _ hHc, fun i hi => ?_⟩
      obtain rfl : i = 0 := by simpa using hi
      refine ⟨some ⟨g, q, none⟩, c - q, ?_, ?_, ?_, ?_, fun h => by cases h⟩
      · show W'.cell? ⟨H, 0, none⟩ = some (.slice _ (wnd.drop q).length _)
        rw [hdl]; exact hHc
      · have := reads_drop q (hb2 W' hk)
        have e : (⟨g, 0, none⟩ : Addr).add q = ⟨g, q, none⟩ := by simp [Addr.add]; omega
        rwa [e] at this
      · show (wnd.drop q).length ≤ _
        rw [hdl]; omega
      · omega
    have hf : fill out v.most [wnd.drop q] = out ++ wnd.drop q := by
      unfold fill
      simp only [List.flatten_cons, List.flatten_nil, List.append_nil]
      rw [List.take_of_length_le (by rw [List.length_append]; omega)]
    have := swrite_any W (hSnk.keptNo hW) (some ⟨H, 0, none⟩) 1 1 [wnd.drop q] rfl (fun p hp => by simp at hp; subst hp; exact fun b hb => hwa b (List.mem_of_mem_drop hb)) hrT (by simp; omega) (by decide)
    rw [hf] at this
    refine this.mono ?_
    rintro e w' ⟨h1, h2⟩
    exact ⟨_, h1, h2, hW⟩)
  have hkd : Kept NoB w (w.alloc (.cells #[.slice (some ⟨g, q, none⟩) k (c - q)] 22)) := (Kept.refl _ _).alloc _
  have hcell : ((w.alloc (.cells #[.slice (some ⟨g, q, none⟩) k (c - q)] 22)).drew).cell? ⟨w.heap.size, 0, none⟩ = some (.slice (some ⟨g, q, none⟩) k (c - q)) := by
    show (w.alloc _).cell? _ = _
    exact cell_new 0 rfl
  have hnq : n - q = k := by omega
  have hcq : ¬ c = q := by omega
  have hq0 : (0 : Int) ≤ (q : Int) := by omega
  have hnc : (n : Int) ≤ (c : Int) := by omega
  have H := Lib.hid h; have HS := Lib.hid hs; have HQ := Lib.hid hq; have HN := Lib.hid hn; have HDl := Lib.hid hdl
  clear hSnk hrd hq hn hdl h hs
  go_enter Tryz.func156, Tryz.ntmps156
  go_upto_region 0 with fail
  have hk0 := Kept.refl NoB w
  go_region_held3 (fun _ => True) (trivial)
    (first
      | (go_at_call 174; (with_reducible refine (HWr.out _ w.heap.size (Kept.drew hkd) (Nat.le_refl _) hcell).mono ?_); rintro e wn ⟨z, rfl, hwr, hkn0⟩))
  obtain ⟨cs1, a1, c1, hsn, hcs1, hcsi, hkw, hfr⟩ := hwr
  clear hkn0 HWr hcell
  have hL : (out ++ wnd.drop q).length = out.length + k := by rw [List.length_append, HDl.out]
  have hkW : Kept (OrB (OneB D) (OwnB (.slice a0 out.length c0))) w wn := ((Kept.drew hkd).mono (fun _ _ h => h.elim)).trans hkw
  have hIn : InfO wn D { v with sk := .slice a1 (out.length + k) c1 } := by
    have e := hsn.obj
    rw [iv_cs hsn.c0 hcs1 hcsi, hL] at e
    exact e
  have hSn : RowU wn lo (.slice a1 (out.length + k) c1) (out ++ wnd.drop q) := ⟨by have e := hsn.own; rw [hL] at e; rw [hL]; exact e, fun j hj => hsn.fr j (by rw [hL]; exact hj)⟩
  have hgS : ¬ OrB (OneB D) (OwnB (.slice a0 out.length c0)) g := fun e => by
    rcases e with e | e
    · exact hgD e
    · exact hsep (by rw [hsk]; exact e)
  have hWn : wn.ownsRow 0 5 1 (.slice (some ⟨g, 0, none⟩) n c) n (wnd.map (.int .u8)) := hkW.row hw (fun j hj => by
    obtain rfl : g = j := by simpa [Value.ownBlock] using hj
    exact hgS)
  have hS1 : (Value.slice a1 (out.length + k) c1).ownBlock ≠ some g := fun e => by
    rcases hfr g (by rw [hL]; exact e) with e1 | e1
    · exact hgS (.inr e1)
    · have : w.heap.size ≤ (w.alloc (.cells #[.slice (some ⟨g, q, none⟩) k (c - q)] 22)).drew.heap.size := (Kept.drew hkd).size
      omega
  have hF1 : ∀ j, (Value.slice a1 (out.length + k) c1).ownBlock = some j → v.sk.ownBlock = some j ∨ w.heap.size ≤ j := fun j e => by
    rcases hfr j (by rw [hL]; exact e) with e1 | e1
    · left; rw [hsk]; exact e1
    · right
      have : w.heap.size ≤ (w.alloc (.cells #[.slice (some ⟨g, q, none⟩) k (c - q)] 22)).drew.heap.size := (Kept.drew hkd).size
      omega
  have hkS : Kept (fun j => j = D ∨ j = g ∨ v.sk.ownBlock = some j) w wn := hkW.mono (fun j _ e => by
    rcases e with e | e
    · exact .inl e
    · exact .inr (.inr (by rw [hsk]; exact e)))
  clear hcs1 hcsi hkw hfr hsn hkd hkW
  simp only [hsk] at hF1 hkS
  by_cases hbg : n < 98304
  · have hge : decide ((98304 : Int) ≤ (n : Int)) = false := by simp; omega
    have h2 := hIn.setWn (.slice (some ⟨g, 0, none⟩) n c)
    have f2 := hIn.free 2
    have c2 := hIn.c2
    have hk2 : Kept (OneB D) wn (wn.setCell ⟨D, 2, none⟩ (.slice (some ⟨g, 0, none⟩) n c)) := Kept.setCell (S := OneB D) (p := ⟨D, 2, none⟩) (Kept.refl _ wn) (.inl rfl) _
    have H2 := Lib.hid h2; have K2 := Lib.hid hk2; have HI := Lib.hid hIn; have HSn := Lib.hid hSn; have HWn := Lib.hid hWn
    clear h2 hk2 hIn hSn hWn
    go_wp2
    refine bodyPost_end (results_none rfl _ _ _) rfl ?_
    have hw2 : wnd.length = n := HN.out.symm
    refine ⟨rfl, a1, c1, wnd, ?_, ?_, ?_, rfl, hS1, ?_, hF1⟩
    · rw [hw2]; exact H2.out
    · have e := HSn.out.kept K2.out (fun j e1 e2 => ?_)
      · rw [HQ.out] at e; exact e
      · exact row_ne HSn.out.own HI.out (by decide) j e1 e2
    · rw [hw2]; refine ⟨?_, fun j hj => ?_⟩
      · rw [hw2]; exact K2.out.row HWn.out (fun j hj e => by
          obtain rfl : g = j := by simpa [Value.ownBlock] using hj
          exact hgD e)
      · obtain rfl : g = j := by simpa [Value.ownBlock] using hj
        exact hg
    · exact hkS.trans (K2.out.mono (fun j _ e => .inl e))
  · have hge : decide ((98304 : Int) ≤ (n : Int)) = true := by simp; omega
    obtain ⟨p, hp⟩ : ∃ p, p = n - 32768 := ⟨_, rfl⟩
    have hp1 : IntKind.i64.wrap ((n : Int) - 32768) = (p : Int) := by rw [IntWalk.i64_in _ (by omega)]; omega
    have hp2 : (p : Int) ≤ n := by omega
    have hp0 : (0 : Int) ≤ (p : Int) := by omega
    have hnp : n - p = 32768 := by omega
    have hcp : ¬ c = p := by omega
    have h3c : (32768 : Int) ≤ (c : Int) := by omega
    have h3n : 32768 ≤ c := by omega
    have hwl : wnd.length = n := HN.out.symm
    obtain ⟨cs, hcs⟩ : ∃ cs, cs = (wnd.drop p).map (Value.int .u8) := ⟨_, rfl⟩
    have hdl : (wnd.drop p).length = 32768 := by rw [List.length_drop]; omega
    have hcl : cs.length = 32768 := by rw [hcs, List.length_map, hdl]
    have hrd2 : Reads wn (some ⟨g, p, none⟩) (wnd.drop p) := by
      have := reads_drop p (own_reads (by rw [hwl]; exact hWn) hwl.symm)
      have e : (⟨g, 0, none⟩ : Addr).add p = ⟨g, p, none⟩ := by simp [Addr.add]; omega
      rwa [e] at this
    have hsrc : ∀ j v, cs[j]? = some v → wn.cell? ((⟨g, p, none⟩ : Addr).add j) = some v := by rw [hcs]; exact reads_news hrd2
    have h1 : ∀ v ∈ cs, v.oneCell' = true := by rw [hcs]; intro v hv; obtain ⟨b, _, rfl⟩ := List.mem_map.mp hv; rfl
    obtain ⟨cur, hcur, hcsz⟩ : ∃ cur, wn.heap[g]? = some (.cells cur 5 (0, 0)) ∧ cur.size = c := by
      rcases hWn.2 with ⟨hv, _⟩ | ⟨g', c', cur, hv, _, e1, _, _, e2, _⟩
      · simp at hv
      · simp at hv
        obtain ⟨rfl, rfl⟩ := hv
        exact ⟨cur, e1, by omega⟩
    have hmin : cs.length = Nat.min 32768 n := by rw [hcl]; show 32768 = min 32768 n; omega
    have hfit : 0 + cs.length ≤ cur.size := by omega
    have hgo : goInt cs.length = .int .i64 32768 := by rw [hcl]; rfl
    have hsz : (Tryz.prog.info? 5).map (·.size) = some 1 := by rfl
    have HI := Lib.hid hIn; have HSn := Lib.hid hSn; have HWn := Lib.hid hWn; have HCL := Lib.hid hcl; have HCS := Lib.hid hcs; have HP := Lib.hid hp; have HDL := Lib.hid hdl; have HCZ := Lib.hid hcsz; have HWL := Lib.hid hwl
    clear hIn hSn hWn hrd2 hcs hp hdl hwl
    go_wp2_with (with_reducible refine wpList_copy_kept rfl (.tmp 21) (.tmp 26) 22 22 rfl 5 Tryz.underlying22 hsz g 0 n c ⟨g, p, none⟩ 32768 (c - p) rfl rfl cur 5 hcur cs hmin hsrc hfit h1 _ hgo ?_)
    intro w2 hg2 hk2
    have hI2 : InfO w2 D { v with sk := .slice a1 (out.length + k) c1 } := HI.out.kept hk2.out (fun e => hgD e.symm)
    have h2 := hI2.setWn (.slice (some ⟨g, 0, none⟩) 32768 c)
    have f2 := hI2.free 2
    have c2 := hI2.c2
    have hks2 : Kept (OneB D) w2 (w2.setCell ⟨D, 2, none⟩ (.slice (some ⟨g, 0, none⟩) 32768 c)) := Kept.setCell (S := OneB D) (p := ⟨D, 2, none⟩) (Kept.refl _ w2) (.inl rfl) _
    have H2 := Lib.hid h2; have K2 := Lib.hid hks2; have HI2 := Lib.hid hI2
    clear h2 hks2 hI2 hcur hsrc hmin hfit hgo
    go_wp2
    refine bodyPost_end (results_none rfl _ _ _) rfl ?_
    have hw2 : (wnd.drop p).length = 32768 := HDL.out
    refine ⟨rfl, a1, c1, wnd.drop p, ?_, ?_, ?_, ?_, hS1, ?_, hF1⟩
    · rw [hw2]; exact H2.out
    · have hS2 : RowU w2 lo (.slice a1 (out.length + k) c1) (out ++ wnd.drop q) := HSn.out.kept hk2.out (fun j e1 e2 => hS1 (by rw [e1]; exact congrArg some e2))
      have e := hS2.kept K2.out (fun j e1 e2 => row_ne hS2.own HI2.out (by decide) j e1 e2)
      rw [HQ.out] at e; exact e
    · have hcm := own_cap HWn.out
      have hl : (splice cur.toList 0 cs).length = cur.size := by rw [length_splice _ _ _ (by rw [HCL.out]; simp; have := HCZ.out; omega)]; simp
      have ho : w2.ownsRow 0 5 1 (.slice (some ⟨g, 0, none⟩) 32768 c) 32768 ((wnd.drop p).map (.int .u8)) := by
        refine ⟨by rw [List.length_map, hw2], .inr ⟨g, c, _, rfl, Nat.zero_le _, hg2.out, h3n, hcm.2, ?_, ?_⟩⟩
        · have := HCZ.out
          simp [hl]; omega
        · rw [← HCS.out]
          have := HCL.out
          simp [splice, List.take_append, this]
      rw [hw2]; refine ⟨?_, fun j hj => ?_⟩
      · rw [hw2]; exact K2.out.row ho (fun j hj e => by
          obtain rfl : g = j := by simpa [Value.ownBlock] using hj
          exact hgD e)
      · obtain rfl : g = j := by simpa [Value.ownBlock] using hj
        exact hg
    · rw [HP.out]
    · exact (hkS.trans (hk2.out.mono (fun j _ e => .inr (.inl e)))).trans (K2.out.mono (fun j _ e => .inl e))
end Go.Proofs.YtfmjfgmbjdhogaaGreatDoor

namespace Go.Proofs.YtfmjfgmbjdhogaaGreatDoor
open Go.RowKit
set_option linter.unusedVariables false
set_option linter.unusedSimpArgs false

theorem readNumber_bad (w : World) (R : Nat) (b n : Int) :
    Calls Tryz.prog 161 #[.pointer (some ⟨R, 0, none⟩), .int .i64 b, .int .i64 n, .bool false] w fun e w' => e = .returned (.tuple #[.int .i64 0, .int .i64 3]) ∧ w' = w := by
  go_enter Tryz.func161, Tryz.ntmps161
  go_wp2
  go_ret2
  exact ⟨rfl, rfl⟩
theorem readNumber_yes (w : World) (R : Nat) (ao : Option Addr) (cap : Nat) (bs : List Int) (p n b : Nat) (h : Rdr w R ao cap bs p) (hn : n ≤ 13) (hp : p + n ≤ 8 * bs.length) (hb : b ≤ 100000) :
    Calls Tryz.prog 161 #[.pointer (some ⟨R, 0, none⟩), .int .i64 (b : Int), .int .i64 (n : Int), .bool true] w fun e w' => e = .returned (.tuple #[.int .i64 ((b + bitsAt bs p n : Nat) : Int), .int .i64 0]) ∧ Rdr w' R ao cap bs (p + n) ∧ Kept (OneB R) w w' := by
  have hlt : bitsAt bs p n < 2 ^ 13 := Nat.lt_of_lt_of_le (bitsAt_lt bs p n) (Nat.pow_le_pow_right (by decide) hn)
  have HT := Lib.hid (take_yes w R ao cap bs p n h (by omega) hp)
  obtain ⟨x, hx⟩ : ∃ x, x = bitsAt bs p n := ⟨_, rfl⟩
  rw [← hx] at HT hlt ⊢
  clear h hx
  have e1 : IntKind.i64.wrap (x : Int) = x := IntWalk.i64_in _ (by omega)
  have e2 : IntKind.i64.wrap ((b : Int) + x) = ((b + x : Nat) : Int) := by rw [IntWalk.i64_in _ (by omega)]; omega
  go_enter Tryz.func161, Tryz.ntmps161
  go_wp2_with fail
  refine HT.out.mono ?_
  rintro e wn ⟨rfl, hr, hk⟩
  have HR := Lib.hid hr; have HK := Lib.hid hk
  clear hr hk
  go_wp2
  go_ret2
  exact ⟨rfl, HR.out, HK.out⟩
theorem readNumber_no (w : World) (R : Nat) (ao : Option Addr) (cap : Nat) (bs : List Int) (p n : Nat) (b : Int) (h : Rdr w R ao cap bs p) (hp : 8 * bs.length < p + n) :
    Calls Tryz.prog 161 #[.pointer (some ⟨R, 0, none⟩), .int .i64 b, .int .i64 (n : Int), .bool true] w fun e w' => e = .returned (.tuple #[.int .i64 0, .int .i64 2]) ∧ Kept NoB w w' := by
  have HT := Lib.hid (take_no w R ao cap bs p n h (by right; right; omega))
  clear h hp
  go_enter Tryz.func161, Tryz.ntmps161
  go_wp2_with fail
  refine HT.out.mono ?_
  rintro e wn ⟨rfl, hk⟩
  have HK := Lib.hid hk
  clear hk
  go_wp2
  go_ret2
  exact ⟨rfl, HK.out⟩
end Go.Proofs.YtfmjfgmbjdhogaaGreatDoor

namespace Go.Proofs.YtfmjfgmbjdhogaaGreatDoor
open Go.RowKit
set_option linter.unusedVariables false
set_option linter.unusedSimpArgs false

set_option maxRecDepth 20000 in
set_option maxHeartbeats 2000000 in
theorem readStored_short2 (w : World) (D : Nat) (v : IV) (R : Nat) (ao : Option Addr) (cap : Nat) (bs : List Int) (p : Nat) (h : InfO w D v) (hr : Rdr w R ao cap bs p) (hp : 8 * bs.length < up8 p + 32) :
    Calls Tryz.prog 128 #[.pointer (some ⟨D, 0, none⟩), .pointer (some ⟨R, 0, none⟩)] w fun e w' => e = .returned (.int .i64 2) ∧ Rdr w' R ao cap bs (up8 p) ∧ Kept (OneB R) w w' := by
  have HA := Lib.hid (ralign_any w R ao cap bs p hr)
  have HT : Hid (∀ w, Rdr w R ao cap bs (up8 p) → Calls Tryz.prog 96 #[.pointer (some ⟨R, 0, none⟩), .int .i64 32] w fun e w' => e = .returned (.tuple #[.int .u32 0, .bool false]) ∧ Kept NoB w w') := Lib.hid fun w hw => take_no w R ao cap bs (up8 p) 32 hw (by right; right; omega)
  clear h hr hp
  go_enter Tryz.func128, Tryz.ntmps128
  go_wp2_with fail
  refine HA.out.mono ?_
  rintro e w1 ⟨rfl, hr1, hk1⟩
  have HT1 := Lib.hid (HT.out w1 hr1); have HK1 := Lib.hid hk1; have HR1 := Lib.hid hr1
  clear hr1 hk1 HA HT
  go_wp2_with fail
  refine HT1.out.mono ?_
  rintro e w2 ⟨rfl, hk2⟩
  have HK := Lib.hid (HK1.out.trans (hk2.mono (fun _ _ h => h.elim))); have HR := Lib.hid (HR1.out.keptNo hk2)
  clear hk2 HK1 HT1
  go_wp2
  go_ret
  exact ⟨rfl, HR.out, HK.out⟩
theorem and16 (x : Nat) (h : x < 4294967296) : bits .and .u32 (x : Int) 65535 = ((x % 65536 : Nat) : Int) := by
  show IntKind.u32.wrap ((BitVec.ofInt 32 (x : Int) &&& BitVec.ofInt 32 65535).toNat : Int) = _
  have h1 : (BitVec.ofInt 32 (x : Int)).toNat = x := by rw [BitVec.ofInt_natCast, BitVec.toNat_ofNat]; exact Nat.mod_eq_of_lt (by omega)
  have h2 : (BitVec.ofInt 32 (65535 : Int)).toNat = 2 ^ 16 - 1 := by decide
  rw [BitVec.toNat_and, h1, h2, Nat.and_two_pow_sub_one_eq_mod, IntKind.wrap_u32']
  omega
theorem bits_low (bs : List Int) (P : Nat) : bitsAt bs P 32 % 65536 = bitsAt bs P 16 := by
  unfold bitsAt
  exact Nat.mod_mod_of_dvd _ (show 2 ^ 16 ∣ 2 ^ 32 from Nat.pow_dvd_pow 2 (by omega))
theorem bits_high (bs : List Int) (P : Nat) : bitsAt bs P 32 / 65536 = bitsAt bs (P + 16) 16 := by
  unfold bitsAt
  rw [Nat.pow_add, ← Nat.div_div_eq_div_mul]
  exact Nat.mod_mul_right_div_self _ (2 ^ 16) (2 ^ 16)
set_option maxRecDepth 20000 in
set_option maxHeartbeats 2000000 in
theorem readStored_bad2 (w : World) (D : Nat) (v : IV) (R : Nat) (ao : Option Addr) (cap : Nat) (bs : List Int) (p : Nat) (h : InfO w D v) (hr : Rdr w R ao cap bs p) (hp : up8 p + 32 ≤ 8 * bs.length) (hne : bitsAt bs (up8 p) 16 + bitsAt bs (up8 p + 16) 16 ≠ 65535) :
    Calls Tryz.prog 128 #[.pointer (some ⟨D, 0, none⟩), .pointer (some ⟨R, 0, none⟩)] w fun e w' => e = .returned (.int .i64 6) ∧ Rdr w' R ao cap bs (up8 p + 32) ∧ Kept (OneB R) w w' := by
  have HA := Lib.hid (ralign_any w R ao cap bs p hr)
  have hlt := bitsAt_lt bs (up8 p) 32
  rw [← bits_low, ← bits_high] at hne
  obtain ⟨x, hx⟩ : ∃ x, x = bitsAt bs (up8 p) 32 := ⟨_, rfl⟩
  have HT : Hid (∀ w, Rdr w R ao cap bs (up8 p) → Calls Tryz.prog 96 #[.pointer (some ⟨R, 0, none⟩), .int .i64 32] w fun e w' => e = .returned (.tuple #[.int .u32 (x : Nat), .bool true]) ∧ Rdr w' R ao cap bs (up8 p + 32) ∧ Kept (OneB R) w w') := Lib.hid fun w hw => by rw [hx]; exact take_yes w R ao cap bs (up8 p) 32 hw (by omega) hp
  rw [← hx] at hlt hne
  obtain ⟨a, ha⟩ : ∃ a, a = x % 65536 := ⟨_, rfl⟩
  obtain ⟨y, hy⟩ : ∃ y, y = 4294967295 - x := ⟨_, rfl⟩
  obtain ⟨z, hz⟩ : ∃ z, z = y / 65536 := ⟨_, rfl⟩
  have e1 : bits .and .u32 (x : Int) 65535 = (a : Int) := by rw [and16 x (by omega), ha]
  have e2 : bits .xor .u32 IntKind.u32.max (x : Int) = (y : Int) := by rw [not32 x (by omega), hy]
  have e3 : (y : Int) / 65536 = (z : Int) := by omega
  have e5 : ¬ (a : Int) = (z : Int) := by omega
  have e6 : ¬ a = z := by omega
  have e4 : ((a : Int) != (z : Int)) = true := by simpa using e5
  have e7 : ((a : Int) == (z : Int)) = false := by simpa using e5
  clear h hr hp hx ha hy hz hne hlt
  go_enter Tryz.func128, Tryz.ntmps128
  go_wp2_with fail
  refine HA.out.mono ?_
  rintro e w1 ⟨rfl, hr1, hk1⟩
  have HT1 := Lib.hid (HT.out w1 hr1); have HK1 := Lib.hid hk1
  clear hr1 hk1 HA HT
  go_wp2_with fail
  refine HT1.out.mono ?_
  rintro e w2 ⟨rfl, hr2, hk2⟩
  have HK := Lib.hid (HK1.out.trans hk2); have HR := Lib.hid hr2
  clear hr2 hk2 HK1 HT1
  go_upto_region 6 with fail
  go_wp2_with fail
  all_goals first
    | (exfalso; simp_all; done)
    | (go_ret; exact ⟨rfl, HR.out, HK.out⟩)
end Go.Proofs.YtfmjfgmbjdhogaaGreatDoor

namespace Go.Proofs.YtfmjfgmbjdhogaaGreatDoor
open Go.RowKit
set_option linter.unusedVariables false

end Go.Proofs.YtfmjfgmbjdhogaaGreatDoor

namespace Go.Proofs.YtfmjfgmbjdhogaaGreatDoor
open Go.RowKit
set_option linter.unusedVariables false

theorem own_nil_cap {w : World} {ao : Option Addr} {n cap : Nat} {xs : List Value} (h : w.ownsRow 0 5 1 (.slice ao n cap) n xs) : ao = none → cap = 0 := by
  rintro rfl
  rcases h.2 with ⟨h1, _⟩ | ⟨g, c, cur, h1, _⟩
  · simp at h1; exact h1.2
  · simp at h1
def Gave (R : Nat) (ao : Option Addr) (cap : Nat) (bs xs : List Int) (q : Nat) (w : World) (e : Ending) (w' : World) : Prop :=
  ∃ ao' cap', e = .returned (.tuple #[.slice ao' xs.length cap', .bool true]) ∧ Hid ((convert 22 9 (.slice ao' xs.length cap')).run Tryz.prog w' = .ok (.string (strOfNums xs)) w') ∧ Hid (Reads w' ao' xs) ∧ Hid (w'.ownsRow 0 5 1 (.slice ao' xs.length cap') xs.length (xs.map (.int .u8))) ∧ Rdr w' R ao cap bs q ∧ Kept (OneB R) w w'
set_option maxHeartbeats 2000000 in
set_option maxRecDepth 20000 in
theorem bytes_yes (w : World) (R : Nat) (ao : Option Addr) (cap : Nat) (bs : List Int) (p n : Nat) (h : Rdr w R ao cap bs p) (hb47 : bs.length ≤ 140737488355328) (hn : up8 p + 8 * n ≤ 8 * bs.length) :
    Calls Tryz.prog 155 #[.pointer (some ⟨R, 0, none⟩), .int .i64 n] w (Gave R ao cap bs ((bs.drop (up8 p / 8)).take n) (up8 p + 8 * n) w) := by
  have hlm := h.2.2.1
  have h8 : up8 p % 8 = 0 := by unfold up8; omega
  have hcap : bs.length ≤ cap ∧ cap ≤ maxLen := by
    rcases h.2.1.2 with ⟨h1, _⟩ | ⟨g, c, cur, h1, _, _, h2, h3, _⟩
    · simp at h1; unfold maxLen; omega
    · simp at h1; omega
  have H := Lib.hid h; clear h
  generalize hP : up8 p = P at hn h8 ⊢
  have HP := Lib.hid hP; clear hP
  obtain ⟨f, hf⟩ : ∃ f, f = P / 8 := ⟨_, rfl⟩
  have hdiv : (P : Int) / 8 = f := by omega
  have hnl : ¬ (8 * (bs.length : Int) - P) / 8 < n := by omega
  have hfn : f + n ≤ bs.length := by omega
  rw [← hf]
  have HF := Lib.hid hf; clear hf
  have hxl : ((bs.drop f).take n).length = n := by rw [List.length_take, List.length_drop]; omega
  have HXl := Lib.hid hxl; clear hxl
  go_enter Tryz.func155, Tryz.ntmps155
  go_wp2_with fail
  refine (ralign_any _ _ _ _ _ _ H.out).mono ?_
  rintro e w1 ⟨rfl, hR, hk1⟩
  rw [HP.out] at hR
  have HR := Lib.hid hR; have HK := Lib.hid hk1; clear hR hk1
  go_wp2_with fail
  refine (left_any _ _ _ _ _ _ HR.out).mono ?_
  rintro e w2 ⟨rfl, hk2⟩
  have hR2 := HR.out.keptNo hk2
  have c0 : w2.cell? ⟨R, 0, none⟩ = some (.slice ao bs.length cap) := by simpa using obj_cell hR2.1 0
  have c1 : w2.cell? ⟨R, 1, none⟩ = some (.int .i64 P) := by simpa using obj_cell hR2.1 1
  have f1 : w2.frozen? ⟨R, 1, none⟩ = false := obj_free hR2.1 1
  have HR2 := Lib.hid hR2; have HK2 := Lib.hid (HK.out.trans (hk2.mono (fun _ _ h => h.elim))); clear hR2 hk2
  have hfi : (f : Int) + n ≤ cap := by omega
  have hf0 : (0 : Int) ≤ (f : Int) + n := by omega
  go_upto_region 6 with fail
  have e : ((P : Int) + 8 * n) = ((P + 8 * n : Nat) : Int) := by push_cast; rfl
  have hR3 : Rdr (w2.setCell ⟨R, 1, none⟩ (.int .i64 ((P : Int) + 8 * n))) R ao cap bs (P + 8 * n) := by
    rw [e]; exact HR2.out.moved (Kept.refl _ _) hn
  have hK3 : Kept (OneB R) w (w2.setCell ⟨R, 1, none⟩ (.int .i64 ((P : Int) + 8 * n))) := Kept.setCell (S := OneB R) (p := ⟨R, 1, none⟩) HK2.out (.inl rfl) _
  have HR3 := Lib.hid hR3; have HK3 := Lib.hid hK3
  clear hR3 hK3 c0 c1 f1 HR2 HK2 e
  generalize w2.setCell ⟨R, 1, none⟩ (.int .i64 ((P : Int) + 8 * n)) = w3 at HR3 HK3 ⊢
  have c0 : w3.cell? ⟨R, 0, none⟩ = some (.slice ao bs.length cap) := by simpa using obj_cell HR3.out.1 0
  have hrd := own_reads HR3.out.2.1 rfl
  have HRd := Lib.hid hrd; clear hrd
  by_cases hfc : f = cap
  · have hn0 : n = 0 := by omega
    subst hn0
    have hbc : bs.length = cap := by omega
    go_wp2_with fail
    refine (clone_any ao 0 [] w3 ⟨(fun _ => rfl), (fun a _ i hi => by simp at hi)⟩ (by simp)).mono ?_
    rintro e w4 ⟨ao', cap', rfl, ho, hf, hn', hk⟩
    have HO := Lib.hid ho; have HK4 := Lib.hid hk; clear ho hf hn' hk
    go_wp2
    go_ret2
    rw [List.take_zero]
    exact ⟨ao', cap', rfl, conv_reads (own_reads HO.out rfl) rfl (own_nil_cap HO.out), own_reads HO.out rfl, HO.out, HR3.out.keptNo HK4.out, HK3.out.trans (HK4.out.mono (fun _ _ h => h.elim))⟩
  · have hfl : (f : Int) < cap := by omega
    obtain ⟨x, rfl⟩ : ∃ x, ao = some x := by
      cases ao with
      | none => have := own_nil_cap HR3.out.2.1 rfl; omega
      | some x => exact ⟨x, rfl⟩
    have hcl := clone_any (some (x.add f)) (cap - f) ((bs.drop f).take n) w3 (reads_take n (reads_drop f HRd.out)) (by rw [HXl.out]; omega)
    rw [HXl.out] at hcl
    have HCl := Lib.hid hcl; clear hcl
    obtain ⟨xs, hxs⟩ : ∃ xs, xs = (bs.drop f).take n := ⟨_, rfl⟩
    rw [← hxs] at HCl HXl
    have HXs := Lib.hid hxs; clear hxs
    go_wp2_with fail
    refine HCl.out.mono ?_
    rintro e w4 ⟨ao', cap', rfl, ho, hf, hn', hk⟩
    have HO := Lib.hid ho; have HK4 := Lib.hid hk; clear ho hf hn' hk
    go_wp2
    go_ret2
    rw [← HXs.out]
    exact ⟨ao', cap', by rw [HXl.out]; rfl, conv_reads (own_reads HO.out rfl) rfl (own_nil_cap HO.out), own_reads HO.out rfl, HO.out, HR3.out.keptNo HK4.out, HK3.out.trans (HK4.out.mono (fun _ _ h => h.elim))⟩
end Go.Proofs.YtfmjfgmbjdhogaaGreatDoor

namespace Go.Proofs.YtfmjfgmbjdhogaaGreatDoor
open Go.RowKit
set_option linter.unusedVariables false
set_option linter.unusedSimpArgs false

set_option maxHeartbeats 1000000 in
theorem icln_any (ad : Addr) (cap B n : Nat) (zs : List Int) (w : World) (hr : RdI w B (some ad) zs) (hn : n = zs.length) (hl : zs.length ≤ 100000) :
    Calls Tryz.prog 177 #[.slice (some ad) n cap] w fun e w' => ∃ a c, e = .returned (.slice a zs.length c) ∧ OwnI w' a c zs ∧ Kept NoB w w' ∧ (∀ k, (Value.slice a zs.length c).ownBlock = some k → w.heap.size ≤ k) := by
  have q22 : ∀ (w : World) (a : Option Addr) (n c n' c' : Nat), (binOp .eql 30 (.slice a n c) (.slice none n' c')).run Tryz.prog w = .ok (.bool a.isNone) w := fun w a n c n' c' => Lib.run_eql_slice_nil w _ _ a n c n' c' Tryz.underlying30
  have hst := emp_sa (Kept.refl NoB w) w.heap.size rfl
  have hrn : ∀ j u, (zs.map (Value.int .i64))[j]? = some u → (w.alloc (.cells #[] 3)).cell? (ad.add j) = some u := by
    intro j u hu
    have hj : j < zs.length := by have := (List.getElem?_eq_some_iff.1 hu).1; simpa using this
    obtain ⟨g, off, he, _, hc⟩ := hr j hj
    cases he
    have := ((Kept.refl NoB w).alloc (.cells #[] 3)).cell hc
    rw [addr_add, this, ← hu]
    simp [List.getD, hj]
  have HSt := Lib.hid hst; have HRn := Lib.hid hrn; have HN := Lib.hid hn
  have hn2 : n ≤ 100000 := by omega
  clear hr hst hrn hn hl
  go_enter Tryz.func177, Tryz.ntmps177
  go_wp2_with (at_builtin; refine wpList_intsA rfl _ _ rfl HSt.out rfl ad n cap zs rfl HN.out.symm HRn.out (by omega) ?_)
  intro a6 c6 w6 hs6 hk6
  have HS6 := Lib.hid hs6
  clear hs6 hk6
  go_wp2
  go_ret
  exact ⟨a6, c6, by rw [← HN.out]; rfl, by have h := HS6.out.own; rw [HN.out] at h; exact h, HS6.out.kept, fun k hk => HS6.out.fresh k (by rw [HN.out]; exact hk)⟩
end Go.Proofs.YtfmjfgmbjdhogaaGreatDoor
