/-
  What was written of a file, in memory: copied; a file's pieces.
  What was written of a file: read, on paper; copy onto an own row.
  A tree of files in memory: Link.
  A tree of files in memory: Remove.
  A tree of files on paper: what the document fixes.
  A tree of files that a call has made for itself; what the document fixes (awake).
-/
import Derived.Test.YtjjgadanobeamaaMh18
import Derived.Great.BuildSlice
import Derived.Deep.RegionLaw
import Derived.Lib.SlBytesConst
namespace Go.Proofs.Ytjjgadanobeamaa
open Go.RowKit
set_option linter.unusedVariables false
set_option linter.unusedSimpArgs false
set_option maxRecDepth 20000

structure CpS (w0 w : World) (a : Option Addr) (l c : Nat) (qs : List FpQ) : Prop where
  len : l = qs.length
  own : w.ownsRow 0 43 2 (.slice a l c) l (fcells qs)
  fresh : ∀ k, (Value.slice a l c).ownBlock = some k → w0.heap.size ≤ k
  each : ∀ q ∈ qs, w.ownsRow 0 5 1 (.slice q.2.1 q.1.2.length q.2.2) q.1.2.length (bc q.1.2)
  bfresh : ∀ q ∈ qs, ∀ j, pcB q = some j → w0.heap.size ≤ j
  kept : Kept NoB w0 w
theorem CpS.start {w0 w : World} (hk : Kept NoB w0 w) : CpS w0 w none 0 0 [] := ⟨rfl, World.ownsRow_nil _ _ _ _, (fun k hk => by simp [Value.ownBlock] at hk), (fun q hq => by cases hq), (fun q hq => by cases hq), hk⟩
theorem CpS.on {w0 w w' : World} {a : Option Addr} {l c : Nat} {qs : List FpQ} (h : CpS w0 w a l c qs) (hk : Kept NoB w w') : CpS w0 w' a l c qs :=
  ⟨h.len, hk.row h.own (fun _ _ e => e), h.fresh, fun q hq => hk.row (h.each q hq) (fun _ _ e => e), h.bfresh, h.kept.trans hk⟩
theorem CpS.apart {w0 w : World} {a : Option Addr} {l c : Nat} {qs : List FpQ} (h : CpS w0 w a l c qs) : ∀ q ∈ qs, ∀ j, pcB q = some j → (Value.slice a l c).ownBlock ≠ some j := fun q hq j hj e => by
  rcases h.own.2 with ⟨q1, q2⟩ | ⟨g, cc, cur, q1, _, q2, _⟩
  · rw [q1] at e; cases e
  · rw [q1] at e
    have e2 : g = j := by injection e
    exact row2_ne (h.each q hq) (by rw [e2] at q2; exact q2) (by decide) j hj rfl
theorem CpS.app {w0 w : World} {a : Option Addr} {l c : Nat} {qs : List FpQ} (h : CpS w0 w a l c qs) (q : FpQ) (hq : w.ownsRow 0 5 1 (.slice q.2.1 q.1.2.length q.2.2) q.1.2.length (bc q.1.2)) (hqb : ∀ j, pcB q = some j → w0.heap.size ≤ j ∧ (Value.slice a l c).ownBlock ≠ some j) (hl : l ≤ 1099511627776)
    (vb : Nat) (hv : w.heap[vb]? = some (.cells #[.int .i64 q.1.1, .slice q.2.1 q.1.2.length q.2.2] 43 (0, 0))) :
    ∃ a2 c2 w', (Builtin.append_ #[40, 40] 40 #[.slice a l c, .slice (some ⟨vb, 0, none⟩) 1 1]).run Try.prog w = .ok (.slice a2 (l + 1) c2) w' ∧ CpS w0 w' a2 (l + 1) c2 (qs ++ [q]) := by
  obtain ⟨i0, hi, hz0, hz1, hz2⟩ := info_parts infoFp
  obtain ⟨v', w', hr, h2, h3, h4⟩ := run_app (P := Try.prog) w 43 40 40 i0 (.agg #[.int .i64 0, .slice none 0 0]) 2 32 Try.underlying40 hi hz0 hz1 hz2 rfl (by decide) _ l (fcells qs) h.own ⟨vb, 0, none⟩ 1 1 [.int .i64 q.1.1, .slice q.2.1 q.1.2.length q.2.2] rfl (by
    intro j u hu
    rw [addr_add, Nat.zero_add, obj_cell hv]
    simpa using hu) (two_one _ _ _ _) (by unfold maxLen; omega) (by omega)
  obtain ⟨a2, c2, rfl⟩ := row_shape h2
  have hka : Kept (OwnB (Value.slice a l c)) w w' := (Kept.refl _ w).grown h3 (fun k hk e => e)
  have hw := h.kept.size
  refine ⟨a2, c2, w', hr, ⟨by rw [List.length_append, h.len]; rfl, by rw [fcells_app]; exact h2, fun k hk => ?_, fun x hx => ?_, fun x hx j hj => ?_, kept_on2 h.kept hka (fun i hi e => by have := h.fresh i e; omega)⟩⟩
  · rcases h4 k hk with e | e
    · exact h.fresh k e
    · omega
  · rcases List.mem_append.1 hx with e | e
    · exact hka.row (h.each x e) (fun j hj e2 => h.apart x e j hj e2)
    · rw [List.mem_singleton] at e; subst e
      exact hka.row hq (fun j hj e2 => (hqb j hj).2 e2)
  · rcases List.mem_append.1 hx with e | e
    · exact h.bfresh x e j hj
    · rw [List.mem_singleton] at e; subst e
      exact (hqb j hj).1
set_option maxHeartbeats 4000000 in
theorem copied_any (a : Option Addr) (c : Nat) (qs : List FpQ) (w : World) (hd : DatO w a c qs) (hn63 : qs.length ≤ 1099511627776) (hbl : ∀ q ∈ qs, q.1.2.length ≤ 1099511627776) :
    Calls Try.prog 23 #[.slice a qs.length c] w fun e w' => ∃ a2 c2, e = .returned (.slice a2 qs.length c2) ∧ Hid (∃ qs2, qs2.map Prod.fst = qs.map Prod.fst ∧ CpS w w' a2 qs.length c2 qs2) := by
  obtain ⟨n, hn⟩ : ∃ n, n = qs.length := ⟨_, rfl⟩
  have hcap : n ≤ c ∧ c ≤ maxLen := by
    rcases hd.own.2 with ⟨h1, h2⟩ | ⟨g, cc, cur, h1, _, _, h2, h3, _⟩
    · simp at h1; constructor; omega; unfold maxLen; omega
    · simp at h1; obtain ⟨_, rfl⟩ := h1; exact ⟨by omega, h3⟩
  have hc63 : (c : Int) ≤ 9223372036854775807 := by have := hcap.2; unfold maxLen at this; omega
  rw [← hn] at hn63 ⊢
  have HD := Lib.hid hd; have HN := Lib.hid hn; have HB := Lib.hid hbl
  have hnc := hcap.1
  clear hd hn hbl hcap
  have HS0 : Hid (CpS w w none 0 0 []) := Lib.hid (CpS.start (Kept.refl _ _))
  go_enter Try.func23, Try.ntmps23
  go_wp2_with fail
  go_loopw [3, 5, 8] (fun v3 v5 v8 wr => ∃ (i : Nat) (a2 : Option Addr) (c2 : Nat), v3 = .slice a2 i c2 ∧ v8 = .int .i64 (i : Int) ∧ i ≤ n ∧ Hid (∃ qs2 : List FpQ, qs2.map Prod.fst = (qs.take i).map Prod.fst ∧ CpS w wr a2 i c2 qs2)) (fun _ _ v8 _ => n - (intOf v8).toNat)
  case atStart => exact ⟨0, none, 0, rfl, rfl, by omega, Lib.hid ⟨[], rfl, HS0.out⟩⟩
  case round =>
    obtain ⟨i, a2, c2, rfl, rfl, hin, HR0⟩ := hrel
    obtain ⟨qs2, hr1, hr2⟩ := HR0.out
    have HR := Lib.hid (⟨hr1, hr2⟩ : _ ∧ _)
    clear hr1 hr2 HR0
    clear HS0
    by_cases hlt : (i : Int) < (n : Int)
    · have hil : i < qs.length := by have := HN.out; omega
      obtain ⟨g, rfl⟩ : ∃ g, a = some ⟨g, 0, none⟩ := by
        rcases HD.out.own.2 with ⟨h1, h2⟩ | ⟨g, cc, cur, h1, _⟩
        · omega
        · simp only [Value.slice.injEq] at h1; exact ⟨g, h1.1⟩
      obtain ⟨q, hq⟩ : ∃ q, q = qs[i] := ⟨_, rfl⟩
      have hqi : qs[i]? = some q := by rw [hq]; exact List.getElem?_eq_getElem hil
      have hqm : q ∈ qs := by rw [hq]; exact List.getElem_mem hil
      obtain ⟨z, hz⟩ : ∃ z, z = q.1.1 := ⟨_, rfl⟩
      obtain ⟨m, hm⟩ : ∃ m, m = q.1.2.length := ⟨_, rfl⟩
      obtain ⟨qc, hqc⟩ : ∃ qc, qc = q.2.2 := ⟨_, rfl⟩
      obtain ⟨qa, hqa⟩ : ∃ qa, qa = q.2.1 := ⟨_, rfl⟩
      have hrow := HR.out.2.kept.row HD.out.own (fun _ _ e => e)
      have y0 : wr.cell? ⟨g, i * 2, none⟩ = some (.int .i64 z) := by
        have := hrow.cells (g := g) rfl _ _ (fcells_at2 qs i q hqi).1
        rw [Addr.add_lit, Nat.zero_add, ← hz] at this; exact this
      have y1 : wr.cell? ⟨g, i * 2 + 1, none⟩ = some (.slice qa m qc) := by
        have := hrow.cells (g := g) rfl _ _ (fcells_at2 qs i q hqi).2
        rw [Addr.add_lit, Nat.zero_add, ← hqa, ← hm, ← hqc] at this; exact this
      have HCl : Hid (∀ W, Kept NoB wr W → Calls Try.prog 30 #[.slice qa m qc] W fun e w' => ∃ ao cap, e = .returned (.slice ao m cap) ∧ Hid (w'.ownsRow 0 5 1 (.slice ao m cap) m (bc q.1.2) ∧ (∀ j, (Value.slice ao m cap).ownBlock = some j → W.heap.size ≤ j) ∧ Kept NoB W w')) := Lib.hid (fun W hW => by
        have hr := (HR.out.2.kept.trans hW).row (HD.out.each q hqm) (fun _ _ e => e)
        have h0 : W.ownsRow 0 5 1 (.slice qa (nb q.1.2).length qc) (nb q.1.2).length ((nb q.1.2).map (.int .u8)) := by
          rw [nb_len, hqa, hqc, ← bc_nb]; exact hr
        have h1 := own_reads h0 rfl
        have e0 : (nb q.1.2).length = m := by rw [nb_len, hm]
        have := clone_any qa qc (nb q.1.2) W h1 (by rw [e0, hm]; have := HB.out q hqm; omega)
        rw [e0] at this
        refine this.mono ?_
        rintro e w' ⟨ao, cap, rfl, h1, h2, _, h4⟩
        rw [e0] at h1 h2 ⊢
        refine ⟨ao, cap, rfl, Lib.hid ⟨?_, h2, h4⟩⟩
        rw [bc_nb]; exact h1)
      have HQ := Lib.hid (⟨hqi, hqm, hz, hm, hqc, hqa⟩ : _ ∧ _ ∧ _ ∧ _ ∧ _ ∧ _)
      clear hrow hq hqi hqm hz hm hqc hqa hil
      go_upto_region 5 with fail
      obtain ⟨b5, hb5⟩ : ∃ b5, b5 = wr.heap.size := ⟨_, rfl⟩
      obtain ⟨w5, hw5⟩ : ∃ w5, w5 = wr.alloc (.cells #[.int .i64 z, .slice qa m qc] 43) := ⟨_, rfl⟩
      have o5 : w5.heap[b5]? = some (.cells #[.int .i64 z, .slice qa m qc] 43 (0, 0)) := by rw [hw5, hb5]; exact heap_push _ _
      have k5 : Kept NoB wr w5 := by rw [hw5]; exact (Kept.refl _ _).alloc _
      rw [← hw5, ← hb5]
      have x0 : w5.cell? ⟨b5, 0, none⟩ = some (.int .i64 z) := by rw [obj_cell o5]; rfl
      have x1 : w5.cell? ⟨b5, 1, none⟩ = some (.slice qa m qc) := by rw [obj_cell o5]; rfl
      have HK5 := Lib.hid k5
      have HO5 := Lib.hid o5
      have HCl := Lib.hid (HCl.out w5.drew k5.drew)
      have HAp : Hid (∀ (w6 : World) (ao : Option Addr) (cap : Nat), w6.ownsRow 0 5 1 (.slice ao m cap) m (bc q.1.2) → (∀ j, (Value.slice ao m cap).ownBlock = some j → w5.drew.heap.size ≤ j) → Kept NoB w5.drew w6 → w6.cell? ⟨b5, 0, none⟩ = some (.int .i64 z) ∧ ∃ a3 c3 w7, (Builtin.append_ #[40, 40] 40 #[.slice a2 i c2, .slice (some ⟨w6.heap.size, 0, none⟩) 1 1]).run Try.prog (w6.alloc (.cells #[.int .i64 z, .slice ao m cap] 43)) = .ok (.slice a3 (i + 1) c3) w7 ∧ Hid (∃ qs3 : List FpQ, qs3.map Prod.fst = (qs.take (i + 1)).map Prod.fst ∧ CpS w w7 a3 (i + 1) c3 qs3)) := Lib.hid (fun w6 ao cap h1 h2 h3 => by
        obtain ⟨hqi, hqm, hz, hm, hqc, hqa⟩ := HQ.out
        have hk : Kept NoB wr w6 := (HK5.out.drew).trans h3
        refine ⟨h3.cell (show w5.drew.cell? _ = _ from by rw [← x0]; rfl), ?_⟩
        have hS := (HR.out.2.on hk).on ((Kept.refl NoB w6).alloc (.cells #[.int .i64 z, .slice ao m cap] 43))
        obtain ⟨a3, c3, w7, r, hc⟩ := hS.app ((z, q.1.2), (ao, cap)) (by
          have h9 := ((Kept.refl NoB w6).alloc (.cells #[.int .i64 z, .slice ao m cap] 43)).row h1 (fun _ _ e => e)
          show (w6.alloc (.cells #[.int .i64 z, .slice ao m cap] 43)).ownsRow 0 _ 1 (.slice ao q.1.2.length cap) q.1.2.length (bc q.1.2)
          rw [← hm]
          exact h9) (fun j hj => by
          have hj' : (Value.slice ao m cap).ownBlock = some j := by rw [hm]; exact hj
          have h4 := h2 j hj'
          have h4' : w5.heap.size ≤ j := h4
          have h5 := HR.out.2.kept.size
          have h6 := HK5.out.size
          refine ⟨by omega, fun e => ?_⟩
          have := (HR.out.2.own.lt j e).2
          omega) (by omega) w6.heap.size (by rw [hm]; exact heap_push _ _)
        refine ⟨a3, c3, w7, r, Lib.hid ⟨_, ?_, hc⟩⟩
        rw [List.map_append, HR.out.1, List.map_cons, List.map_nil, List.take_add_one, hqi, List.map_append, hz]
        rfl)
      clear hb5 hw5 o5 k5 y0 y1
      go_region_law (first
        | (go_simp; go_at_call 30; (with_reducible refine HCl.out.mono ?_); rintro e w6 ⟨ao, cap, rfl, h6⟩; have h7 := HAp.out w6 ao cap h6.out.1 h6.out.2.1 h6.out.2.2; obtain ⟨u0, a3, c3, w7, r7, H7⟩ := h7)
        | (refine step_app_known rfl (.tmp 12) (.tmp 19) 40 40 rfl _ _ rfl rfl _ _ r7 ?_))
      all_goals go_simp
      all_goals go_wp2
      all_goals go_roundw
      all_goals first
        | exact ⟨i + 1, a3, c3, rfl, by go_num, by omega, H7⟩
        | (simp [intOf]; omega)
    · have hi2 : i = n := by omega
      subst hi2
      go_wp2
      go_ret
      refine ⟨a2, c2, rfl, Lib.hid ⟨qs2, ?_, HR.out.2⟩⟩
      rw [HR.out.1, List.take_of_length_le (by have := HN.out; omega)]
def PcsP (w : World) (l : List Fp) (v : Option Addr) (c : Nat) (w' : World) : Prop := ∃ qs : List FpQ, qs.map Prod.fst = l ∧ CpS w w' v l.length c qs
def piecesP (T : FsP) (i : Int) : List Fp := match T.nd i with | some n => n.data | none => []
set_option maxHeartbeats 2000000 in
theorem pieces_any {S : Nat → Prop} {w : World} {f : Nat} {T : FsP} (h : FsSt S w f T) (i : Int) (hi : -9223372036854775808 ≤ i ∧ i ≤ 9223372036854775807) :
    Calls Try.prog 10 #[.pointer (some ⟨f, 0, none⟩), .int .i64 i] w fun e w' => ∃ ao c, e = .returned (.slice ao (piecesP T i).length c) ∧ Hid (PcsP w (piecesP T i) ao c w') := by
  obtain ⟨L, B, mb, h⟩ := h
  obtain ⟨c0, c1, c2, c3, c4⟩ := h.cells
  have HT := Lib.hid h.tab
  cases hn : T.nd i with
  | none =>
    have hB := h.gone hn
    have hp : piecesP T i = [] := by unfold piecesP; rw [hn]
    rw [hp]
    clear h hp hn
    go_enter Try.func10, Try.ntmps10
    go_wp2_with (at_lookup; refine wpList_nodes_ok rfl _ _ rfl HT.out rfl rfl hi ?_; rw [hB, ptrV_none])
    go_ret
    exact ⟨none, 0, rfl, Lib.hid ⟨[], rfl, CpS.start (Kept.refl _ _)⟩⟩
  | some n =>
    obtain ⟨b, m, a, c, qs, hB, hN⟩ := h.at hn
    have hp : piecesP T i = n.data := by unfold piecesP; rw [hn]
    rw [hp]
    have k13 := hN.cell 13
    simp [ndC, nvC] at k13
    have on := h.ok.node i n hn
    have hok := ok_len on.data
    have hlen : n.data.length = qs.length := hN.dat.len
    have hdat : DatO w a c qs := ⟨by have := hN.dat.own; rw [hlen] at this; exact this, hN.dat.each, hN.dat.apart⟩
    have HCp : Hid (Calls Try.prog 23 #[.slice a n.data.length c] w fun e w' => ∃ a2 c2, e = .returned (.slice a2 n.data.length c2) ∧ Hid (PcsP w n.data a2 c2 w')) := Lib.hid (by
      have := copied_any a c qs w hdat (by rw [← hlen]; exact hok.1) (fun q hq => by
        have hq2 : q.1 ∈ n.data := by rw [← hN.data]; exact List.mem_map.2 ⟨q, hq, rfl⟩
        have h1 := on.data.each _ hq2
        unfold endP at h1
        omega)
      rw [← hlen] at this
      refine this.mono ?_
      rintro e w' ⟨a2, c2, rfl, hq⟩
      obtain ⟨qs2, h1, h2⟩ := hq.out
      exact ⟨a2, c2, rfl, Lib.hid ⟨qs2, by rw [h1, hN.data], h2⟩⟩)
    obtain ⟨dl, hdl⟩ : ∃ dl, dl = n.data.length := ⟨_, rfl⟩
    rw [← hdl] at k13 HCp ⊢
    clear h hp hn hN on hok hlen hdat hdl
    go_enter Try.func10, Try.ntmps10
    go_wp2_with (first | (at_lookup; refine wpList_nodes_ok rfl _ _ rfl HT.out rfl rfl hi ?_; rw [hB, ptrV_some]) | (go_at_call 23; refine HCp.out.mono ?_; rintro e w' ⟨ao, c5, rfl, hq⟩))
    go_ret
    exact ⟨ao, c5, rfl, hq⟩
end Go.Proofs.Ytjjgadanobeamaa

namespace Go.Proofs.Ytjjgadanobeamaa
open Go.RowKit
set_option linter.unusedVariables false
set_option linter.unusedSimpArgs false
set_option maxRecDepth 20000

def byteAt (l : List Fp) (x : Int) : UInt8 := match l.find? (fun p => decide (p.1 ≤ x) && decide (x < endP p)) with
  | some p => p.2.getD (x - p.1).toNat 0
  | none => 0
def readD (l : List Fp) (k : Int) (n : Nat) : List UInt8 := (List.range n).map (fun t : Nat => byteAt l (k + t))
theorem readD_len (l : List Fp) (k : Int) (n : Nat) : (readD l k n).length = n := by simp [readD]
theorem readD_at (l : List Fp) (k : Int) (n t : Nat) (h : t < n) : (readD l k n)[t]? = some (byteAt l (k + t)) := by simp [readD, h]
theorem byteAt_append (a b : List Fp) (x : Int) (h : ∀ p ∈ a, ¬ (p.1 ≤ x ∧ x < endP p)) : byteAt (a ++ b) x = byteAt b x := by
  unfold byteAt
  rw [List.find?_append]
  have : a.find? (fun p => decide (p.1 ≤ x) && decide (x < endP p)) = none := by
    rw [List.find?_eq_none]
    intro p hp
    have := h p hp
    simp
    intro h1
    omega
  rw [this]; rfl
theorem byteAt_prefix (a b : List Fp) (x : Int) (h : ∀ p ∈ b, ¬ (p.1 ≤ x ∧ x < endP p)) : byteAt (a ++ b) x = byteAt a x := by
  unfold byteAt
  rw [List.find?_append]
  have : b.find? (fun p => decide (p.1 ≤ x) && decide (x < endP p)) = none := by
    rw [List.find?_eq_none]
    intro p hp
    have := h p hp
    simp
    intro h1
    omega
  rw [this]
  cases a.find? (fun p => decide (p.1 ≤ x) && decide (x < endP p)) <;> rfl
theorem byteAt_one (p : Fp) (x : Int) (h : p.1 ≤ x ∧ x < endP p) : byteAt [p] x = p.2.getD (x - p.1).toNat 0 := by
  unfold byteAt
  rw [List.find?_cons]
  simp [h.1, h.2]
theorem read_step {a : List Fp} {p : Fp} (hok : OkD (a ++ [p])) (k : Int) (n P m d : Nat) (hP : k + (P : Int) = max k p.1) (hd : (d : Int) = max k p.1 - p.1) (hm : m = min (p.2.length - d) (n - P)) (hPn : P ≤ n) (he : k < endP p) :
    readD (a ++ [p]) k n = (readD a k n).take P ++ (p.2.drop d).take m ++ (readD a k n).drop (P + m) := by
  have hel : endP p = p.1 + p.2.length := rfl
  have hap : ∀ q ∈ a, endP q < p.1 := fun q hq => by
    have := hok.apart
    rw [List.pairwise_append] at this
    exact this.2.2 q hq p (by simp)
  have hsl : ((p.2.drop d).take m).length = m := by rw [List.length_take, List.length_drop]; omega
  apply List.ext_getElem?
  intro t
  rcases Nat.lt_or_ge t n with ht | ht
  · rw [readD_at _ _ _ _ ht]
    rcases Nat.lt_or_ge t P with h1 | h1
    · rw [List.append_assoc, List.getElem?_append_left (by rw [List.length_take, readD_len]; omega), List.getElem?_take, if_pos h1, readD_at _ _ _ _ ht]
      rw [byteAt_prefix _ _ _ (fun q hq => by rw [List.mem_singleton] at hq; subst hq; omega)]
    · rcases Nat.lt_or_ge t (P + m) with h2 | h2
      · rw [List.append_assoc, List.getElem?_append_right (by rw [List.length_take, readD_len]; omega), List.getElem?_append_left (by rw [hsl, List.length_take, readD_len]; omega), List.length_take, readD_len, Nat.min_eq_left hPn, List.getElem?_take, if_pos (by omega), List.getElem?_drop]
        have hin : p.1 ≤ k + (t : Int) ∧ k + (t : Int) < endP p := by rw [hel]; omega
        rw [byteAt_append _ _ _ (fun q hq => by have := hap q hq; omega), byteAt_one p _ hin]
        have e1 : (k + (t : Int) - p.1).toNat = d + (t - P) := by omega
        rw [e1, List.getD_eq_getElem?_getD]
        have hlt : d + (t - P) < p.2.length := by omega
        rw [List.getElem?_eq_getElem hlt]; rfl
      · have hnin : ¬ (p.1 ≤ k + (t : Int) ∧ k + (t : Int) < endP p) := by rw [hel]; omega
        rw [byteAt_prefix _ _ _ (fun q hq => by rw [List.mem_singleton] at hq; subst hq; exact hnin)]
        rw [List.getElem?_append_right (by simp only [List.length_append, hsl, List.length_take, readD_len]; omega), List.getElem?_drop]
        simp only [List.length_append, hsl, List.length_take, readD_len]
        rw [Nat.min_eq_left hPn, show P + m + (t - (P + m)) = t by omega, readD_at _ _ _ _ ht]
  · rw [List.getElem?_eq_none (by rw [readD_len]; exact ht), List.getElem?_eq_none]
    simp only [List.length_append, hsl, List.length_take, List.length_drop, readD_len]
    omega
theorem run_copy_by2 (w : World) (gf fn fc P : Nat) (x : List UInt8) (hx : fn = x.length) (hown : w.ownsRow 0 5 1 (.slice (some ⟨gf, 0, none⟩) fn fc) fn (bc x)) (y : Addr) (bs : List UInt8) (cb dc : Nat) (hc : ∀ j v, (bc bs)[j]? = some v → w.cell? (y.add j) = some v) (hP : P ≤ fn) (m : Nat) (hm : m = min bs.length (fn - P)) :
    ∃ w', (Builtin.copy_ #[32, 32] 3 #[.slice (some ⟨gf, P, none⟩) (fn - P) dc, .slice (some y) bs.length cb]).run Try.prog w = .ok (goInt m) w' ∧ w'.ownsRow 0 5 1 (.slice (some ⟨gf, 0, none⟩) fn fc) fn (bc (x.take P ++ bs.take m ++ x.drop (P + m))) ∧ Kept (OneB gf) w w' := by
  rcases hown.2 with ⟨h1, h2⟩ | ⟨g', cc, cur, h1, hb0, hg, hnc, hcm, hcs, htk⟩
  · cases h1
  · simp only [Value.slice.injEq, Option.some.injEq, Addr.mk.injEq, and_true, true_and] at h1
    obtain ⟨rfl, rfl⟩ := h1
    have htl : (bs.take m).length = m := by rw [List.length_take]; omega
    have hc' : ∀ j v, (bc (bs.take m))[j]? = some v → w.cell? (y.add j) = some v := fun j v hj => by
      refine hc j v ?_
      have e : bc (bs.take m) = (bc bs).take m := by simp [bc, List.map_take]
      rw [e, List.getElem?_take] at hj
      split at hj
      · exact hj
      · cases hj
    have := run_copy_row (P := Try.prog) w 32 32 3 5 gf P (fn - P) dc y bs.length cb cur 5 (bc (bs.take m)) Try.underlying32 (by kernel_rfl) hg (by rw [bc_len, htl, hm]) hc' (by rw [bc_len, hcs, htl]; omega) (bc_one _)
    rw [bc_len, htl] at this
    have hxl : (x.take P ++ bs.take m ++ x.drop (P + m)).length = fn := by simp only [List.length_append, List.length_take, List.length_drop]; omega
    refine ⟨_, this, ⟨by rw [bc_len, hxl]; omega, .inr ⟨gf, fc, _, rfl, Nat.zero_le _, setRow_heap _ _ _ _ _ _ hg, hnc, hcm, ?_, ?_⟩⟩, Kept.setRow (S := OneB gf) (Kept.refl _ w) (.inl rfl) _⟩
    · simp only [List.size_toArray, List.length_append, List.length_take, List.length_drop, Array.length_toList, bc_len, hcs, htl]; omega
    · have htk' : cur.toList.take fn = bc x := by rw [Nat.mul_one] at htk; exact htk
      have e1 : cur.toList.take P = bc (x.take P) := by
        have := congrArg (List.take P) htk'
        rw [List.take_take, Nat.min_eq_left (by omega)] at this
        rw [this]; simp [bc, List.map_take]
      have e2 : (cur.toList.drop (P + m)).take (fn - (P + m)) = bc (x.drop (P + m)) := by
        have := congrArg (List.drop (P + m)) htk'
        rw [List.drop_take] at this
        rw [this]; simp [bc, List.map_drop]
      rw [List.toList_toArray, Nat.mul_one, bc_app, bc_app, ← e1, ← e2]
      have hl : (cur.toList.take P ++ bc (bs.take m)).length = P + m := by rw [List.length_append, List.length_take, bc_len, Array.length_toList, hcs, htl]; omega
      rw [List.take_append, List.take_of_length_le (by omega), hl]
end Go.Proofs.Ytjjgadanobeamaa

namespace Go.Proofs.Ytjjgadanobeamaa
open Go.RowKit
set_option linter.unusedVariables false
set_option linter.unusedSimpArgs false
set_option maxRecDepth 20000

end Go.Proofs.Ytjjgadanobeamaa

namespace Go.Proofs.Ytjjgadanobeamaa
open Go.RowKit
open Go.Maps (Keyed)
set_option linter.unusedVariables false
set_option linter.unusedSimpArgs false
set_option maxRecDepth 20000

section
variable {ops : Array Oper} {rest : List Oper} {o : Oper} {a : Act} {w : World} {Q : Exit → Act → World → Prop}
end
end Go.Proofs.Ytjjgadanobeamaa

namespace Go.Proofs.Ytjjgadanobeamaa
set_option linter.unusedVariables false
set_option linter.unusedSimpArgs false
set_option maxRecDepth 20000

def fileV : NodeV := { kind := 1, mode := 0, user := 0, group := 0, time := 0, tgt := ⟨#[]⟩, major := 0, minor := 0, size := 0, links := 0, change := 0 }
def aw1 : FsP := (makeP (newT 10) 1 [102] fileV).1
def aw2 : FsP := (writeP aw1 2 10 [97, 98, 99]).1
def aw3 : FsP := (writeP aw2 2 0 (List.replicate 9 0)).1
theorem aw_make : (makeP (newT 10) 1 [102] fileV).2 = (2, 0) := by kernel_rfl
theorem aw_write1 : (writeP aw1 2 10 [97, 98, 99]).2 = 0 := by kernel_rfl
theorem aw_write2 : (writeP aw2 2 0 (List.replicate 9 0)).2 = 5 := by kernel_rfl
theorem aw_find : findP aw3 2 [120] = (0, 12) := by kernel_rfl
theorem aw_stat : (statP aw3 2).2 = 0 ∧ (statP aw3 2).1.size = 13 := ⟨by kernel_rfl, by kernel_rfl⟩
theorem aw_used : aw3.used = 10 := by kernel_rfl
theorem aw_clock : (newT 10).clock = 0 ∧ aw1.clock = 1 ∧ aw2.clock = 2 := ⟨rfl, by kernel_rfl, by kernel_rfl⟩
theorem aw_quota : aw1.quota = 10 ∧ aw2.quota = 10 := ⟨by kernel_rfl, by kernel_rfl⟩
theorem aw_nd1 : ∃ n, aw1.nd 2 = some n ∧ n.data = [] := ⟨freshN fileV 1 1, by kernel_rfl, rfl⟩
theorem aw_nd2 : ∃ n, aw2.nd 2 = some n ∧ n.data = [(10, [97, 98, 99])] ∧ (fitP aw2 n 0 (List.replicate 9 0)).1 = 7 := ⟨wrN (freshN fileV 1 1) 2 10 [97, 98, 99], by kernel_rfl, by kernel_rfl, by kernel_rfl⟩
theorem aw_put1 : ∀ n, aw1.nd 2 = some n → PutOk n.data 10 ([97, 98, 99].take (fitP aw1 n 10 [97, 98, 99]).1) := fun n hn => by
  obtain ⟨n', h1, h2⟩ := aw_nd1
  rw [h1] at hn; cases hn
  rw [h2]
  exact putOk_free rfl
theorem aw_put2 : ∀ n, aw2.nd 2 = some n → PutOk n.data 0 ((List.replicate 9 0).take (fitP aw2 n 0 (List.replicate 9 0)).1) := fun n hn => by
  obtain ⟨n', h1, h2, h3⟩ := aw_nd2
  rw [h1] at hn; cases hn
  rw [h2, h3]
  refine putOk_free ?_
  decide
end Go.Proofs.Ytjjgadanobeamaa

namespace Go.Proofs.Ytjjgadanobeamaa
open Go.RowKit
set_option linter.unusedVariables false
set_option linter.unusedSimpArgs false
set_option maxRecDepth 20000

theorem keep_on {S : Nat → Prop} {a b c : World} (h : Kept NoB a b) (k : Kept S b c) (hs : ∀ i, i < a.heap.size → S i → False) : Kept NoB a c :=
  ⟨k.os.trans h.os, k.tape.trans h.tape, k.output.trans h.output, Nat.le_trans h.size k.size, fun i hi _ => (k.block i (Nat.lt_of_lt_of_le hi h.size) (hs i hi)).trans (h.block i hi id)⟩
def NewB (w W : World) : Nat → Prop := fun k => w.heap.size ≤ k ∧ k < W.heap.size
structure FsOwn (w W : World) (f : Nat) (T : FsP) : Prop where
  st : FsSt (NewB w W) W f T
  keep : Kept NoB w W
theorem FsOwn.made {w W : World} {f : Nat} {T : FsP} (h : FsSt (Grow NoB w W) W f T) (hk : Kept NoB w W) : FsOwn w W f T :=
  ⟨h.mono (fun k e => by rcases e with e | e; exact e.elim; exact e), hk⟩
theorem FsOwn.kept {w W W' : World} {f : Nat} {T : FsP} (h : FsOwn w W f T) (hk : Kept NoB W W') : FsOwn w W' f T :=
  ⟨(h.st.keptNo hk).mono (fun k e => ⟨e.1, Nat.lt_of_lt_of_le e.2 hk.size⟩), h.keep.trans hk⟩
theorem FsOwn.step {w W W' : World} {f : Nat} {T T' : FsP} (h : FsOwn w W f T) (hs : FsSt (Grow (NewB w W) W W') W' f T') (hk : Kept (NewB w W) W W') : FsOwn w W' f T' :=
  ⟨hs.mono (fun k e => by
    have h1 := hk.size
    have h2 := h.keep.size
    rcases e with e | e
    · exact ⟨e.1, Nat.lt_of_lt_of_le e.2 h1⟩
    · exact ⟨by omega, e.2⟩), keep_on h.keep hk (fun i hi e => by have := e.1; omega)⟩
theorem FsOwn.lt {w W : World} {f : Nat} {T : FsP} (h : FsOwn w W f T) : f < W.heap.size := by
  obtain ⟨L, B, mb, h1⟩ := h.st
  exact obj_lt h1.obj
theorem reads_made (W : World) (bs : List UInt8) (cs : Array Value) (fr : Nat × Nat) (hcs : cs = (bc bs).toArray) : Reads (W.alloc (.cells cs 5 fr)) (some ⟨W.heap.size, 0, none⟩) (nb bs) :=
  lit_reads (nb bs) (heap_alloc_new W (.cells cs 5 fr)) (by rw [hcs, bc_nb])
theorem wpList_make_bytes (w : World) {ops : Array Oper} {rest : List Oper} {o : Oper} {a : Act} {Q : Exit → Act → World → Prop}
    (hg : o.guard = none) (l c : Operand) (hop : o.op = Op.makeSlice 32 l c) (n : Nat) (hl : a.eval l = .int .i64 (n : Int)) (hc : a.eval c = .int .i64 (n : Int)) (hm : n ≤ 1048576)
    (hK : ∀ w', w'.heap[w.heap.size]? = some (.cells (bc (List.replicate n 0)).toArray 5 (0, 0)) → Kept NoB w w' → wpList Try.prog ops Q rest (a.put o.dst (.slice (some ⟨w.heap.size, 0, none⟩) n n)) w') :
    wpList Try.prog ops Q (o :: rest) a w := by
  obtain ⟨i0, hi, hz0, hz1, hz2⟩ := info_parts info5
  refine wpList_plain hg fun K hK' => ?_
  have hr := run_make (P := Try.prog) w 32 5 i0 (.int .u8 0) Try.underlying32 hi hz0 .i64 .i64 n n (by omega) (by omega) (by rw [hz2]; omega) (by omega)
  simp only [Int.toNat_natCast] at hr
  unfold Oper.wp
  simp only [execOp, hop, hl, hc, hr, Sem.run_bind, Sem.run_pure, Result.andThen_ok]
  refine hK' _ _ (hK _ ?_ ((Kept.refl _ _).alloc _))
  refine (heap_alloc_new _ _).trans (congrArg (fun c => some (Obj.cells c 5 (0, 0))) ?_)
  apply Array.ext'
  rw [hz1, bc, List.map_replicate, List.toArray_replicate]
  have e : (madeCells #[Value.int .u8 0] (n * 1)).toList = List.replicate n (.int .u8 0) := by
    rw [List.eq_replicate_iff]
    refine ⟨by simp [madeCells], ?_⟩
    intro x hx
    simp only [madeCells, Array.toList_map, List.mem_map] at hx
    obtain ⟨i, _, rfl⟩ := hx
    rw [show i % (#[Value.int .u8 0] : Array Value).size = 0 from Nat.mod_one i]
    rfl
  exact e
set_option maxHeartbeats 2000000 in
theorem awake_any (w : World) : Calls Try.prog 6 #[] w fun e w' => e = .returned (.bool true) ∧ Kept NoB w w' := by
  have kc := fun (w : World) (C : Array Value) (n c : Nat) => Lib.run_convert_bytes_const (P := Try.prog) w 32 5 C n c Try.underlying32 Try.underlying5
  have HNew := Lib.hid (fun W => new_any 10 W (by decide))
  go_enter Try.func6, Try.ntmps6
  go_wp2_with fail
  refine (HNew.out w).mono ?_
  rintro e w1 ⟨f, rfl, hf1, hk1⟩
  have F1 := Lib.hid (FsOwn.made hf1 hk1)
  clear hf1 hk1 HNew
  have HMk : Hid (Calls Try.prog 5 #[.pointer (some ⟨f, 0, none⟩), .int .i64 1, .string { data := #[102] }, .agg #[.int .i64 1, .int .i64 0, .int .i64 0, .int .i64 0, .int .i64 0, .string { data := #[] }, .int .i64 0, .int .i64 0, .int .i64 0, .int .i64 0, .int .i64 0]] w1 fun e w' =>
      e = .returned (.tuple #[.int .i64 2, .int .i64 0]) ∧ Hid (FsOwn w w' f aw1)) := Lib.hid (by
    have := make_any F1.out.st 1 (by decide) [102] (by decide) fileV (by decide) (by rw [aw_clock.1]; decide)
    refine Calls.mono this ?_
    rintro e w' ⟨rfl, h1, h2⟩
    refine ⟨by rw [aw_make], Lib.hid (F1.out.step h1 h2)⟩)
  go_wp2_with fail
  refine HMk.out.mono ?_
  rintro e w2 ⟨rfl, F2⟩
  clear HMk
  have HW1 : Hid (∀ W, W = w2.alloc (.cells #[.int .u8 97, .int .u8 98, .int .u8 99] 5 (3, 4)) → Calls Try.prog 8 #[.pointer (some ⟨f, 0, none⟩), .int .i64 2, .int .i64 10, .slice (some ⟨w2.heap.size, 0, none⟩) 3 3] W fun e w' =>
      e = .returned (.int .i64 0) ∧ Hid (FsOwn w w' f aw2)) := Lib.hid (fun W hW => by
    have F := F2.out.kept (W' := W) (by rw [hW]; exact (Kept.refl _ _).alloc _)
    have G : FsSt (NewB w w2) W f aw1 := F2.out.st.keptNo (by rw [hW]; exact (Kept.refl _ _).alloc _)
    have := write_any G 2 (by decide) 10 (by decide) [97, 98, 99] (some ⟨w2.heap.size, 0, none⟩) 3 (by rw [hW]; exact reads_made w2 [97, 98, 99] _ _ rfl) (by decide) (by decide) (by decide) (fun _ x hx e => by cases hx; have := e.2; dsimp only at this; omega) (by rw [aw_clock.2.1]; decide) (by rw [aw_quota.1]; decide) aw_put1
    refine Calls.mono this ?_
    rintro e w' ⟨rfl, h1, h2⟩
    refine ⟨by rw [aw_write1], Lib.hid (F.step (h1.mono (fun k e => ?_)) (h2.mono (fun k _ e => ?_)))⟩
    · rcases e with e | e
      · exact .inl ⟨e.1, by rw [hW]; simp; have := e.2; omega⟩
      · exact .inr e
    · exact ⟨e.1, by rw [hW]; simp; have := e.2; omega⟩)
  go_wp2_with fail
  refine (HW1.out _ rfl).mono ?_
  rintro e w3 ⟨rfl, F3⟩
  clear HW1
  have HW2 : Hid (∀ W, W.heap[w3.heap.size]? = some (.cells (bc (List.replicate 9 0)).toArray 5 (0, 0)) → Kept NoB w3 W → Calls Try.prog 8 #[.pointer (some ⟨f, 0, none⟩), .int .i64 2, .int .i64 0, .slice (some ⟨w3.heap.size, 0, none⟩) 9 9] W fun e w' =>
      e = .returned (.int .i64 5) ∧ Hid (FsOwn w w' f aw3)) := Lib.hid (fun W hW hkW => by
    have F := F3.out.kept hkW
    have G : FsSt (NewB w w3) W f aw2 := F3.out.st.keptNo hkW
    have hsz := hkW.size
    have := write_any G 2 (by decide) 0 (by decide) (List.replicate 9 0) (some ⟨w3.heap.size, 0, none⟩) 9 (lit_reads _ hW (by rw [bc_nb])) (by decide) (by decide) (by decide) (fun _ x hx e => by cases hx; have := e.2; dsimp only at this; omega) (by rw [aw_clock.2.2]; decide) (by rw [aw_quota.2]; decide) aw_put2
    refine Calls.mono this ?_
    rintro e w' ⟨rfl, h1, h2⟩
    refine ⟨by rw [aw_write2], Lib.hid (F.step (h1.mono (fun k e => ?_)) (h2.mono (fun k _ e => ?_)))⟩
    · rcases e with e | e
      · exact .inl ⟨e.1, by have := e.2; omega⟩
      · exact .inr e
    · exact ⟨e.1, by have := e.2; omega⟩)
  go_wp2_with (refine wpList_make_bytes _ rfl (.const (.int .i64 9)) (.const (.int .i64 9)) rfl 9 rfl rfl (by omega) ?_; intro w4 hz4 hk4)
  refine (HW2.out _ hz4 hk4).mono ?_
  rintro e w5 ⟨rfl, F5⟩
  clear HW2 hz4 hk4
  have HFd : Hid (Calls Try.prog 15 #[.pointer (some ⟨f, 0, none⟩), .int .i64 2, .string { data := #[120] }] w5 fun e w' => e = .returned (.tuple #[.int .i64 0, .int .i64 12]) ∧ Kept NoB w5 w') := Lib.hid (by
    have := find_any F5.out.st 2 (by decide) [120] (by decide)
    rw [aw_find] at this
    exact this)
  go_wp2_with fail
  refine HFd.out.mono ?_
  rintro e w6 ⟨rfl, hk6⟩
  have F6 := Lib.hid (F5.out.kept hk6)
  clear hk6 HFd
  obtain ⟨v, hv⟩ : ∃ v, v = (statP aw3 2).1 := ⟨_, rfl⟩
  have hv13 : v.size = 13 := by rw [hv]; exact aw_stat.2
  have HSt : Hid (Calls Try.prog 16 #[.pointer (some ⟨f, 0, none⟩), .int .i64 2] w6 fun e w' => e = .returned (.tuple #[.agg (nvC v).toArray, .int .i64 0]) ∧ Kept NoB w6 w') := Lib.hid (by
    have := stat_any F6.out.st 2 (by decide)
    rw [aw_stat.1, ← hv] at this
    exact this)
  clear hv
  go_wp2_with fail
  refine HSt.out.mono ?_
  rintro e w7 ⟨rfl, hk7⟩
  have F7 := Lib.hid (F6.out.kept hk7)
  clear hk7 HSt
  have HOne := Lib.hid (nv_one v)
  have HRt : Hid (∀ W, Calls Try.prog 17 #[.pointer (some ⟨f, 0, none⟩)] W fun e w' => e = .returned (.int .i64 1) ∧ w' = W) := Lib.hid (fun W => root_any f W)
  have HUs : Hid (∀ W, Kept NoB w7 W → Calls Try.prog 11 #[.pointer (some ⟨f, 0, none⟩)] W fun e w' => e = .returned (.int .i64 10) ∧ w' = W) := Lib.hid (fun W hW => by
    have := used_any (F7.out.kept hW).st
    rw [aw_used] at this
    exact this)
  have C8 : ∀ o : Obj, o = .cells (nvC zeroNV).toArray 29 (0, 0) → ((w7.alloc o).setRow w7.heap.size (nvC v).toArray).cell? ⟨w7.heap.size, 8, none⟩ = some (.int .i64 13) := fun o ho => by
    rw [ho, cell_of_row _ _ _ _ _ (0, 0) (setRow_heap _ _ _ _ _ _ (heap_alloc_new _ _))]
    rw [← hv13]; rfl
  have C8' : ((w7.alloc (.cells #[.int .i64 0, .int .i64 0, .int .i64 0, .int .i64 0, .int .i64 0, .string { data := #[] }, .int .i64 0, .int .i64 0, .int .i64 0, .int .i64 0, .int .i64 0] 29)).setRow w7.heap.size (nvC v).toArray).cell? ⟨w7.heap.size, 8, none⟩ = some (.int .i64 13) := C8 _ rfl
  clear C8
  go_wp2_with (first | (refine wpList_store_row rfl 29 (.tmp 8) (.tmp 38) rfl w7.heap.size (nvC v).toArray rfl rfl _ _ (heap_alloc_new _ _) infoNd rfl HOne.out ?_) | (go_at_call 17; refine (HRt.out _).mono ?_; rintro e w8 ⟨rfl, rfl⟩) | (go_at_call 11; refine (HUs.out _ (((Kept.refl NoB w7).alloc _).setRow (.inr (Nat.le_refl _)) _)).mono ?_; rintro e w8 ⟨rfl, rfl⟩))
  go_ret
  exact ⟨rfl, F7.out.keep.trans (((Kept.refl NoB w7).alloc _).setRow (.inr (Nat.le_refl _)) _)⟩
end Go.Proofs.Ytjjgadanobeamaa
