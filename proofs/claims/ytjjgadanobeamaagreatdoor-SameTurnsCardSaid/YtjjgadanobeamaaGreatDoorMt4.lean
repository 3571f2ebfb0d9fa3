/-
  A tree of files in memory: what lies where; what reads it.
  sort.Search: the first place at which a predicate that stays true is true.
  What was written of a file, in memory: where a piece ends; how many pieces end no later.
-/
import Derived.Test.YtjjgadanobeamaaGreatDoorMt3
import Derived.Deep.MidRow
import Derived.Laws.Rows
import Derived.Laws.Tables
import Derived.Deep.RegionHeld3
namespace Go.Proofs.YtjjgadanobeamaaGreatDoor
open Go.RowKit
open Go.Maps (Keyed)
set_option linter.unusedVariables false
set_option linter.unusedSimpArgs false
set_option maxRecDepth 20000

theorem infoFp : (Tryz.prog.info? 69).map (fun i => (i.zero, i.size, i.bytes)) = some (some (.agg #[.int .i64 0, .slice none 0 0]), 2, 32) := by kernel_rfl
def ndC (n : NdP) (m : Option Nat) (a : Option Addr) (c : Nat) : List Value := nvC n.v ++ [.map m, .int .i64 n.par, .slice a n.data.length c]
abbrev FpQ := Fp × (Option Addr × Nat)
def fcells (qs : List FpQ) : List Value := qs.flatMap fun q => [.int .i64 q.1.1, .slice q.2.1 q.1.2.length q.2.2]
inductive Lab where
  | no
  | fs
  | tab
  | nd (i : Int)
  | nm (i : Int)
  | row (i : Int)
  | byt (i : Int)
structure DatSt (L : Nat → Lab) (i : Int) (w : World) (a : Option Addr) (l c : Nat) (qs : List FpQ) : Prop where
  len : l = qs.length
  own : w.ownsRow 0 69 2 (.slice a l c) l (fcells qs)
  lab : ∀ k, (Value.slice a l c).ownBlock = some k → L k = .row i
  each : ∀ q ∈ qs, w.ownsRow 0 5 1 (.slice q.2.1 q.1.2.length q.2.2) q.1.2.length (bc q.1.2)
  labs : ∀ q ∈ qs, ∀ k, (Value.slice q.2.1 q.1.2.length q.2.2).ownBlock = some k → L k = .byt i
  apart : qs.Pairwise (fun p q => ∀ k, (Value.slice p.2.1 p.1.2.length p.2.2).ownBlock = some k → (Value.slice q.2.1 q.1.2.length q.2.2).ownBlock ≠ some k)
structure NdSt (L : Nat → Lab) (i : Int) (w : World) (b : Nat) (n : NdP) (m : Option Nat) (a : Option Addr) (c : Nat) (qs : List FpQ) : Prop where
  obj : w.heap[b]? = some (.cells (ndC n m a c).toArray 48 (0, 0))
  lab : L b = .nd i
  dir : n.v.kind = 6 → ∃ mb, m = some mb ∧ L mb = .nm i ∧ NamesAt w mb n.names
  plain : n.v.kind ≠ 6 → m = none
  dat : DatSt L i w a n.data.length c qs
  data : qs.map Prod.fst = n.data
def fsC (mb : Nat) (T : FsP) : List Value := [.map (some mb), .int .i64 T.next, .int .i64 T.quota, .int .i64 T.used, .int .i64 T.clock]
structure FsIn (L : Nat → Lab) (B : Int → Option Nat) (mb : Nat) (S : Nat → Prop) (w : World) (f : Nat) (T : FsP) : Prop where
  ok : OkT T
  obj : w.heap[f]? = some (.cells (fsC mb T).toArray 51 (0, 0))
  labf : L f = .fs
  labm : L mb = .tab
  tab : NodesAt w mb B T.cnt
  dom : ∀ i, (B i).isSome = (T.nd i).isSome
  node : ∀ i n b, T.nd i = some n → B i = some b → ∃ m a c qs, NdSt L i w b n m a c qs
  own : ∀ k, (∀ x, L k = x → x ≠ .no) → S k ∧ k < w.heap.size
def FsSt (S : Nat → Prop) (w : World) (f : Nat) (T : FsP) : Prop := ∃ L B mb, FsIn L B mb S w f T

theorem DatSt.kept {L : Nat → Lab} {i : Int} {w w' : World} {a : Option Addr} {l c : Nat} {qs : List FpQ} {K : Nat → Prop} (h : DatSt L i w a l c qs) (hk : Kept K w w') (hr : ∀ k, L k = .row i → ¬ K k) (hb : ∀ k, L k = .byt i → ¬ K k) : DatSt L i w' a l c qs :=
  ⟨h.len, hk.row h.own (fun k e => hr k (h.lab k e)), h.lab, fun q hq => hk.row (h.each q hq) (fun k e => hb k (h.labs q hq k e)), h.labs, h.apart⟩
theorem NdSt.kept {L : Nat → Lab} {i : Int} {w w' : World} {b : Nat} {n : NdP} {m : Option Nat} {a : Option Addr} {c : Nat} {qs : List FpQ} {K : Nat → Prop} (h : NdSt L i w b n m a c qs) (hk : Kept K w w')
    (h1 : ∀ k, L k = .nd i → ¬ K k) (h2 : ∀ k, L k = .nm i → ¬ K k) (h3 : ∀ k, L k = .row i → ¬ K k) (h4 : ∀ k, L k = .byt i → ¬ K k) : NdSt L i w' b n m a c qs where
  obj := hk.obj h.obj (h1 b h.lab)
  lab := h.lab
  dir := fun hd => by
    obtain ⟨mb, e1, e2, e3⟩ := h.dir hd
    exact ⟨mb, e1, e2, MapF.kept e3 hk (h2 mb e2)⟩
  plain := h.plain
  dat := h.dat.kept hk h3 h4
  data := h.data
theorem FsIn.kept {L : Nat → Lab} {B : Int → Option Nat} {mb : Nat} {S : Nat → Prop} {w w' : World} {f : Nat} {T : FsP} {K : Nat → Prop} (h : FsIn L B mb S w f T) (hk : Kept K w w') (hs : ∀ k, S k → ¬ K k) : FsIn L B mb S w' f T := by
  have key : ∀ k x, L k = x → x ≠ .no → ¬ K k := fun k x e hx => hs k (h.own k (fun y ey => by rw [← ey, e]; exact hx)).1
  refine ⟨h.ok, hk.obj h.obj (key f .fs h.labf (by simp)), h.labf, h.labm, MapF.kept h.tab hk (key mb .tab h.labm (by simp)), h.dom, ?_, fun k hk' => ⟨(h.own k hk').1, Nat.lt_of_lt_of_le (h.own k hk').2 hk.size⟩⟩
  intro i n b hn hb
  obtain ⟨m, a, c, qs, hq⟩ := h.node i n b hn hb
  exact ⟨m, a, c, qs, hq.kept hk (fun k e => key k _ e (by simp)) (fun k e => key k _ e (by simp)) (fun k e => key k _ e (by simp)) (fun k e => key k _ e (by simp))⟩
theorem FsSt.kept {S : Nat → Prop} {w w' : World} {f : Nat} {T : FsP} {K : Nat → Prop} (h : FsSt S w f T) (hk : Kept K w w') (hs : ∀ k, S k → ¬ K k) : FsSt S w' f T := by
  obtain ⟨L, B, mb, h⟩ := h
  exact ⟨L, B, mb, h.kept hk hs⟩
theorem FsSt.keptNo {S : Nat → Prop} {w w' : World} {f : Nat} {T : FsP} (h : FsSt S w f T) (hk : Kept NoB w w') : FsSt S w' f T := h.kept hk (fun _ _ e => e)
def Grow (S : Nat → Prop) (w w' : World) : Nat → Prop := fun k => S k ∨ (w.heap.size ≤ k ∧ k < w'.heap.size)

theorem FsIn.cells {L : Nat → Lab} {B : Int → Option Nat} {mb : Nat} {S : Nat → Prop} {w : World} {f : Nat} {T : FsP} (h : FsIn L B mb S w f T) :
    w.cell? ⟨f, 0, none⟩ = some (.map (some mb)) ∧ w.cell? ⟨f, 1, none⟩ = some (.int .i64 T.next) ∧ w.cell? ⟨f, 2, none⟩ = some (.int .i64 T.quota) ∧ w.cell? ⟨f, 3, none⟩ = some (.int .i64 T.used) ∧ w.cell? ⟨f, 4, none⟩ = some (.int .i64 T.clock) := by
  have h0 := h.obj
  exact ⟨by rw [obj_cell h0]; rfl, by rw [obj_cell h0]; rfl, by rw [obj_cell h0]; rfl, by rw [obj_cell h0]; rfl, by rw [obj_cell h0]; rfl⟩
theorem FsIn.keptNo {L : Nat → Lab} {B : Int → Option Nat} {mb : Nat} {S : Nat → Prop} {w w' : World} {f : Nat} {T : FsP} (h : FsIn L B mb S w f T) (hk : Kept NoB w w') : FsIn L B mb S w' f T := h.kept hk (fun _ _ e => e)

/-! ### what only reads -/
end Go.Proofs.YtjjgadanobeamaaGreatDoor

namespace Go.Proofs.YtjjgadanobeamaaGreatDoor
open Go.RowKit
set_option linter.unusedVariables false
set_option linter.unusedSimpArgs false
set_option maxRecDepth 20000

set_option maxHeartbeats 2000000 in
theorem search_after (n : Nat) (cb : Array Value) (p : Nat → Bool) (w : World) (hn : n ≤ 1099511627776) (hmono : ∀ a b, a ≤ b → b < n → p a = true → p b = true)
    (hf : ∀ W i, Kept NoB w W → i < n → Calls Tryz.prog 48 (#[.int .i64 (i : Int)] ++ cb) W fun e w' => e = .returned (.bool (p i)) ∧ Kept NoB W w') :
    Calls Tryz.prog 35 #[.int .i64 (n : Int), .func (.func 48) #[] cb] w fun e w' => ∃ i : Nat, e = .returned (.int .i64 (i : Int)) ∧ i ≤ n ∧ (∀ k, k < i → p k = false) ∧ (∀ k, i ≤ k → k < n → p k = true) ∧ Kept NoB w w' := by
  have HF := Lib.hid hf; have HM := Lib.hid hmono
  clear hf hmono
  go_enter Tryz.func35, Tryz.ntmps35
  go_wp2
  go_loopw [5, 6, 7, 11] (fun v5 v6 _v7 _v11 wr => ∃ i j : Nat, v5 = .int .i64 (i : Int) ∧ v6 = .int .i64 (j : Int) ∧ i ≤ j ∧ j ≤ n ∧ Hid ((∀ k, k < i → p k = false) ∧ (∀ k, j ≤ k → k < n → p k = true) ∧ Kept NoB w wr)) (fun v5 v6 _ _ _ => (intOf v6).toNat - (intOf v5).toNat)
  case atStart => exact ⟨0, n, rfl, rfl, by omega, by omega, Lib.hid ⟨fun k hk => by omega, fun k h1 h2 => by omega, Kept.refl _ _⟩⟩
  case round =>
    obtain ⟨i, j, rfl, rfl, hij, hjn, HS⟩ := hrel
    by_cases hlt : (i : Int) < (j : Int)
    · obtain ⟨h, hh⟩ : ∃ h : Nat, h = (i + j) / 2 := ⟨_, rfl⟩
      have hh1 : i ≤ h := by omega
      have hh2 : h < j := by omega
      have hh3 : ((i : Int) + (j : Int)) / 2 = (h : Int) := by omega
      have HH := Lib.hid hh3
      clear hh hh3
      go_upto_region 4 with fail
      rw [HH.out]
      have HC := Lib.hid (HF.out wr h HS.out.2.2 (by omega))
      obtain ⟨q, hq⟩ : ∃ q, q = p h := ⟨_, rfl⟩
      rw [← hq] at HC
      have HQ := Lib.hid hq
      clear hq
      cases q
      · go_wp2_with (go_at_call 48; fail)
        refine HC.out.mono ?_
        rintro e w2 ⟨rfl, hk2⟩
        have HK := Lib.hid (HS.out.2.2.trans hk2)
        clear hk2
        go_wp2
        go_roundw
        case rel => exact ⟨h + 1, j, by go_num, rfl, by omega, hjn, Lib.hid ⟨(fun k hk => by
          cases e : p k with
          | false => rfl
          | true =>
            have := HM.out k h (by omega) (by omega) e
            rw [← HQ.out] at this
            cases this), HS.out.2.1, HK.out⟩⟩
        case measure => simp [intOf]; omega
      · go_wp2_with (go_at_call 48; fail)
        refine HC.out.mono ?_
        rintro e w2 ⟨rfl, hk2⟩
        have HK := Lib.hid (HS.out.2.2.trans hk2)
        clear hk2
        go_wp2
        go_roundw
        case rel => exact ⟨i, h, rfl, by go_num, hh1, by omega, Lib.hid ⟨HS.out.1, fun k h1 h2 => HM.out h k h1 h2 HQ.out.symm, HK.out⟩⟩
        case measure => simp [intOf]; omega
    · have hij2 : j = i := by omega
      go_wp2
      go_ret
      exact ⟨i, rfl, by omega, HS.out.1, fun k h1 h2 => HS.out.2.1 k (by omega) h2, HS.out.2.2⟩
set_option maxHeartbeats 2000000 in
theorem search_put (n : Nat) (cb : Array Value) (p : Nat → Bool) (w : World) (hn : n ≤ 1099511627776) (hmono : ∀ a b, a ≤ b → b < n → p a = true → p b = true)
    (hf : ∀ W i, Kept NoB w W → i < n → Calls Tryz.prog 36 (#[.int .i64 (i : Int)] ++ cb) W fun e w' => e = .returned (.bool (p i)) ∧ Kept NoB W w') :
    Calls Tryz.prog 35 #[.int .i64 (n : Int), .func (.func 36) #[] cb] w fun e w' => ∃ i : Nat, e = .returned (.int .i64 (i : Int)) ∧ i ≤ n ∧ (∀ k, k < i → p k = false) ∧ (∀ k, i ≤ k → k < n → p k = true) ∧ Kept NoB w w' := by
  have HF := Lib.hid hf; have HM := Lib.hid hmono
  clear hf hmono
  go_enter Tryz.func35, Tryz.ntmps35
  go_wp2
  go_loopw [5, 6, 7, 11] (fun v5 v6 _v7 _v11 wr => ∃ i j : Nat, v5 = .int .i64 (i : Int) ∧ v6 = .int .i64 (j : Int) ∧ i ≤ j ∧ j ≤ n ∧ Hid ((∀ k, k < i → p k = false) ∧ (∀ k, j ≤ k → k < n → p k = true) ∧ Kept NoB w wr)) (fun v5 v6 _ _ _ => (intOf v6).toNat - (intOf v5).toNat)
  case atStart => exact ⟨0, n, rfl, rfl, by omega, by omega, Lib.hid ⟨fun k hk => by omega, fun k h1 h2 => by omega, Kept.refl _ _⟩⟩
  case round =>
    obtain ⟨i, j, rfl, rfl, hij, hjn, HS⟩ := hrel
    by_cases hlt : (i : Int) < (j : Int)
    · obtain ⟨h, hh⟩ : ∃ h : Nat, h = (i + j) / 2 := ⟨_, rfl⟩
      have hh1 : i ≤ h := by omega
      have hh2 : h < j := by omega
      have hh3 : ((i : Int) + (j : Int)) / 2 = (h : Int) := by omega
      have HH := Lib.hid hh3
      clear hh hh3
      go_upto_region 4 with fail
      rw [HH.out]
      have HC := Lib.hid (HF.out wr h HS.out.2.2 (by omega))
      obtain ⟨q, hq⟩ : ∃ q, q = p h := ⟨_, rfl⟩
      rw [← hq] at HC
      have HQ := Lib.hid hq
      clear hq
      cases q
      · go_wp2_with (go_at_call 36; fail)
        refine HC.out.mono ?_
        rintro e w2 ⟨rfl, hk2⟩
        have HK := Lib.hid (HS.out.2.2.trans hk2)
        clear hk2
        go_wp2
        go_roundw
        case rel => exact ⟨h + 1, j, by go_num, rfl, by omega, hjn, Lib.hid ⟨(fun k hk => by
          cases e : p k with
          | false => rfl
          | true =>
            have := HM.out k h (by omega) (by omega) e
            rw [← HQ.out] at this
            cases this), HS.out.2.1, HK.out⟩⟩
        case measure => simp [intOf]; omega
      · go_wp2_with (go_at_call 36; fail)
        refine HC.out.mono ?_
        rintro e w2 ⟨rfl, hk2⟩
        have HK := Lib.hid (HS.out.2.2.trans hk2)
        clear hk2
        go_wp2
        go_roundw
        case rel => exact ⟨i, h, rfl, by go_num, hh1, by omega, Lib.hid ⟨HS.out.1, fun k h1 h2 => HM.out h k h1 h2 HQ.out.symm, HK.out⟩⟩
        case measure => simp [intOf]; omega
    · have hij2 : j = i := by omega
      go_wp2
      go_ret
      exact ⟨i, rfl, by omega, HS.out.1, fun k h1 h2 => HS.out.2.1 k (by omega) h2, HS.out.2.2⟩
end Go.Proofs.YtjjgadanobeamaaGreatDoor

namespace Go.Proofs.YtjjgadanobeamaaGreatDoor
open Go.RowKit
set_option linter.unusedVariables false
set_option linter.unusedSimpArgs false
set_option maxRecDepth 20000

def RdD (w : World) (ao : Option Addr) (l : List Fp) : Prop :=
  ∀ i (hi : i < l.length), ∃ (b off : Nat) (bo : Option Addr) (bc : Nat), ao = some ⟨b, off, none⟩ ∧ w.cell? ⟨b, off + i * 2, none⟩ = some (.int .i64 l[i].1) ∧
    w.cell? ⟨b, off + (i * 2 + 1), none⟩ = some (.slice bo l[i].2.length bc) ∧ l[i].2.length ≤ bc ∧ bc ≤ maxLen
theorem RdD.kept {w w' : World} {ao : Option Addr} {l : List Fp} (h : RdD w ao l) (hk : Kept NoB w w') : RdD w' ao l := by
  intro i hi
  obtain ⟨b, off, bo, bc, h1, h2, h3, h4⟩ := h i hi
  exact ⟨b, off, bo, bc, h1, hk.cell h2, hk.cell h3, h4⟩

set_option maxHeartbeats 1000000 in
theorem end_any (z : Int) (n : Nat) (bo : Option Addr) (bc : Nat) (w : World) (hz : 0 ≤ z ∧ z + (n : Int) ≤ 4611686018427387904) :
    Calls Tryz.prog 34 #[.agg #[.int .i64 z, .slice bo n bc]] w fun e w' => e = .returned (.int .i64 (z + (n : Int))) ∧ w' = w.alloc (.cells #[.int .i64 z, .slice bo n bc] 69) := by
  go_enter Tryz.func34, Tryz.ntmps34
  go_wp2
  go_ret
  exact ⟨rfl, rfl⟩

set_option maxHeartbeats 2000000 in
/-- The closure of after. -/
theorem after1_any (l : List Fp) (hl : OkD l) (a : Option Addr) (c : Nat) (B1 B2 : Nat) (k : Int) (i : Nat) (hi : i < l.length) (w : World) (hr : RdD w a l)
    (h1 : w.cell? ⟨B1, 0, none⟩ = some (.slice a l.length c)) (h2 : w.cell? ⟨B2, 0, none⟩ = some (.int .i64 k)) (hlen : l.length ≤ 1099511627776) :
    Calls Tryz.prog 48 #[.int .i64 (i : Int), .pointer (some ⟨B1, 0, none⟩), .pointer (some ⟨B2, 0, none⟩)] w fun e w' => e = .returned (.bool (decide (k < endP l[i]))) ∧ Kept NoB w w' := by
  obtain ⟨b, off, bo, bc, rfl, c0, c1, q1, q2⟩ := hr i hi
  obtain ⟨n, hn⟩ : ∃ n, n = l.length := ⟨_, rfl⟩
  rw [← hn] at h1 hi hlen
  have hp := hl.each l[i] (List.getElem_mem (by rw [← hn]; exact hi))
  obtain ⟨z, hz⟩ : ∃ z, z = l[i].1 := ⟨_, rfl⟩
  obtain ⟨m, hm⟩ : ∃ m, m = l[i].2.length := ⟨_, rfl⟩
  have hE : endP l[i] = z + (m : Int) := by rw [hz, hm]; rfl
  rw [hE]
  have hz0 : 0 ≤ z := by rw [hz]; exact hp.1
  have hz1 : z + (m : Int) ≤ 1099511627776 := by rw [← hE]; exact hp.2.2
  rw [← hz] at c0
  rw [← hm] at c1 q1
  rw [show off + (i * 2 + 1) = off + i * 2 + 1 by omega] at c1
  have HE : Hid (∀ W, Calls Tryz.prog 34 #[.agg #[.int .i64 z, .slice bo m bc]] W fun e w' => e = .returned (.int .i64 (z + (m : Int))) ∧ Kept NoB W w') := Lib.hid (fun W => (end_any z m bo bc W ⟨hz0, by omega⟩).mono (by rintro e w' ⟨rfl, rfl⟩; exact ⟨rfl, (Kept.refl NoB W).alloc _⟩))
  have D0 : ∀ W, Kept NoB w W → W.cell? ⟨b, off + i * 2, none⟩ = some (.int .i64 z) := fun W hk => hk.cell c0
  have D1 : ∀ W, Kept NoB w W → W.cell? ⟨b, off + i * 2 + 1, none⟩ = some (.slice bo m bc) := fun W hk => hk.cell c1
  have D2 : ∀ W, Kept NoB w W → W.cell? ⟨B1, 0, none⟩ = some (.slice (some ⟨b, off, none⟩) n c) := fun W hk => hk.cell h1
  have D3 : ∀ W, Kept NoB w W → W.cell? ⟨B2, 0, none⟩ = some (.int .i64 k) := fun W hk => hk.cell h2
  clear hE hz hm hp hr hn hl c0 c1 h1 h2
  go_enter Tryz.func48, Tryz.ntmps48
  go_upto_region 1 with fail
  go_region_held3 (fun W => Kept NoB w W) (first | assumption | exact Kept.drew (Kept.refl _ _) | exact Kept.drew (by assumption) | exact Kept.trans (by assumption) hkn) ((go_at_call 34; ((with_reducible refine (HE.out _).mono ?_); rintro e wn ⟨rfl, hkn⟩)))
  have hkw : Kept NoB w wn := by assumption
  have HKw := Lib.hid hkw
  clear hkw hkn
  go_wp2
  go_ret
  exact ⟨rfl, HKw.out⟩

theorem fcells_len (qs : List FpQ) : (fcells qs).length = qs.length * 2 := by
  induction qs with
  | nil => rfl
  | cons p r ih => simp [fcells] at ih ⊢; omega
theorem fcells_at : ∀ (qs : List FpQ) (i : Nat) (h : i < qs.length), (fcells qs)[i * 2]? = some (.int .i64 qs[i].1.1) ∧ (fcells qs)[i * 2 + 1]? = some (.slice qs[i].2.1 qs[i].1.2.length qs[i].2.2) := by
  intro qs
  induction qs with
  | nil => intro i hi; simp at hi
  | cons p r ih =>
    intro i hi
    have e : fcells (p :: r) = .int .i64 p.1.1 :: .slice p.2.1 p.1.2.length p.2.2 :: fcells r := by simp [fcells]
    rw [e]
    cases i with
    | zero => exact ⟨rfl, rfl⟩
    | succ i =>
      have hi' : i < r.length := by simpa using hi
      obtain ⟨h1, h2⟩ := ih i hi'
      rw [show (i + 1) * 2 = i * 2 + 1 + 1 by omega]
      refine ⟨?_, ?_⟩
      · simpa using h1
      · rw [List.getElem?_cons_succ, List.getElem?_cons_succ]; simpa using h2
theorem DatSt.cap {L : Nat → Lab} {i : Int} {w : World} {a : Option Addr} {l c : Nat} {qs : List FpQ} (h : DatSt L i w a l c qs) : l ≤ c ∧ c ≤ maxLen ∧ (a = none → l = 0 ∧ c = 0) := by
  rcases h.own.2 with ⟨hv, hz⟩ | ⟨g, cc, cur, hv, _, _, h1, h2, _⟩
  · simp at hv
    obtain ⟨rfl, rfl, rfl⟩ := hv
    exact ⟨Nat.le_refl _, Nat.zero_le _, fun _ => ⟨rfl, rfl⟩⟩
  · simp at hv
    obtain ⟨rfl, rfl⟩ := hv
    exact ⟨h1, h2, fun e => by cases e⟩
theorem DatSt.cells {L : Nat → Lab} {i : Int} {w : World} {a : Option Addr} {l c : Nat} {qs : List FpQ} (h : DatSt L i w a l c qs) (h0 : 0 < l) :
    ∃ g cur, a = some ⟨g, 0, none⟩ ∧ w.heap[g]? = some (.cells cur 69 (0, 0)) ∧ cur.size = c * 2 ∧ cur.toList.take (l * 2) = fcells qs ∧ L g = .row i := by
  rcases h.own.2 with ⟨hv, hz⟩ | ⟨g, cc, cur, hv, _, hg, h1, h2, h3, h4⟩
  · omega
  · simp at hv
    obtain ⟨rfl, rfl⟩ := hv
    exact ⟨g, cur, rfl, hg, h3, h4, h.lab g (by simp [Value.ownBlock])⟩
theorem DatSt.rd {L : Nat → Lab} {i : Int} {w : World} {a : Option Addr} {l c : Nat} {qs : List FpQ} (h : DatSt L i w a l c qs) : RdD w a (qs.map Prod.fst) := by
  intro j hj
  have hj' : j < qs.length := by simpa using hj
  have hl := h.len
  obtain ⟨g, cur, rfl, hg, h3, h4, _⟩ := h.cells (by omega)
  obtain ⟨e1, e2⟩ := fcells_at qs j hj'
  have hown := h.each qs[j] (List.getElem_mem hj')
  obtain ⟨k1, k2⟩ := own_cap hown
  have hcur : ∀ (x : Nat) (v : Value), (fcells qs)[x]? = some v → cur[x]? = some v := by
    intro x v hx
    rw [← h4] at hx
    rw [List.getElem?_take] at hx
    split at hx
    · simpa using hx
    · cases hx
  refine ⟨g, 0, qs[j].2.1, qs[j].2.2, rfl, ?_, ?_, ?_, k2⟩
  · rw [Nat.zero_add, obj_cell hg, hcur _ _ e1]; simp
  · rw [Nat.zero_add, obj_cell hg, hcur _ _ e2]; simp
  · simpa using k1
theorem ahead_count (l : List Fp) (h : OkD l) (k : Int) (n : Nat) (hn : n ≤ l.length) (h1 : ∀ i (hi : i < l.length), i < n → ¬ k < endP l[i]) (h2 : ∀ i (hi : i < l.length), n ≤ i → k < endP l[i]) : n = (aheadP l (k + 1)).length := by
  unfold aheadP
  induction l generalizing n with
  | nil => simp at hn; subst hn; rfl
  | cons p t ih =>
    have ht : OkD t := ⟨fun q hq => h.each q (List.mem_cons_of_mem _ hq), (List.pairwise_cons.1 h.apart).2⟩
    rw [List.takeWhile_cons]
    cases n with
    | zero =>
      have := h2 0 (by simp) (by omega)
      simp only [List.getElem_cons_zero] at this
      rw [if_neg (by simp; omega)]
      rfl
    | succ n =>
      have := h1 0 (by simp) (by omega)
      simp only [List.getElem_cons_zero] at this
      rw [if_pos (by simp; omega)]
      simp only [List.length_cons]
      rw [← ih ht n (by simpa using hn) (fun i hi hin => by have := h1 (i + 1) (by simpa using hi) (by omega); simpa using this) (fun i hi hin => by have := h2 (i + 1) (by simpa using hi) (by omega); simpa using this)]
theorem okD_mono {l : List Fp} (h : OkD l) {i j : Nat} (hi : i < l.length) (hj : j < l.length) (hij : i ≤ j) : endP l[i] ≤ endP l[j] := by
  rcases Nat.lt_or_ge i j with hlt | hge
  · have := List.pairwise_iff_getElem.1 h.apart i j hi hj hlt
    unfold endP at *; omega
  · have : i = j := by omega
    subst this; exact Int.le_refl _
set_option maxHeartbeats 1000000 in
/-- How many pieces end no later than k. -/
theorem after_any (l : List Fp) (hl : OkD l) (a : Option Addr) (c : Nat) (k : Int) (w : World) (hr : RdD w a l) (hc : l.length ≤ c) (hcm : c ≤ maxLen) (hlen : l.length ≤ 1099511627776) (hk : -4611686018427387904 ≤ k ∧ k ≤ 4611686018427387904) :
    Calls Tryz.prog 31 #[.slice a l.length c, .int .i64 k] w fun e w' => e = .returned (.int .i64 ((aheadP l (k + 1)).length : Int)) ∧ Kept NoB w w' := by
  obtain ⟨w1, hw1⟩ : ∃ w1, w1 = (w.alloc (.cells #[.slice a l.length c] 46)).alloc (.cells #[.int .i64 k] 3) := ⟨_, rfl⟩
  have hk1 : Kept NoB w w1 := by rw [hw1]; exact ((Kept.refl NoB w).alloc _).alloc _
  have b1 : w1.cell? ⟨w.heap.size, 0, none⟩ = some (.slice a l.length c) := by
    rw [hw1]; exact ((Kept.refl NoB _).alloc _).cell (cell_new 0 rfl)
  have b2 : w1.cell? ⟨w.heap.size + 1, 0, none⟩ = some (.int .i64 k) := by
    rw [hw1]; exact cell_new 0 (by simp)
  have hS := search_after l.length #[.pointer (some ⟨w.heap.size, 0, none⟩), .pointer (some ⟨w.heap.size + 1, 0, none⟩)] (fun i => if hi : i < l.length then decide (k < endP l[i]) else true) w1 hlen
    (fun x y hxy hy hx => by
      have hxl : x < l.length := by omega
      simp only [hxl, hy, dif_pos, decide_eq_true_eq] at hx ⊢
      have := okD_mono hl hxl hy hxy
      omega)
    (fun W i hkW hi => by
      have := after1_any l hl a c w.heap.size (w.heap.size + 1) k i hi W ((hr.kept hk1).kept hkW) (hkW.cell b1) (hkW.cell b2) hlen
      simp only [hi, dif_pos]
      exact this)
  have hA : ∀ n, n ≤ l.length → (∀ j, j < n → (if hi : j < l.length then decide (k < endP l[j]) else true) = false) → (∀ j, n ≤ j → j < l.length → (if hi : j < l.length then decide (k < endP l[j]) else true) = true) → n = (aheadP l (k + 1)).length := by
    intro n hn h1 h2
    refine ahead_count l hl k n hn (fun i hi hin => ?_) (fun i hi hin => ?_)
    · have := h1 i hin; simp only [hi, dif_pos, decide_eq_false_iff_not] at this; exact this
    · have := h2 i hin hi; simp only [hi, dif_pos, decide_eq_true_eq] at this; exact this
  have hS2 : Calls Tryz.prog 35 #[.int .i64 (l.length : Int), .func (.func 48) #[] #[.pointer (some ⟨w.heap.size, 0, none⟩), .pointer (some ⟨w.heap.size + 1, 0, none⟩)]] w1 fun e w' => e = .returned (.int .i64 ((aheadP l (k + 1)).length : Int)) ∧ Kept NoB w1 w' := by
    refine hS.mono ?_
    rintro e w' ⟨i, rfl, h1, h2, h3, h4⟩
    exact ⟨by rw [hA i h1 h2 h3], h4⟩
  have HS := Lib.hid hS2; have HW := Lib.hid hw1; have HK1 := Lib.hid hk1
  obtain ⟨A, hAe⟩ : ∃ A, A = (aheadP l (k + 1)).length := ⟨_, rfl⟩
  rw [← hAe] at HS ⊢
  obtain ⟨n, hn⟩ : ∃ n, n = l.length := ⟨_, rfl⟩
  rw [← hn] at HS HW hc b1 ⊢
  clear hS hS2 hw1 hk1 b2 hA hr hAe hn hl hlen
  go_enter Tryz.func31, Tryz.ntmps31
  go_upto_region 1 with fail
  rw [← HW.out]
  go_wp2_with fail
  refine HS.out.mono ?_
  rintro e w2 ⟨rfl, hk2⟩
  go_wp2
  go_ret
  exact ⟨rfl, HK1.out.trans hk2⟩
end Go.Proofs.YtjjgadanobeamaaGreatDoor
