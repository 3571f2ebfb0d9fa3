/-
  match: best, Longest.
  match.Longest.
  match: chains.
-/
import Derived.Test.YtfmjfgmbjdhogaaGreatDoorMs36
namespace Go.Proofs.YtfmjfgmbjdhogaaGreatDoor
open Go.RowKit
set_option linter.unusedVariables false
set_option linter.unusedSimpArgs false
set_option maxRecDepth 20000

def bestC (g o N c a m n d : Nat) : Array Value := #[.slice (some ⟨g, o, none⟩) N c, .int .i64 (a : Int), .int .i64 (m : Int), .int .i64 (n : Int), .int .i64 (d : Int)]
/-- What was found so far. -/
def BestAt (w : World) (r g o N c a m n d : Nat) : Prop := w.heap[r]? = some (.cells (bestC g o N c a m n d) 180 (0, 0))
theorem BestAt.cells {w : World} {r g o N c a m n d : Nat} (h : BestAt w r g o N c a m n d) :
    w.cell? ⟨r, 0, none⟩ = some (.slice (some ⟨g, o, none⟩) N c) ∧ w.cell? ⟨r, 1, none⟩ = some (.int .i64 (a : Int)) ∧ w.cell? ⟨r, 2, none⟩ = some (.int .i64 (m : Int)) ∧ w.cell? ⟨r, 3, none⟩ = some (.int .i64 (n : Int)) ∧ w.cell? ⟨r, 4, none⟩ = some (.int .i64 (d : Int)) :=
  ⟨obj_cell h 0, obj_cell h 1, obj_cell h 2, obj_cell h 3, obj_cell h 4⟩
theorem BestAt.kept {w w' : World} {r g o N c a m n d : Nat} (h : BestAt w r g o N c a m n d) (hk : Kept NoB w w') : BestAt w' r g o N c a m n d := hk.obj h (fun h => h)
theorem infoBest : (Tryz.prog.info? 180).map (·.size) = some 5 := by kernel_rfl
set_option maxHeartbeats 1000000 in
theorem newbest_any (ao : Option Addr) (N c a : Nat) (w : World) (ha : a ≤ N) (hN : N ≤ 9223372036854775807) :
    Calls Tryz.prog 116 #[.slice ao N c, .int .i64 (a : Int)] w fun e w' => e = .returned (.agg #[.slice ao N c, .int .i64 (a : Int), .int .i64 ((min 258 (N - a) : Nat) : Int), .int .i64 2, .int .i64 0]) ∧ Kept NoB w w' := by
  by_cases h : (N : Int) - (a : Int) < 258
  · have HX : Hid ((N : Int) - (a : Int) = ((min 258 (N - a) : Nat) : Int)) := Lib.hid (by omega)
    go_enter Tryz.func116, Tryz.ntmps116
    go_wp2
    refine bodyPost_ret (results_cell_row rfl _ _ w.heap.size 180 _ (0, 0) _ rfl (heap_alloc_new _ _) Tryz.underlying180 rfl infoBest) rfl ?_
    exact ⟨by rw [HX.out], (Kept.refl NoB w).alloc _⟩
  · have HX : Hid ((258 : Int) = ((min 258 (N - a) : Nat) : Int)) := Lib.hid (by omega)
    go_enter Tryz.func116, Tryz.ntmps116
    go_wp2
    refine bodyPost_ret (results_cell_row rfl _ _ w.heap.size 180 _ (0, 0) _ rfl (heap_alloc_new _ _) Tryz.underlying180 rfl infoBest) rfl ?_
    exact ⟨by rw [← HX.out], (Kept.refl NoB w).alloc _⟩
set_option maxHeartbeats 1000000 in
theorem bfull_any (r g o N c a m n d : Nat) (w : World) (hb : BestAt w r g o N c a m n d) :
    Calls Tryz.prog 141 #[.pointer (some ⟨r, 0, none⟩)] w fun e w' => e = .returned (.bool (decide (m ≤ n))) ∧ Kept NoB w w' := by
  obtain ⟨c0, c1, c2, c3, c4⟩ := hb.cells
  have hd : decide ((m : Int) ≤ (n : Int)) = decide (m ≤ n) := by simp
  clear hb
  go_enter Tryz.func141, Tryz.ntmps141
  go_wp2
  go_quiet (fail)
  go_wp2
  go_ret
  exact ⟨by first | rfl | (rw [hd]; rfl), (Kept.refl NoB w).drewN _⟩
set_option maxHeartbeats 1000000 in
theorem answer_any (r g o N c a m n d : Nat) (w : World) (hb : BestAt w r g o N c a m n d) :
    Calls Tryz.prog 119 #[.pointer (some ⟨r, 0, none⟩)] w fun e w' => e = .returned (.tuple #[.int .i64 (if d = 0 then 0 else (n : Int)), .int .i64 (d : Int)]) ∧ Kept NoB w w' := by
  obtain ⟨c0, c1, c2, c3, c4⟩ := hb.cells
  clear hb
  by_cases hd : d = 0
  · rw [if_pos hd]
    have y1 : ((d : Int) == 0) = true := by rw [hd]; rfl
    subst hd
    go_enter Tryz.func119, Tryz.ntmps119
    go_wp2
    go_ret2
    exact ⟨rfl, Kept.refl NoB w⟩
  · rw [if_neg hd]
    have y1 : ((d : Int) == 0) = false := by simp; omega
    go_enter Tryz.func119, Tryz.ntmps119
    go_wp2
    go_quiet (fail)
    go_wp2
    go_ret2
    exact ⟨rfl, (Kept.refl NoB w).drewN _⟩
/-- One place is tried. -/
def TryP (w : World) (r g o N c a m : Nat) (L : List UInt8) (n d from_ : Nat) (e : Ending) (w' : World) : Prop :=
  e = .returned (.tuple #[]) ∧ Kept (OneB r) w w' ∧ BestAt w' r g o N c a m (if n < shr L from_ a m then shr L from_ a m else n) (if n < shr L from_ a m then a - from_ else d)
set_option maxRecDepth 100000 in
set_option maxHeartbeats 4000000 in
theorem try_any (r g o N c a m n d f : Nat) (L : List UInt8) (w : World) (hb : BestAt w r g o N c a m n d) (hr : RdB w g o L 0 N) (hN : N = L.length) (hc : N ≤ c) (hcm : c ≤ 9223372036854775807) (hm : m = min 258 (N - a)) (hnm : n < m) (hf : f < a) (haN : a < N) (hT : DeB w) :
    Calls Tryz.prog 142 #[.pointer (some ⟨r, 0, none⟩), .int .i64 (f : Int)] w (TryP w r g o N c a m L n d f) := by
  have HB := Lib.hid hb; have HR := Lib.hid hr; have HT := Lib.hid hT; have HN := Lib.hid hN
  obtain ⟨c0, c1, c2, c3, c4⟩ := hb.cells
  have hfn := hr (f + n) (by omega)
  have han := hr (a + n) (by omega)
  rw [Nat.zero_add] at hfn han
  obtain ⟨x, hx⟩ : ∃ x, x = L.getD (f + n) 0 := ⟨_, rfl⟩
  obtain ⟨y, hy⟩ : ∃ y, y = L.getD (a + n) 0 := ⟨_, rfl⟩
  rw [← hx] at hfn
  rw [← hy] at han
  obtain ⟨fn, hfn2⟩ : ∃ fn, fn = f + n := ⟨_, rfl⟩
  obtain ⟨an, han2⟩ : ∃ an, an = a + n := ⟨_, rfl⟩
  rw [← hfn2] at hfn
  rw [← han2] at han
  have i1 : (f : Int) + (n : Int) = (fn : Int) := by omega
  have i2 : (a : Int) + (n : Int) = (an : Int) := by omega
  have i3 : (fn : Int) < (N : Int) := by omega
  have i4 : (an : Int) < (N : Int) := by omega
  have hmb : m ≤ 258 := by omega
  have hmN : a + m ≤ N := by omega
  have HSh := Lib.hid (fun W (hk : Kept NoB w W) => shared_any g (o + f) (N - f) (c - f) f (o + a) (N - a) (c - a) a m L W (by have := (hr.kept hk).drop f; rwa [Nat.zero_add] at this) (by have := (hr.kept hk).drop a; rwa [Nat.zero_add] at this) (by omega) (by omega) (by omega) (by omega) hmb (by omega) (by omega) (by omega) (by omega) (hT.kept hk))
  have HIf := Lib.hid (fun k (hk : k ≤ m) => shr_iff L m f a k hk)
  obtain ⟨S, hS⟩ : ∃ S, S = shr L f a m := ⟨_, rfl⟩
  have hSm : S ≤ m := by rw [hS]; exact shr_le L m f a
  unfold TryP
  rw [← hS] at HSh HIf ⊢
  obtain ⟨n2, hn2⟩ : ∃ n2, n2 = (if n < S then S else n) := ⟨_, rfl⟩
  obtain ⟨d2, hd2⟩ : ∃ d2, d2 = (if n < S then a - f else d) := ⟨_, rfl⟩
  rw [← hn2, ← hd2]
  have HN2 := Lib.hid hn2; have HD2 := Lib.hid hd2
  clear hn2 hd2
  have w1 : IntKind.i64.wrap (fn : Int) = (fn : Int) := IntWalk.i64_in _ (by omega)
  have w2 : IntKind.i64.wrap (an : Int) = (an : Int) := IntWalk.i64_in _ (by omega)
  clear hb hr hT hN hS hfn2 han2 hm
  by_cases hxy : x = y
  · clear hx hy
    subst hxy
    have hbb : ((x.toNat : Int) == (x.toNat : Int)) = true := by simp
    have hbn : ((x.toNat : Int) != (x.toNat : Int)) = false := by simp
    go_enter Tryz.func142, Tryz.ntmps142
    go_wp2
    go_quiet (fail)
    have hk1 : Kept NoB w (w.drewN nq) := (Kept.refl NoB w).drewN nq
    obtain ⟨wq, hwq⟩ : ∃ wq, wq = w.drewN nq := ⟨_, rfl⟩
    rw [← hwq] at hk1 ⊢
    have HK1 := Lib.hid hk1
    have g0 : ∀ W, Kept NoB wq W → W.cell? ⟨r, 0, none⟩ = some (.slice (some ⟨g, o, none⟩) N c) := fun W hk => hk.cell (hk1.cell c0)
    have g1 : ∀ W, Kept NoB wq W → W.cell? ⟨r, 1, none⟩ = some (.int .i64 (a : Int)) := fun W hk => hk.cell (hk1.cell c1)
    have g2 : ∀ W, Kept NoB wq W → W.cell? ⟨r, 2, none⟩ = some (.int .i64 (m : Int)) := fun W hk => hk.cell (hk1.cell c2)
    have j1 : (f : Int) ≤ (N : Int) := by omega
    have j2 : (a : Int) ≤ (N : Int) := by omega
    have j3 : ¬ c = f := by omega
    have j4 : ¬ c = a := by omega
    have hk0 := Kept.refl NoB wq
    clear c0 c1 c2 c3 c4 hfn han hwq hk1
    go_wp2_with fail
    go_region_held3 (fun W => Kept NoB wq W) (first | assumption | exact Kept.drew (by assumption) | exact Kept.trans (by assumption) hkn)
      (first
        | (go_at_call 166; ((with_reducible refine (HSh.out _ (HK1.out.trans (by assumption))).mono ?_); rintro e wn ⟨rfl, hkn⟩)))
    all_goals (
      have HKn := Lib.hid (HK1.out.trans (show Kept NoB wq wn by assumption))
      have hbn := HB.out.kept HKn.out
      obtain ⟨b0, b1, b2, b3, b4⟩ := hbn.cells
      have HBn := Lib.hid hbn
      clear hbn g0 g1 g2
      by_cases hSn : n < S
      · have hSi : (n : Int) < (S : Int) := by omega
        have e3 : wn.frozen? ⟨r, 3, none⟩ = false := obj_free HBn.out 3
        have o1 := obj_set HBn.out 3 (.int .i64 (S : Int))
        have e4 : (wn.setCell ⟨r, 3, none⟩ (.int .i64 (S : Int))).frozen? ⟨r, 4, none⟩ = false := obj_free o1 4
        have e5 : (wn.setCell ⟨r, 3, none⟩ (.int .i64 (S : Int))).cell? ⟨r, 4, none⟩ = some (.int .i64 (d : Int)) := obj_cell o1 4
        obtain ⟨dd, hdd⟩ : ∃ dd, dd = a - f := ⟨_, rfl⟩
        have hdi : (a : Int) - (f : Int) = (dd : Int) := by omega
        have o2 := obj_set o1 4 (.int .i64 (dd : Int))
        have HKf := Lib.hid (Kept.setCell (p := ⟨r, 4, none⟩) (Kept.setCell (S := OneB r) (p := ⟨r, 3, none⟩) (HKn.out.mono (fun _ _ h => absurd h (fun h => h))) (.inl rfl) (.int .i64 (S : Int))) (.inl rfl) (.int .i64 (dd : Int)))
        have HBf : Hid (BestAt ((wn.setCell ⟨r, 3, none⟩ (.int .i64 (S : Int))).setCell ⟨r, 4, none⟩ (.int .i64 (dd : Int))) r g o N c a m n2 d2) := Lib.hid (by
          rw [HN2.out, HD2.out, if_pos hSn, if_pos hSn, ← hdd]
          exact o2)
        clear o1 o2 hdd
        go_wp2
        refine bodyPost_end (results_none rfl _ _ _) rfl ?_
        exact ⟨rfl, HKf.out, HBf.out⟩
      · have hSi : ¬ (n : Int) < (S : Int) := by omega
        have HBf : Hid (BestAt wn r g o N c a m n2 d2) := Lib.hid (by
          rw [HN2.out, HD2.out, if_neg hSn, if_neg hSn]
          exact HBn.out)
        go_wp2
        refine bodyPost_end (results_none rfl _ _ _) rfl ?_
        exact ⟨rfl, HKn.out.mono (fun _ _ h => absurd h (fun h => h)), HBf.out⟩)
  · have HF : Hid (¬ n < S) := Lib.hid (fun h => by
      have := (HIf.out (n + 1) (by omega)).1 (by omega) n (by omega)
      rw [← hx, ← hy] at this
      exact hxy this)
    have hne : x.toNat ≠ y.toNat := fun e => hxy (UInt8.toNat_inj.1 e)
    have hbb : ((x.toNat : Int) == (y.toNat : Int)) = false := by simp; omega
    have hbn : ((x.toNat : Int) != (y.toNat : Int)) = true := by simp; omega
    clear hx hy hxy hne
    go_enter Tryz.func142, Tryz.ntmps142
    go_wp2
    have HBf : Hid (BestAt w r g o N c a m n2 d2) := Lib.hid (by
      rw [HN2.out, HD2.out, if_neg HF.out, if_neg HF.out]
      exact HB.out)
    go_quiet (fail)
    go_wp2
    refine bodyPost_ret (results_none rfl _ _ _) rfl ?_
    exact ⟨rfl, ((Kept.refl NoB w).drewN _).mono (fun _ _ h => absurd h (fun h => h)), HBf.out.kept ((Kept.refl NoB w).drewN _)⟩
end Go.Proofs.YtfmjfgmbjdhogaaGreatDoor

namespace Go.Proofs.YtfmjfgmbjdhogaaGreatDoor
open Go.RowKit
set_option linter.unusedVariables false
set_option linter.unusedSimpArgs false

/-- A row of bytes that came in or was made; its block is below n. -/
def RowB (w : World) (n : Nat) (ao : Option Addr) (L : List UInt8) : Prop := 0 < L.length → ∃ g o, ao = some ⟨g, o, none⟩ ∧ g < n ∧ RdB w g o L 0 L.length
theorem RowB.kept {w w' : World} {n : Nat} {ao : Option Addr} {L : List UInt8} (h : RowB w n ao L) (hk : Kept NoB w w') : RowB w' n ao L := fun hl => by
  obtain ⟨g, o, h1, h2, h3⟩ := h hl
  exact ⟨g, o, h1, h2, h3.kept hk⟩
theorem RowB.room {w : World} {n m : Nat} {ao : Option Addr} {L : List UInt8} (h : RowB w n ao L) (hm : n ≤ m) : RowB w m ao L := fun hl => by
  obtain ⟨g, o, h1, h2, h3⟩ := h hl
  exact ⟨g, o, h1, by omega, h3⟩
theorem RdB.keptS {S : Nat → Prop} {w w' : World} {g o p n : Nat} {L : List UInt8} (h : RdB w g o L p n) (hk : Kept S w w') (hs : ¬ S g) : RdB w' g o L p n := fun i hi => by
  have hc := h i hi
  exact (World.cell?_of_block (hk.block _ (World.block_lt_of_cell? w _ hc) hs)).trans hc
theorem DeB.keptS {S : Nat → Prop} {w w' : World} (h : DeB w) (hk : Kept S w w') (hs : ¬ S 1) : DeB w' := fun j hj => by
  have hc := h j hj
  exact (World.cell?_of_block (hk.block _ (World.block_lt_of_cell? w _ hc) hs)).trans hc
theorem BestP.all {c : Nat → Nat} {D D2 n0 n d m : Nat} (h : BestP c D n0 n d) (hD : D ≤ D2) (hm : m ≤ n) (hc : ∀ e, c e ≤ m) : BestP c D2 n0 n d := h.skip hD (fun e _ _ => Nat.le_trans (hc e) hm)
end Go.Proofs.YtfmjfgmbjdhogaaGreatDoor

namespace Go.Proofs.YtfmjfgmbjdhogaaGreatDoor
open Go.RowKit
set_option linter.unusedVariables false
set_option linter.unusedSimpArgs false

def slotN (W key : Nat) : Nat := key * 11400714819323198485 % 18446744073709551616 / 2 ^ (64 - W)
theorem slot_lt (W key : Nat) (h : W ≤ 64) : slotN W key < 2 ^ W := by
  unfold slotN
  rw [Nat.div_lt_iff_lt_mul (Nat.pow_pos (by omega)), ← Nat.pow_add, show W + (64 - W) = 64 by omega]
  exact Nat.mod_lt _ (by omega)
structure ChainP (slot : Nat → Nat) (H na : Nat) (hs bs : List Int) : Prop where
  len : hs.length = H
  head : ∀ s, s < H → hs.getD s 0 = prevN slot s na
  back : ∀ p, p < na → bs.getD p 0 = prevN slot (slot p) p
theorem ChainP.start (slot : Nat → Nat) (H : Nat) (bs : List Int) : ChainP slot H 0 (List.replicate H (-1)) bs :=
  ⟨by simp, fun s hs => by simp [List.getD, hs, prevN], fun p hp => by omega⟩
theorem ChainP.add {slot : Nat → Nat} {H na : Nat} {hs bs : List Int} (h : ChainP slot H na hs bs) (hn : na < bs.length) (hs' : slot na < H) :
    ChainP slot H (na + 1) (hs.set (slot na) (na : Int)) (bs.set na (hs.getD (slot na) 0)) := by
  refine ⟨by simp [h.len], fun s hsH => ?_, fun p hp => ?_⟩
  · rw [prevN]
    by_cases e : slot na = s
    · subst e
      rw [if_pos rfl]
      simp [List.getD, h.len, hs']
    · rw [if_neg e, ← h.head s hsH]
      simp [List.getD, e]
  · by_cases e : p = na
    · subst e
      rw [← h.head (slot p) hs']
      simp [List.getD, hn]
    · rw [← h.back p (by omega)]
      simp [List.getD, show na ≠ p by omega]
set_option maxRecDepth 100000 in
set_option maxHeartbeats 1000000 in
theorem slot_any (B f W key : Nat) (w : World) (hW : 4 ≤ W ∧ W ≤ 16) (hk : key < 18446744073709551616) (c2 : w.cell? ⟨B, f + 2, none⟩ = some (.int .i64 ((64 - W : Nat) : Int))) :
    Calls Tryz.prog 140 #[.pointer (some ⟨B, f, none⟩), .int .u64 (key : Int)] w fun e w' => e = .returned (.int .u64 (slotN W key : Int)) ∧ w' = w := by
  obtain ⟨sh, hsh⟩ : ∃ sh, sh = 64 - W := ⟨_, rfl⟩
  rw [← hsh] at c2
  have hm : IntKind.u64.wrap ((key : Int) * 11400714819323198485) = ((key * 11400714819323198485 % 18446744073709551616 : Nat) : Int) := by rw [IntKind.wrap_u64]; omega
  obtain ⟨M, hM⟩ : ∃ M, M = key * 11400714819323198485 % 18446744073709551616 := ⟨_, rfl⟩
  rw [← hM] at hm
  have hs1 : 48 ≤ sh ∧ sh ≤ 60 := by omega
  have hsl : slotN W key = M / 2 ^ sh := by rw [slotN, hM, hsh]
  rw [hsl]
  clear hsh hM hsl
  go_enter Tryz.func140, Tryz.ntmps140
  go_wp2
  go_ret
  exact ⟨by simp, rfl⟩
/-- A row of places. -/
def PlcAt (w : World) (g : Nat) (zs : List Int) : Prop := w.heap[g]? = some (.cells (zs.map (Value.int .i32)).toArray 21 (0, 0))
theorem PlcAt.cell {w : World} {g : Nat} {zs : List Int} (h : PlcAt w g zs) (i : Nat) (hi : i < zs.length) : w.cell? ⟨g, i, none⟩ = some (.int .i32 (zs.getD i 0)) := by
  rw [obj_cell h i]
  simp [List.getD, hi]
theorem PlcAt.set {w : World} {g : Nat} {zs : List Int} (h : PlcAt w g zs) (i : Nat) (z : Int) : PlcAt (w.setCell ⟨g, i, none⟩ (.int .i32 z)) g (zs.set i z) := by
  have := obj_set h i (.int .i32 z)
  unfold PlcAt
  rw [this]
  congr 2
  simp [List.map_set]
theorem PlcAt.other {w : World} {g k : Nat} {zs : List Int} (h : PlcAt w g zs) (hne : k ≠ g) (i : Nat) (v : Value) : PlcAt (w.setCell ⟨k, i, none⟩ v) g zs :=
  (Below.heap_setCell _ _ _ _ (fun e => hne e.symm)).trans h
theorem PlcAt.keptS {S : Nat → Prop} {w w' : World} {g : Nat} {zs : List Int} (h : PlcAt w g zs) (hk : Kept S w w') (hs : ¬ S g) : PlcAt w' g zs := hk.obj h hs
/-- A chain's head: where its two rows lie, and how far its hash is moved. -/
structure ChAt (w : World) (B f W gh gb : Nat) (H K : Nat) : Prop where
  c0 : w.cell? ⟨B, f, none⟩ = some (.slice (some ⟨gh, 0, none⟩) H H)
  c1 : w.cell? ⟨B, f + 1, none⟩ = some (.slice (some ⟨gb, 0, none⟩) K K)
  c2 : w.cell? ⟨B, f + 2, none⟩ = some (.int .i64 ((64 - W : Nat) : Int))
theorem ChAt.keptS {S : Nat → Prop} {w w' : World} {B f W gh gb H K : Nat} (h : ChAt w B f W gh gb H K) (hk : Kept S w w') (hs : ¬ S B) : ChAt w' B f W gh gb H K := by
  have key : ∀ i v, w.cell? ⟨B, i, none⟩ = some v → w'.cell? ⟨B, i, none⟩ = some v := fun i v hc => (World.cell?_of_block (hk.block _ (World.block_lt_of_cell? w _ hc) hs)).trans hc
  exact ⟨key _ _ h.c0, key _ _ h.c1, key _ _ h.c2⟩
set_option maxRecDepth 100000 in
set_option maxHeartbeats 4000000 in
theorem add_any (B f W gh gb K a key : Nat) (hs bs : List Int) (w : World) (hW : 4 ≤ W ∧ W ≤ 16) (hk : key < 18446744073709551616) (hc : ChAt w B f W gh gb (2 ^ W) K) (hh : PlcAt w gh hs) (hb : PlcAt w gb bs) (hhl : hs.length = 2 ^ W) (hbl : bs.length = K) (hK : K ≤ 32768) (ha : a < K) (hne : gh ≠ gb) (hB1 : gh ≠ B) (hB2 : gb ≠ B)
    (hz : -1 ≤ hs.getD (slotN W key) 0 ∧ hs.getD (slotN W key) 0 ≤ 40000) :
    Calls Tryz.prog 139 #[.pointer (some ⟨B, f, none⟩), .int .i64 (a : Int), .int .u64 (key : Int)] w fun e w' => e = .returned (.tuple #[]) ∧ Kept (TwoB gh gb) w w' ∧ PlcAt w' gh (hs.set (slotN W key) (a : Int)) ∧ PlcAt w' gb (bs.set a (hs.getD (slotN W key) 0)) := by
  have HSl := Lib.hid (slot_any B f W key w hW hk hc.c2)
  have hsl := slot_lt W key (by omega)
  obtain ⟨s, hse⟩ : ∃ s, s = slotN W key := ⟨_, rfl⟩
  obtain ⟨H, hH⟩ : ∃ H, H = 2 ^ W := ⟨_, rfl⟩
  rw [← hse] at HSl hsl hz ⊢
  rw [← hH] at hsl hc hhl
  have hHb : H ≤ 65536 := by rw [hH]; exact (Nat.pow_le_pow_right (by omega) hW.2)
  obtain ⟨c0, c1, c2⟩ := hc
  have hz0 := hh.cell s (by omega)
  obtain ⟨z, hze⟩ : ∃ z, z = hs.getD s 0 := ⟨_, rfl⟩
  rw [← hze] at hz hz0 ⊢
  have HB := Lib.hid hb; have HH := Lib.hid hh; have HBl := Lib.hid hbl; have HHl := Lib.hid hhl
  have kS : ∀ i v W, w.cell? ⟨B, i, none⟩ = some v → Kept (OneB gb) w W → W.cell? ⟨B, i, none⟩ = some v := fun i v W hc hk => (World.cell?_of_block (hk.block _ (World.block_lt_of_cell? w _ hc) (fun e => hB2 (by have : B = gb := e; omega)))).trans hc
  have f0 : ∀ W, Kept (OneB gb) w W → W.cell? ⟨B, f, none⟩ = some (.slice (some ⟨gh, 0, none⟩) H H) := fun W hk => kS f _ W c0 hk
  have f1 : ∀ W, Kept (OneB gb) w W → W.cell? ⟨B, f + 1, none⟩ = some (.slice (some ⟨gb, 0, none⟩) K K) := fun W hk => kS (f + 1) _ W c1 hk
  have f2 : ∀ W, Kept (OneB gb) w W → W.cell? ⟨gh, s, none⟩ = some (.int .i32 z) := fun W hk => (World.cell?_of_block (hk.block _ (World.block_lt_of_cell? w _ hz0) (fun e => hne e))).trans hz0
  have haK : (a : Int) < (K : Int) := by omega
  have hsH : (s : Int) < (H : Int) := by omega
  have hmod : (a : Int) % (K : Int) = (a : Int) := Int.emod_eq_of_lt (by omega) haK
  have hmod2 : (a : Int).tmod (K : Int) = (a : Int) := by rw [Int.tmod_eq_emod_of_nonneg (by omega)]; exact hmod
  have hK0 : ((K : Int) == 0) = false := by simp; omega
  have hK0b : ¬ K = 0 := by omega
  have hwa : IntKind.i32.wrap (a : Int) = (a : Int) := IntWalk.i32_in _ (by omega)
  clear hh hb hse hH hze hhl hbl kS
  go_enter Tryz.func139, Tryz.ntmps139
  go_wp2_with fail
  with_reducible refine HSl.out.mono ?_
  rintro e w1 ⟨rfl, rfl⟩
  go_wp2_with fail
  refine wp_region_noPanic ?_
  refine wp_region_held_drew (S := fun W => Kept (OneB gb) w1 W) (by kernel_rfl) (Kept.drew (Kept.refl _ _)) (fun hHeld => ?_)
  obtain ⟨wd, hwd⟩ : ∃ x, x = w1.drew := ⟨_, rfl⟩
  have hkd : Kept NoB w1 wd := by rw [hwd]; exact Kept.drew (Kept.refl _ _)
  rw [← hwd] at hHeld ⊢
  have hbd : PlcAt wd gb bs := HB.out.keptS hkd (fun h => h)
  have hhd : PlcAt wd gh hs := HH.out.keptS hkd (fun h => h)
  clear hwd
  refine wpAnyH_take (i := 0) (v := ?_) (by rw [List.getElem?_toArray]; rfl) (by kernel_rfl) (by kernel_rfl) (by kernel_rfl) (fun _ _ _ h => h) (Or.inl ⟨by rfl, ?hyq1_⟩) (by assumption) ?restq1_
  case hyq1_ => (intro w hSw; (try dsimp only at hSw); (try have e0 := f0 w hSw); (try have e1 := f1 w hSw); (try have e2 := f2 w hSw); go_simp; (try with_reducible rfl))
  try simp only [Act.put, List.setIfInBounds_toArray, List.set_cons_zero, List.set_cons_succ]
  refine wpAnyH_take (i := 1) (v := ?_) (by rw [List.getElem?_toArray]; rfl) (by kernel_rfl) (by kernel_rfl) (by kernel_rfl) (fun _ _ _ h => h) (Or.inl ⟨by rfl, ?hyq2_⟩) (by assumption) ?restq2_
  case hyq2_ => (intro w hSw; (try dsimp only at hSw); (try have e0 := f0 w hSw); (try have e1 := f1 w hSw); (try have e2 := f2 w hSw); go_simp; (try with_reducible rfl))
  try simp only [Act.put, List.setIfInBounds_toArray, List.set_cons_zero, List.set_cons_succ]
  refine wpAnyH_take (i := 2) (v := ?_) (by rw [List.getElem?_toArray]; rfl) (by kernel_rfl) (by kernel_rfl) (by kernel_rfl) (fun _ _ _ h => h) (Or.inl ⟨by rfl, ?hyq3_⟩) (by assumption) ?restq3_
  case hyq3_ => (intro w hSw; (try dsimp only at hSw); (try have e0 := f0 w hSw); (try have e1 := f1 w hSw); (try have e2 := f2 w hSw); go_simp; (try with_reducible rfl))
  try simp only [Act.put, List.setIfInBounds_toArray, List.set_cons_zero, List.set_cons_succ]
  refine wpAnyH_take (i := 3) (v := ?_) (by rw [List.getElem?_toArray]; rfl) (by kernel_rfl) (by kernel_rfl) (by kernel_rfl) (fun _ _ _ h => h) (Or.inl ⟨by rfl, ?hyq4_⟩) (by assumption) ?restq4_
  case hyq4_ => (intro w hSw; (try dsimp only at hSw); (try have e0 := f0 w hSw); (try have e1 := f1 w hSw); (try have e2 := f2 w hSw); go_simp; (try with_reducible rfl))
  try simp only [Act.put, List.setIfInBounds_toArray, List.set_cons_zero, List.set_cons_succ]
  refine wpAnyH_take (i := 4) (v := ?_) (by rw [List.getElem?_toArray]; rfl) (by kernel_rfl) (by kernel_rfl) (by kernel_rfl) (fun _ _ _ h => h) (Or.inl ⟨by rfl, ?hyq5_⟩) (by assumption) ?restq5_
  case hyq5_ => (intro w hSw; (try dsimp only at hSw); (try have e0 := f0 w hSw); (try have e1 := f1 w hSw); (try have e2 := f2 w hSw); go_simp; (try with_reducible rfl))
  try simp only [Act.put, List.setIfInBounds_toArray, List.set_cons_zero, List.set_cons_succ]
  refine wpAnyH_take (i := 5) (v := ?_) (by rw [List.getElem?_toArray]; rfl) (by kernel_rfl) (by kernel_rfl) (by kernel_rfl) (fun _ _ _ h => h) (Or.inl ⟨by rfl, ?hyq6_⟩) (by assumption) ?restq6_
  case hyq6_ => (intro w hSw; (try dsimp only at hSw); (try have e0 := f0 w hSw); (try have e1 := f1 w hSw); (try have e2 := f2 w hSw); go_simp; (try with_reducible rfl))
  try simp only [Act.put, List.setIfInBounds_toArray, List.set_cons_zero, List.set_cons_succ]
  refine wpAnyH_take (i := 6) (v := ?_) (by rw [List.getElem?_toArray]; rfl) (by kernel_rfl) (by kernel_rfl) (by kernel_rfl) (fun _ _ _ h => h) (Or.inl ⟨by rfl, ?hyq7_⟩) (by assumption) ?restq7_
  case hyq7_ => (intro w hSw; (try dsimp only at hSw); (try have e0 := f0 w hSw); (try have e1 := f1 w hSw); (try have e2 := f2 w hSw); go_simp; (try with_reducible rfl))
  try simp only [Act.put, List.setIfInBounds_toArray, List.set_cons_zero, List.set_cons_succ]
  refine wpAnyH_take (i := 7) (v := ?_) (by rw [List.getElem?_toArray]; rfl) (by kernel_rfl) (by kernel_rfl) (by kernel_rfl) (fun _ _ _ h => h) (Or.inl ⟨by rfl, ?hyq8_⟩) (by assumption) ?restq8_
  case hyq8_ => (intro w hSw; (try dsimp only at hSw); (try have e0 := f0 w hSw); (try have e1 := f1 w hSw); (try have e2 := f2 w hSw); go_simp; (try with_reducible rfl))
  try simp only [Act.put, List.setIfInBounds_toArray, List.set_cons_zero, List.set_cons_succ]
  refine wpAnyH_take (i := 8) (v := ?_) (by rw [List.getElem?_toArray]; rfl) (by kernel_rfl) (by kernel_rfl) (by kernel_rfl) (fun _ _ _ h => h) (Or.inl ⟨by rfl, ?hyq9_⟩) (by assumption) ?restq9_
  case hyq9_ => (intro w hSw; (try dsimp only at hSw); (try have e0 := f0 w hSw); (try have e1 := f1 w hSw); (try have e2 := f2 w hSw); go_simp; (try with_reducible rfl))
  try simp only [Act.put, List.setIfInBounds_toArray, List.set_cons_zero, List.set_cons_succ]
  refine wpAnyH_take (i := 9) (v := ?_) (by rw [List.getElem?_toArray]; rfl) (by kernel_rfl) (by kernel_rfl) (by kernel_rfl) (fun _ _ _ h => h) (Or.inl ⟨by rfl, ?hyq10_⟩) (by assumption) ?restq10_
  case hyq10_ => (intro w hSw; (try dsimp only at hSw); (try have e0 := f0 w hSw); (try have e1 := f1 w hSw); (try have e2 := f2 w hSw); go_simp; (try with_reducible rfl))
  try simp only [Act.put, List.setIfInBounds_toArray, List.set_cons_zero, List.set_cons_succ]
  refine wpAnyH_take (i := 10) (v := ?_) (by rw [List.getElem?_toArray]; rfl) (by kernel_rfl) (by kernel_rfl) (by kernel_rfl) (fun _ _ _ h => h) (Or.inl ⟨by rfl, ?hyq11_⟩) (by assumption) ?restq11_
  case hyq11_ => (intro w hSw; (try dsimp only at hSw); (try have e0 := f0 w hSw); (try have e1 := f1 w hSw); (try have e2 := f2 w hSw); go_simp; (try with_reducible rfl))
  try simp only [Act.put, List.setIfInBounds_toArray, List.set_cons_zero, List.set_cons_succ]
  refine wpAnyH_take (i := 11) (v := ?_) (by rw [List.getElem?_toArray]; rfl) (by kernel_rfl) (by kernel_rfl) (by kernel_rfl) (fun _ _ _ h => h) (Or.inl ⟨by rfl, ?hyq12_⟩) (by assumption) ?restq12_
  case hyq12_ => (intro w hSw; (try dsimp only at hSw); (try have e0 := f0 w hSw); (try have e1 := f1 w hSw); (try have e2 := f2 w hSw); go_simp; (try with_reducible rfl))
  try simp only [Act.put, List.setIfInBounds_toArray, List.set_cons_zero, List.set_cons_succ]
  refine wpAnyH_take (i := 12) (v := ?_) (by rw [List.getElem?_toArray]; rfl) (by kernel_rfl) (by kernel_rfl) (by kernel_rfl) (fun _ _ _ h => h) (Or.inl ⟨by rfl, ?hyq13_⟩) (by assumption) ?restq13_
  case hyq13_ => (intro w hSw; (try dsimp only at hSw); (try have e0 := f0 w hSw); (try have e1 := f1 w hSw); (try have e2 := f2 w hSw); go_simp; (try with_reducible rfl))
  try simp only [Act.put, List.setIfInBounds_toArray, List.set_cons_zero, List.set_cons_succ]
  refine wpAnyH_take (i := 13) (v := ?_) (by rw [List.getElem?_toArray]; rfl) (by kernel_rfl) (by kernel_rfl) (by kernel_rfl) (fun _ _ _ h => h) (Or.inl ⟨by rfl, ?hyq14_⟩) (by assumption) ?restq14_
  case hyq14_ => (intro w hSw; (try dsimp only at hSw); (try have e0 := f0 w hSw); (try have e1 := f1 w hSw); (try have e2 := f2 w hSw); go_simp; (try with_reducible rfl))
  try simp only [Act.put, List.setIfInBounds_toArray, List.set_cons_zero, List.set_cons_succ]
  refine wpAnyH_take (i := 14) (v := ?_) (by rw [List.getElem?_toArray]; rfl) (by kernel_rfl) (by kernel_rfl) (by kernel_rfl) (fun _ _ _ h => h) (Or.inl ⟨by rfl, ?hyq15_⟩) (by assumption) ?restq15_
  case hyq15_ => (intro w hSw; (try dsimp only at hSw); (try have e0 := f0 w hSw); (try have e1 := f1 w hSw); (try have e2 := f2 w hSw); go_simp; (try with_reducible rfl))
  try simp only [Act.put, List.setIfInBounds_toArray, List.set_cons_zero, List.set_cons_succ]
  refine wpAnyH_take (i := 15) (v := ?_) (by rw [List.getElem?_toArray]; rfl) (by kernel_rfl) (by kernel_rfl) (by kernel_rfl) (fun _ _ _ h => h) (Or.inl ⟨by rfl, ?hyq16_⟩) (by assumption) ?restq16_
  case hyq16_ => (intro w hSw; (try dsimp only at hSw); (try have e0 := f0 w hSw); (try have e1 := f1 w hSw); (try have e2 := f2 w hSw); go_simp; (try with_reducible rfl))
  try simp only [Act.put, List.setIfInBounds_toArray, List.set_cons_zero, List.set_cons_succ]
  refine wpAnyH_take (i := 16) (v := ?_) (by rw [List.getElem?_toArray]; rfl) (by kernel_rfl) (by kernel_rfl) (by kernel_rfl) (fun _ _ _ h => h) (Or.inl ⟨by rfl, ?hyq17_⟩) (by assumption) ?restq17_
  case hyq17_ => (intro w hSw; (try dsimp only at hSw); (try have e0 := f0 w hSw); (try have e1 := f1 w hSw); (try have e2 := f2 w hSw); go_simp; (try with_reducible rfl))
  try simp only [Act.put, List.setIfInBounds_toArray, List.set_cons_zero, List.set_cons_succ]
  refine wpAnyH_take (i := 17) (v := ?_) (by rw [List.getElem?_toArray]; rfl) (by kernel_rfl) (by kernel_rfl) (by kernel_rfl) (fun _ _ _ h => h) (Or.inl ⟨by rfl, ?hyq18_⟩) (by assumption) ?restq18_
  case hyq18_ => (intro w hSw; (try dsimp only at hSw); (try have e0 := f0 w hSw); (try have e1 := f1 w hSw); (try have e2 := f2 w hSw); go_simp; (try with_reducible rfl))
  try simp only [Act.put, List.setIfInBounds_toArray, List.set_cons_zero, List.set_cons_succ]
  refine wpAnyH_take (i := 18) (v := ?_) (by rw [List.getElem?_toArray]; rfl) (by kernel_rfl) (by kernel_rfl) (by kernel_rfl) (fun _ _ _ h => h) (Or.inl ⟨by rfl, ?hyq19_⟩) (by assumption) ?restq19_
  case hyq19_ => (intro w hSw; (try dsimp only at hSw); (try have e0 := f0 w hSw); (try have e1 := f1 w hSw); (try have e2 := f2 w hSw); go_simp; (try with_reducible rfl))
  try simp only [Act.put, List.setIfInBounds_toArray, List.set_cons_zero, List.set_cons_succ]
  have hfz1 : wd.frozen? ⟨gb, a, none⟩ = false := obj_free hbd a
  have hba := hbd.cell a (by have := HBl.out; omega)
  have hb1 := hbd.set a z
  have hh1 := hhd.other (Ne.symm hne) a (.int .i32 z)
  have hk2 : Kept (OneB gb) wd (wd.setCell ⟨gb, a, none⟩ (.int .i32 z)) := Kept.setCell (S := OneB gb) (p := ⟨gb, a, none⟩) (Kept.refl _ wd) (.inl rfl) _
  refine wpAnyH_ready (rs := [19]) (by kernel_rfl) (by simp) ?_
  refine AllReadyH.cons (by rw [List.getElem?_toArray]; rfl) (fun K hK => ?_) AllReadyH.nil
  go_simp
  refine hK.out _ _ (hHeld.trans hk2) (fun hHeld => ?_)
  clear hK K
  try simp only [Act.put, List.setIfInBounds_toArray, List.set_cons_zero, List.set_cons_succ]
  refine wpAnyH_done (by kernel_rfl) ?_ _
  refine NoPanic.normal ?_
  obtain ⟨w2, hw2⟩ : ∃ w2, w2 = wd.setCell ⟨gb, a, none⟩ (.int .i32 z) := ⟨_, rfl⟩
  rw [← hw2] at hHeld hb1 hh1 ⊢
  have hfz2 : w2.frozen? ⟨gh, s, none⟩ = false := obj_free hh1 s
  have hhs := hh1.cell s (by have := HHl.out; omega)
  have c0b := f0 w2 hHeld
  have HH2 := Lib.hid (hh1.set s (a : Int))
  have HB2 := Lib.hid (hb1.other hne s (.int .i32 (a : Int)))
  have HK2 := Lib.hid (Kept.setCell (S := TwoB gh gb) (p := ⟨gh, s, none⟩) (hHeld.mono (fun q _ e => .inr e)) (.inl (.inl rfl)) (.int .i32 (a : Int)))
  clear hbd hhd hfz1 hba hb1 hh1 hk2 hkd hHeld f0 f1 f2 hw2
  go_wp2
  refine bodyPost_end (results_none rfl _ _ _) rfl ?_
  exact ⟨rfl, HK2.out, HH2.out, HB2.out⟩
end Go.Proofs.YtfmjfgmbjdhogaaGreatDoor
