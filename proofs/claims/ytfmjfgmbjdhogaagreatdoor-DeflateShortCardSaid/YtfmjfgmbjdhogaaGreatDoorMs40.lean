/-
  match: the seeker.
-/
import Derived.Test.YtfmjfgmbjdhogaaGreatDoorMs39
namespace Go.Proofs.YtfmjfgmbjdhogaaGreatDoor
open Go.RowKit
set_option linter.unusedVariables false
set_option linter.unusedSimpArgs false
set_option maxRecDepth 20000

def InB (lo hi : Nat) : Nat → Prop := fun k => lo ≤ k ∧ k < hi
def seekC (ao : Option Addr) (n c next W1 gh1 gb1 W2 gh2 gb2 : Nat) : Array Value := #[.slice ao n c, .int .i64 (next : Int), .slice (some ⟨gh1, 0, none⟩) (2 ^ W1) (2 ^ W1), .slice (some ⟨gb1, 0, none⟩) n n, .int .i64 ((64 - W1 : Nat) : Int), .slice (some ⟨gh2, 0, none⟩) (2 ^ W2) (2 ^ W2), .slice (some ⟨gb2, 0, none⟩) n n, .int .i64 ((64 - W2 : Nat) : Int)]
def slotK (W : Nat) (L : List UInt8) (k p : Nat) : Nat := slotN W (keyN L k p)
/-- The five blocks of a seeker. -/
structure SkB (lo hi Sk W1 gh1 gb1 W2 gh2 gb2 : Nat) : Prop where
  w1 : 4 ≤ W1 ∧ W1 ≤ 16
  w2 : 4 ≤ W2 ∧ W2 ≤ 16
  b0 : lo ≤ Sk ∧ Sk < hi
  b1 : lo ≤ gh1 ∧ gh1 < hi
  b2 : lo ≤ gb1 ∧ gb1 < hi
  b3 : lo ≤ gh2 ∧ gh2 < hi
  b4 : lo ≤ gb2 ∧ gb2 < hi
  n01 : Sk ≠ gh1
  n02 : Sk ≠ gb1
  n03 : Sk ≠ gh2
  n04 : Sk ≠ gb2
  n12 : gh1 ≠ gb1
  n13 : gh1 ≠ gh2
  n14 : gh1 ≠ gb2
  n23 : gb1 ≠ gh2
  n24 : gb1 ≠ gb2
  n34 : gh2 ≠ gb2
/-- Where a seeker is. -/
structure SeekSt (w : World) (Sk : Nat) (ao : Option Addr) (c next na1 na2 W1 gh1 gb1 W2 gh2 gb2 : Nat) (L : List UInt8) (hs1 bs1 hs2 bs2 : List Int) : Prop where
  obj : w.heap[Sk]? = some (.cells (seekC ao L.length c next W1 gh1 gb1 W2 gh2 gb2) 178 (0, 0))
  h1 : PlcAt w gh1 hs1
  r1 : PlcAt w gb1 bs1
  h2 : PlcAt w gh2 hs2
  r2 : PlcAt w gb2 bs2
  l1 : bs1.length = L.length
  l2 : bs2.length = L.length
  c1 : ChainP (slotK W1 L 3) (2 ^ W1) na1 hs1 bs1
  c2 : ChainP (slotK W2 L 8) (2 ^ W2) na2 hs2 bs2
theorem SeekSt.keptS {S : Nat → Prop} {w w' : World} {lo hi Sk : Nat} {ao : Option Addr} {c next na1 na2 W1 gh1 gb1 W2 gh2 gb2 : Nat} {L : List UInt8} {hs1 bs1 hs2 bs2 : List Int} (h : SeekSt w Sk ao c next na1 na2 W1 gh1 gb1 W2 gh2 gb2 L hs1 bs1 hs2 bs2) (hb : SkB lo hi Sk W1 gh1 gb1 W2 gh2 gb2) (hk : Kept S w w') (hs : ∀ k, InB lo hi k → ¬ S k) : SeekSt w' Sk ao c next na1 na2 W1 gh1 gb1 W2 gh2 gb2 L hs1 bs1 hs2 bs2 :=
  ⟨hk.obj h.obj (hs _ hb.b0), h.h1.keptS hk (hs _ hb.b1), h.r1.keptS hk (hs _ hb.b2), h.h2.keptS hk (hs _ hb.b3), h.r2.keptS hk (hs _ hb.b4), h.l1, h.l2, h.c1, h.c2⟩
theorem Kept.dom {S : Nat → Prop} {w w' : World} (h : Kept NoB w w') : Kept S w w' := h.mono (fun _ _ h => absurd h (fun h => h))
theorem SeekSt.cells {w : World} {Sk : Nat} {ao : Option Addr} {c next na1 na2 W1 gh1 gb1 W2 gh2 gb2 : Nat} {L : List UInt8} {hs1 bs1 hs2 bs2 : List Int} (h : SeekSt w Sk ao c next na1 na2 W1 gh1 gb1 W2 gh2 gb2 L hs1 bs1 hs2 bs2) :
    w.cell? ⟨Sk, 0, none⟩ = some (.slice ao L.length c) ∧ w.cell? ⟨Sk, 1, none⟩ = some (.int .i64 (next : Int)) ∧ ChAt w Sk 2 W1 gh1 gb1 (2 ^ W1) L.length ∧ ChAt w Sk 5 W2 gh2 gb2 (2 ^ W2) L.length :=
  ⟨obj_cell h.obj 0, obj_cell h.obj 1, ⟨obj_cell h.obj 2, obj_cell h.obj 3, obj_cell h.obj 4⟩, ⟨obj_cell h.obj 5, obj_cell h.obj 6, obj_cell h.obj 7⟩⟩
set_option maxRecDepth 100000 in
set_option maxHeartbeats 4000000 in
theorem newseek_any (ao : Option Addr) (c : Nat) (L : List UInt8) (w : World) (hn : L.length ≤ 32768) :
    Calls Tryz.prog 86 #[.slice ao L.length c] w fun e w' => ∃ Sk W1 gh1 gb1 W2 gh2 gb2 hs1 bs1 hs2 bs2, e = .returned (.pointer (some ⟨Sk, 0, none⟩)) ∧ SkB w.heap.size w'.heap.size Sk W1 gh1 gb1 W2 gh2 gb2 ∧ SeekSt w' Sk ao c 0 0 0 W1 gh1 gb1 W2 gh2 gb2 L hs1 bs1 hs2 bs2 ∧ Kept NoB w w' := by
  have HN := Lib.hid (fun W => newchain_any L.length W hn)
  have hnb : L.length ≤ 9223372036854775807 := by omega
  obtain ⟨n, hn'⟩ : ∃ n, n = L.length := ⟨_, rfl⟩
  rw [← hn'] at HN hnb ⊢
  have HNn := Lib.hid hn'
  clear hn'
  go_enter Tryz.func86, Tryz.ntmps86
  go_wp2_with fail
  with_reducible refine (HN.out _).mono ?_
  rintro e w1 ⟨W1, gh1, gb1, a1, a2, rfl, a3, a4, a5, a6, a7, a8⟩
  have A3 := Lib.hid a3; have A4 := Lib.hid a4; have A8 := Lib.hid a8; have A12 := Lib.hid (⟨a1, a2, a5, a6, a7⟩ : 4 ≤ W1 ∧ W1 ≤ 16 ∧ gh1 ≠ gb1 ∧ w.heap.size ≤ gh1 ∧ w.heap.size ≤ gb1)
  clear a1 a2 a3 a4 a5 a6 a7 a8
  obtain ⟨H1, hH1⟩ : ∃ H1, H1 = 2 ^ W1 := ⟨_, rfl⟩
  rw [← hH1] at A3 ⊢
  obtain ⟨s1, hs1⟩ : ∃ s1, s1 = 64 - W1 := ⟨_, rfl⟩
  rw [← hs1]
  have HH1 := Lib.hid hH1; have HS1 := Lib.hid hs1
  clear hH1 hs1
  go_wp2_with fail
  with_reducible refine (HN.out _).mono ?_
  rintro e w2 ⟨W2, gh2, gb2, a1, a2, rfl, a3, a4, a5, a6, a7, a8⟩
  have B3 := Lib.hid a3; have B4 := Lib.hid a4; have B8 := Lib.hid a8; have B12 := Lib.hid (⟨a1, a2, a5, a6, a7⟩ : 4 ≤ W2 ∧ W2 ≤ 16 ∧ gh2 ≠ gb2 ∧ w1.heap.size ≤ gh2 ∧ w1.heap.size ≤ gb2)
  clear a1 a2 a3 a4 a5 a6 a7 a8
  obtain ⟨H2, hH2⟩ : ∃ H2, H2 = 2 ^ W2 := ⟨_, rfl⟩
  rw [← hH2] at B3 ⊢
  obtain ⟨s2, hs2⟩ : ∃ s2, s2 = 64 - W2 := ⟨_, rfl⟩
  rw [← hs2]
  have HH2 := Lib.hid hH2; have HS2 := Lib.hid hs2
  clear hH2 hs2
  go_wp2
  go_ret
  obtain ⟨x1, x2, x3, x4, x5⟩ := A12.out
  obtain ⟨y1, y2, y3, y4, y5⟩ := B12.out
  have k1 := A8.out.size
  have k2 := B8.out.size
  obtain ⟨wz, hwz⟩ : ∃ wz, wz = w2.alloc (.cells #[.slice ao n c, .int .i64 0, .slice (some ⟨gh1, 0, none⟩) H1 H1, .slice (some ⟨gb1, 0, none⟩) n n, .int .i64 (s1 : Int), .slice (some ⟨gh2, 0, none⟩) H2 H2, .slice (some ⟨gb2, 0, none⟩) n n, .int .i64 (s2 : Int)] 178) := ⟨_, rfl⟩
  rw [← hwz]
  have hkz : Kept NoB w2 wz := by rw [hwz]; exact (Kept.refl _ _).alloc _
  have hsz : wz.heap.size = w2.heap.size + 1 := by rw [hwz]; simp
  have P1 := (A3.out.keptS B8.out (fun h => h)).keptS hkz (fun h => h)
  have P2 := (A4.out.keptS B8.out (fun h => h)).keptS hkz (fun h => h)
  have P3 := B3.out.keptS hkz (fun h => h)
  have P4 := B4.out.keptS hkz (fun h => h)
  have q1 : gh1 < w1.heap.size := (Array.getElem?_eq_some_iff.1 A3.out).1
  have q2 : gb1 < w1.heap.size := (Array.getElem?_eq_some_iff.1 A4.out).1
  have q3 : gh2 < w2.heap.size := (Array.getElem?_eq_some_iff.1 B3.out).1
  have q4 : gb2 < w2.heap.size := (Array.getElem?_eq_some_iff.1 B4.out).1
  refine ⟨w2.heap.size, W1, gh1, gb1, W2, gh2, gb2, _, _, _, _, rfl, ⟨⟨x1, x2⟩, ⟨y1, y2⟩, by omega, by omega, by omega, by omega, by omega, by omega, by omega, by omega, by omega, x3, by omega, by omega, by omega, by omega, y3⟩, ⟨?_, P1, P2, P3, P4, ?_, ?_, by rw [← HH1.out]; exact ChainP.start _ _ _, by rw [← HH2.out]; exact ChainP.start _ _ _⟩, (A8.out.trans B8.out).trans hkz⟩
  · rw [hwz, seekC, ← HNn.out, ← HH1.out, ← HH2.out, ← HS1.out, ← HS2.out]
    exact heap_alloc_new _ _
  · rw [List.length_replicate]; exact HNn.out
  · rw [List.length_replicate]; exact HNn.out
set_option maxRecDepth 100000 in
set_option maxHeartbeats 4000000 in
theorem shortkey_any (B g o n c p : Nat) (L : List UInt8) (w : World) (c0 : w.cell? ⟨B, 0, none⟩ = some (.slice (some ⟨g, o, none⟩) n c)) (hr : RdB w g o L 0 n) (hn : n = L.length) (hp : p + 3 ≤ n) (hnm : n ≤ 9223372036854775807) :
    Calls Tryz.prog 120 #[.pointer (some ⟨B, 0, none⟩), .int .i64 (p : Int)] w fun e w' => e = .returned (.int .u64 ((keyN L 3 p : Nat) : Int)) ∧ Kept NoB w w' := by
  have hk := key3 L p (by omega)
  have d0 := hr p (by omega); have d1 := hr (p + 1) (by omega); have d2 := hr (p + 2) (by omega)
  rw [Nat.zero_add] at d0 d1 d2
  obtain ⟨K, hK⟩ : ∃ K : Int, K = (keyN L 3 p : Int) := ⟨_, rfl⟩
  rw [← hK] at hk ⊢
  have hb : ∀ i, (L.getD i 0).toNat < 256 := fun i => (L.getD i 0).toNat_lt
  have q0 := hb p; have q1 := hb (p + 1); have q2 := hb (p + 2)
  generalize (L.getD p 0).toNat = b0 at *
  generalize (L.getD (p + 1) 0).toNat = b1 at *
  generalize (L.getD (p + 2) 0).toNat = b2 at *
  obtain ⟨p1, hp1⟩ : ∃ p1, p1 = p + 1 := ⟨_, rfl⟩
  obtain ⟨p2, hp2⟩ : ∃ p2, p2 = p + 2 := ⟨_, rfl⟩
  rw [← hp1] at d1
  rw [← hp2] at d2
  have i1 : (p : Int) + 1 = (p1 : Int) := by omega
  have i2 : (p : Int) + 2 = (p2 : Int) := by omega
  have w1 : IntKind.i64.wrap (p1 : Int) = (p1 : Int) := IntWalk.i64_in _ (by omega)
  have w2 : IntKind.i64.wrap (p2 : Int) = (p2 : Int) := IntWalk.i64_in _ (by omega)
  have r0 : (p : Int) < (n : Int) := by omega
  have r1 : (p1 : Int) < (n : Int) := by omega
  have r2 : (p2 : Int) < (n : Int) := by omega
  have HK := Lib.hid hk
  clear hk hK hb hr hp1 hp2 hn
  go_enter Tryz.func120, Tryz.ntmps120
  go_wp2
  go_quiet (fail)
  go_wp2
  go_ret
  refine ⟨?_, (Kept.refl NoB w).drewN _⟩
  simp (disch := omega) only [u64_wrap_id, u64_or8, u64_or16]
  rw [HK.out]
  rfl
end Go.Proofs.YtfmjfgmbjdhogaaGreatDoor
