/-
  A counter: a sink in it, and how many writes took something.
-/
import Derived.Test.YtffoigacpnlkgaaAwake3
namespace Go.Proofs.Ytffoigacpnlkgaa
open Go.RowKit
set_option linter.unusedVariables false
set_option linter.unusedSimpArgs false

/-- A counter: a sink within it, of three cells. -/
structure Ctr (w : World) (R L : Nat) (ao : Option Addr) (cap : Nat) (bs : List Int) (m n : Nat) : Prop where
  snk : Snk w 96 #[.slice ao bs.length cap, .int .i64 m, .int .i64 n] R L ao cap bs m
  nl : n ≤ 1000000
def NewC (w : World) (m : Nat) (e : Ending) (w' : World) : Prop :=
  ∃ R, e = .returned (.pointer (some ⟨R, 0, none⟩)) ∧ Ctr w' R w.heap.size none 0 [] m 0 ∧ Kept NoB w w'
set_option maxHeartbeats 1000000 in
theorem newc_any (w : World) (z : Int) (m : Nat) (hm : (m : Int) = if z < 0 then 0 else z) (hml : m ≤ 9223372036854775807) : Calls Try.prog 48 #[.int .i64 z] w (NewC w m) := by
  go_enter Try.func48, Try.ntmps48
  have HK := Lib.hid (newk_any w z m hm hml)
  clear hm
  go_wp2_with fail
  refine HK.out.mono ?_
  rintro e w1 ⟨R, rfl, hR, hRe, hk1⟩
  have hc := hR.obj
  have c0 : w1.cell? ⟨R, 0, none⟩ = some (.slice none 0 0) := by rw [obj_cell hc 0]; rfl
  have c1 : w1.cell? ⟨R, 1, none⟩ = some (.int .i64 m) := by rw [obj_cell hc 1]; rfl
  have HR := Lib.hid hR; have HK1 := Lib.hid hk1
  clear hR hRe hc hk1
  go_wp2
  go_ret
  refine ⟨w1.heap.size, rfl, ⟨⟨heap_alloc_new _ _, rfl, rfl, World.ownsRow_nil _ _ _ _, (by intro k hk; simp [Value.ownBlock] at hk), HK1.out.size, Nat.zero_le _, hml, Nat.zero_le _, by decide, (by intro b hb; cases hb)⟩, Nat.zero_le _⟩, HK1.out.alloc _⟩
set_option maxHeartbeats 1000000 in
theorem cwrites_any (w : World) {R L : Nat} {ao : Option Addr} {cap : Nat} {bs : List Int} {m n : Nat} (h : Ctr w R L ao cap bs m n) :
    Calls Try.prog 52 #[.pointer (some ⟨R, 0, none⟩)] w fun e w' => e = .returned (.int .i64 n) ∧ Kept NoB w w' := by
  have c2 : w.cell? ⟨R, 2, none⟩ = some (.int .i64 n) := by rw [obj_cell h.snk.obj 2]; rfl
  clear h
  go_enter Try.func52, Try.ntmps52
  go_wp2
  go_ret
  exact ⟨rfl, Kept.refl _ _⟩

/-- Behind some parts: the counter, grown, and counted. -/
def CwR (w : World) (R L : Nat) (v0 : Value) (bs' : List Int) (m n' : Nat) (w' : World) : Prop :=
  ∃ ao cap, Ctr w' R L ao cap bs' m n' ∧ Kept (OrB (OneB R) (OwnB v0)) w w' ∧ (∀ k, (Value.slice ao bs'.length cap).ownBlock = some k → v0.ownBlock = some k ∨ w.heap.size ≤ k)

set_option maxRecDepth 20000 in
set_option maxHeartbeats 2000000 in
theorem cwrite_any (w : World) {R L : Nat} {ao : Option Addr} {cap : Nat} {bs : List Int} {m n : Nat} (h : Ctr w R L ao cap bs m n) (hn : n < 1000000)
    (po : Option Addr) (pcap len : Nat) (ps : List (List Int)) (hlen : ps.length = len) (hall : AllP ps) (hp : ∀ W, Kept (OrB (OneB R) (OwnB (.slice ao bs.length cap))) w W → Parts W po ps)
    (hsm : (bs ++ ps.flatten).length ≤ 1000000) (hm : len ≤ 1000000) (k : Nat) (hk : (k : Int) = (fill bs m ps).length - bs.length) (n' : Nat) (hn' : n' = if k = 0 then n else n + 1) :
    Calls Try.prog 76 #[.pointer (some ⟨R, 0, none⟩), .slice po len pcap] w fun e w' => e = .returned (.int .i64 k) ∧ CwR w R L (.slice ao bs.length cap) (fill bs m ps) m n' w' := by
  have HW := Lib.hid (swrite_any w h.snk po pcap len ps hlen hall hp hsm hm)
  have HK := Lib.hid hk
  have hnl := h.nl
  clear h hlen hall hp hsm hm hk
  go_enter Try.func76, Try.ntmps76
  go_wp2_with fail
  refine HW.out.mono ?_
  rintro e w1 ⟨rfl, cs1, ao1, cap1, hS, hz, hcs, hK1, hO⟩
  rw [← HK.out]
  have hcs1 : cs1 = #[.slice ao1 (fill bs m ps).length cap1, .int .i64 m, .int .i64 n] := by
    have h0 := hS.c0
    have h1 := hcs 1 (by decide)
    have h2 := hcs 2 (by decide)
    apply Array.ext_getElem?
    intro i
    match i with
    | 0 => rw [h0]; rfl
    | 1 => rw [h1]; rfl
    | 2 => rw [h2]; rfl
    | i + 3 => rw [Array.getElem?_eq_none (by rw [hz]; simp), Array.getElem?_eq_none (by simp)]
  subst hcs1
  have c2 : w1.cell? ⟨R, 2, none⟩ = some (.int .i64 n) := by rw [obj_cell hS.obj 2]; rfl
  have f2 : w1.frozen? ⟨R, 2, none⟩ = false := obj_free hS.obj 2
  have HS := Lib.hid hS; have HK1 := Lib.hid hK1; have HO := Lib.hid hO
  clear hS hz hcs hK1 hO HW
  by_cases h0 : k = 0
  · have hn0 : n' = n := by rw [hn', if_pos h0]
    subst hn0 h0
    clear hn'
    go_wp2
    go_ret
    exact ⟨rfl, ao1, cap1, ⟨HS.out, by omega⟩, HK1.out, HO.out⟩
  · have hn0 : n' = n + 1 := by rw [hn', if_neg h0]
    have hk0 : (0 : Int) < k := by omega
    clear hn'
    go_wp2
    go_ret
    refine ⟨rfl, ao1, cap1, ⟨?_, by omega⟩, Kept.setCell (p := ⟨R, 2, none⟩) HK1.out (.inl (.inl rfl)) _, HO.out⟩
    have hS := HS.out
    have hne := row_ne hS.own hS.obj hS.ne5
    have hks : Kept (OneB R) w1 (w1.setCell ⟨R, 2, none⟩ (.int .i64 ((n : Int) + 1))) := Kept.setCell (S := OneB R) (p := ⟨R, 2, none⟩) (Kept.refl _ _) (.inl rfl) _
    have ho := obj_set hS.obj 2 (.int .i64 ((n : Int) + 1))
    subst hn0
    exact { hS with
      obj := by simpa using ho
      c0 := rfl
      c1 := rfl
      own := hks.row hS.own (fun k hk e => hne k hk e) }
end Go.Proofs.Ytffoigacpnlkgaa
