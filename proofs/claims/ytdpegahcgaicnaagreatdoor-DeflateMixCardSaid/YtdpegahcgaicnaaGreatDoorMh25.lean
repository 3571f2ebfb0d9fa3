/-
  The document's own writer of bits: Put and Align, bit by bit.
  What the document's writer was given, put after put (as WroteP for the program's).
  What is put for tokens, as a function of them; the document's LenSym and DistSym tell just its parts.
  What tokens take, in bits, by codes: the cost of the counts and the bits behind.
  Numbers appended onto an own row, in a plain region; apart from the texts on least costs.
  slices.Concat of two rows of numbers.
-/
import Derived.Test.YtdpegahcgaicnaaGreatDoorMh24
import Derived.Lib.AppendZerosOnto
namespace Go.Proofs.YtdpegahcgaicnaaGreatDoor
open Go.RowKit
set_option linter.unusedVariables false
set_option maxRecDepth 20000

def OutP (w : World) (R : Nat) (v0 : Value) (bs : List Int) (s x n : Nat) (e : Ending) (w' : World) : Prop :=
  ∃ ao' cap' bs', e = .returned (.bool true) ∧ WtrT 45 w' R ao' cap' bs' (s + n) ∧ num bs' = num bs + x * 2 ^ s ∧ Kept (OrB (OneB R) (OwnB v0)) w w' ∧
    (∀ k, (Value.slice ao' bs'.length cap').ownBlock = some k → v0.ownBlock = some k ∨ w.heap.size ≤ k)

end Go.Proofs.YtdpegahcgaicnaaGreatDoor

namespace Go.Proofs.YtdpegahcgaicnaaGreatDoor
open Go.RowKit
set_option linter.unusedVariables false
set_option linter.unusedSimpArgs false

def WroteO (w : World) (R : Nat) (v0 : Value) (bs : List Int) (s : Nat) (ps : List (Nat × Nat)) (w' : World) (ao' : Option Addr) (cap' : Nat) (bs' : List Int) : Prop :=
  WtrT 45 w' R ao' cap' bs' (s + wdN ps) ∧ num bs' = num bs + putsN ps * 2 ^ s ∧ Kept (OrB (OneB R) (OwnB v0)) w w' ∧ (∀ k, (Value.slice ao' bs'.length cap').ownBlock = some k → v0.ownBlock = some k ∨ w.heap.size ≤ k)
theorem WroteO.nil {w : World} {R : Nat} {ao : Option Addr} {cap : Nat} {bs : List Int} {s : Nat} (h : WtrT 45 w R ao cap bs s) : WroteO w R (.slice ao bs.length cap) bs s [] w ao cap bs :=
  ⟨h, by simp [putsN], Kept.refl _ _, fun k hk => .inl hk⟩
theorem WroteO.keptNo {w w1 w2 : World} {R : Nat} {v0 : Value} {bs bs1 : List Int} {s : Nat} {ps : List (Nat × Nat)} {ao1 : Option Addr} {cap1 : Nat} (h : WroteO w R v0 bs s ps w1 ao1 cap1 bs1) (hk : Kept NoB w1 w2) : WroteO w R v0 bs s ps w2 ao1 cap1 bs1 :=
  ⟨h.1.kept hk (fun e => e) (fun _ _ e => e), h.2.1, h.2.2.1.transO hk (fun i hi h => h.elim), h.2.2.2⟩
theorem WroteO.put {w w1 w2 : World} {R : Nat} {v0 : Value} {bs bs1 : List Int} {s x n : Nat} {ps : List (Nat × Nat)} {ao1 : Option Addr} {cap1 : Nat} {e : Ending} (h : WroteO w R v0 bs s ps w1 ao1 cap1 bs1) (h2 : OutP w1 R (.slice ao1 bs1.length cap1) bs1 (s + wdN ps) x n e w2) :
    ∃ ao2 cap2 bs2, e = .returned (.bool true) ∧ WroteO w R v0 bs s (ps ++ [(x, n)]) w2 ao2 cap2 bs2 := by
  obtain ⟨hw1, hw2, hw3, hw4⟩ := h
  obtain ⟨ao2, cap2, bs2, rfl, p1, p2, p3, p4⟩ := h2
  refine ⟨ao2, cap2, bs2, rfl, ?_, ?_, ?_, ?_⟩
  · rw [wdN_append]
    simp only [wdN, Nat.add_zero]
    rw [← Nat.add_assoc]
    exact p1
  · rw [putsN_append]
    simp only [putsN, Nat.zero_mul, Nat.add_zero]
    rw [p2, hw2, Nat.add_mul, Nat.add_assoc, Nat.pow_add, Nat.mul_assoc, Nat.mul_comm (2 ^ wdN _) (2 ^ s)]
  · refine hw3.transO p3 ?_
    intro j hj e
    rcases e with e | e
    · exact .inl e
    · rcases hw4 j e with h | h
      · exact .inr h
      · omega
  · intro k hk'
    rcases p4 k hk' with h | h
    · exact hw4 k h
    · have := hw3.size; omega
end Go.Proofs.YtdpegahcgaicnaaGreatDoor

namespace Go.Proofs.YtdpegahcgaicnaaGreatDoor
open Go.RowKit
set_option linter.unusedVariables false
set_option linter.unusedSimpArgs false
set_option maxRecDepth 20000

def litX (t : Tk) : Nat := if t.l = 258 then 0 else le4 (lastI lb 27 t.l.toNat)
def litV (t : Tk) : Nat := if t.l = 258 then 0 else t.l.toNat - lb (lastI lb 27 t.l.toNat)
def distV (t : Tk) : Nat := t.d.toNat - db (distSy t)
def tokWd (lit dist : List Int) (t : Tk) : List (Nat × Nat) :=
  if t.l = 0 then [wordZ lit t.c] else [wordZ lit ((litSy t : Nat) : Int), (litV t, litX t), wordZ dist ((distSy t : Nat) : Int), (distV t, de (distSy t))]
theorem sy_long {j u : Nat} (hj : j < 30) (hu : u < 2 ^ de j) : litSy ⟨258, ((db j + u : Nat) : Int), 0⟩ = 285 ∧ litV ⟨258, ((db j + u : Nat) : Int), 0⟩ = 0 ∧ litX ⟨258, ((db j + u : Nat) : Int), 0⟩ = 0 ∧ distSy ⟨258, ((db j + u : Nat) : Int), 0⟩ = j ∧ distV ⟨258, ((db j + u : Nat) : Int), 0⟩ = u := by
  have hd : distSy ⟨258, ((db j + u : Nat) : Int), 0⟩ = j := by unfold distSy; rw [Int.toNat_natCast]; exact db_last hj hu
  refine ⟨rfl, rfl, rfl, hd, ?_⟩
  unfold distV
  rw [hd, Int.toNat_natCast]; omega
theorem sy_copy {i v j u : Nat} (hi : i < 28) (hv : v < 2 ^ le4 i) (hlv : lb i + v ≤ 257) (hj : j < 30) (hu : u < 2 ^ de j) : litSy ⟨((lb i + v : Nat) : Int), ((db j + u : Nat) : Int), 0⟩ = 257 + i ∧ litV ⟨((lb i + v : Nat) : Int), ((db j + u : Nat) : Int), 0⟩ = v ∧
    litX ⟨((lb i + v : Nat) : Int), ((db j + u : Nat) : Int), 0⟩ = le4 i ∧ distSy ⟨((lb i + v : Nat) : Int), ((db j + u : Nat) : Int), 0⟩ = j ∧ distV ⟨((lb i + v : Nat) : Int), ((db j + u : Nat) : Int), 0⟩ = u := by
  have h3 := lb_top i hi
  have hd : distSy ⟨((lb i + v : Nat) : Int), ((db j + u : Nat) : Int), 0⟩ = j := by unfold distSy; rw [Int.toNat_natCast]; exact db_last hj hu
  have hn : ¬ ((lb i + v : Nat) : Int) = 258 := by omega
  refine ⟨?_, ?_, ?_, hd, ?_⟩
  · unfold litSy
    rw [if_neg (by simp only; omega), if_neg (by simp only; omega), Int.toNat_natCast, lb_last hi hv]
  · unfold litV
    rw [if_neg hn, Int.toNat_natCast, lb_last hi hv]; omega
  · unfold litX
    rw [if_neg hn, Int.toNat_natCast, lb_last hi hv]
  · unfold distV
    rw [hd, Int.toNat_natCast]; omega
theorem TokW.eq {lit dist : List Int} {t : Tk} {ws : List (Nat × Nat)} (h : TokW lit dist t ws) : ws = tokWd lit dist t := by
  cases h with
  | one c _ _ _ => rfl
  | long j u hj hu _ _ =>
    obtain ⟨e1, e2, e3, e4, e5⟩ := sy_long hj hu
    unfold tokWd
    rw [if_neg (show ¬ (258 : Int) = 0 by decide), e1, e2, e3, e4, e5]
    rfl
  | copy i v j u hi hv hlv hj hu _ _ =>
    have h3 := lb_top i hi
    obtain ⟨e1, e2, e3, e4, e5⟩ := sy_copy hi hv hlv hj hu
    unfold tokWd
    rw [if_neg (by simp only; omega), e1, e2, e3, e4, e5]
theorem TokWs.eq {lit dist : List Int} {ts : List Tk} {ws : List (Nat × Nat)} (h : TokWs lit dist ts ws) : ws = ts.flatMap (tokWd lit dist) := by
  induction h with
  | nil => rfl
  | cons a _ ih => rw [List.flatMap_cons, ← a.eq, ← ih]
end Go.Proofs.YtdpegahcgaicnaaGreatDoor

namespace Go.Proofs.YtdpegahcgaicnaaGreatDoor
open Go.RowKit
set_option linter.unusedVariables false
set_option linter.unusedSimpArgs false

def extraT (t : Tk) : Nat := if t.l = 0 then 0 else litX t + de (distSy t)
theorem word_wd {L : List Int} {k : Nat} (h : HasC L (k : Int)) : (((wordZ L (k : Int)).2 : Nat) : Int) = L.getD k 0 := by
  obtain ⟨k', hk, hkl, h0⟩ := h
  obtain rfl : k = k' := by omega
  unfold wordZ; rw [Int.toNat_natCast]; simp only; omega
theorem TokW.cost {lit dist : List Int} {t : Tk} {ws : List (Nat × Nat)} (h : TokW lit dist t ws) :
    litSy t < 286 ∧ (t.l ≠ 0 → distSy t < 30) ∧ ((wdN ws : Nat) : Int) = lit.getD (litSy t) 0 + (if t.l = 0 then 0 else dist.getD (distSy t) 0) + (extraT t : Int) := by
  cases h with
  | one c h0 h1 hc =>
    obtain ⟨k, rfl⟩ : ∃ k : Nat, c = (k : Int) := ⟨c.toNat, by omega⟩
    have hw := word_wd hc
    have hs : litSy ⟨0, 0, (k : Int)⟩ = k := by simp [litSy]
    refine ⟨by rw [hs]; omega, fun h => absurd rfl h, ?_⟩
    rw [hs]
    simp only [wdN, extraT, if_pos]
    omega
  | long j u hj hu hc hd =>
    obtain ⟨e1, e2, e3, e4, e5⟩ := sy_long hj hu
    have hc2 : HasC lit ((285 : Nat) : Int) := hc
    have hw := word_wd hc2
    have hw2 := word_wd hd
    have h2 : ¬ (258 : Int) = 0 := by decide
    rw [e1, e4]
    refine ⟨by decide, fun _ => hj, ?_⟩
    unfold extraT
    rw [e3, e4]
    simp only [wdN, if_neg h2]
    have hw' : (((wordZ lit 285).2 : Nat) : Int) = lit.getD 285 0 := hw
    omega
  | copy i v j u hi hv hlv hj hu hc hd =>
    have h3 := lb_top i hi
    obtain ⟨e1, e2, e3, e4, e5⟩ := sy_copy hi hv hlv hj hu
    have hw := word_wd hc
    have hw2 := word_wd hd
    have h2 : ¬ ((lb i + v : Nat) : Int) = 0 := by omega
    rw [e1, e4]
    refine ⟨by omega, fun _ => hj, ?_⟩
    unfold extraT
    rw [e3, e4]
    simp only [wdN, if_neg h2]
    omega
end Go.Proofs.YtdpegahcgaicnaaGreatDoor

namespace Go.Proofs.YtdpegahcgaicnaaGreatDoor
open Go.RowKit
set_option linter.unusedVariables false
set_option linter.unusedSimpArgs false

theorem emp_sa {w0 w : World} (hk : Kept NoB w0 w) (k : Nat) (he : k = w.heap.size) : IntSt w0 (w.alloc (.cells #[] 3)) (some ⟨k, 0, none⟩) 0 0 [] := by
  subst he; exact ⟨rfl, World.ownsRow_lit w #[] 0 (Nat.zero_le _) (Nat.zero_le _) rfl, hk.alloc _, fun k e => by have := hk.size; simp [Value.ownBlock] at e; omega⟩
/-- Numbers appended to an own row, in a region in its own order. -/
theorem wpList_intsA {ops : Array Oper} {rest : List Oper} {o : Oper} {a : Act} {w : World} {Q : Exit → Act → World → Prop} (hgd : o.guard = none) (s x : Operand)
    (ho : o.op = .call { callee := .builtin .append, args := #[s, x], argTypes := #[23, 23] })
    {w0 : World} {a1 : Option Addr} {l1 c1 : Nat} {zs : List Int} (hS : IntSt w0 w a1 l1 c1 zs) (hs : a.eval s = .slice a1 l1 c1)
    (ad : Addr) (m c : Nat) (news : List Int) (hx : a.eval x = .slice (some ad) m c) (hl : news.length = m) (hnews : ∀ j u, (news.map (Value.int .i64))[j]? = some u → w.cell? (ad.add j) = some u) (h63 : l1 + m ≤ 100000)
    (h : ∀ a2 c2 w', IntSt w0 w' a2 (l1 + m) c2 (zs ++ news) → Kept (OwnB (Value.slice a1 l1 c1)) w w' → wpList Tryz.prog ops Q rest (a.put o.dst (.slice a2 (l1 + m) c2)) w') : wpList Tryz.prog ops Q (o :: rest) a w := by
  obtain ⟨i0, hi, hz0, hz1, hz2⟩ := info_parts infoI
  refine wpList_app w hgd s x 23 ho 3 i0 (.int .i64 0) 1 8 (by kernel_rfl) hi hz0 hz1 hz2 rfl (by decide) _ l1 (zs.map (.int .i64)) hs hS.own ad m c (news.map (.int .i64)) hx (by rw [List.length_map, hl, Nat.mul_one]) hnews (fun u hu => by obtain ⟨y, _, rfl⟩ := List.mem_map.1 hu; rfl) (by unfold maxLen; omega) (by omega) ?_
  intro v' w' h2 h3 h4
  obtain ⟨a2, c2, rfl⟩ := own_shape2 h2
  refine h _ _ _ ⟨by rw [List.length_append, hS.len, hl], by rw [List.map_append]; exact h2, hS.kept.grown h3 (fun k hk e => by have := hS.fresh k e; omega), ?_⟩ ?_
  intro k hk
  rcases h4 k hk with h | h
  · exact hS.fresh k h
  · have := hS.kept.size; omega
  · exact (Kept.refl _ w).grown h3 (fun k hk e => e)
end Go.Proofs.YtdpegahcgaicnaaGreatDoor

namespace Go.Proofs.YtdpegahcgaicnaaGreatDoor
open Go.RowKit
set_option linter.unusedVariables false
set_option linter.unusedSimpArgs false

set_option maxRecDepth 20000 in
set_option maxHeartbeats 2000000 in
theorem grow_nil (n : Nat) (w : World) (hn : 1 ≤ n ∧ n ≤ 100000) :
    Calls Tryz.prog 102 #[.slice none 0 0, .int .i64 (n : Int)] w fun e w' => ∃ c, e = .returned (.slice (some ⟨w.heap.size, 0, none⟩) 0 c) ∧ IntSt w w' (some ⟨w.heap.size, 0, none⟩) 0 c [] := by
  obtain ⟨i0, hi, hz0, hz1, hz2⟩ := info_parts infoI
  have h1 : ¬ ((n : Int) < 0) := by omega
  have h2 : (0 : Int) < (n : Int) := by omega
  have hold : (Builtin.firstCells i0.size 0 (.slice none 0 0)).run Tryz.prog w.drew = .ok #[] w.drew := run_firstCells_none w.drew i0.size 0 0 0
  have hrz : ∀ ty, (Builtin.append_ #[23, 3] ty #[.slice none 0 0, .int .i64 (n : Int)]).run Tryz.prog w =
      .ok (.slice (some ⟨w.heap.size, 0, none⟩) n (grownCap w n 0 3)) (w.drew.alloc (.cells (([] : List Value).toArray ++ Builtin.zeroCells (Value.int .i64 0).cells n ++ Builtin.zeroCells (Value.int .i64 0).cells (grownCap w n 0 3 - n)) 3)) := fun ty => by
    have h := Lib.run_append_grow_zeros w 23 3 ty 3 i0 (.int .i64 0) .i64 .i64 Tryz.underlying23 rfl hi hz0 none 0 0 [] hold n (by omega) (by rw [hz1]; omega) (by omega) (by omega)
      (by rw [hz2]; omega)
      (by rw [Nat.zero_add]; exact growslice_fits (by omega) (by rw [hz2]; omega))
    rw [Nat.zero_add] at h
    exact h
  have hGn : n ≤ grownCap w n 0 3 := grownCap_ge w _ _ _
  have hGm : grownCap w n 0 3 ≤ maxLen := grownCap_le_maxLen w n 0 3 (by unfold maxLen; omega)
  obtain ⟨G, hG⟩ : ∃ G, G = grownCap w n 0 3 := ⟨_, rfl⟩
  rw [← hG] at hrz hGn hGm
  have hcz : ∀ k, (Builtin.zeroCells (Value.int .i64 0).cells k).size = k := fun k => by simp [Builtin.zeroCells, Value.cells]
  obtain ⟨cs, hcs⟩ : ∃ cs : Array Value, cs = ([] : List Value).toArray ++ Builtin.zeroCells (Value.int .i64 0).cells n ++ Builtin.zeroCells (Value.int .i64 0).cells (G - n) := ⟨_, rfl⟩
  have hsz : cs.size = G := by rw [hcs]; simp [hcz]; omega
  rw [← hcs] at hrz
  have hst : IntSt w (w.drew.alloc (.cells cs 3)) (some ⟨w.heap.size, 0, none⟩) 0 G [] := ⟨rfl, ⟨rfl, .inr ⟨w.heap.size, G, cs, rfl, Nat.zero_le _, by simpa using heap_alloc_new w.drew (.cells cs 3), Nat.zero_le _, hGm, by rw [hsz, Nat.mul_one], by simp⟩⟩, (Kept.drew (Kept.refl NoB w)).alloc _, fun k hk => by simp [Value.ownBlock] at hk; omega⟩
  have HSt := Lib.hid hst
  have g63 : (G : Int) ≤ 9223372036854775807 := by unfold maxLen at hGm; omega
  clear hold hG hcs hsz hst hGm hcz
  go_enter Tryz.func102, Tryz.ntmps102
  go_wp2_with (at_builtin; refine Lib.wpList_append_run _ rfl _ _ _ _ rfl _ _ rfl rfl _ _ (hrz _) ?_)
  all_goals (go_ret; exact ⟨G, rfl, HSt.out⟩)
set_option maxRecDepth 20000 in
set_option maxHeartbeats 4000000 in
theorem concat_any (H : Nat) (p1 : Addr) (c1 : Nat) (xs : List Int) (p2 : Addr) (c2 B : Nat) (ys : List Int) (w : World) (h0 : w.cell? ⟨H, 0, none⟩ = some (.slice (some p1) xs.length c1)) (h1 : w.cell? ⟨H, 1, none⟩ = some (.slice (some p2) ys.length c2))
    (hx : RdI w B (some p1) xs) (hy : RdI w B (some p2) ys) (hxl : 1 ≤ xs.length ∧ xs.length ≤ 1000) (hyl : ys.length ≤ 1000) :
    Calls Tryz.prog 75 #[.slice (some ⟨H, 0, none⟩) 2 2] w fun e w' => ∃ a c, e = .returned (.slice a (xs.length + ys.length) c) ∧ IntSt w w' a (xs.length + ys.length) c (xs ++ ys) := by
  have on : ∀ {w : World} {ad : Addr} {B : Nat} {zs : List Int}, RdI w B (some ad) zs → ∀ W, Kept NoB w W → ∀ j u, (zs.map (Value.int .i64))[j]? = some u → W.cell? (ad.add j) = some u := by
    intro w ad B zs hr W hk j u hu
    have hj : j < zs.length := by have := (List.getElem?_eq_some_iff.1 hu).1; simpa using this
    obtain ⟨g, off, he, _, hc⟩ := hr j hj
    cases he
    rw [addr_add, hk.cell hc, ← hu]
    simp [List.getD, hj]
  have hX := on hx; have hY := on hy
  obtain ⟨n, hn⟩ : ∃ n, n = xs.length := ⟨_, rfl⟩
  obtain ⟨m, hm⟩ : ∃ m, m = ys.length := ⟨_, rfl⟩
  rw [← hn] at h0 hxl ⊢
  rw [← hm] at h1 hyl ⊢
  have hC0 : ∀ W, Kept NoB w W → W.cell? ⟨H, 0, none⟩ = some (.slice (some p1) n c1) := fun W hk => hk.cell h0
  have hC1 : ∀ W, Kept NoB w W → W.cell? ⟨H, 1, none⟩ = some (.slice (some p2) m c2) := fun W hk => hk.cell h1
  have HC0 := Lib.hid hC0; have HC1 := Lib.hid hC1; have HX := Lib.hid hX; have HY := Lib.hid hY; have HN := Lib.hid hn; have HM := Lib.hid hm
  have hn1 := hxl.1
  have hn2 := hxl.2
  clear on hX hY hx hy hn hm hC0 hC1 hxl
  go_enter Tryz.func75, Tryz.ntmps75
  go_wp2_with fail
  go_loopw [11, 3, 5] (fun v11 v3 _ wr => ∃ i : Nat, v11 = .int .i64 (i : Int) ∧ i ≤ 2 ∧ v3 = .int .i64 ((if i = 0 then 0 else if i = 1 then n else n + m : Nat) : Int) ∧ w = wr) (fun v11 _ _ _ => 2 - (intOf v11).toNat)
  case atStart => exact ⟨0, rfl, by omega, rfl, rfl⟩
  case round =>
    obtain ⟨i, rfl, hi2, rfl, rfl⟩ := hrel
    rcases (show i = 0 ∨ i = 1 ∨ i = 2 by omega) with rfl | rfl | rfl
    · have hg0 : ¬ ((0 : Int) + (n : Int) < 0) := by omega
      have hg1 : ¬ ((n : Int) < 0) := by omega
      go_wp2
      go_roundw
      case rel => exact ⟨1, rfl, by omega, by simp⟩
      case measure => simp [intOf]
    · have hg1 : ¬ ((n : Int) + (m : Int) < 0) := by omega
      have hg2 : IntKind.i64.wrap ((n : Int) + (m : Int)) = ((n + m : Nat) : Int) := by rw [IntWalk.i64_in _ (by omega)]; omega
      have hg3 : ¬ (((n + m : Nat) : Int) < 0) := by omega
      go_wp2
      go_roundw
      case rel => exact ⟨2, rfl, by omega, by simp⟩
      case measure => simp [intOf]
    · obtain ⟨k, hk⟩ : ∃ k, k = n + m := ⟨_, rfl⟩
      rw [if_neg (by decide), if_neg (by decide), ← hk]
      have hgc := grow_nil k w (by omega)
      have HGc := Lib.hid hgc; have HK := Lib.hid hk
      clear hgc hk
      go_wp2_with fail
      with_reducible refine HGc.out.mono ?_
      rintro e w1 ⟨c, rfl, hst⟩
      obtain ⟨G, hG⟩ : ∃ G, G = w.heap.size := ⟨_, rfl⟩
      rw [← hG] at hst ⊢
      have HSt := Lib.hid hst
      clear hst hG HGc
      go_wp2_with fail
      go_loopw [27, 6, 8] (fun v27 v6 _ w2 => ∃ (i : Nat) (a : Option Addr) (c : Nat), v27 = .int .i64 (i : Int) ∧ i ≤ 2 ∧ v6 = .slice a (if i = 0 then 0 else if i = 1 then n else n + m) c ∧ Hid (IntSt w w2 a (if i = 0 then 0 else if i = 1 then n else n + m) c (if i = 0 then [] else if i = 1 then xs else xs ++ ys))) (fun v27 _ _ _ => 2 - (intOf v27).toNat)
      case atStart => exact ⟨0, _, c, rfl, by omega, rfl, HSt⟩
      case round =>
        clear HSt
        obtain ⟨i, a, c, rfl, hi2, rfl, HS⟩ := hrel
        rcases (show i = 0 ∨ i = 1 ∨ i = 2 by omega) with rfl | rfl | rfl
        · have hs := HS.out
          rw [if_pos rfl, if_pos rfl] at hs
          have x0 := HC0.out wr hs.kept
          have hx := HX.out wr hs.kept
          have HS0 := Lib.hid hs; have HXx := Lib.hid hx
          clear hs HS hx
          rw [if_pos rfl]
          go_wp2_with (at_builtin; refine wpList_intsA rfl _ _ rfl HS0.out rfl p1 n c1 xs rfl HN.out.symm HXx.out (by omega) ?_)
          intro a2 c3 w3 hs3 hk3
          have HS3 := Lib.hid hs3
          clear hs3 hk3
          go_wp2
          go_roundw
          case rel => exact ⟨1, a2, c3, rfl, by omega, rfl, HS3⟩
          case measure => simp [intOf]
        · have hs := HS.out
          rw [if_neg (by decide), if_pos rfl, if_neg (by decide), if_pos rfl] at hs
          have x0 := HC1.out wr hs.kept
          have hx := HY.out wr hs.kept
          have HS0 := Lib.hid hs; have HXx := Lib.hid hx
          clear hs HS hx
          rw [if_neg (by decide), if_pos rfl]
          go_wp2_with (at_builtin; refine wpList_intsA rfl _ _ rfl HS0.out rfl p2 m c2 ys rfl HM.out.symm HXx.out (by omega) ?_)
          intro a2 c3 w3 hs3 hk3
          have HS3 := Lib.hid hs3
          clear hs3 hk3
          go_wp2
          go_roundw
          case rel => exact ⟨2, a2, c3, rfl, by omega, rfl, HS3⟩
          case measure => simp [intOf]
        · have hs := HS.out
          rw [if_neg (by decide), if_neg (by decide), if_neg (by decide), if_neg (by decide)] at hs
          rw [if_neg (by decide), if_neg (by decide)]
          have HS0 := Lib.hid hs
          clear hs HS
          go_wp2
          go_ret
          exact ⟨a, c, rfl, HS0.out⟩
end Go.Proofs.YtdpegahcgaicnaaGreatDoor
