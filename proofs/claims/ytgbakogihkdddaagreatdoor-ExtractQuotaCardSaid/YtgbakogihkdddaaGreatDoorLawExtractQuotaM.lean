/-
  No more is stored than the quota: ExtractQuota.
-/
import Derived.Test.YtgbakogihkdddaaGreatDoorExTopM
import Derived.BigRegion
import Derived.Deep.CutBlock
namespace Go.Proofs.YtgbakogihkdddaaGreatDoor
open Go.RowKit Go.Shelf
set_option linter.unusedVariables false
set_option linter.unusedSimpArgs false
set_option maxRecDepth 20000

theorem fit_min : ∀ (s : Nat) (k : Int) (room : Nat), fitB (fun _ => false) s k room = (min s room, min s room)
  | 0, k, room => by simp [fitB]
  | s + 1, k, 0 => by simp [fitB]
  | s + 1, k, r + 1 => by
    unfold fitB
    simp [fit_min s (k + 1) r]
/-- The root has these names; no node beyond the newest. -/
structure QuT (T : FsP) (q nx : Int) (ns : Nms) (us : Int) : Prop where
  root : ∃ d, T.nd 1 = some d ∧ d.v.kind = 6 ∧ d.names = ns
  next : T.next = nx
  quota : T.quota = q
  used : T.used = us
  cnt : (T.cnt : Int) = nx
theorem qu_start (q : Int) (hq : 0 ≤ q) : QuT (newT q) q 1 [] 0 :=
  ⟨⟨rootN, rfl, rfl, rfl⟩, rfl, by show max q 0 = q; omega, rfl, rfl⟩
theorem qu_find {T : FsP} {q next used : Int} {names : Nms} (h : QuT T q next names used) (p : List UInt8) (hp : okN (strB p) = true) : findP T 1 p = askK (getK names p) := by
  obtain ⟨d, h1, h2, h3⟩ := h.root
  unfold findP placeE namesP
  rw [h1]
  simp only [h2, hp, if_true, h3]
theorem qu_make {T : FsP} {q next used : Int} {names : Nms} (h : QuT T q next names used) (p : List UInt8) (hp : okN (strB p) = true) (hn : getK names p = none) (v : NodeV) (hv : mayB v = true) (hv6 : v.kind ≠ 6) (hx : 1 ≤ next ∧ next < 900) :
    ∃ M, makeP T 1 p v = (M, next + 1, 0) ∧ QuT M q (next + 1) (putK names p (next + 1)) used ∧ (∃ n, M.nd (next + 1) = some n ∧ n.v.kind = v.kind ∧ n.v.size = v.size ∧ n.data = []) ∧ ∀ k, k ≠ 1 → k ≠ next + 1 → M.nd k = T.nd k := by
  obtain ⟨d, h1, h2, h3⟩ := h.root
  refine ⟨makeT T 1 d p v, ?_, ⟨⟨{ touch (T.clock + 1) d with names := putK d.names p (T.next + 1) }, ?_, h2, by rw [h3, h.next]⟩, by show T.next + 1 = _; rw [h.next], h.quota, h.used, ?_⟩, ⟨freshN v (T.clock + 1) 1, ?_, rfl, rfl, rfl⟩, fun k k1 k2 => ?_⟩
  · rw [makeP_yes v h1 h2 hp, if_pos hv, h3, hn]
    have : ¬ 1000 ≤ T.cnt := by have := h.cnt; omega
    rw [if_neg (by simp), if_neg this, h.next]
  · show updN (updN T.nd 1 _) (T.next + 1) _ 1 = _
    rw [updN_other _ _ (by rw [h.next]; omega), updN_same]
  · show ((T.cnt + 1 : Nat) : Int) = _
    have := h.cnt; omega
  · show updN (updN T.nd 1 _) (T.next + 1) _ (next + 1) = _
    rw [h.next, updN_same]
  · show updN (updN T.nd 1 _) (T.next + 1) _ k = _
    rw [updN_other _ _ (by rw [h.next]; exact k2), updN_other _ _ k1]
/-- An entry that is a file of one piece, made where no name is. -/
theorem qu_fill {M : FsP} {q next used : Int} {names : Nms} (h : QuT M q next names used) (hn1 : next ≠ 1) {n : NdP} (hn : M.nd next = some n) (hk : n.v.kind = 1) (hd : n.data = []) (s k : Int) (x : List UInt8) (hx : x ≠ []) (hk0 : 0 ≤ k) (hs : k + x.length ≤ s) (hs2 : s ≤ 1000000) (hu : 0 ≤ used ∧ used ≤ q) (E : EntV) (hE : E.size = s ∧ E.pcs = [(k, x)]) :
    (fillP M next E).2 = (if (q - used).toNat < x.length then 5 else 0) ∧ QuT (fillP M next E).1 q next names (used + (min x.length (q - used).toNat : Nat)) ∧
    (∃ n', (fillP M next E).1.nd next = some n' ∧ n'.v.kind = 1 ∧ n'.v.size = s ∧ n'.data = (if min x.length (q - used).toNat = 0 then [] else putP [] k (x.take (min x.length (q - used).toNat)))) ∧ ∀ j, j ≠ next → (fillP M next E).1.nd j = M.nd j := by
  have hxl : x.length ≠ 0 := fun e => hx (List.length_eq_zero_iff.1 e)
  have hg : growP M next E.size = (growT M next n E.size, 0) := by
    rw [growP_yes hn hk, if_neg (by rw [hE.1]; omega)]
  have hgn : (growT M next n E.size).nd next = some (grN n (M.clock + 1) E.size) := updN_same _ _ _
  have hcd : cutP n.data E.size = [] := by rw [hd]; rfl
  have hz : (sizeD ([] : List Fp) : Int) = 0 := rfl
  have hgu : (growT M next n E.size).used = used := by
    show M.used - ((sizeD n.data : Int) - (sizeD (cutP n.data E.size) : Int)) = _
    rw [hcd, hd, h.used]; omega
  have hgq : (growT M next n E.size).quota = q := h.quota
  have hgT : QuT (growT M next n E.size) q next names used := by
    obtain ⟨d, h1, h2, h3⟩ := h.root
    exact ⟨⟨d, (updN_other _ _ (fun e => hn1 e.symm)).trans h1, h2, h3⟩, h.next, hgq, hgu, h.cnt⟩
  obtain ⟨r, hr⟩ : ∃ r, r = min x.length (q - used).toNat := ⟨_, rfl⟩
  have hfit : fitP (growT M next n E.size) (grN n (M.clock + 1) E.size) k x = (r, r) := by
    unfold fitP
    rw [show (grN n (M.clock + 1) E.size).data = [] from hcd, hgu, hgq, show isD ([] : List Fp) = fun _ => false from by funext y; rfl, fit_min, hr]
  have hw : writeP (growT M next n E.size) next k x = (if r = 0 then growT M next n E.size else writeT (growT M next n E.size) next (grN n (M.clock + 1) E.size) k (x.take r) r, if r < x.length then 5 else 0) := by
    unfold writeP
    rw [hgn]
    show (if n.v.kind = 1 then _ else _) = _
    rw [if_pos hk, if_neg (by omega), hfit]
  have hf : fillP M next E = writeP (growT M next n E.size) next k x := by
    unfold fillP
    rw [hg, hE.2]
    show (if (0 : Int) = 0 then writesP (growT M next n E.size) next [(k, x)] else _) = _
    rw [if_pos rfl]
    unfold writesP
    by_cases h0 : (writeP (growT M next n E.size) next k x).2 = 0
    · rw [if_pos h0]
      show ((writeP (growT M next n E.size) next k x).1, (0 : Int)) = _
      rw [← h0]
    · rw [if_neg h0]
  have hrl : (if r < x.length then (5 : Int) else 0) = (if (q - used).toNat < x.length then 5 else 0) := by
    by_cases h1 : (q - used).toNat < x.length
    · rw [if_pos h1, if_pos (by omega)]
    · rw [if_neg h1, if_neg (by omega)]
  rw [hf, hw, ← hr]
  refine ⟨hrl, ?_, ?_, fun j hj => ?_⟩
  · by_cases h0 : r = 0
    · rw [if_pos h0, h0]
      exact ⟨hgT.root, hgT.next, hgT.quota, by rw [hgT.used]; simp, hgT.cnt⟩
    · rw [if_neg h0]
      obtain ⟨d, h1, h2, h3⟩ := hgT.root
      exact ⟨⟨d, (updN_other _ _ (fun e => hn1 e.symm)).trans h1, h2, h3⟩, hgT.next, hgT.quota, by show (growT M next n E.size).used + (r : Int) = _; rw [hgu], hgT.cnt⟩
  · by_cases h0 : r = 0
    · rw [if_pos h0, if_pos h0]
      exact ⟨_, hgn, hk, hE.1, hcd⟩
    · rw [if_neg h0, if_neg h0]
      refine ⟨wrN (grN n (M.clock + 1) E.size) (M.clock + 1 + 1) k (x.take r), updN_same _ _ _, hk, ?_, ?_⟩
      · show max E.size (k + ((x.take r).length : Int)) = s
        rw [hE.1, List.length_take]
        have : r ≤ x.length := by omega
        omega
      · show putP (cutP n.data E.size) k (x.take r) = _
        rw [hcd]
  · by_cases h0 : r = 0
    · rw [if_pos h0]; exact updN_other _ _ hj
    · rw [if_neg h0]; exact (updN_other _ _ hj).trans (updN_other _ _ hj)
theorem qu_spot {T : FsP} {q next used : Int} {names : Nms} (h : QuT T q next names used) (p : List UInt8) (hp : okN (strB p) = true) (hn : getK names p = none) : spotP T 1 [] p = (T, some ⟨1, p, 0, false, false⟩, 0) := by
  have hf := qu_find h p hp
  rw [hn] at hf
  unfold spotP
  show (if (0 : Int) = 0 then (T, spotAt T 1 p) else _) = _
  rw [if_pos rfl]
  unfold spotAt
  rw [hf]
  rfl
/-- An entry by a name that is not there yet: a file, or what has no bytes. -/
theorem qu_one {T : FsP} {q next used : Int} {names : Nms} (h : QuT T q next names used) (E : EntV) (p : List UInt8) (hE : okE E = true) (hnm : E.name = p) (hps : partsOf p = some [p]) (hp : okN (strB p) = true) (hn : getK names p = none) (hk : E.kind ≠ 2 ∧ dirK E.kind = false) :
    oneP T 1 E = putOtherQ (makeP T 1 p (nodeE E)) E := by
  unfold oneP
  rw [if_pos hE, hnm, hps]
  have hl : linkP2 E = some [] := by unfold linkP2; rw [if_neg hk.1]
  simp only [hl]
  show spotQ (spotP T 1 [] p) 1 E [] = _
  rw [qu_spot h p hp hn]
  show putP3 T 1 ⟨1, p, 0, false, false⟩ E [] = _
  unfold putP3
  rw [if_neg (by rw [hk.2]; decide), if_neg hk.1]
  unfold putOtherP clearP
  rfl
def quA (a : List UInt8) : EntV := ⟨1, [97], [], 0, 0, 0, 0, 0, 0, a.length, [(0, a)]⟩
def quB (b : List UInt8) : EntV := ⟨1, [98], [], 0, 0, 0, 0, 0, 0, 500, [(7, b)]⟩
def quC : EntV := ⟨7, [99], [], 0, 0, 0, 0, 0, 0, 0, []⟩
theorem quA_ok (a : List UInt8) (ha : a ≠ []) (hl : a.length ≤ 100) : okE (quA a) = true := by
  have h1 : okTxs (quA a) = true := by
    show (okTx [97] && !(dirK 1 && Lib.hasSuffix [97] [47]) && (if linkK 1 = true then okTx [] else true)) = true
    decide
  have h2 : okNu (quA a) = true := by
    show ((decide ((1 : Int) ≤ 1) && decide ((1 : Int) ≤ 8)) && (if devK 1 = true then inW 0 1048575 && inW 0 1048575 else decide ((0 : Int) = 0) && decide ((0 : Int) = 0)) && (inW 0 4095 && inW 0 2147483647 && inW 0 2147483647)) = true
    decide
  have h3 : okFi (quA a) = true := by
    show okS (a.length : Int) [(0, a)] = true
    have hne : a.isEmpty = false := by cases a with | nil => exact absurd rfl ha | cons x r => rfl
    simp only [okS, okG, hne, Bool.and_true, Bool.not_false, Bool.true_and, List.length_cons, List.length_nil, Bool.and_eq_true, decide_eq_true_eq]
    omega
  unfold okE
  rw [h1, h2, h3]; rfl
theorem quB_ok (b : List UInt8) (hb : b ≠ []) (hl : b.length ≤ 100) : okE (quB b) = true := by
  have h1 : okTxs (quB b) = true := by
    show (okTx [98] && !(dirK 1 && Lib.hasSuffix [98] [47]) && (if linkK 1 = true then okTx [] else true)) = true
    decide
  have h2 : okNu (quB b) = true := by
    show ((decide ((1 : Int) ≤ 1) && decide ((1 : Int) ≤ 8)) && (if devK 1 = true then inW 0 1048575 && inW 0 1048575 else decide ((0 : Int) = 0) && decide ((0 : Int) = 0)) && (inW 0 4095 && inW 0 2147483647 && inW 0 2147483647)) = true
    decide
  have h3 : okFi (quB b) = true := by
    show okS 500 [(7, b)] = true
    have hne : b.isEmpty = false := by cases b with | nil => exact absurd rfl hb | cons x r => rfl
    simp only [okS, okG, hne, Bool.and_true, Bool.not_false, Bool.true_and, List.length_cons, List.length_nil, Bool.and_eq_true, decide_eq_true_eq]
    omega
  unfold okE
  rw [h1, h2, h3]; rfl
/-- What of b is there. -/
def quM (q : Int) (a b : List UInt8) : Nat := min b.length (q - a.length).toNat
/-- The file b, as it is at last. -/
def QuB (T : FsP) (b : List UInt8) (m : Nat) : Prop := ∃ n, T.nd 3 = some n ∧ n.v.kind = 1 ∧ n.v.size = 500 ∧ n.data = (if m = 0 then [] else putP [] 7 (b.take m))
theorem qu_all (a b : List UInt8) (q : Int) (ha : a ≠ [] ∧ a.length ≤ 100) (hb : b ≠ [] ∧ b.length ≤ 100) (hq : 0 ≤ q ∧ q ≤ 255) :
    ∃ T, (∃ next, QuT T q next (if q < a.length then [([97], 2)] else if q < (a.length : Int) + b.length then [([97], 2), ([98], 3)] else [([97], 2), ([98], 3), ([99], 4)]) (min q (a.length + b.length))) ∧
      allE (newT q) 1 [quA a, quB b, quC] = (T, (if q < a.length then 0 else if q < (a.length : Int) + b.length then 1 else 3), (if q < (a.length : Int) + b.length then 5 else 0)) ∧ (¬ q < a.length → QuB T b (quM q a b)) ∧ T.clock ≤ 18000 := by
  have hgf := (goE_fit [quA a, quB b, quC] (newT q) 1 [] 0).2.2
  have hgl : (newT q).clock + ((6000 * [quA a, quB b, quC].length : Nat) : Int) = 18000 := rfl
  have hal : a.length ≠ 0 := fun e => ha.1 (List.length_eq_zero_iff.1 e)
  have hbl : b.length ≠ 0 := fun e => hb.1 (List.length_eq_zero_iff.1 e)
  have h0 := qu_start q hq.1
  have pa : partsOf [97] = some [[97]] := by kernel_rfl
  have pb : partsOf [98] = some [[98]] := by kernel_rfl
  have pc : partsOf [99] = some [[99]] := by kernel_rfl
  have oa : okN (strB [97]) = true := by kernel_rfl
  have ob : okN (strB [98]) = true := by kernel_rfl
  have oc : okN (strB [99]) = true := by kernel_rfl
  obtain ⟨M1, m1, m2, ⟨n1, m3, m4, m5, m6⟩, m7⟩ := qu_make h0 [97] oa rfl (nodeE (quA a)) (by kernel_rfl) (show (1 : Int) ≠ 6 by decide) (by omega)
  have e1 : oneP (newT q) 1 (quA a) = fillP M1 (1 + 1) (quA a) := by
    rw [qu_one h0 (quA a) [97] (quA_ok a ha.1 ha.2) rfl pa oa rfl ⟨show (1 : Int) ≠ 2 by decide, rfl⟩, m1]
    rfl
  obtain ⟨f1, f2, f3, f4⟩ := qu_fill m2 (by decide) m3 m4 m6 (a.length) 0 a ha.1 (by omega) (by omega) (by omega) ⟨by omega, hq.1⟩ (quA a) ⟨rfl, rfl⟩
  rw [← e1] at f1 f2
  have hd1 : ∀ T : FsP, dirOf T 1 (quA a) = none := fun T => rfl
  have hd2 : ∀ T : FsP, dirOf T 1 (quB b) = none := fun T => rfl
  have hd3 : ∀ T : FsP, dirOf T 1 quC = none := fun T => rfl
  have hnA : putK [] [97] (1 + 1) = [([97], 2)] := rfl
  rw [hnA] at f2
  by_cases c1 : q < a.length
  · refine ⟨(oneP (newT q) 1 (quA a)).1, ⟨2, ?_⟩, ?_, fun h => absurd c1 h, ?_⟩
    · rw [if_pos c1]
      have hu : (0 : Int) + (min a.length (q - 0).toNat : Nat) = min q (a.length + b.length) := by omega
      rw [hu] at f2
      exact f2
    · have hg : goE (newT q) 1 [] 0 [quA a, quB b, quC] = ((oneP (newT q) 1 (quA a)).1, [], 0, 5) := by
        have f5 : (oneP (newT q) 1 (quA a)).2 = 5 := by rw [f1, if_pos (by omega)]
        rw [goE_cons, f5, if_neg (by decide)]
      unfold allE
      rw [hg, if_pos c1, if_pos (by omega)]
      rfl
    · have hg : goE (newT q) 1 [] 0 [quA a, quB b, quC] = ((oneP (newT q) 1 (quA a)).1, [], 0, 5) := by
        have f5 : (oneP (newT q) 1 (quA a)).2 = 5 := by rw [f1, if_pos (by omega)]
        rw [goE_cons, f5, if_neg (by decide)]
      rw [hg, hgl] at hgf; exact hgf
  · have g1 : (oneP (newT q) 1 (quA a)).2 = 0 := by rw [f1, if_neg (by omega)]
    obtain ⟨T1, hT1⟩ : ∃ T1, T1 = (oneP (newT q) 1 (quA a)).1 := ⟨_, rfl⟩
    rw [← hT1] at f2
    have hu : (0 : Int) + (min a.length (q - 0).toNat : Nat) = (a.length : Int) := by omega
    rw [hu] at f2
    have f2' : QuT T1 q 2 [([97], 2)] a.length := f2
    obtain ⟨M2, k1, k2, ⟨n2, k3, k4, k5, k6⟩, k7⟩ := qu_make f2' [98] ob (by kernel_rfl) (nodeE (quB b)) (by kernel_rfl) (show (1 : Int) ≠ 6 by decide) (by omega)
    have e2 : oneP T1 1 (quB b) = fillP M2 (2 + 1) (quB b) := by
      rw [qu_one f2' (quB b) [98] (quB_ok b hb.1 hb.2) rfl pb ob (by kernel_rfl) ⟨show (1 : Int) ≠ 2 by decide, rfl⟩, k1]
      rfl
    obtain ⟨r1, r2, r3, r4⟩ := qu_fill k2 (by decide) k3 k4 k6 500 7 b hb.1 (by omega) (by omega) (by omega) ⟨by omega, by omega⟩ (quB b) ⟨rfl, rfl⟩
    have r3' := r3
    rw [← e2] at r1 r2 r3'
    have hnB : putK [([97], 2)] [98] (2 + 1) = [([97], 2), ([98], 3)] := by kernel_rfl
    rw [hnB] at r2
    have hM : min b.length (q - a.length).toNat = quM q a b := rfl
    rw [hM] at r2 r3'
    by_cases c2 : q < (a.length : Int) + b.length
    · have hg : goE (newT q) 1 [] 0 [quA a, quB b, quC] = ((oneP T1 1 (quB b)).1, [], 1, 5) := by
        rw [goE_cons, if_pos g1, ← hT1]
        show goE T1 1 [] 1 [quB b, quC] = _
        have r5 : (oneP T1 1 (quB b)).2 = 5 := by rw [r1, if_pos (by omega)]
        rw [goE_cons, r5, if_neg (by decide)]
      refine ⟨(oneP T1 1 (quB b)).1, ⟨3, ?_⟩, ?_, fun _ => r3', by rw [hg, hgl] at hgf; exact hgf⟩
      · rw [if_neg c1, if_pos c2]
        have hu2 : (a.length : Int) + (quM q a b : Nat) = min q (a.length + b.length) := by unfold quM; omega
        rw [hu2] at r2
        exact r2
      · unfold allE
        rw [hg, if_neg c1, if_pos c2, if_pos c2]
        rfl
    · have g2 : (oneP T1 1 (quB b)).2 = 0 := by rw [r1, if_neg (by omega)]
      obtain ⟨T2, hT2⟩ : ∃ T2, T2 = (oneP T1 1 (quB b)).1 := ⟨_, rfl⟩
      rw [← hT2] at r2 r3'
      have r2' : QuT T2 q 3 [([97], 2), ([98], 3)] ((a.length : Int) + (quM q a b : Nat)) := r2
      obtain ⟨M3, s1, s2, _, s7⟩ := qu_make r2' [99] oc (by kernel_rfl) (nodeE quC) (by kernel_rfl) (by decide) (by omega)
      have e3 : oneP T2 1 quC = (M3, 0) := by
        rw [qu_one r2' quC [99] (by kernel_rfl) rfl pc oc (by kernel_rfl) ⟨by decide, rfl⟩, s1]
        rfl
      have hnC : putK [([97], 2), ([98], 3)] [99] (3 + 1) = [([97], 2), ([98], 3), ([99], 4)] := by kernel_rfl
      rw [hnC] at s2
      have hg : goE (newT q) 1 [] 0 [quA a, quB b, quC] = (M3, [], 3, 0) := by
        rw [goE_cons, if_pos g1, ← hT1]
        show goE T1 1 [] 1 [quB b, quC] = _
        rw [goE_cons, if_pos g2, ← hT2]
        show goE T2 1 [] 2 [quC] = _
        rw [goE_cons, e3, if_pos rfl]
        rfl
      refine ⟨M3, ⟨4, ?_⟩, ?_, fun _ => ?_, by rw [hg, hgl] at hgf; exact hgf⟩
      · rw [if_neg c1, if_neg c2]
        have hu2 : (a.length : Int) + (quM q a b : Nat) = min q (a.length + b.length) := by unfold quM; omega
        rw [hu2] at s2
        exact s2
      · unfold allE
        rw [hg, if_neg c1, if_neg c2, if_neg c2]
        rfl
      · obtain ⟨n, h1, h2, h3, h4⟩ := r3'
        exact ⟨n, (s7 3 (by decide) (by decide)).trans h1, h2, h3, h4⟩
/-- What is read of b. -/
theorem qu_read {T : FsP} {b : List UInt8} {m : Nat} (h : QuB T b m) (hm : m ≤ b.length) (hb : b.length ≤ 100) : readP T 3 7 500 = (b.take m ++ List.replicate (493 - m) 0, 0) := by
  obtain ⟨n, h1, h2, h3, h4⟩ := h
  unfold readP
  rw [h1]
  show (if n.v.kind = 1 then _ else _) = _
  rw [if_pos h2, if_neg (by decide), h3]
  have hmany : manyP 500 7 500 = 493 := by decide
  rw [hmany]
  congr 1
  apply List.ext_getElem?
  intro t
  by_cases ht : t < 493
  · rw [readD_at _ _ _ _ ht, h4]
    by_cases h0 : m = 0
    · subst h0
      rw [if_pos rfl, List.take_zero, List.nil_append, List.getElem?_replicate, if_pos (by omega)]
      rfl
    · rw [if_neg h0]
      have hp : putP ([] : List Fp) 7 (b.take m) = [(7, b.take m)] := rfl
      rw [hp]
      have hl : (b.take m).length = m := by rw [List.length_take]; omega
      by_cases h5 : t < m
      · rw [byteAt_one _ _ ⟨by dsimp only; omega, by show (7 : Int) + t < 7 + ((b.take m).length : Int); rw [hl]; omega⟩, List.getElem?_append_left (by rw [hl]; exact h5)]
        show some ((b.take m).getD ((7 : Int) + t - 7).toNat 0) = _
        rw [show ((7 : Int) + t - 7).toNat = t by omega, List.getD, List.getElem?_eq_getElem (by rw [hl]; exact h5)]
        rfl
      · rw [byteAt_no _ _ (fun e => by have h6 : (7 : Int) + t < 7 + ((b.take m).length : Int) := e.2; rw [hl] at h6; omega), List.getElem?_append_right (by rw [hl]; omega), hl, List.getElem?_replicate, if_pos (by omega)]
  · rw [List.getElem?_eq_none (by rw [readD_len]; omega), List.getElem?_eq_none (by simp; omega)]
theorem qu_find3 {T : FsP} {q next used : Int} {ns : Nms} (h : QuT T q next ns used) (hn : getK ns [98] = some 3) : findP T 1 [98] = (3, 0) := by
  rw [qu_find h [98] (by kernel_rfl), hn]; rfl
theorem qu_names {T : FsP} {q next used : Int} {ns : Nms} (h : QuT T q next ns used) : namesP T 1 = ns := by
  obtain ⟨d, h1, h2, h3⟩ := h.root
  unfold namesP; rw [h1]; exact h3
theorem qu_stat {T : FsP} {b : List UInt8} {m : Nat} (h : QuB T b m) : (statP T 3).2 = 0 ∧ (statP T 3).1.size = 500 := by
  obtain ⟨n, h1, h2, h3, h4⟩ := h
  unfold statP; rw [h1]; exact ⟨rfl, h3⟩
theorem i64_maskQ (n : Int) (k : Nat) (hk : k ≤ 62) : bits .and .i64 n ((2 ^ k - 1 : Nat) : Int) = n % ((2 ^ k : Nat) : Int) := by
  have h1 : 1 ≤ 2 ^ k := Nat.one_le_two_pow
  have h2 : 2 ^ k ≤ 2 ^ 62 := pow_le_pow2 hk
  have ha : (BitVec.ofInt 64 ((2 ^ k - 1 : Nat) : Int)).toNat = 2 ^ k - 1 := by
    rw [BitVec.ofInt_natCast, BitVec.toNat_ofNat]; exact Nat.mod_eq_of_lt (by omega)
  show IntKind.i64.wrap ((BitVec.ofInt 64 n &&& BitVec.ofInt 64 ((2 ^ k - 1 : Nat) : Int)).toNat : Int) = _
  rw [BitVec.toNat_and, ha, Nat.and_two_pow_sub_one_eq_mod]
  have hm : (((BitVec.ofInt 64 n).toNat : Nat) : Int) = n % 18446744073709551616 := by
    rw [BitVec.toNat_ofInt]
    omega
  have hlt : (BitVec.ofInt 64 n).toNat % 2 ^ k < 2 ^ k := Nat.mod_lt _ (by omega)
  rw [IntWalk.i64_in _ (by omega), Int.natCast_emod, hm]
  exact Int.emod_emod_of_dvd n (Int.ofNat_dvd.2 (show 2 ^ k ∣ 2 ^ 64 from Nat.pow_dvd_pow 2 (by omega)))


theorem quA_I (a : List UInt8) (hl : a.length ≤ 100) : EntI (quA a) := ⟨show (1 : Nat) ≤ 1000000000 by decide, show (0 : Nat) ≤ 1000000000 by decide, ⟨show (-9223372036854775808 : Int) ≤ 0 by decide, show (0 : Int) ≤ 9223372036854775807 by decide⟩, ⟨show (-9223372036854775808 : Int) ≤ (a.length : Int) by omega, show (a.length : Int) ≤ 9223372036854775807 by omega⟩⟩
theorem quB_I (b : List UInt8) : EntI (quB b) := ⟨show (1 : Nat) ≤ 1000000000 by decide, show (0 : Nat) ≤ 1000000000 by decide, ⟨show (-9223372036854775808 : Int) ≤ 0 by decide, show (0 : Int) ≤ 9223372036854775807 by decide⟩, ⟨show (-9223372036854775808 : Int) ≤ 500 by decide, show (500 : Int) ≤ 9223372036854775807 by decide⟩⟩
/-- A row of one piece that is read apart from S. -/
theorem rdA_one {S : Nat → Prop} {w : World} {g : Nat} {k : Int} {x : List UInt8} {ao : Option Addr} {c : Nat} {t : TypeId} (hob : w.heap[g]? = some (.cells #[.int .i64 k, .slice ao x.length c] t (0, 0))) (hg : ¬ S g) (hr : Reads w ao (nb x)) (hno : ao = none → c = 0) (ha : ∀ y, ao = some y → ¬ S y.block ∧ y.block < w.heap.size) (hc : x.length ≤ c) (hcm : c ≤ maxLen) : RdA S w (some ⟨g, 0, none⟩) [(k, x)] := by
  intro q hq
  have hq0 : q = 0 := by simp at hq; omega
  subst hq0
  refine ⟨g, 0, ao, c, rfl, hg, ?_, ?_, hr, hno, ha, hc, hcm⟩
  · rw [obj_cell hob]; rfl
  · show w.cell? ⟨g, 1, none⟩ = some (.slice ao x.length c)
    rw [obj_cell hob]; rfl
def quX (g1 g2 : Nat) : EnX := fun i => if i = 0 then ((some ⟨g1, 0, none⟩, 1), (none, 0)) else if i = 1 then ((some ⟨g2, 0, none⟩, 1), (none, 0)) else ((none, 0), (none, 0))
theorem quEs {S : Nat → Prop} {w : World} {g g1 g2 : Nat} {a b : List UInt8} {t : TypeId} {fr : Nat × Nat} (hob : w.heap[g]? = some (.cells (entC (quA a) (.slice (some ⟨g1, 0, none⟩) 1 1) (.slice none 0 0) ++ entC (quB b) (.slice (some ⟨g2, 0, none⟩) 1 1) (.slice none 0 0) ++ entC quC (.slice none 0 0) (.slice none 0 0)).toArray t fr)) (hg : ¬ S g) (h1 : RdA S w (some ⟨g1, 0, none⟩) [(0, a)]) (h2 : RdA S w (some ⟨g2, 0, none⟩) [(7, b)]) (hl : a.length ≤ 100) : RdEs S w (some ⟨g, 0, none⟩) [quA a, quB b, quC] (quX g1 g2) := by
  intro i hi
  have hi3 : i < 3 := hi
  have h7 : ∀ k x, (k = 0 ∨ k = 7) → ∀ q ∈ [((k : Int), (x : List UInt8))], okI q.1 := fun k x hk q hq => by
    simp at hq; subst hq
    rcases hk with rfl | rfl
    · exact ⟨show (-9223372036854775808 : Int) ≤ 0 by decide, show (0 : Int) ≤ 9223372036854775807 by decide⟩
    · exact ⟨show (-9223372036854775808 : Int) ≤ 7 by decide, show (7 : Int) ≤ 9223372036854775807 by decide⟩
  obtain rfl | rfl | rfl : i = 0 ∨ i = 1 ∨ i = 2 := by omega
  · refine ⟨g, 0, rfl, hg, ?_, h1, h7 0 a (.inl rfl), Nat.le_refl _, by show 1 ≤ maxLen; unfold maxLen; omega, quA_I a hl⟩
    intro j v hj
    have hj12 : j < 12 := (List.getElem?_eq_some_iff.1 hj).1
    rw [cell_of_row _ _ _ _ _ _ hob, List.getElem?_toArray, show 0 + 0 * 12 + j = j by omega, List.append_assoc, List.getElem?_append_left (by exact hj12)]
    exact hj
  · refine ⟨g, 0, rfl, hg, ?_, h2, h7 7 b (.inr rfl), Nat.le_refl _, by show 1 ≤ maxLen; unfold maxLen; omega, quB_I b⟩
    intro j v hj
    have hj12 : j < 12 := (List.getElem?_eq_some_iff.1 hj).1
    rw [cell_of_row _ _ _ _ _ _ hob, List.getElem?_toArray, show 0 + 1 * 12 + j = 12 + j by omega, List.append_assoc, List.getElem?_append_right (by show 12 ≤ 12 + j; omega), List.getElem?_append_left (by show 12 + j - 12 < 12; omega)]
    rw [show 12 + j - (entC (quA a) (.slice (some ⟨g1, 0, none⟩) 1 1) (.slice none 0 0)).length = j by show 12 + j - 12 = j; omega]
    exact hj
  · refine ⟨g, 0, rfl, hg, ?_, (fun q hq => absurd hq (by show ¬ q < 0; omega)), (fun q hq => by cases hq), Nat.le_refl _, by show 0 ≤ maxLen; omega, show EntI quC from entI_small (by decide)⟩
    intro j v hj
    have hj12 : j < 12 := (List.getElem?_eq_some_iff.1 hj).1
    rw [cell_of_row _ _ _ _ _ _ hob, List.getElem?_toArray, show 0 + 2 * 12 + j = 24 + j by omega, List.getElem?_append_right (by show 24 ≤ 24 + j; omega)]
    rw [show 24 + j - (entC (quA a) (.slice (some ⟨g1, 0, none⟩) 1 1) (.slice none 0 0) ++ entC (quB b) (.slice (some ⟨g2, 0, none⟩) 1 1) (.slice none 0 0)).length = j by show 24 + j - 24 = j; omega]
    exact hj
/-- 'make([]byte, n)' at a step of a region that draws its order. -/
theorem step_make {w : World} {o : Oper} {a : Act} {K : Act → World → Prop} {Q : Exit → Act → World → Prop} {l c : Operand} (hop : o.op = Op.makeSlice 22 l c) (n : Nat) (hl : a.eval l = .int .i64 (n : Int)) (hc : a.eval c = .int .i64 (n : Int)) (hm : n ≤ 1048576)
    (hK : ∀ w', w'.heap[w.heap.size]? = some (.cells (bc (List.replicate n 0)).toArray 5 (0, 0)) → Kept NoB w w' → K (a.put o.dst (.slice (some ⟨w.heap.size, 0, none⟩) n n)) w') : o.wp Tryz.prog a w K Q := by
  obtain ⟨i0, hi, hz0, hz1, hz2⟩ := info_parts info5
  have hr := run_make (P := Tryz.prog) w 22 5 i0 (.int .u8 0) Tryz.underlying22 hi hz0 .i64 .i64 n n (by omega) (by omega) (by rw [hz2]; omega) (by omega)
  simp only [Int.toNat_natCast] at hr
  unfold Oper.wp
  simp only [execOp, hop, hl, hc, hr, Sem.run_bind, Sem.run_pure, Result.andThen_ok]
  refine hK _ ?_ ((Kept.refl _ _).alloc _)
  refine (heap_alloc_new _ _).trans (congrArg (fun c => some (Obj.cells c 5 (0, 0))) ?_)
  apply Array.ext'
  rw [hz1, bc, List.map_replicate, List.toArray_replicate]
  have e : (madeCells #[Value.int .u8 0] (n * 1)).toList = List.replicate n (.int .u8 0) := by
    rw [List.eq_replicate_iff]
    refine ⟨by simp [madeCells], ?_⟩
    intro x hx
    simp only [madeCells, Array.toList_map, List.mem_map] at hx
    obtain ⟨i, _, rfl⟩ := hx
    rw [show i % (#[Value.int .u8 0] : Array Value).size = 0 from Nat.mod_one i]
    rfl
  exact e
theorem qu_min (d : Nat) (h : d ≤ 3) : min (IntKind.i64.wrap ((d : Int) + 1)) 3 = ((min (d + 1) 3 : Nat) : Int) := by
  obtain rfl | rfl | rfl | rfl : d = 0 ∨ d = 1 ∨ d = 2 ∨ d = 3 := by omega
  all_goals decide
set_option maxHeartbeats 8000000 in
theorem extractQuota_core (ao bo : Option Addr) (n1 c1 n2 c2 : Nat) (a b : List UInt8) (q0 : Int) (w : World) (hq0 : okI q0) (hra : Reads w ao (nb a)) (hna : n1 = a.length) (hnc1 : n1 ≤ c1) (hcm1 : c1 ≤ maxLen) (hno1 : ao = none → c1 = 0) (hrb : Reads w bo (nb b)) (hnb : n2 = b.length) (hnc2 : n2 ≤ c2) (hcm2 : c2 ≤ maxLen) (hno2 : bo = none → c2 = 0) :
    Calls Tryz.prog 4 #[.slice ao n1 c1, .slice bo n2 c2, .int .i64 q0] w fun e w' => e = .returned (.bool true) ∧ Kept NoB w w' := by
  have HAw := Lib.hid awake24_any
  have HRa := Lib.hid hra; have HRb := Lib.hid hrb; have HNa := Lib.hid hna; have HNb := Lib.hid hnb; have HNo1 := Lib.hid hno1; have HNo2 := Lib.hid hno2
  have HQ0 := Lib.hid hq0; have HC1 := Lib.hid hnc1; have HC2 := Lib.hid hnc2; have HCm1 := Lib.hid hcm1; have HCm2 := Lib.hid hcm2
  have hb1 : (n1 : Int) ≤ 9223372036854775807 := by unfold maxLen at hcm1; omega
  have hb2 : (n2 : Int) ≤ 9223372036854775807 := by unfold maxLen at hcm2; omega
  clear hra hrb hna hnb hno1 hno2 hq0 hnc1 hnc2 hcm1 hcm2
  go_enter Tryz.func4, Tryz.ntmps4
  by_cases hl1 : (100 : Int) < (n1 : Int)
  · go_wp2_with (go_at_call 8; refine (HAw.out _).mono ?_; rintro e w2 ⟨rfl, hk2⟩)
    go_ret
    exact ⟨rfl, hk2⟩
  by_cases hl2 : (100 : Int) < (n2 : Int)
  · go_wp2_with (go_at_call 8; refine (HAw.out _).mono ?_; rintro e w2 ⟨rfl, hk2⟩)
    go_ret
    exact ⟨rfl, hk2⟩
  by_cases hz1 : n1 = 0
  · subst hz1
    go_wp2_with (go_at_call 8; refine (HAw.out _).mono ?_; rintro e w2 ⟨rfl, hk2⟩)
    go_ret
    exact ⟨rfl, hk2⟩
  have ez1 : ((n1 : Int) == 0) = false := by simpa using hz1
  by_cases hz2 : n2 = 0
  · subst hz2
    go_wp2_with (go_at_call 8; refine (HAw.out _).mono ?_; rintro e w2 ⟨rfl, hk2⟩)
    go_ret
    exact ⟨rfl, hk2⟩
  have ez2 : ((n2 : Int) == 0) = false := by simpa using hz2
  obtain ⟨q, hq⟩ : ∃ q, q = q0 % 256 := ⟨_, rfl⟩
  have m8 : bits .and .i64 q0 255 = q := by rw [hq]; exact i64_maskQ q0 8 (by decide)
  have hqb : 0 ≤ q ∧ q ≤ 255 := by omega
  have HNew := Lib.hid (new_any q w (by omega))
  have HL1 : Hid (a.length ≤ 100 ∧ a ≠ []) := Lib.hid ⟨by have := HNa.out; omega, fun e => hz1 (by rw [HNa.out, e]; rfl)⟩
  have HL2 : Hid (b.length ≤ 100 ∧ b ≠ []) := Lib.hid ⟨by have := HNb.out; omega, fun e => hz2 (by rw [HNb.out, e]; rfl)⟩
  clear hq hz1 hz2
  go_upto_region 4 with fail
  clear m8 hl1 hl2 ez1 ez2
  go_upto_region 7 with (go_at_call 7; refine HNew.out.mono ?_; rintro e w1 ⟨f, rfl, hf1, hk1⟩)
  have HF1 := Lib.hid hf1; have HK1 := Lib.hid hk1
  clear hf1 hk1 HNew
  obtain ⟨S, hS⟩ : ∃ S, S = NewB w w1 := ⟨_, rfl⟩
  have HSl : Hid (∀ k, S k → w.heap.size ≤ k ∧ k < w1.heap.size) := Lib.hid (by rw [hS]; exact fun k e => e)
  have HFS : Hid (FsSt S w1 f (newT q)) := Lib.hid (by rw [hS]; exact HF1.out.mono (fun k e => by rcases e with e | e; exact e.elim; exact e))
  clear hS
  obtain ⟨T, ⟨next, hQT⟩, hall, hQB, hclk⟩ := qu_all a b q ⟨HL1.out.2, HL1.out.1⟩ ⟨HL2.out.2, HL2.out.1⟩ hqb
  obtain ⟨dn, hdn⟩ : ∃ d : Nat, d = (if q < a.length then 0 else if q < (a.length : Int) + b.length then 1 else 3) := ⟨_, rfl⟩
  obtain ⟨er, her⟩ : ∃ r : Int, r = (if q < (a.length : Int) + b.length then 5 else 0) := ⟨_, rfl⟩
  rw [← hdn, ← her] at hall
  have HCl : Hid (T.clock ≤ 1000000000) := Lib.hid (by omega)
  obtain ⟨w2, hw2⟩ : ∃ w2, w2 = ((w1.alloc (.cells #[.int .i64 0, .slice ao n1 c1] 40)).alloc (.cells #[.int .i64 7, .slice bo n2 c2] 40)).alloc (.cells #[.int .i64 1, .string { data := #[97] }, .string { data := #[] }, .int .i64 0, .int .i64 0, .int .i64 0, .int .i64 0, .int .i64 0, .int .i64 0, .int .i64 (n1 : Int), .slice (some ⟨w1.heap.size, 0, none⟩) 1 1, .slice none 0 0, .int .i64 1, .string { data := #[98] }, .string { data := #[] }, .int .i64 0, .int .i64 0, .int .i64 0, .int .i64 0, .int .i64 0, .int .i64 0, .int .i64 500, .slice (some ⟨w1.heap.size + 1, 0, none⟩) 1 1, .slice none 0 0, .int .i64 7, .string { data := #[99] }, .string { data := #[] }, .int .i64 0, .int .i64 0, .int .i64 0, .int .i64 0, .int .i64 0, .int .i64 0, .int .i64 0, .slice none 0 0, .slice none 0 0] 38) := ⟨_, rfl⟩
  have HAll : Hid (Calls Tryz.prog 17 #[.pointer (some ⟨f, 0, none⟩), .int .i64 1, .slice (some ⟨w1.heap.size + 2, 0, none⟩) 3 3] w2 fun e w' => e = .returned (.tuple #[.int .i64 (dn : Int), .int .i64 er]) ∧ Turn S w1 w' f T) := Lib.hid (by
    obtain ⟨v1, hv1⟩ : ∃ v1, v1 = w1.alloc (.cells #[.int .i64 0, .slice ao n1 c1] 40) := ⟨_, rfl⟩
    obtain ⟨v2, hv2⟩ : ∃ v2, v2 = v1.alloc (.cells #[.int .i64 7, .slice bo n2 c2] 40) := ⟨_, rfl⟩
    rw [← hv1, ← hv2] at hw2
    have hs1 : v1.heap.size = w1.heap.size + 1 := by rw [hv1]; simp
    have hs2 : v2.heap.size = w1.heap.size + 2 := by rw [hv2]; simp [hs1]
    have k1 : Kept NoB w1 v1 := by rw [hv1]; exact (Kept.refl NoB w1).alloc _
    have k2 : Kept NoB v1 v2 := by rw [hv2]; exact (Kept.refl NoB v1).alloc _
    have k3 : Kept NoB v2 w2 := by rw [hw2]; exact (Kept.refl NoB v2).alloc _
    have o1 : v1.heap[w1.heap.size]? = some (.cells #[.int .i64 0, .slice ao a.length c1] 40 (0, 0)) := by rw [hv1, ← HNa.out]; exact heap_alloc_new _ _
    have o2 : v2.heap[w1.heap.size + 1]? = some (.cells #[.int .i64 7, .slice bo b.length c2] 40 (0, 0)) := by rw [hv2, ← HNb.out, ← hs1]; exact heap_alloc_new _ _
    have o3 : w2.heap[w1.heap.size + 2]? = some (.cells (entC (quA a) (.slice (some ⟨w1.heap.size, 0, none⟩) 1 1) (.slice none 0 0) ++ entC (quB b) (.slice (some ⟨w1.heap.size + 1, 0, none⟩) 1 1) (.slice none 0 0) ++ entC quC (.slice none 0 0) (.slice none 0 0)).toArray 38 (0, 0)) := by
      rw [hw2, ← hs2]
      refine (heap_alloc_new _ _).trans ?_
      rw [HNa.out]
      rfl
    have hk := (k1.trans k2).trans k3
    have hin : ∀ (x : Addr) (l : List UInt8) (o : Option Addr), Reads w o (nb l) → l ≠ [] → o = some x → x.block < w.heap.size := fun x l o hr hl hx => by
      have hlen : 0 < (nb l).length := by rw [nb_len]; exact Nat.pos_of_ne_zero (fun e => hl (List.length_eq_zero_iff.1 e))
      have hcell := hr.2 x hx 0 hlen
      have hlt := World.block_lt_of_cell? w _ hcell
      have hbk : (x.add 0).block = x.block := by unfold Addr.add; split <;> rfl
      rw [hbk] at hlt
      exact hlt
    have hW : Kept NoB w w2 := HK1.out.trans hk
    have r1 : RdA S w2 (some ⟨w1.heap.size, 0, none⟩) [(0, a)] := rdA_one ((k2.trans k3).obj o1 id) (fun e => by have := (HSl.out _ e).2; omega) (HRa.out.keptNo hW) HNo1.out (fun y hy => by
      have h1 := hin y a ao HRa.out HL1.out.2 hy
      exact ⟨fun e => by have := (HSl.out _ e).1; omega, by have := hW.size; omega⟩) (by rw [← HNa.out]; exact HC1.out) HCm1.out
    have r2 : RdA S w2 (some ⟨w1.heap.size + 1, 0, none⟩) [(7, b)] := rdA_one (k3.obj o2 id) (fun e => by have := (HSl.out _ e).2; omega) (HRb.out.keptNo hW) HNo2.out (fun y hy => by
      have h1 := hin y b bo HRb.out HL2.out.2 hy
      exact ⟨fun e => by have := (HSl.out _ e).1; omega, by have := hW.size; omega⟩) (by rw [← HNb.out]; exact HC2.out) HCm2.out
    have := exAll_any (HFS.out.keptNo hk) (fun k e => by have := (HSl.out k e).2; have := hk.size; omega) 1 ⟨by decide, by decide⟩ [quA a, quB b, quC] (quX w1.heap.size (w1.heap.size + 1)) (some ⟨w1.heap.size + 2, 0, none⟩) 3 3 (quEs o3 (fun e => by have := (HSl.out _ e).2; omega) r1 r2 HL1.out.1) rfl (by decide) (show (0 : Int) + 100000000 ≤ 4611686018427387904 by decide) (show max q 0 ≤ 4611686018427387904 by omega)
    rw [hall] at this
    exact this.mono fun e w' ⟨q1, q2⟩ => ⟨q1, Turn.pre hk q2⟩)
  clear HF1
  have HW2 := Lib.hid hw2
  have HQT := Lib.hid hQT; have HQB := Lib.hid hQB; have HDn := Lib.hid hdn; have HEr := Lib.hid her
  clear hw2 hQT hQB hdn her hall hclk
  go_upto_region 8 with (go_at_call 17; rw [← HW2.out]; refine HAll.out.mono ?_; rintro e w3 ⟨rfl, ht3⟩)
  have HT3 := Lib.hid ht3
  clear ht3 HAll HW2
  have HEnd : Hid (∀ W, Kept S w1 W → Kept NoB w W) := Lib.hid (fun W hW => keep_onS (S := NoB) HK1.out hW (fun k hk e => by have := (HSl.out k e).1; omega))
  obtain ⟨U, hU⟩ : ∃ U, U = T.used := ⟨_, rfl⟩
  have HUs : Hid (∀ W, Kept NoB w3 W → Calls Tryz.prog 18 #[.pointer (some ⟨f, 0, none⟩)] W fun e w' => e = .returned (.int .i64 U) ∧ w' = W) := Lib.hid (fun W hW => by
    have := used_any (HT3.out.1.keptNo hW)
    rw [← hU] at this
    exact this)
  have hUq : U = min q ((n1 : Int) + (n2 : Int)) := by rw [hU, HQT.out.used, HNa.out, HNb.out]
  have hm1 : IntKind.i64.wrap ((n1 : Int) + (n2 : Int)) = (n1 : Int) + (n2 : Int) := by rw [IntKind.wrap_i64]; have := HL1.out.1; have := HL2.out.1; have := HNa.out; have := HNb.out; omega
  go_upto_block 0 with fail
  go_cut [10, 11] from 61 to 74 (fun s10 s11 wx => s10 = .int .i64 er ∧ s11 = .int .i64 (dn : Int) ∧ wx = w3)
  case first =>
    by_cases k1 : q < (n1 : Int)
    · have e1 : Hid (er = 5) := Lib.hid (by rw [HEr.out, ← HNa.out, ← HNb.out, if_pos (by omega)])
      have e2 : Hid (dn = 0) := Lib.hid (by rw [HDn.out, ← HNa.out, if_pos k1])
      go_wp2
      all_goals go_meet
      all_goals exact ⟨by rw [e1.out], by rw [e2.out]; rfl, rfl⟩
    · by_cases k2 : q < (n1 : Int) + (n2 : Int)
      · have e1 : Hid (er = 5) := Lib.hid (by rw [HEr.out, ← HNa.out, ← HNb.out, if_pos k2])
        have e2 : Hid (dn = 1) := Lib.hid (by rw [HDn.out, ← HNa.out, ← HNb.out, if_neg k1, if_pos k2])
        go_wp2
        all_goals go_meet
        all_goals exact ⟨by rw [e1.out], by rw [e2.out]; rfl, rfl⟩
      · have e1 : Hid (er = 0) := Lib.hid (by rw [HEr.out, ← HNa.out, ← HNb.out, if_neg k2])
        have e2 : Hid (dn = 3) := Lib.hid (by rw [HDn.out, ← HNa.out, ← HNb.out, if_neg k1, if_neg k2])
        go_wp2
        all_goals go_meet
        all_goals exact ⟨by rw [e1.out], by rw [e2.out]; rfl, rfl⟩
  case rest =>
    obtain ⟨rfl, rfl, hwx⟩ := hcut
    rw [hwx]
    clear hwx
    have hmin : min q ((n1 : Int) + (n2 : Int)) = U := hUq.symm
    clear hUq hU
    have hne : (U != U) = false := by simp
    have hnd : ((dn : Int) != (dn : Int)) = false := by simp
    have hnr : (er != er) = false := by simp
    go_upto_region 15 with (go_at_call 18; refine (HUs.out _ (Kept.refl _ _)).mono ?_; rintro e w4 ⟨rfl, hw4⟩)
    clear hw4 hmin hne hnd hnr
    have HEr2 := Lib.hid (show er = er from rfl)
    by_cases k1 : q < (n1 : Int)
    · have e2 : dn = 0 := by rw [HDn.out, ← HNa.out, if_pos k1]
      subst e2
      have HNm : Hid (Calls Tryz.prog 19 #[.pointer (some ⟨f, 0, none⟩), .int .i64 1] w3 fun e w' => ∃ ro rc, e = .returned (.slice ro 1 rc) ∧ Hid (NmsP w3 [([97], 2)] (.slice ro 1 rc) w')) := Lib.hid (by
        have := names_any HT3.out.1 1 (by decide) HCl.out
        rw [qu_names HQT.out, ← HNa.out, if_pos k1] at this
        exact this)
      go_wp2_with (first
        | (go_at_call 19; refine HNm.out.mono ?_; rintro e w5 ⟨ro, rc, rfl, hN5⟩)
        | (go_at_call 8; refine (HAw.out _).mono ?_; rintro e w6 ⟨rfl, hk6⟩))
      go_ret
      exact ⟨rfl, HEnd.out _ ((HT3.out.kept hN5.out.2.2).kept hk6).2⟩
    · obtain ⟨m, hm⟩ : ∃ m, m = quM q a b := ⟨_, rfl⟩
      have hml : m ≤ n2 := by rw [hm, HNb.out]; unfold quM; omega
      have hmn : min (n2 : Int) (q - (n1 : Int)) = (m : Int) := by rw [hm, HNb.out, HNa.out]; unfold quM; have := HNa.out; omega
      have hwq : IntKind.i64.wrap (q - (n1 : Int)) = q - (n1 : Int) := by rw [IntKind.wrap_i64]; omega
      have hd0 : ((dn : Int) == 0) = false := by
        rw [HDn.out, ← HNa.out, if_neg k1]
        split <;> decide
      have hQ := HQB.out (by rw [← HNa.out]; omega)
      rw [← hm] at hQ
      have HFd : Hid (Calls Tryz.prog 14 #[.pointer (some ⟨f, 0, none⟩), .int .i64 1, .string { data := #[98] }] w3 fun e w' => e = .returned (.tuple #[.int .i64 3, .int .i64 0]) ∧ Kept NoB w3 w') := Lib.hid (by
        have := find_any HT3.out.1 1 (by decide) [98] (by decide)
        rw [qu_find3 HQT.out (by rw [← HNa.out, if_neg k1]; split <;> kernel_rfl)] at this
        exact this)
      obtain ⟨hs1, hs2⟩ := qu_stat hQ
      obtain ⟨v, hv⟩ : ∃ v, v = (statP T 3).1 := ⟨_, rfl⟩
      rw [← hv] at hs2
      have HSt : Hid (∀ W, Kept NoB w3 W → Calls Tryz.prog 15 #[.pointer (some ⟨f, 0, none⟩), .int .i64 3] W fun e w' => e = .returned (.tuple #[.agg (nvC v).toArray, .int .i64 0]) ∧ Kept NoB W w') := Lib.hid (fun W hW => by
        have := stat_any (HT3.out.1.keptNo hW) 3 (by decide)
        rw [hs1, ← hv] at this
        exact this)
      have HRe : Hid (∀ W, Kept NoB w3 W → Calls Tryz.prog 16 #[.pointer (some ⟨f, 0, none⟩), .int .i64 3, .int .i64 7, .int .i64 500] W fun e w' => ∃ ar cr, e = .returned (.tuple #[.slice ar 493 cr, .int .i64 0]) ∧ Hid (ReadR W (b.take m ++ List.replicate (493 - m) 0) ar cr w')) := Lib.hid (fun W hW => by
        have := read_any (HT3.out.1.keptNo hW) 3 (by decide) 7 (by decide) 500 (by decide)
        rw [qu_read hQ (by rw [← HNb.out]; exact hml) HL2.out.1] at this
        have hl : (b.take m ++ List.replicate (493 - m) (0 : UInt8)).length = 493 := by
          have := HL2.out.1
          have := HNb.out
          simp; omega
        rw [hl] at this
        exact this)
      have HN1 := Lib.hid (nv_one v)
      have HS2 := Lib.hid hs2
      have HM := Lib.hid hm; have HMl := Lib.hid hml
      clear hs1 hs2 hv hQ hm
      go_upto_region 19 with (first | (go_at_call 14; refine HFd.out.mono ?_; rintro e w5 ⟨rfl, hk5⟩) | (go_at_call 15; refine (HSt.out _ hk5).mono ?_; rintro e w6 ⟨rfl, hk6⟩) | (refine wpList_store_row rfl 27 (.tmp 14) (.tmp 112) rfl w6.heap.size (nvC v).toArray rfl rfl _ _ (heap_alloc_new _ _) infoNd rfl HN1.out ?_))
      obtain ⟨w7, hw7⟩ : ∃ w7, w7 = (w6.alloc (.cells #[.int .i64 0, .int .i64 0, .int .i64 0, .int .i64 0, .int .i64 0, .string { data := #[] }, .int .i64 0, .int .i64 0, .int .i64 0, .int .i64 0, .int .i64 0] 27)).setRow w6.heap.size (nvC v).toArray := ⟨_, rfl⟩
      rw [← hw7]
      have hk7 : Kept NoB w6 w7 := by rw [hw7]; exact ((Kept.refl NoB w6).alloc _).setRow (.inr (Nat.le_refl _)) _
      have ob7 : w7.heap[w6.heap.size]? = some (.cells (nvC v).toArray 27 (0, 0)) := by rw [hw7]; exact setRow_heap _ _ _ _ _ _ (heap_alloc_new _ _)
      have c8 : w7.cell? ⟨w6.heap.size, 8, none⟩ = some (.int .i64 500) := by rw [obj_cell ob7, ← HS2.out]; rfl
      obtain ⟨g7, hg7⟩ : ∃ g, g = w6.heap.size := ⟨_, rfl⟩
      rw [← hg7] at c8 ⊢
      have HK7 := Lib.hid ((hk5.trans hk6).trans hk7)
      clear hw7 hk5 hk6 hk7 ob7 hg7 HFd HSt
      go_upto_region 20 with (go_at_call 16; refine (HRe.out _ HK7.out).mono ?_; rintro e w8 ⟨ar, cr, rfl, hR8⟩)
      have HC8 : Hid (∀ W, Kept NoB w8 W → W.cell? ⟨g7, 8, none⟩ = some (.int .i64 500)) := Lib.hid (fun W hW => (hR8.out.2.2.trans hW).cell c8)
      clear c8 HRe
      go_upto_region 21 with fail
      obtain ⟨g, hg, hcr⟩ : ∃ g, ar = some ⟨g, 0, none⟩ ∧ 493 ≤ cr := by
        have ho := hR8.out.1
        have hl : (b.take m ++ List.replicate (493 - m) (0 : UInt8)).length = 493 := by
          have := HL2.out.1; have := HNb.out
          simp; omega
        rw [hl] at ho
        rcases ho.2 with ⟨h1, h2⟩ | ⟨gx, cc, cux, h1, _, _, h3, _⟩
        · cases h2
        · cases h1; exact ⟨gx, rfl, h3⟩
      subst hg
      obtain ⟨z, hzd⟩ : ∃ z, z = 493 - m := ⟨_, rfl⟩
      have hm493 : m ≤ 100 := by have := HMl.out; have := HL2.out.1; have := HNb.out; omega
      have hz : (493 : Int) - (m : Int) = (z : Int) ∧ z ≤ 1048576 := by omega
      have hRd : Reads w8 (some ⟨g, 0, none⟩) (nb (b.take m ++ List.replicate (493 - m) 0)) := by
        have ho := hR8.out.1
        rw [bc_nb] at ho
        exact own_reads (by rw [nb_len]; exact ho) (by rw [nb_len])
      obtain ⟨gb, ob, hbo, hgb, _⟩ := Reads.at HRb.out (by rw [nb_len]; exact Nat.pos_of_ne_zero (fun e => HL2.out.2 (List.length_eq_zero_iff.1 e)))
      subst hbo
      obtain ⟨X1, hX1⟩ : ∃ X, X = strOfNums (nb (b.take m)) := ⟨_, rfl⟩
      obtain ⟨X2, hX2⟩ : ∃ X, X = strOfNums (nb (List.replicate z 0)) := ⟨_, rfl⟩
      have HK38 : Hid (Kept NoB w3 w8) := Lib.hid (HK7.out.trans hR8.out.2.2)
      have hlt : (b.take m).length = m := by rw [List.length_take]; have := HMl.out; have := HNb.out; omega
      have hcv1 : ∀ W, Kept NoB w8 W → (convert 22 9 (.slice (some ⟨g, 0, none⟩) m cr)).run Tryz.prog W = .ok (.string X1) W := fun W hW => by
        have h1 := reads_take m (hRd.keptNo hW)
        have h2 : (nb (b.take m ++ List.replicate (493 - m) 0)).take m = nb (b.take m) := by
          unfold nb
          rw [← List.map_take, List.take_left' hlt]
        rw [h2] at h1
        rw [hX1]
        exact conv_reads h1 (by rw [nb_len, hlt]) (fun e => by cases e)
      have hcv2 : ∀ W, Kept NoB w8 W → (convert 22 9 (.slice (some ⟨gb, ob, none⟩) m c2)).run Tryz.prog W = .ok (.string X1) W := fun W hW => by
        have h1 := reads_take m (((HRb.out.keptNo HK1.out).kept HT3.out.2 (fun x hx e => by cases hx; have := (HSl.out _ e).1; dsimp only at this; omega)).keptNo (HK38.out.trans hW))
        have h2 : (nb b).take m = nb (b.take m) := by unfold nb; rw [← List.map_take]
        rw [h2] at h1
        rw [hX1]
        exact conv_reads h1 (by rw [nb_len, hlt]) (fun e => by cases e)
      have hcv3 : ∀ (W : World) (x : Nat), W.heap[x]? = some (.cells (bc (List.replicate z 0)).toArray 5 (0, 0)) → (convert 22 9 (.slice (some ⟨x, 0, none⟩) z z)).run Tryz.prog W = .ok (.string X2) W := fun W x hx => by
        rw [hX2]
        exact conv_reads (lit_reads (nb (List.replicate z 0)) hx (by rw [bc_nb])) (by rw [nb_len]; simp) (fun e => by cases e)
      have hcv4 : ∀ W, Kept NoB w8 W → (convert 22 9 (.slice (some ⟨g, m, none⟩) z (cr - m))).run Tryz.prog W = .ok (.string X2) W := fun W hW => by
        have hr := hRd.keptNo hW
        have h1 : Reads W (some ⟨g, m, none⟩) (nb (List.replicate z 0)) := by
          refine ⟨(fun e => by cases e), ?_⟩
          intro x hx i hi
          cases hx
          rw [nb_len, List.length_replicate] at hi
          have h3 := hr.2 _ rfl (m + i) (by rw [nb_len, List.length_append, hlt, List.length_replicate]; omega)
          rw [addr_add] at h3 ⊢
          rw [Nat.zero_add] at h3
          rw [h3]
          congr 2
          unfold nb
          rw [← hzd]
          simp only [List.map_append, List.getD, List.getElem?_append, List.length_map, hlt]
          rw [if_neg (by omega), show m + i - m = i by omega]
        rw [hX2]
        exact conv_reads h1 (by rw [nb_len]; simp) (fun e => by cases e)
      obtain ⟨L, hL⟩ : ∃ L, L = min (dn + 1) 3 := ⟨_, rfl⟩
      have hd3 : dn ≤ 3 := by rw [HDn.out]; split <;> (try split) <;> omega
      have hLm : min (IntKind.i64.wrap ((dn : Int) + 1)) 3 = (L : Int) := by rw [hL]; exact qu_min dn hd3
      have HNm : Hid (∀ W, Kept NoB w8 W → Calls Tryz.prog 19 #[.pointer (some ⟨f, 0, none⟩), .int .i64 1] W fun e w' => ∃ ro rc, e = .returned (.slice ro L rc) ∧ Hid (NmsP W (namesP T 1) (.slice ro L rc) w')) := Lib.hid (fun W hW => by
        have := names_any (HT3.out.1.keptNo (HK38.out.trans hW)) 1 (by decide) HCl.out
        have hnl : (namesP T 1).length = L := by
          rw [hL]
          have k1' : ¬ q < (n1 : Int) := by omega
          rw [qu_names HQT.out, HDn.out, ← HNa.out, if_neg k1', if_neg k1']
          by_cases k2 : q < (n1 : Int) + (b.length : Int)
          · rw [if_pos k2, if_pos k2]; rfl
          · rw [if_neg k2, if_neg k2]; rfl
        rw [hnl] at this
        exact this)
      have hc8 := HC8.out
      have hmcr : m ≤ cr := by omega
      have hmc2 : m ≤ c2 := by have := HC2.out; have := HMl.out; omega
      have hm9 : (m : Int) ≤ 493 := by omega
      have hcm : ¬ cr = m := by omega
      have hz9 : 493 - m = z := hzd.symm
      have hwz : IntKind.i64.wrap ((493 : Int) - (m : Int)) = (z : Int) := by rw [IntKind.wrap_i64]; omega
      have hwz2 : IntKind.i64.wrap (z : Int) = (z : Int) := by rw [IntKind.wrap_i64]; omega
      have hz1 := hz.1
      have hzl := hz.2
      clear hz
      clear hzd hcr
      clear hRd hX1 hX2 hR8
      -- <<R
      refine wp_region_noPanic ?_
      refine wp_region_held_drew (S := fun W => Kept NoB w8 W) (by kernel_rfl) (Kept.drew (Kept.refl _ _)) (fun hHeld => ?_)
      refine wpAnyH_take (i := 0) (v := ?_) (by rw [List.getElem?_toArray]; rfl) (by kernel_rfl) (by kernel_rfl) (by kernel_rfl) (fun _ _ _ h => h) (Or.inl ⟨by rfl, ?hy0⟩) (by assumption) ?rest0
      case hy0 => (intro w hSw; (try dsimp only at hSw); go_simp; (try with_reducible rfl))
      try simp only [Act.put, List.setIfInBounds_toArray, List.set_cons_zero, List.set_cons_succ]
      refine wpAnyH_take (i := 1) (v := ?_) (by rw [List.getElem?_toArray]; rfl) (by kernel_rfl) (by kernel_rfl) (by kernel_rfl) (fun _ _ _ h => h) (Or.inl ⟨by rfl, ?hy1⟩) (by assumption) ?rest1
      case hy1 => (intro w hSw; (try dsimp only at hSw); go_simp; (try with_reducible rfl))
      try simp only [Act.put, List.setIfInBounds_toArray, List.set_cons_zero, List.set_cons_succ]
      refine wpAnyH_take (i := 2) (v := ?_) (by rw [List.getElem?_toArray]; rfl) (by kernel_rfl) (by kernel_rfl) (by kernel_rfl) (fun _ _ _ h => h) (Or.inl ⟨by rfl, ?hy2⟩) (by assumption) ?rest2
      case hy2 => (intro w hSw; (try dsimp only at hSw); go_simp; (try with_reducible rfl))
      try simp only [Act.put, List.setIfInBounds_toArray, List.set_cons_zero, List.set_cons_succ]
      refine wpAnyH_take (i := 3) (v := ?_) (by rw [List.getElem?_toArray]; rfl) (by kernel_rfl) (by kernel_rfl) (by kernel_rfl) (fun _ _ _ h => h) (Or.inl ⟨by rfl, ?hy3⟩) (by assumption) ?rest3
      case hy3 => (intro w hSw; (try dsimp only at hSw); go_simp; (try with_reducible rfl))
      try simp only [Act.put, List.setIfInBounds_toArray, List.set_cons_zero, List.set_cons_succ]
      refine wpAnyH_take (i := 4) (v := ?_) (by rw [List.getElem?_toArray]; rfl) (by kernel_rfl) (by kernel_rfl) (by kernel_rfl) (fun _ _ _ h => h) (Or.inl ⟨by rfl, ?hy4⟩) (by assumption) ?rest4
      case hy4 => (intro w hSw; (try dsimp only at hSw); go_simp; (try with_reducible rfl))
      try simp only [Act.put, List.setIfInBounds_toArray, List.set_cons_zero, List.set_cons_succ]
      refine wpAnyH_take (i := 5) (v := ?_) (by rw [List.getElem?_toArray]; rfl) (by kernel_rfl) (by kernel_rfl) (by kernel_rfl) (fun _ _ _ h => h) (Or.inl ⟨by rfl, ?hy5⟩) (by assumption) ?rest5
      case hy5 => (intro w hSw; (try dsimp only at hSw); go_simp; (try with_reducible rfl))
      try simp only [Act.put, List.setIfInBounds_toArray, List.set_cons_zero, List.set_cons_succ]
      refine wpAnyH_take (i := 6) (v := ?_) (by rw [List.getElem?_toArray]; rfl) (by kernel_rfl) (by kernel_rfl) (by kernel_rfl) (fun _ _ _ h => h) (Or.inl ⟨by rfl, ?hy6⟩) (by assumption) ?rest6
      case hy6 => (intro w hSw; (try dsimp only at hSw); go_simp; (try with_reducible rfl))
      try simp only [Act.put, List.setIfInBounds_toArray, List.set_cons_zero, List.set_cons_succ]
      refine wpAnyH_take (i := 7) (v := ?_) (by rw [List.getElem?_toArray]; rfl) (by kernel_rfl) (by kernel_rfl) (by kernel_rfl) (fun _ _ _ h => h) (Or.inl ⟨by rfl, ?hy7⟩) (by assumption) ?rest7
      case hy7 => (intro w hSw; (try dsimp only at hSw); go_simp; (try with_reducible rfl))
      try simp only [Act.put, List.setIfInBounds_toArray, List.set_cons_zero, List.set_cons_succ]
      refine wpAnyH_take (i := 8) (v := ?_) (by rw [List.getElem?_toArray]; rfl) (by kernel_rfl) (by kernel_rfl) (by kernel_rfl) (fun _ _ _ h => h) (Or.inl ⟨by rfl, ?hy8⟩) (by assumption) ?rest8
      case hy8 => (intro w hSw; (try dsimp only at hSw); go_simp; (try with_reducible rfl))
      try simp only [Act.put, List.setIfInBounds_toArray, List.set_cons_zero, List.set_cons_succ]
      refine wpAnyH_take (i := 9) (v := ?_) (by rw [List.getElem?_toArray]; rfl) (by kernel_rfl) (by kernel_rfl) (by kernel_rfl) (fun _ _ _ h => h) (Or.inl ⟨by rfl, ?hy9⟩) (by assumption) ?rest9
      case hy9 => (intro w hSw; (try dsimp only at hSw); go_simp; (try with_reducible rfl))
      try simp only [Act.put, List.setIfInBounds_toArray, List.set_cons_zero, List.set_cons_succ]
      refine wpAnyH_take (i := 10) (v := ?_) (by rw [List.getElem?_toArray]; rfl) (by kernel_rfl) (by kernel_rfl) (by kernel_rfl) (fun _ _ _ h => h) (Or.inl ⟨by rfl, ?hy10⟩) (by assumption) ?rest10
      case hy10 => (intro w hSw; (try dsimp only at hSw); go_simp; (try with_reducible rfl))
      try simp only [Act.put, List.setIfInBounds_toArray, List.set_cons_zero, List.set_cons_succ]
      refine wpAnyH_take (i := 11) (v := ?_) (by rw [List.getElem?_toArray]; rfl) (by kernel_rfl) (by kernel_rfl) (by kernel_rfl) (fun _ _ _ h => h) (Or.inl ⟨by rfl, ?hy11⟩) (by assumption) ?rest11
      case hy11 => (intro w hSw; (try dsimp only at hSw); go_simp; (try with_reducible rfl))
      try simp only [Act.put, List.setIfInBounds_toArray, List.set_cons_zero, List.set_cons_succ]
      refine wpAnyH_take (i := 12) (v := ?_) (by rw [List.getElem?_toArray]; rfl) (by kernel_rfl) (by kernel_rfl) (by kernel_rfl) (fun _ _ _ h => h) (Or.inl ⟨by rfl, ?hy12⟩) (by assumption) ?rest12
      case hy12 => (intro w hSw; (try dsimp only at hSw); go_simp; (try with_reducible rfl))
      try simp only [Act.put, List.setIfInBounds_toArray, List.set_cons_zero, List.set_cons_succ]
      refine wpAnyH_take (i := 13) (v := ?_) (by rw [List.getElem?_toArray]; rfl) (by kernel_rfl) (by kernel_rfl) (by kernel_rfl) (fun _ _ _ h => h) (Or.inl ⟨by rfl, ?hy13⟩) (by assumption) ?rest13
      case hy13 => (intro w hSw; (try dsimp only at hSw); go_simp; (try with_reducible rfl))
      try simp only [Act.put, List.setIfInBounds_toArray, List.set_cons_zero, List.set_cons_succ]
      refine wpAnyH_take (i := 14) (v := ?_) (by rw [List.getElem?_toArray]; rfl) (by kernel_rfl) (by kernel_rfl) (by kernel_rfl) (fun _ _ _ h => h) (Or.inl ⟨by rfl, ?hy14⟩) (by assumption) ?rest14
      case hy14 => (intro w hSw; (try dsimp only at hSw); go_simp; (try with_reducible rfl))
      try simp only [Act.put, List.setIfInBounds_toArray, List.set_cons_zero, List.set_cons_succ]
      refine wpAnyH_take (i := 15) (v := ?_) (by rw [List.getElem?_toArray]; rfl) (by kernel_rfl) (by kernel_rfl) (by kernel_rfl) (fun _ _ _ h => h) (Or.inl ⟨by rfl, ?hy15⟩) (by assumption) ?rest15
      case hy15 => (intro w hSw; (try dsimp only at hSw); go_simp; (try with_reducible rfl))
      try simp only [Act.put, List.setIfInBounds_toArray, List.set_cons_zero, List.set_cons_succ]
      refine wpAnyH_take (i := 16) (v := ?_) (by rw [List.getElem?_toArray]; rfl) (by kernel_rfl) (by kernel_rfl) (by kernel_rfl) (fun _ _ _ h => h) (Or.inl ⟨by rfl, ?hy16⟩) (by assumption) ?rest16
      case hy16 => (intro w hSw; (try dsimp only at hSw); go_simp; (try with_reducible rfl))
      try simp only [Act.put, List.setIfInBounds_toArray, List.set_cons_zero, List.set_cons_succ]
      refine wpAnyH_take (i := 17) (v := ?_) (by rw [List.getElem?_toArray]; rfl) (by kernel_rfl) (by kernel_rfl) (by kernel_rfl) (fun _ _ _ h => h) (Or.inl ⟨by rfl, ?hy17⟩) (by assumption) ?rest17
      case hy17 => (intro w hSw; (try dsimp only at hSw); go_simp; (try with_reducible rfl))
      try simp only [Act.put, List.setIfInBounds_toArray, List.set_cons_zero, List.set_cons_succ]
      refine wpAnyH_take (i := 18) (v := ?_) (by rw [List.getElem?_toArray]; rfl) (by kernel_rfl) (by kernel_rfl) (by kernel_rfl) (fun _ _ _ h => h) (Or.inl ⟨by rfl, ?hy18⟩) (by assumption) ?rest18
      case hy18 => (intro w hSw; (try dsimp only at hSw); go_simp; (try with_reducible rfl))
      try simp only [Act.put, List.setIfInBounds_toArray, List.set_cons_zero, List.set_cons_succ]
      refine wpAnyH_take (i := 19) (v := ?_) (by rw [List.getElem?_toArray]; rfl) (by kernel_rfl) (by kernel_rfl) (by kernel_rfl) (fun _ _ _ h => h) (Or.inl ⟨by rfl, ?hy19⟩) (by assumption) ?rest19
      case hy19 => (intro w hSw; (try dsimp only at hSw); go_simp; (try with_reducible rfl))
      try simp only [Act.put, List.setIfInBounds_toArray, List.set_cons_zero, List.set_cons_succ]
      refine wpAnyH_take (i := 20) (v := ?_) (by rw [List.getElem?_toArray]; rfl) (by kernel_rfl) (by kernel_rfl) (by kernel_rfl) (fun _ _ _ h => h) (Or.inl ⟨by rfl, ?hy20⟩) (by assumption) ?rest20
      case hy20 => (intro w hSw; (try dsimp only at hSw); go_simp; (try with_reducible rfl))
      try simp only [Act.put, List.setIfInBounds_toArray, List.set_cons_zero, List.set_cons_succ]
      refine wpAnyH_take (i := 21) (v := ?_) (by rw [List.getElem?_toArray]; rfl) (by kernel_rfl) (by kernel_rfl) (by kernel_rfl) (fun _ _ _ h => h) (Or.inl ⟨by rfl, ?hy21⟩) (by assumption) ?rest21
      case hy21 => (intro w hSw; (try dsimp only at hSw); go_simp; (try with_reducible rfl))
      try simp only [Act.put, List.setIfInBounds_toArray, List.set_cons_zero, List.set_cons_succ]
      refine wpAnyH_take (i := 22) (v := ?_) (by rw [List.getElem?_toArray]; rfl) (by kernel_rfl) (by kernel_rfl) (by kernel_rfl) (fun _ _ _ h => h) (Or.inl ⟨by rfl, ?hy22⟩) (by assumption) ?rest22
      case hy22 => (intro w hSw; (try dsimp only at hSw); go_simp; (try with_reducible rfl))
      try simp only [Act.put, List.setIfInBounds_toArray, List.set_cons_zero, List.set_cons_succ]
      refine wpAnyH_take (i := 23) (v := ?_) (by rw [List.getElem?_toArray]; rfl) (by kernel_rfl) (by kernel_rfl) (by kernel_rfl) (fun _ _ _ h => h) (Or.inl ⟨by rfl, ?hy23⟩) (by assumption) ?rest23
      case hy23 => (intro w hSw; (try dsimp only at hSw); go_simp; (try with_reducible rfl))
      try simp only [Act.put, List.setIfInBounds_toArray, List.set_cons_zero, List.set_cons_succ]
      refine wpAnyH_take (i := 24) (v := ?_) (by rw [List.getElem?_toArray]; rfl) (by kernel_rfl) (by kernel_rfl) (by kernel_rfl) (fun _ _ _ h => h) (Or.inl ⟨by rfl, ?hy24⟩) (by assumption) ?rest24
      case hy24 => (intro w hSw; (try dsimp only at hSw); go_simp; (try with_reducible rfl))
      try simp only [Act.put, List.setIfInBounds_toArray, List.set_cons_zero, List.set_cons_succ]
      refine wpAnyH_take (i := 25) (v := ?_) (by rw [List.getElem?_toArray]; rfl) (by kernel_rfl) (by kernel_rfl) (by kernel_rfl) (fun _ _ _ h => h) (Or.inl ⟨by rfl, ?hy25⟩) (by assumption) ?rest25
      case hy25 => (intro w hSw; (try dsimp only at hSw); go_simp; (try with_reducible rfl))
      try simp only [Act.put, List.setIfInBounds_toArray, List.set_cons_zero, List.set_cons_succ]
      refine wpAnyH_take (i := 26) (v := ?_) (by rw [List.getElem?_toArray]; rfl) (by kernel_rfl) (by kernel_rfl) (by kernel_rfl) (fun _ _ _ h => h) (Or.inl ⟨by rfl, ?hy26⟩) (by assumption) ?rest26
      case hy26 => (intro w hSw; (try dsimp only at hSw); go_simp; (try with_reducible rfl))
      try simp only [Act.put, List.setIfInBounds_toArray, List.set_cons_zero, List.set_cons_succ]
      refine wpAnyH_take (i := 27) (v := ?_) (by rw [List.getElem?_toArray]; rfl) (by kernel_rfl) (by kernel_rfl) (by kernel_rfl) (fun _ _ _ h => h) (Or.inl ⟨by rfl, ?hy27⟩) (by assumption) ?rest27
      case hy27 => (intro w hSw; (try dsimp only at hSw); go_simp; (try with_reducible rfl))
      try simp only [Act.put, List.setIfInBounds_toArray, List.set_cons_zero, List.set_cons_succ]
      refine wpAnyH_take (i := 28) (v := ?_) (by rw [List.getElem?_toArray]; rfl) (by kernel_rfl) (by kernel_rfl) (by kernel_rfl) (fun _ _ _ h => h) (Or.inl ⟨by rfl, ?hy28⟩) (by assumption) ?rest28
      case hy28 => (intro w hSw; (try dsimp only at hSw); go_simp; (try with_reducible rfl))
      try simp only [Act.put, List.setIfInBounds_toArray, List.set_cons_zero, List.set_cons_succ]
      refine wpAnyH_take (i := 29) (v := ?_) (by rw [List.getElem?_toArray]; rfl) (by kernel_rfl) (by kernel_rfl) (by kernel_rfl) (fun _ _ _ h => h) (Or.inl ⟨by rfl, ?hy29⟩) (by assumption) ?rest29
      case hy29 => (intro w hSw; (try dsimp only at hSw); go_simp; (try with_reducible rfl))
      try simp only [Act.put, List.setIfInBounds_toArray, List.set_cons_zero, List.set_cons_succ]
      refine wpAnyH_take (i := 30) (v := ?_) (by rw [List.getElem?_toArray]; rfl) (by kernel_rfl) (by kernel_rfl) (by kernel_rfl) (fun _ _ _ h => h) (Or.inl ⟨by rfl, ?hy30⟩) (by assumption) ?rest30
      case hy30 => (intro w hSw; (try dsimp only at hSw); go_simp; (try with_reducible rfl))
      try simp only [Act.put, List.setIfInBounds_toArray, List.set_cons_zero, List.set_cons_succ]
      refine wpAnyH_take (i := 31) (v := ?_) (by rw [List.getElem?_toArray]; rfl) (by kernel_rfl) (by kernel_rfl) (by kernel_rfl) (fun _ _ _ h => h) (Or.inl ⟨by rfl, ?hy31⟩) (by assumption) ?rest31
      case hy31 => (intro w hSw; (try dsimp only at hSw); go_simp; (try with_reducible rfl))
      try simp only [Act.put, List.setIfInBounds_toArray, List.set_cons_zero, List.set_cons_succ]
      refine wpAnyH_take (i := 32) (v := ?_) (by rw [List.getElem?_toArray]; rfl) (by kernel_rfl) (by kernel_rfl) (by kernel_rfl) (fun _ _ _ h => h) (Or.inl ⟨by rfl, ?hy32⟩) (by assumption) ?rest32
      case hy32 => (intro w hSw; (try dsimp only at hSw); go_simp; (try with_reducible rfl))
      try simp only [Act.put, List.setIfInBounds_toArray, List.set_cons_zero, List.set_cons_succ]
      refine wpAnyH_take (i := 33) (v := ?_) (by rw [List.getElem?_toArray]; rfl) (by kernel_rfl) (by kernel_rfl) (by kernel_rfl) (fun _ _ _ h => h) (Or.inl ⟨by rfl, ?hy33⟩) (by assumption) ?rest33
      case hy33 => (intro w hSw; (try dsimp only at hSw); go_simp; (try with_reducible rfl))
      try simp only [Act.put, List.setIfInBounds_toArray, List.set_cons_zero, List.set_cons_succ]
      refine wpAnyH_take (i := 34) (v := ?_) (by rw [List.getElem?_toArray]; rfl) (by kernel_rfl) (by kernel_rfl) (by kernel_rfl) (fun _ _ _ h => h) (Or.inl ⟨by rfl, ?hy34⟩) (by assumption) ?rest34
      case hy34 => (intro w hSw; (try dsimp only at hSw); go_simp; (try with_reducible rfl))
      try simp only [Act.put, List.setIfInBounds_toArray, List.set_cons_zero, List.set_cons_succ]
      refine wpAnyH_take (i := 35) (v := ?_) (by rw [List.getElem?_toArray]; rfl) (by kernel_rfl) (by kernel_rfl) (by kernel_rfl) (fun _ _ _ h => h) (Or.inl ⟨by rfl, ?hy35⟩) (by assumption) ?rest35
      case hy35 => (intro w hSw; (try dsimp only at hSw); go_simp; (try with_reducible rfl))
      try simp only [Act.put, List.setIfInBounds_toArray, List.set_cons_zero, List.set_cons_succ]
      refine wpAnyH_take (i := 36) (v := ?_) (by rw [List.getElem?_toArray]; rfl) (by kernel_rfl) (by kernel_rfl) (by kernel_rfl) (fun _ _ _ h => h) (Or.inl ⟨by rfl, ?hy36⟩) (by assumption) ?rest36
      case hy36 => (intro w hSw; (try dsimp only at hSw); go_simp; (try with_reducible rfl))
      try simp only [Act.put, List.setIfInBounds_toArray, List.set_cons_zero, List.set_cons_succ]
      refine wpAnyH_take (i := 37) (v := ?_) (by rw [List.getElem?_toArray]; rfl) (by kernel_rfl) (by kernel_rfl) (by kernel_rfl) (fun _ _ _ h => h) (Or.inl ⟨by rfl, ?hy37⟩) (by assumption) ?rest37
      case hy37 => (intro w hSw; (try dsimp only at hSw); go_simp; (try with_reducible rfl))
      try simp only [Act.put, List.setIfInBounds_toArray, List.set_cons_zero, List.set_cons_succ]
      refine wpAnyH_ready (rs := [38]) (by kernel_rfl) (by simp) ?_
      refine AllReadyH.cons (by rw [List.getElem?_toArray]; rfl) (fun K hK => ?_) AllReadyH.nil
      rw [if_pos (by rfl)]
      refine step_make rfl z (by rfl) (by rfl) hzl ?_
      intro w9 hw9 hk9
      refine hK.out _ _ (hHeld.trans hk9) (fun _ => ?_)
      clear hK K
      have hcz : ∀ W, Kept NoB w9 W → (convert 22 9 (.slice (some ⟨w8.heap.size, 0, none⟩) z z)).run Tryz.prog W = .ok (.string X2) W := fun W hk => hcv3 W _ (hk.obj hw9 id)
      try simp only [Act.put, List.setIfInBounds_toArray, List.set_cons_zero, List.set_cons_succ]
      refine wpAnyH_mono2 (S' := fun W => Kept NoB w9 W) (fun _ h => (hHeld.trans hk9).trans h) ?_
      have HK89 := Lib.hid (hHeld.trans hk9)
      clear hHeld hw9 hk9
      have hHeld := Kept.refl NoB w9
      refine wpAnyH_take (i := 39) (v := ?_) (by rw [List.getElem?_toArray]; rfl) (by kernel_rfl) (by kernel_rfl) (by kernel_rfl) (fun _ _ _ h => h) (Or.inl ⟨by rfl, ?hy39⟩) (by assumption) ?rest39
      case hy39 => (intro w hSw; (try dsimp only at hSw); go_simp; (try with_reducible rfl))
      try simp only [Act.put, List.setIfInBounds_toArray, List.set_cons_zero, List.set_cons_succ]
      refine wpAnyH_take (i := 40) (v := ?_) (by rw [List.getElem?_toArray]; rfl) (by kernel_rfl) (by kernel_rfl) (by kernel_rfl) (fun _ _ _ h => h) (Or.inl ⟨by rfl, ?hy40⟩) (by assumption) ?rest40
      case hy40 => (intro w hSw; (try dsimp only at hSw); go_simp; (try with_reducible rfl))
      try simp only [Act.put, List.setIfInBounds_toArray, List.set_cons_zero, List.set_cons_succ]
      refine wpAnyH_take (i := 41) (v := ?_) (by rw [List.getElem?_toArray]; rfl) (by kernel_rfl) (by kernel_rfl) (by kernel_rfl) (fun _ _ _ h => h) (Or.inl ⟨by rfl, ?hy41⟩) (by assumption) ?rest41
      case hy41 => (intro w hSw; (try dsimp only at hSw); go_simp; (try with_reducible rfl))
      try simp only [Act.put, List.setIfInBounds_toArray, List.set_cons_zero, List.set_cons_succ]
      refine wpAnyH_take (i := 42) (v := ?_) (by rw [List.getElem?_toArray]; rfl) (by kernel_rfl) (by kernel_rfl) (by kernel_rfl) (fun _ _ _ h => h) (Or.inl ⟨by rfl, ?hy42⟩) (by assumption) ?rest42
      case hy42 => (intro w hSw; (try dsimp only at hSw); go_simp; (try with_reducible rfl))
      try simp only [Act.put, List.setIfInBounds_toArray, List.set_cons_zero, List.set_cons_succ]
      refine wpAnyH_take (i := 43) (v := ?_) (by rw [List.getElem?_toArray]; rfl) (by kernel_rfl) (by kernel_rfl) (by kernel_rfl) (fun _ _ _ h => h) (Or.inl ⟨by rfl, ?hy43⟩) (by assumption) ?rest43
      case hy43 => (intro w hSw; (try dsimp only at hSw); go_simp; (try with_reducible rfl))
      try simp only [Act.put, List.setIfInBounds_toArray, List.set_cons_zero, List.set_cons_succ]
      refine wpAnyH_take (i := 46) (v := ?_) (by rw [List.getElem?_toArray]; rfl) (by kernel_rfl) (by kernel_rfl) (by kernel_rfl) (fun _ _ _ h => h) (Or.inl ⟨by rfl, ?hy46⟩) (by assumption) ?rest46
      case hy46 => (intro w hSw; (try dsimp only at hSw); go_simp; (try with_reducible rfl))
      try simp only [Act.put, List.setIfInBounds_toArray, List.set_cons_zero, List.set_cons_succ]
      refine wpAnyH_take (i := 47) (v := ?_) (by rw [List.getElem?_toArray]; rfl) (by kernel_rfl) (by kernel_rfl) (by kernel_rfl) (fun _ _ _ h => h) (Or.inl ⟨by rfl, ?hy47⟩) (by assumption) ?rest47
      case hy47 => (intro w hSw; (try dsimp only at hSw); go_simp; (try with_reducible rfl))
      try simp only [Act.put, List.setIfInBounds_toArray, List.set_cons_zero, List.set_cons_succ]
      refine wpAnyH_take (i := 48) (v := ?_) (by rw [List.getElem?_toArray]; rfl) (by kernel_rfl) (by kernel_rfl) (by kernel_rfl) (fun _ _ _ h => h) (Or.inl ⟨by rfl, ?hy48⟩) (by assumption) ?rest48
      case hy48 => (intro w hSw; (try dsimp only at hSw); go_simp; (try with_reducible rfl))
      try simp only [Act.put, List.setIfInBounds_toArray, List.set_cons_zero, List.set_cons_succ]
      refine wpAnyH_ready (rs := [44]) (by kernel_rfl) (by simp) ?_
      refine AllReadyH.cons (by rw [List.getElem?_toArray]; rfl) (fun K hK => ?_) AllReadyH.nil
      go_simp
      go_at_call 19
      (with_reducible refine (HNm.out _ (HK89.out.trans hHeld)).mono ?_)
      rintro e wn ⟨ro, rc, rfl, hN⟩
      go_wp2_with fail
      refine hK.out _ _ (hHeld.trans hN.out.2.2) (fun hHeld => ?_)
      clear hK K
      try simp only [Act.put, List.setIfInBounds_toArray, List.set_cons_zero, List.set_cons_succ]
      refine wpAnyH_take (i := 45) (v := ?_) (by rw [List.getElem?_toArray]; rfl) (by kernel_rfl) (by kernel_rfl) (by kernel_rfl) (fun _ _ _ h => h) (Or.inl ⟨by rfl, ?hy45⟩) (by assumption) ?rest45
      case hy45 => (intro w hSw; (try dsimp only at hSw); go_simp; (try with_reducible rfl))
      try simp only [Act.put, List.setIfInBounds_toArray, List.set_cons_zero, List.set_cons_succ]
      refine wpAnyH_take (i := 49) (v := ?_) (by rw [List.getElem?_toArray]; rfl) (by kernel_rfl) (by kernel_rfl) (by kernel_rfl) (fun _ _ _ h => h) (Or.inl ⟨by rfl, ?hy49⟩) (by assumption) ?rest49
      case hy49 => (intro w hSw; (try dsimp only at hSw); go_simp; (try with_reducible rfl))
      try simp only [Act.put, List.setIfInBounds_toArray, List.set_cons_zero, List.set_cons_succ]
      refine wpAnyH_take (i := 50) (v := ?_) (by rw [List.getElem?_toArray]; rfl) (by kernel_rfl) (by kernel_rfl) (by kernel_rfl) (fun _ _ _ h => h) (Or.inl ⟨by rfl, ?hy50⟩) (by assumption) ?rest50
      case hy50 => (intro w hSw; (try dsimp only at hSw); go_simp; (try with_reducible rfl))
      try simp only [Act.put, List.setIfInBounds_toArray, List.set_cons_zero, List.set_cons_succ]
      refine wpAnyH_take (i := 51) (v := ?_) (by rw [List.getElem?_toArray]; rfl) (by kernel_rfl) (by kernel_rfl) (by kernel_rfl) (fun _ _ _ h => h) (Or.inl ⟨by rfl, ?hy51⟩) (by assumption) ?rest51
      case hy51 => (intro w hSw; (try dsimp only at hSw); go_simp; (try with_reducible rfl))
      try simp only [Act.put, List.setIfInBounds_toArray, List.set_cons_zero, List.set_cons_succ]
      refine wpAnyH_ready (rs := [52]) (by kernel_rfl) (by simp) ?_
      refine AllReadyH.cons (by rw [List.getElem?_toArray]; rfl) (fun K hK => ?_) AllReadyH.nil
      go_simp
      go_at_call 8
      (with_reducible refine (HAw.out _).mono ?_)
      rintro e wm ⟨rfl, hkm⟩
      go_wp2_with fail
      refine hK.out _ _ (hHeld.trans hkm) (fun hHeld => ?_)
      clear hK K
      try simp only [Act.put, List.setIfInBounds_toArray, List.set_cons_zero, List.set_cons_succ]
      refine wpAnyH_take (i := 53) (v := ?_) (by rw [List.getElem?_toArray]; rfl) (by kernel_rfl) (by kernel_rfl) (by kernel_rfl) (fun _ _ _ h => h) (Or.inl ⟨by rfl, ?hy53⟩) (by assumption) ?rest53
      case hy53 => (intro w hSw; (try dsimp only at hSw); go_simp; (try with_reducible rfl))
      try simp only [Act.put, List.setIfInBounds_toArray, List.set_cons_zero, List.set_cons_succ]
      refine wpAnyH_take (i := 54) (v := ?_) (by rw [List.getElem?_toArray]; rfl) (by kernel_rfl) (by kernel_rfl) (by kernel_rfl) (fun _ _ _ h => h) (Or.inl ⟨by rfl, ?hy54⟩) (by assumption) ?rest54
      case hy54 => (intro w hSw; (try dsimp only at hSw); go_simp; (try with_reducible rfl))
      try simp only [Act.put, List.setIfInBounds_toArray, List.set_cons_zero, List.set_cons_succ]
      refine wpAnyH_done (by kernel_rfl) ?_ _
      refine NoPanic.normal ?_
      have HKf := Lib.hid (HK89.out.trans hHeld)
      clear hHeld hcz
      go_wp2
      go_ret
      exact ⟨rfl, HEnd.out _ (HT3.out.kept (HK38.out.trans HKf.out)).2⟩
      -- R>>
theorem extractQuota_law (v0 v1 v2 : Value) (w : World) (r0 : Arg w 22 v0) (r1 : Arg w 22 v1) (r2 : Arg w 3 v2) : Calls Tryz.prog 4 #[v0, v1, v2] w fun e w' => e = .returned (.bool true) ∧ Below w.heap.size w w' := by
  obtain ⟨ao, c1, xs, rfl, a1, a2, a3, a4, a5⟩ := r0.bytes Tryz.underlying22
  obtain ⟨bo, c2, bs, rfl, b1, b2, b3, b4, b5⟩ := r1.bytes Tryz.underlying22
  obtain ⟨x, rfl, hx⟩ := r2.int rfl
  have hua := nb_un a4
  have hub := nb_un b4
  have hal : (un xs).length = xs.length := by simp [un]
  have hbl : (un bs).length = bs.length := by simp [un]
  refine (extractQuota_core ao bo xs.length c1 bs.length c2 (un xs) (un bs) x w (i64_bd hx) (by rw [hua]; exact a3) hal.symm a1 a2 a5 (by rw [hub]; exact b3) hbl.symm b1 b2 b5).mono ?_
  rintro e w' ⟨rfl, hk⟩
  exact ⟨rfl, hk.belowNo (Below.refl _ _)⟩
end Go.Proofs.YtgbakogihkdddaaGreatDoor
