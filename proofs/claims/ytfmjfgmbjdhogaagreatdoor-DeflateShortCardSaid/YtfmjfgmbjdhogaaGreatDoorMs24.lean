/-
  deflate.bestLens and Dynamic, of tokens that may be and of such as may not.
  lens.appendRuns once more: which runs it tells, as a function.
-/
import Derived.Test.YtfmjfgmbjdhogaaGreatDoorMs23
namespace Go.Proofs.YtfmjfgmbjdhogaaGreatDoor
open Go.RowKit
set_option linter.unusedVariables false
set_option linter.unusedSimpArgs false
set_option maxRecDepth 20000

/-- The beginning of an own row. -/
def OwnT (w : World) (a : Option Addr) (c : Nat) (l : List Int) : Prop := ∃ g N n, ∃ Z : List Int, a = some ⟨g, 0, none⟩ ∧ w.ownsRow 0 3 1 (.slice (some ⟨g, 0, none⟩) N c) N (Z.map (.int .i64)) ∧ Z.length = N ∧ l = Z.take n
theorem OwnT.kept {S : Nat → Prop} {w w' : World} {a : Option Addr} {c : Nat} {l : List Int} (h : OwnT w a c l) (hk : Kept S w w') (hs : ∀ g, a = some ⟨g, 0, none⟩ → ¬ S g) : OwnT w' a c l := by
  obtain ⟨g, N, n, Z, rfl, ho, hZ, hl⟩ := h
  exact ⟨g, N, n, Z, rfl, hk.row ho (fun k e => by simp [Value.ownBlock] at e; subst e; exact hs _ rfl), hZ, hl⟩
theorem OwnT.rdG {w : World} {a : Option Addr} {c : Nat} {l : List Int} (h : OwnT w a c l) {S : Nat → Prop} (hS : ∀ g, a = some ⟨g, 0, none⟩ → S g) : RdG w S a l := by
  obtain ⟨g, N, n, Z, rfl, ho, hZ, rfl⟩ := h
  intro i hi
  rw [List.length_take] at hi
  have hiZ : i < Z.length := by omega
  have hc := ho.cellAt i (by omega)
  refine ⟨g, 0, rfl, hS g rfl, ?_⟩
  rw [Nat.zero_add, hc]
  simp [List.getD, List.getElem?_take, hiZ, show i < n by omega]
theorem OwnT.reads {w : World} {a : Option Addr} {c : Nat} {l : List Int} (h : OwnT w a c l) : RdI w w.heap.size a l := (h.rdG (S := fun _ => True) (fun _ _ => trivial)).room
theorem OwnT.off {w : World} {a : Option Addr} {c R : Nat} {l : List Int} {ao : Option Addr} {cap : Nat} {bs : List Int} {s : Nat} (h : OwnT w a c l) (hw : Wtr w R ao cap bs s) : ∀ g, a = some ⟨g, 0, none⟩ → ¬ OrB (OneB R) (OwnB (.slice ao bs.length cap)) g := by
  obtain ⟨g, N, n, Z, rfl, ho, hZ, rfl⟩ := h
  intro g' e
  cases e
  exact row_off (T := 0) ho hw (by decide) (by decide)
theorem LensP.own {w w' : World} {zs : List Int} {e : Ending} (h : LensP w zs e w') (h0 : 0 < zs.length) : ∃ g c, e = .returned (.tuple #[.slice (some ⟨g, 0, none⟩) zs.length c, .int .i64 0]) ∧ w'.ownsRow 0 3 1 (.slice (some ⟨g, 0, none⟩) zs.length c) zs.length (zs.map (.int .i64)) ∧ zs.length ≤ c ∧ c ≤ maxLen ∧ RdI w' w'.heap.size (some ⟨g, 0, none⟩) zs ∧ Kept NoB w w' := by
  obtain ⟨a, c, rfl, ho, hk⟩ := h
  rcases ho.2 with ⟨_, hz⟩ | ⟨g, cc, cur, hv, _, _, hl, hm, _⟩
  · omega
  · simp at hv
    obtain ⟨rfl, rfl⟩ := hv
    refine ⟨g, c, rfl, ho, hl, hm, ?_, hk⟩
    have hT : OwnT w' (some ⟨g, 0, none⟩) c zs := ⟨g, zs.length, zs.length, zs, rfl, ho, rfl, by rw [List.take_length]⟩
    exact hT.reads
set_option maxHeartbeats 4000000 in
theorem bestLens_yes (la : Option Addr) (lc : Nat) (lits : List Int) (da : Option Addr) (dc : Nat) (dists : List Int) (B : Nat) (w : World) (hr1 : RdI w B la lits) (hr2 : RdI w B da dists) (hl1 : lits.length = 286) (hl2 : dists.length = 30) (ok1 : LensOkP lits 15) (ok2 : LensOkP dists 15) :
    Calls Tryz.prog 123 #[.slice la 286 lc, .slice da 30 dc] w fun e w' => ∃ a1 c1 a2 c2 l1 l2, e = .returned (.tuple #[.slice a1 l1.length c1, .slice a2 l2.length c2, .int .i64 0]) ∧ BestL 257 lits l1 ∧ BestL 1 dists l2 ∧ OwnT w' a1 c1 l1 ∧ OwnT w' a2 c2 l2 ∧ Kept NoB w w' := by
  have h1 := lens_yes la lc B lits 15 w hr1 ok1
  rw [hl1] at h1
  have HL := Lib.hid h1
  have HD2 : Hid (∀ W, Kept NoB w W → Calls Tryz.prog 144 #[.slice da 30 dc, .int .i64 15] W fun e w' => ∃ lv, SrtP lv (leavesL 0 dists) ∧ LensP W (lensOf lv 30 (15 : Int).toNat) e w') := Lib.hid fun W hk => by
    have h2 := lens_yes da dc B dists 15 W (hr2.keptNo hk) ok2
    rw [hl2] at h2
    exact h2
  have HF1 : Hid (∀ lv, SrtP lv (leavesL 0 lits) → (lensOf lv 286 15).length = 286) := Lib.hid fun lv hs => by
    have := (lensF lits 15 lv ok1 hs).len
    rw [hl1] at this; exact this
  have HF2 : Hid (∀ lv, SrtP lv (leavesL 0 dists) → (lensOf lv 30 15).length = 30) := Lib.hid fun lv hs => by
    have := (lensF dists 15 lv ok2 hs).len
    rw [hl2] at this; exact this
  have HL1 := Lib.hid hl1; have HL2 := Lib.hid hl2
  clear h1 hr1 hr2 hl1 hl2 ok1 ok2
  go_enter Tryz.func123, Tryz.ntmps123
  go_wp2_with fail
  refine HL.out.mono ?_
  rintro e w1 ⟨lv, hs, hp⟩
  obtain ⟨Z, hZ⟩ : ∃ Z, Z = lensOf lv 286 15 := ⟨_, rfl⟩
  have hZl : Z.length = 286 := by rw [hZ]; exact HF1.out lv hs
  change LensP w (lensOf lv 286 15) e w1 at hp
  rw [← hZ] at hp
  obtain ⟨g, c, rfl, ho, hc1, hc2, hrd, hk1⟩ := hp.own (by omega)
  have HZ := Lib.hid hZ; have HS := Lib.hid hs; have HO := Lib.hid ho; have HRd := Lib.hid hrd; have HK1 := Lib.hid hk1; have HZl := Lib.hid hZl
  rw [hZl]
  clear hZ hs hp ho hrd hk1 hZl HL HF1
  have HL2 := Lib.hid (HD2.out w1 HK1.out)
  clear HD2
  go_wp2_with fail
  refine HL2.out.mono ?_
  rintro e w2 ⟨lv2, hs2, hp2⟩
  obtain ⟨Z2, hZ2⟩ : ∃ Z, Z = lensOf lv2 30 15 := ⟨_, rfl⟩
  have hZl2 : Z2.length = 30 := by rw [hZ2]; exact HF2.out lv2 hs2
  change LensP w1 (lensOf lv2 30 15) e w2 at hp2
  rw [← hZ2] at hp2
  obtain ⟨g2, c2, rfl, ho2, hc3, hc4, hrd2, hk2⟩ := hp2.own (by omega)
  have HZ2 := Lib.hid hZ2; have HS2 := Lib.hid hs2; have HO2 := Lib.hid ho2; have HRd2 := Lib.hid hrd2; have HZl2 := Lib.hid hZl2
  have HO1 := Lib.hid (hk2.row HO.out (fun _ _ h => h))
  have HK2 := Lib.hid (HK1.out.trans hk2)
  have ht1 := trimmed_any (some ⟨g, 0, none⟩) c _ Z 257 w2 (HRd.out.keptNo hk2) (by rw [HZl.out]; omega) (by omega) hc1 hc2
  rw [HZl.out] at ht1
  have HT1 := Lib.hid ht1
  have HT2 : Hid (∀ W, Kept NoB w2 W → Calls Tryz.prog 145 #[.slice (some ⟨g2, 0, none⟩) 30 c2, .int .i64 ((1 : Nat) : Int)] W fun e w' => ∃ n, e = .returned (.slice (some ⟨g2, 0, none⟩) n c2) ∧ TrimP 1 Z2 n ∧ Kept NoB W w') := Lib.hid fun W hk => by
    have h := trimmed_any (some ⟨g2, 0, none⟩) c2 _ Z2 1 W (HRd2.out.keptNo hk) (by rw [HZl2.out]; omega) (by omega) hc3 hc4
    rw [HZl2.out] at h
    exact h
  rw [hZl2]
  clear hZ2 hs2 hp2 ho2 hrd2 hk2 hZl2 hc1 hc2 hc3 hc4 HL2 HF2 ht1 HRd HO HK1
  go_wp2_with fail
  refine HT1.out.mono ?_
  rintro e w3 ⟨n1, rfl, ht1, hk3⟩
  have HTr1 := Lib.hid ht1
  have HK3 := Lib.hid hk3
  have HT2 := Lib.hid (HT2.out w3 hk3)
  clear ht1 hk3 HT1
  go_wp2_with fail
  refine HT2.out.mono ?_
  rintro e w4 ⟨n2, rfl, ht2, hk4⟩
  have HTr2 := Lib.hid ht2
  have HK4 := Lib.hid (HK3.out.trans hk4)
  clear ht2 hk4 HT2
  go_wp2
  go_ret3
  refine ⟨some ⟨g, 0, none⟩, c, some ⟨g2, 0, none⟩, c2, Z.take n1, Z2.take n2, ?_, ⟨lv, n1, HS.out, ?_, ?_⟩, ⟨lv2, n2, HS2.out, ?_, ?_⟩, ?_, ?_, HK2.out.trans HK4.out⟩
  · rw [HTr1.out.len, HTr2.out.len]; rfl
  · rw [HL1.out, ← HZ.out]; exact HTr1.out
  · rw [HL1.out, ← HZ.out]
  · rw [HL2.out, ← HZ2.out]; exact HTr2.out
  · rw [HL2.out, ← HZ2.out]
  · exact OwnT.kept ⟨g, Z.length, n1, Z, rfl, HO1.out, rfl, rfl⟩ HK4.out (fun _ _ h => h)
  · exact OwnT.kept ⟨g2, Z2.length, n2, Z2, rfl, HO2.out, rfl, rfl⟩ HK4.out (fun _ _ h => h)
theorem spanL_one (s : Int) : 1 ≤ spanL s := by unfold spanL; split <;> (try split) <;> (try split) <;> decide
theorem runAll_many (n : Int) : ∀ (rs : List (Int × Int)) (l F : List Int), runAll n l rs = some F → l.length + rs.length ≤ F.length
  | [], l, F, h => by rw [runAll] at h; cases h; simp
  | (s, x) :: r, l, F, h => by
    rw [runAll] at h
    split at h
    · have h2 := runAll_many n r _ F h
      have h3 := spanL_one s
      rw [moreL_len] at h2
      simp only [List.length_cons]; omega
    · cases h
theorem spanB_seven (s : Int) : spanB s ≤ 7 := by unfold spanB; split <;> (try split) <;> (try split) <;> decide
theorem wordsR_wd {code : List Int} (hs : Small 7 code) : ∀ (rs : List (Int × Int)), (∀ y ∈ rs, HasC code y.1) → wdN (wordsR code rs) ≤ 14 * rs.length
  | [], _ => by simp [wordsR, wdN]
  | y :: rs, h => by
    have h1 := wordsR_wd hs rs (fun z hz => h z (List.mem_cons_of_mem _ hz))
    obtain ⟨k, hk, hkl, _⟩ := h y (List.mem_cons_self ..)
    have hb := hs.getD k hkl
    have hsp := spanB_seven y.1
    rw [wordsR_cons]
    have hz : (wordZ code y.1).2 ≤ 7 := by unfold wordZ; rw [hk, Int.toNat_natCast]; simp only; omega
    simp only [wdN, List.length_cons]
    omega
theorem headW_few {code lit dist : List Int} {told : Nat} {rs : List (Int × Int)} (hc : CodeW code told rs (lit ++ dist)) (hb : headB lit dist = true) : wdN (headW lit dist code told rs) ≤ 4600 := by
  obtain ⟨⟨b1, b2, b3, b4⟩, _, _, _⟩ := head_small hb
  have h1 := runAll_many _ rs [] _ hc.runs
  rw [List.length_append] at h1
  have h2 := wordsR_wd hc.small rs hc.has
  have h3 := wordsC_wd code told
  have h4 := hc.hi
  unfold headW
  rw [wdN_append, wdN_append, h3]
  simp only [wdN]
  simp only [List.length_nil] at h1
  omega
end Go.Proofs.YtfmjfgmbjdhogaaGreatDoor

namespace Go.Proofs.YtfmjfgmbjdhogaaGreatDoor
open Go.RowKit
set_option linter.unusedVariables false
set_option linter.unusedSimpArgs false

/-- The run that is told next for r more of v, and how many it tells. -/
def nextF (v : Int) (r : Nat) : (Int × Int) × Nat :=
  if 0 < v ∧ 3 ≤ r then ((16, ((min (r - 3) 3 : Nat) : Int)), 3 + min (r - 3) 3)
  else if v = 0 ∧ 11 ≤ r then ((18, ((min (r - 11) 127 : Nat) : Int)), 11 + min (r - 11) 127)
  else if v = 0 ∧ 3 ≤ r then ((17, ((min (r - 3) 7 : Nat) : Int)), 3 + min (r - 3) 7)
  else ((v, 0), 1)
theorem nextF_pos (v : Int) (r : Nat) : 1 ≤ (nextF v r).2 := by
  unfold nextF
  split
  · simp only; omega
  · split
    · simp only; omega
    · split
      · simp only; omega
      · simp
/-- The runs for r more of v. -/
def contF (v : Int) (r : Nat) : List (Int × Int) :=
  if h : r = 0 then [] else (nextF v r).1 :: contF v (r - (nextF v r).2)
termination_by r
decreasing_by have := nextF_pos v r; omega
theorem contF_zero (v : Int) : contF v 0 = [] := by rw [contF, dif_pos rfl]
theorem contF_step (v : Int) {r : Nat} (h : 0 < r) : contF v r = (nextF v r).1 :: contF v (r - (nextF v r).2) := by
  rw [contF, dif_neg (by omega)]
/-- The runs for t of v. -/
def firstF (v : Int) (t : Nat) : List (Int × Int) := if 0 < v then (v, 0) :: contF v (t - 1) else contF v t
structure ToldF (v : Int) (t d : Nat) (rs : List (Int × Int)) : Prop where
  told : Told v d rs
  can : rs ++ contF v (t - d) = firstF v t
theorem ToldF.next {v : Int} {t d R k : Nat} {rs : List (Int × Int)} {s x : Int} (h : ToldF v t d rs) (hR : (R : Int) = (t : Int) - (d : Int)) (hR1 : 0 < R) (hn : nextF v R = ((s, x), k)) (ht : Told v (d + k) (rs ++ [(s, x)])) : ToldF v t (d + k) (rs ++ [(s, x)]) := by
  refine ⟨ht, ?_⟩
  have hc := h.can
  rw [show t - d = R by omega, contF_step v hR1, hn] at hc
  rw [← hc, List.append_assoc, show t - (d + k) = R - k by omega]
  rfl
theorem next_again {v : Int} {R m : Nat} (hv : 0 < v) (h : 3 ≤ R) (hm : m = min (R - 3) 3) : nextF v R = ((16, (m : Int)), 3 + m) := by
  unfold nextF; rw [if_pos ⟨hv, h⟩, hm]
theorem next_one {v : Int} {R m : Nat} (hv : 0 < v) (h : R < 3) (hm : m = 0) : nextF v R = ((v, 0), 1 + m) := by
  unfold nextF; rw [if_neg (by omega), if_neg (by omega), if_neg (by omega), hm]
theorem next_many {R m : Nat} (h : 11 ≤ R) (hm : m = min (R - 11) 127) : nextF 0 R = ((18, (m : Int)), 11 + m) := by
  unfold nextF; rw [if_neg (by omega), if_pos ⟨rfl, h⟩, hm]
theorem next_few {R m : Nat} (h : 3 ≤ R) (h2 : R < 11) (hm : m = min (R - 3) 7) : nextF 0 R = ((17, (m : Int)), 3 + m) := by
  unfold nextF; rw [if_neg (by omega), if_neg (by omega), if_pos ⟨rfl, h⟩, hm]
theorem next_none {R m : Nat} (h : R < 3) (hm : m = 0) : nextF 0 R = ((0, 0), 1 + m) := by
  unfold nextF; rw [if_neg (by omega), if_neg (by omega), if_neg (by omega), hm]

set_option maxRecDepth 20000 in
set_option maxHeartbeats 4000000 in
theorem appendRuns_f (a : Option Addr) (c : Nat) (rs0 : List (Int × Int)) (v : Int) (t : Nat) (w : World) (hown : OwnR w a c rs0) (hv : 0 ≤ v ∧ v ≤ 15) (ht : 1 ≤ t ∧ t ≤ 1000) (hl : rs0.length ≤ 1000) :
    Calls Tryz.prog 171 #[.slice a rs0.length c, .int .i64 v, .int .i64 (t : Int)] w fun e w' => ∃ rs' a' c', e = .returned (.slice a' (rs0 ++ rs').length c') ∧ Told v t rs' ∧ rs' = firstF v t ∧ 1 ≤ rs'.length ∧ rs'.length ≤ t ∧ ASt w a c rs0 w' (rs0 ++ rs') a' c' := by
  have HOwn := Lib.hid hown
  obtain ⟨i0, hi, hz0, hz1, hz2⟩ := info_parts infoR
  obtain ⟨len0, hlen0⟩ : ∃ n, n = rs0.length := ⟨_, rfl⟩
  have HL0 := Lib.hid hlen0
  have hl0 : len0 ≤ 1000 := by omega
  rw [← hlen0]
  clear hown hlen0 hl
  go_enter Tryz.func171, Tryz.ntmps171
  go_upto_if 12 with fail
  go_cut [0, 2] from 12 to 19 (fun v0 v2 wx => ∃ (d : Nat) (rs' : List (Int × Int)) (a' : Option Addr) (c' len : Nat), v0 = .slice a' len c' ∧ v2 = .int .i64 ((t : Int) - (d : Int)) ∧ Hid (len = (rs0 ++ rs').length) ∧ d ≤ t ∧ Hid (rs'.length ≤ d ∧ (d ≠ 0 → rs' ≠ [])) ∧ (0 < v → 1 ≤ d) ∧ Hid (ToldF v t d rs') ∧ Hid (ASt w a c rs0 wx (rs0 ++ rs') a' c'))
  case first =>
    by_cases hv0 : 0 < v
    · have hrow := (HOwn.out : w.ownsRow 0 125 2 (.slice a rs0.length c) rs0.length (rcells rs0)).alloc (.cells #[.int .i64 v, .int .i64 0] 125)
      rw [← HL0.out] at hrow
      have HRow := Lib.hid hrow; have HNw := Lib.hid (news2 w v 0)
      clear hrow
      go_wp2_with (at_builtin; refine wpList_app _ rfl _ _ 207 rfl 125 i0 (.agg #[.int .i64 0, .int .i64 0]) 2 16 Tryz.underlying207 hi hz0 hz1 hz2 rfl (by decide) _ len0 (rcells rs0) rfl HRow.out ⟨w.heap.size, 0, none⟩ 1 1 [.int .i64 v, .int .i64 0] rfl rfl HNw.out ?d2 ?d3 ?d4 ?_)
      case d2 => first | rfl | (intro u hu; simp at hu; rcases hu with rfl | rfl <;> rfl) | (simp [Value.oneCell'])
      case d3 => unfold maxLen; omega
      case d4 => omega
      intro v' w2 hown' hgrow hnew
      obtain ⟨a2, c2, rfl⟩ := own_shape2 hown'
      have hst := (ASt.start HOwn.out).app HL0.out hown' hgrow hnew
      have HSt := Lib.hid hst
      clear hst hown' hgrow hnew
      go_wp2
      go_meet
      exact ⟨1, [(v, 0)], a2, c2, len0 + 1, rfl, rfl, Lib.hid (show len0 + 1 = (rs0 ++ [(v, 0)]).length by rw [HL0.out]; simp), ht.1, ⟨by simp, fun _ h => by cases h⟩, fun _ => by omega, Lib.hid (show ToldF v t 1 [(v, 0)] from ⟨by have := (Told.nil v).one hv; simpa using this, by unfold firstF; rw [if_pos hv0]; rfl⟩), HSt.out⟩
    · go_wp2
      go_meet
      exact ⟨0, [], a, c, len0, rfl, by simp, Lib.hid (show len0 = (rs0 ++ []).length by rw [HL0.out, List.append_nil]), by omega, ⟨by simp, fun h => absurd rfl h⟩, fun h => by omega, ⟨Told.nil v, by unfold firstF; rw [if_neg (by omega)]; rfl⟩, (by rw [List.append_nil]; exact ASt.start HOwn.out)⟩
  case rest =>
  obtain ⟨d0, rs1, a1, c1, len1, rfl, rfl, HL1, hd0, HR1, hvd0, HT1, HS1⟩ := hcut
  have HSpan := Lib.hid (fun s w => span_any s w)
  go_wp2
  go_loopw [0, 2, 7, 8, 9, 10] (fun v0 v2 v7 v8 v9 v10 wr => ∃ (d : Nat) (rs' : List (Int × Int)) (a' : Option Addr) (c' len : Nat), v0 = .slice a' len c' ∧ v2 = .int .i64 ((t : Int) - (d : Int)) ∧ Hid (len = (rs0 ++ rs').length) ∧ d ≤ t ∧ Hid (rs'.length ≤ d ∧ (d ≠ 0 → rs' ≠ [])) ∧ (0 < v → 1 ≤ d) ∧ Hid (ToldF v t d rs') ∧ Hid (ASt w a c rs0 wr (rs0 ++ rs') a' c')) (fun _ v2 _ _ _ _ _ => (intOf v2).toNat)
  case atStart => exact ⟨d0, rs1, a1, c1, len1, rfl, rfl, HL1, hd0, HR1, hvd0, HT1, HS1⟩
  case round =>
    clear HL1 hd0 HR1 hvd0 HT1 HS1
    obtain ⟨d, rs', a', c', len, rfl, rfl, HL, hd, HR, hvd, HT, HS⟩ := hrel
    have hlen : len ≤ 2000 := by have h1 := HL.out; have h2 := HR.out.1; have h3 := HL0.out; rw [List.length_append] at h1; omega
    have hrow := HS.out.own
    unfold OwnR at hrow
    rw [← HL.out] at hrow
    have HRow := Lib.hid hrow
    clear hrow
    by_cases hdt : d < t
    · obtain ⟨R, hR⟩ : ∃ R : Nat, (R : Int) = (t : Int) - (d : Int) := ⟨t - d, by omega⟩
      have hR1 : 1 ≤ R ∧ R ≤ 1000 := by omega
      have HRe := Lib.hid hR
      rw [← hR]
      clear hR
      have hcase : (0 < v ∧ 3 ≤ R) ∨ (0 < v ∧ R < 3) ∨ (v = 0 ∧ 11 ≤ R) ∨ (v = 0 ∧ 3 ≤ R ∧ R < 11) ∨ (v = 0 ∧ R < 3) := by omega
      rcases hcase with ⟨hv1, hr1⟩ | ⟨hv1, hr1⟩ | ⟨rfl, hr1⟩ | ⟨rfl, hr1, hr2⟩ | ⟨rfl, hr1⟩
      · have hsp : ∀ w, Calls Tryz.prog 173 #[.int .i64 16] w fun e w' => e = .returned (.tuple #[.int .i64 3, .int .i64 2]) ∧ w = w' := fun w => by
          exact span_any 16 w
        have HSp1 := Lib.hid hsp
        clear hsp HSpan
        obtain ⟨m, hm⟩ : ∃ m : Nat, m = min (R - 3) 3 := ⟨_, rfl⟩
        have hmin : (if (3 : Int) < (R : Int) - 3 then (3 : Int) else (R : Int) - 3) = (m : Int) := by split <;> omega
        have hmM : m ≤ 3 ∧ 3 + m ≤ R := by omega
        have hT2 : ToldF v t (d + (3 + m)) (rs' ++ [(16, (m : Int))]) := HT.out.next HRe.out (by omega) (next_again hv1 hr1 hm) (HT.out.told.again (hvd hv1) hmM.1)
        have HT2 := Lib.hid hT2; have HV := Lib.hid hvd
        clear hT2 hm hvd
        have h3 : (3 : Int) ≤ R := by omega
        go_wp2_with fail
        refine (HSp1.out _).mono ?_
        rintro e w2 ⟨rfl, rfl⟩
        have hrow2 := HRow.out.alloc (.cells #[.int .i64 16, .int .i64 (m : Int)] 125)
        have HRow2 := Lib.hid hrow2; have HNw := Lib.hid (news2 wr 16 (m : Int))
        clear hrow2
        go_wp2_with (at_builtin; refine wpList_app _ rfl _ _ 207 rfl 125 i0 (.agg #[.int .i64 0, .int .i64 0]) 2 16 Tryz.underlying207 hi hz0 hz1 hz2 rfl (by decide) _ len (rcells (rs0 ++ rs')) rfl HRow2.out ⟨wr.heap.size, 0, none⟩ 1 1 [.int .i64 16, .int .i64 (m : Int)] rfl rfl HNw.out ?d2 ?d3 ?d4 ?_)
        case d2 => first | rfl | (intro u hu; simp at hu; rcases hu with rfl | rfl <;> rfl) | (simp [Value.oneCell'])
        case d3 => unfold maxLen; omega
        case d4 => omega
        intro v' w2 hown' hgrow hnew
        obtain ⟨a2, c2, rfl⟩ := own_shape2 hown'
        have hst := HS.out.app HL.out hown' hgrow hnew
        rw [List.append_assoc] at hst
        have HSt := Lib.hid hst
        have HL2 : Hid (len + 1 = (rs0 ++ (rs' ++ [(16, (m : Int))])).length) := by
          have h1 := HL.out
          rw [List.length_append] at h1
          show len + 1 = _
          rw [List.length_append, List.length_append]
          simp
          omega
        have HR2 : Hid ((rs' ++ [((16 : Int), ((m : Int) : Int))]).length ≤ d + (3 + m) ∧ (d + (3 + m) ≠ 0 → rs' ++ [((16 : Int), ((m : Int) : Int))] ≠ [])) := by
          refine ⟨?_, fun _ h => ?_⟩
          · have := HR.out.1
            rw [List.length_append]
            simp
            omega
          · have := congrArg List.length h
            simp at this
        clear hst hown' hgrow hnew
        go_wp2
        go_roundw
        case rel => exact ⟨d + (3 + m), rs' ++ [(16, (m : Int))], a2, c2, len + 1, rfl, by have := HRe.out; congr 1; omega, HL2, by have := HRe.out; omega, HR2, fun h => by have := HV.out h; omega, HT2, HSt⟩
        case measure => simp [intOf]; omega
      · have hsp : ∀ w, Calls Tryz.prog 173 #[.int .i64 v] w fun e w' => e = .returned (.tuple #[.int .i64 1, .int .i64 0]) ∧ w = w' := fun w => by
          have h := span_any v w; rw [show spanL v = 1 by unfold spanL; rw [if_neg (by omega), if_neg (by omega), if_neg (by omega)], show spanB v = 0 by unfold spanB; rw [if_neg (by omega), if_neg (by omega), if_neg (by omega)]] at h; exact h
        have HSp1 := Lib.hid hsp
        clear hsp HSpan
        obtain ⟨m, hm⟩ : ∃ m : Nat, m = min (R - 1) 0 := ⟨_, rfl⟩
        have hmin : (if (0 : Int) < (R : Int) - 1 then (0 : Int) else (R : Int) - 1) = 0 := by split <;> omega
        have hmin2 : (if (1 : Int) < (R : Int) then (0 : Int) else (R : Int) - 1) = 0 := by split <;> omega
        have hmM : m ≤ 0 ∧ 1 + m ≤ R := by omega
        have hT2 : ToldF v t (d + (1 + m)) (rs' ++ [(v, 0)]) := HT.out.next HRe.out (by omega) (next_one hv1 hr1 (by omega)) (by rw [show 1 + m = 1 by omega]; exact HT.out.told.one hv)
        have HT2 := Lib.hid hT2; have HV := Lib.hid hvd
        clear hT2 hm hvd
        have h3 : ¬ (3 : Int) ≤ R := by omega
        have hv0 : (v == 0) = false := by simp; omega
        go_wp2_with fail
        refine (HSp1.out _).mono ?_
        rintro e w2 ⟨rfl, rfl⟩
        have hrow2 := HRow.out.alloc (.cells #[.int .i64 v, .int .i64 0] 125)
        have HRow2 := Lib.hid hrow2; have HNw := Lib.hid (news2 wr v 0)
        clear hrow2
        go_wp2_with (at_builtin; refine wpList_app _ rfl _ _ 207 rfl 125 i0 (.agg #[.int .i64 0, .int .i64 0]) 2 16 Tryz.underlying207 hi hz0 hz1 hz2 rfl (by decide) _ len (rcells (rs0 ++ rs')) rfl HRow2.out ⟨wr.heap.size, 0, none⟩ 1 1 [.int .i64 v, .int .i64 0] rfl rfl HNw.out ?d2 ?d3 ?d4 ?_)
        case d2 => first | rfl | (intro u hu; simp at hu; rcases hu with rfl | rfl <;> rfl) | (simp [Value.oneCell'])
        case d3 => unfold maxLen; omega
        case d4 => omega
        intro v' w2 hown' hgrow hnew
        obtain ⟨a2, c2, rfl⟩ := own_shape2 hown'
        have hst := HS.out.app HL.out hown' hgrow hnew
        rw [List.append_assoc] at hst
        have HSt := Lib.hid hst
        have HL2 : Hid (len + 1 = (rs0 ++ (rs' ++ [(v, 0)])).length) := by
          have h1 := HL.out
          rw [List.length_append] at h1
          show len + 1 = _
          rw [List.length_append, List.length_append]
          simp
          omega
        have HR2 : Hid ((rs' ++ [((v : Int), (0 : Int))]).length ≤ d + (1 + m) ∧ (d + (1 + m) ≠ 0 → rs' ++ [((v : Int), (0 : Int))] ≠ [])) := by
          refine ⟨?_, fun _ h => ?_⟩
          · have := HR.out.1
            rw [List.length_append]
            simp
            omega
          · have := congrArg List.length h
            simp at this
        clear hst hown' hgrow hnew
        go_wp2
        go_roundw
        case rel => exact ⟨d + (1 + m), rs' ++ [(v, 0)], a2, c2, len + 1, rfl, by have := HRe.out; congr 1; omega, HL2, by have := HRe.out; omega, HR2, fun h => by have := HV.out h; omega, HT2, HSt⟩
        case measure => simp [intOf]; omega
      · have hsp : ∀ w, Calls Tryz.prog 173 #[.int .i64 18] w fun e w' => e = .returned (.tuple #[.int .i64 11, .int .i64 7]) ∧ w = w' := fun w => by
          exact span_any 18 w
        have HSp1 := Lib.hid hsp
        clear hsp HSpan
        obtain ⟨m, hm⟩ : ∃ m : Nat, m = min (R - 11) 127 := ⟨_, rfl⟩
        have hmin : (if (127 : Int) < (R : Int) - 11 then (127 : Int) else (R : Int) - 11) = (m : Int) := by split <;> omega
        have hmM : m ≤ 127 ∧ 11 + m ≤ R := by omega
        have hT2 : ToldF 0 t (d + (11 + m)) (rs' ++ [(18, (m : Int))]) := HT.out.next HRe.out (by omega) (next_many hr1 hm) (HT.out.told.many hmM.1)
        have HT2 := Lib.hid hT2; have HV := Lib.hid hvd
        clear hT2 hm hvd
        have h3 : (11 : Int) ≤ R := by omega
        go_wp2_with fail
        refine (HSp1.out _).mono ?_
        rintro e w2 ⟨rfl, rfl⟩
        have hrow2 := HRow.out.alloc (.cells #[.int .i64 18, .int .i64 (m : Int)] 125)
        have HRow2 := Lib.hid hrow2; have HNw := Lib.hid (news2 wr 18 (m : Int))
        clear hrow2
        go_wp2_with (at_builtin; refine wpList_app _ rfl _ _ 207 rfl 125 i0 (.agg #[.int .i64 0, .int .i64 0]) 2 16 Tryz.underlying207 hi hz0 hz1 hz2 rfl (by decide) _ len (rcells (rs0 ++ rs')) rfl HRow2.out ⟨wr.heap.size, 0, none⟩ 1 1 [.int .i64 18, .int .i64 (m : Int)] rfl rfl HNw.out ?d2 ?d3 ?d4 ?_)
        case d2 => first | rfl | (intro u hu; simp at hu; rcases hu with rfl | rfl <;> rfl) | (simp [Value.oneCell'])
        case d3 => unfold maxLen; omega
        case d4 => omega
        intro v' w2 hown' hgrow hnew
        obtain ⟨a2, c2, rfl⟩ := own_shape2 hown'
        have hst := HS.out.app HL.out hown' hgrow hnew
        rw [List.append_assoc] at hst
        have HSt := Lib.hid hst
        have HL2 : Hid (len + 1 = (rs0 ++ (rs' ++ [(18, (m : Int))])).length) := by
          have h1 := HL.out
          rw [List.length_append] at h1
          show len + 1 = _
          rw [List.length_append, List.length_append]
          simp
          omega
        have HR2 : Hid ((rs' ++ [((18 : Int), ((m : Int) : Int))]).length ≤ d + (11 + m) ∧ (d + (11 + m) ≠ 0 → rs' ++ [((18 : Int), ((m : Int) : Int))] ≠ [])) := by
          refine ⟨?_, fun _ h => ?_⟩
          · have := HR.out.1
            rw [List.length_append]
            simp
            omega
          · have := congrArg List.length h
            simp at this
        clear hst hown' hgrow hnew
        go_wp2
        go_roundw
        case rel => exact ⟨d + (11 + m), rs' ++ [(18, (m : Int))], a2, c2, len + 1, rfl, by have := HRe.out; congr 1; omega, HL2, by have := HRe.out; omega, HR2, fun h => by have := HV.out h; omega, HT2, HSt⟩
        case measure => simp [intOf]; omega
      · have hsp : ∀ w, Calls Tryz.prog 173 #[.int .i64 17] w fun e w' => e = .returned (.tuple #[.int .i64 3, .int .i64 3]) ∧ w = w' := fun w => by
          exact span_any 17 w
        have HSp1 := Lib.hid hsp
        clear hsp HSpan
        obtain ⟨m, hm⟩ : ∃ m : Nat, m = min (R - 3) 7 := ⟨_, rfl⟩
        have hmin : (if (7 : Int) < (R : Int) - 3 then (7 : Int) else (R : Int) - 3) = (m : Int) := by split <;> omega
        have hmM : m ≤ 7 ∧ 3 + m ≤ R := by omega
        have hT2 : ToldF 0 t (d + (3 + m)) (rs' ++ [(17, (m : Int))]) := HT.out.next HRe.out (by omega) (next_few hr1 hr2 hm) (HT.out.told.few hmM.1)
        have HT2 := Lib.hid hT2; have HV := Lib.hid hvd
        clear hT2 hm hvd
        have h3 : ¬ (11 : Int) ≤ R := by omega
        have h4 : (3 : Int) ≤ R := by omega
        have hx : (R : Int) - 3 = (m : Int) := by have := hmin; split at this <;> omega
        have h7 : ¬ (7 : Int) < (m : Int) := by omega
        clear hmin
        go_wp2_with fail
        refine (HSp1.out _).mono ?_
        rintro e w2 ⟨rfl, rfl⟩
        have hrow2 := HRow.out.alloc (.cells #[.int .i64 17, .int .i64 (m : Int)] 125)
        have HRow2 := Lib.hid hrow2; have HNw := Lib.hid (news2 wr 17 (m : Int))
        clear hrow2
        go_wp2_with (at_builtin; refine wpList_app _ rfl _ _ 207 rfl 125 i0 (.agg #[.int .i64 0, .int .i64 0]) 2 16 Tryz.underlying207 hi hz0 hz1 hz2 rfl (by decide) _ len (rcells (rs0 ++ rs')) rfl HRow2.out ⟨wr.heap.size, 0, none⟩ 1 1 [.int .i64 17, .int .i64 (m : Int)] rfl rfl HNw.out ?d2 ?d3 ?d4 ?_)
        case d2 => first | rfl | (intro u hu; simp at hu; rcases hu with rfl | rfl <;> rfl) | (simp [Value.oneCell'])
        case d3 => unfold maxLen; omega
        case d4 => omega
        intro v' w2 hown' hgrow hnew
        obtain ⟨a2, c2, rfl⟩ := own_shape2 hown'
        have hst := HS.out.app HL.out hown' hgrow hnew
        rw [List.append_assoc] at hst
        have HSt := Lib.hid hst
        have HL2 : Hid (len + 1 = (rs0 ++ (rs' ++ [(17, (m : Int))])).length) := by
          have h1 := HL.out
          rw [List.length_append] at h1
          show len + 1 = _
          rw [List.length_append, List.length_append]
          simp
          omega
        have HR2 : Hid ((rs' ++ [((17 : Int), ((m : Int) : Int))]).length ≤ d + (3 + m) ∧ (d + (3 + m) ≠ 0 → rs' ++ [((17 : Int), ((m : Int) : Int))] ≠ [])) := by
          refine ⟨?_, fun _ h => ?_⟩
          · have := HR.out.1
            rw [List.length_append]
            simp
            omega
          · have := congrArg List.length h
            simp at this
        clear hst hown' hgrow hnew
        go_wp2
        go_roundw
        case rel => exact ⟨d + (3 + m), rs' ++ [(17, (m : Int))], a2, c2, len + 1, rfl, by have := HRe.out; congr 1; omega, HL2, by have := HRe.out; omega, HR2, fun h => by have := HV.out h; omega, HT2, HSt⟩
        case measure => simp [intOf]; omega
      · have hsp : ∀ w, Calls Tryz.prog 173 #[.int .i64 0] w fun e w' => e = .returned (.tuple #[.int .i64 1, .int .i64 0]) ∧ w = w' := fun w => by
          exact span_any 0 w
        have HSp1 := Lib.hid hsp
        clear hsp HSpan
        obtain ⟨m, hm⟩ : ∃ m : Nat, m = min (R - 1) 0 := ⟨_, rfl⟩
        have hmin : (if (0 : Int) < (R : Int) - 1 then (0 : Int) else (R : Int) - 1) = 0 := by split <;> omega
        have hmin2 : (if (1 : Int) < (R : Int) then (0 : Int) else (R : Int) - 1) = 0 := by split <;> omega
        have hmM : m ≤ 0 ∧ 1 + m ≤ R := by omega
        have hT2 : ToldF 0 t (d + (1 + m)) (rs' ++ [(0, 0)]) := HT.out.next HRe.out (by omega) (next_none hr1 (by omega)) (by rw [show 1 + m = 1 by omega]; exact HT.out.told.one hv)
        have HT2 := Lib.hid hT2; have HV := Lib.hid hvd
        clear hT2 hm hvd
        have h3 : ¬ (11 : Int) ≤ R := by omega
        have h4 : ¬ (3 : Int) ≤ R := by omega
        go_wp2_with fail
        refine (HSp1.out _).mono ?_
        rintro e w2 ⟨rfl, rfl⟩
        have hrow2 := HRow.out.alloc (.cells #[.int .i64 0, .int .i64 0] 125)
        have HRow2 := Lib.hid hrow2; have HNw := Lib.hid (news2 wr 0 0)
        clear hrow2
        go_wp2_with (at_builtin; refine wpList_app _ rfl _ _ 207 rfl 125 i0 (.agg #[.int .i64 0, .int .i64 0]) 2 16 Tryz.underlying207 hi hz0 hz1 hz2 rfl (by decide) _ len (rcells (rs0 ++ rs')) rfl HRow2.out ⟨wr.heap.size, 0, none⟩ 1 1 [.int .i64 0, .int .i64 0] rfl rfl HNw.out ?d2 ?d3 ?d4 ?_)
        case d2 => first | rfl | (intro u hu; simp at hu; rcases hu with rfl | rfl <;> rfl) | (simp [Value.oneCell'])
        case d3 => unfold maxLen; omega
        case d4 => omega
        intro v' w2 hown' hgrow hnew
        obtain ⟨a2, c2, rfl⟩ := own_shape2 hown'
        have hst := HS.out.app HL.out hown' hgrow hnew
        rw [List.append_assoc] at hst
        have HSt := Lib.hid hst
        have HL2 : Hid (len + 1 = (rs0 ++ (rs' ++ [(0, 0)])).length) := by
          have h1 := HL.out
          rw [List.length_append] at h1
          show len + 1 = _
          rw [List.length_append, List.length_append]
          simp
          omega
        have HR2 : Hid ((rs' ++ [((0 : Int), (0 : Int))]).length ≤ d + (1 + m) ∧ (d + (1 + m) ≠ 0 → rs' ++ [((0 : Int), (0 : Int))] ≠ [])) := by
          refine ⟨?_, fun _ h => ?_⟩
          · have := HR.out.1
            rw [List.length_append]
            simp
            omega
          · have := congrArg List.length h
            simp at this
        clear hst hown' hgrow hnew
        go_wp2
        go_roundw
        case rel => exact ⟨d + (1 + m), rs' ++ [(0, 0)], a2, c2, len + 1, rfl, by have := HRe.out; congr 1; omega, HL2, by have := HRe.out; omega, HR2, fun h => by have := HV.out h; omega, HT2, HSt⟩
        case measure => simp [intOf]; omega
    · have hdt' : d = t := by omega
      subst hdt'
      have hz : (d : Int) - (d : Int) = 0 := by omega
      rw [hz]
      clear hz
      go_wp2
      go_ret
      refine ⟨rs', a', c', by rw [← HL.out]; rfl, HT.out.told, (by have h := HT.out.can; rw [Nat.sub_self, contF_zero, List.append_nil] at h; exact h), ?_, HR.out.1, HS.out⟩
      have := HR.out.2 (by omega)
      exact List.length_pos_iff.2 this
end Go.Proofs.YtfmjfgmbjdhogaaGreatDoor
