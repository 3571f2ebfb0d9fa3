/-
  inflate.All.
  Blocks that were put are read as what they say; what a whole stream that was put is unpacked as.
  The writer and the document's own writer, side by side: what one call does to both.
  The writer and the document's, side by side, block by block.
  deflate.writeBest: the block that is the shortest.
-/
import Derived.Test.YtfmjfgmbjdhogaaGreatDoorMs34
namespace Go.Proofs.YtfmjfgmbjdhogaaGreatDoor
open Go.RowKit
set_option linter.unusedVariables false
set_option linter.unusedSimpArgs false

theorem ItemR.fit {bs : List Int} {most p : Nat} {m : Md} {last : Bool} {out : List Int} {p1 : Nat} {m1 : Md} {l1 : Bool} {o1 : List Int} (h : ItemR bs most p m last out 0 p1 m1 l1 o1) : out.length ≤ o1.length ∧ (out.length ≤ most → o1.length ≤ most) := by
  cases m with
  | fin => exact h.elim
  | block =>
    unfold ItemR at h
    simp only at h
    split at h
    · exact absurd h (by decide)
    · split at h
      · obtain ⟨_, _, _, _, rfl⟩ := h; exact ⟨Nat.le_refl _, fun e => e⟩
      · split at h
        · obtain ⟨_, _, _, _, rfl⟩ := h; exact ⟨Nat.le_refl _, fun e => e⟩
        · split at h
          · obtain ⟨_, _, _, _, rfl⟩ := h; exact ⟨Nat.le_refl _, fun e => e⟩
          · exact absurd h (by decide)
  | stored =>
    unfold ItemR at h
    simp only at h
    split at h
    · exact absurd h (by decide)
    · split at h
      · exact absurd h (by decide)
      · obtain ⟨_, _, _, _, rfl⟩ := h; exact ⟨Nat.le_refl _, fun e => e⟩
  | bytes n =>
    unfold ItemR at h
    simp only at h
    split at h
    · exact absurd h (by decide)
    · split at h
      · exact absurd h (by decide)
      · obtain ⟨_, _, _, _, rfl⟩ := h
        rw [List.length_append, List.length_singleton]
        exact ⟨by omega, fun e => by omega⟩
  | head =>
    unfold ItemR at h
    simp only at h
    obtain ⟨lit, dist, f, q, hh, h⟩ := h
    split at h
    · obtain ⟨_, _, _, _, rfl⟩ := h; exact ⟨Nat.le_refl _, fun e => e⟩
    · rename_i hf
      exact absurd h.symm hf
  | sym lit dist =>
    unfold ItemR at h
    simp only at h
    obtain ⟨s, f, q, hh, h⟩ := h
    split at h
    · rename_i hf
      exact absurd h.symm hf
    · split at h
      · split at h
        · obtain ⟨_, _, _, _, rfl⟩ := h
          rw [List.length_append, List.length_singleton]
          exact ⟨by omega, fun e => by omega⟩
        · exact absurd h (by decide)
      · split at h
        · obtain ⟨_, _, _, _, rfl⟩ := h; exact ⟨Nat.le_refl _, fun e => e⟩
        · split at h
          · exact absurd h (by decide)
          · split at h
            · exact absurd h (by decide)
            · obtain ⟨d, g, r, hd, h⟩ := h
              split at h
              · rename_i hg
                exact absurd h.symm hg
              · split at h
                · exact absurd h (by decide)
                · split at h
                  · exact absurd h (by decide)
                  · split at h
                    · exact absurd h (by decide)
                    · split at h
                      · exact absurd h (by decide)
                      · obtain ⟨_, _, _, _, rfl⟩ := h
                        rw [copyN_len]
                        exact ⟨by omega, fun e => by omega⟩
theorem Steps.fit {bs : List Int} {most p p1 : Nat} {m m1 : Md} {l l1 : Bool} {o o1 : List Int} (h : Steps bs most p m l o p1 m1 l1 o1) : o.length ≤ o1.length ∧ (o.length ≤ most → o1.length ≤ most) := by
  induction h with
  | refl => exact ⟨Nat.le_refl _, fun e => e⟩
  | step a _ ih => have b := a.fit; exact ⟨by omega, fun e => ih.2 (b.2 e)⟩
/-- What comes ahead of where reading ends. -/
theorem Steps.ahead {bs : List Int} {most p p1 p2 : Nat} {m m1 m2 : Md} {l l1 l2 : Bool} {o o1 o2 : List Int} (h : Steps bs most p m l o p1 m1 l1 o1) (hm : m.ok) (h2 : Steps bs most p m l o p2 m2 l2 o2) (hs2 : Stuck bs most p2 m2 l2 o2) : Steps bs most p1 m1 l1 o1 p2 m2 l2 o2 := by
  induction h with
  | refl => exact h2
  | step a _ ih =>
    cases h2 with
    | refl => exact (hs2.no hm a).elim
    | step b hb =>
      obtain ⟨_, e⟩ := ItemR.det hm a b
      obtain ⟨rfl, rfl, rfl, rfl⟩ := e rfl
      exact ih (a.next hm).1 hb
/-- What All tells. -/
def InfAllR (w : World) (b : List Int) (M : Nat) (e : Ending) (w' : World) : Prop :=
  ∃ (p : Nat) (m : Md) (l : Bool) (o : List Int) (er : Int) (oa : Option Addr) (oc : Nat), Steps b M 0 .block false [] p m l o ∧ p ≤ 8 * b.length ∧
    ((m = .fin ∧ er = 0) ∨ (m ≠ .fin ∧ er ≠ 0 ∧ ∃ p1 m1 l1 o1, ItemR b M p m l o er p1 m1 l1 o1)) ∧
    e = .returned (.tuple #[.slice oa o.length oc, .int .i64 ((if er = 0 then (p + 7) / 8 else 0 : Nat) : Int), .int .i64 ((if er = 0 then 0 else if er = 2 then b.length else p / 8 : Nat) : Int), .int .i64 er]) ∧
    Hid (Reads w' oa o) ∧ Hid (oa = none → oc = 0) ∧ Hid ((convert 22 9 (.slice oa o.length oc)).run Tryz.prog w' = .ok (.string (strOfNums o)) w') ∧ Kept NoB w w'
theorem Kept.lowNo {w w' : World} (h : Kept (LoB w.heap.size) w w') : Kept NoB w w' := ⟨h.os, h.tape, h.output, h.size, fun k hk _ => h.block k hk (fun e => by unfold LoB at e; omega)⟩
/-- Behind Feed: how it ends. -/
def EndW (lo : Nat) (w : World) (D : Nat) (b : List Int) (M : Nat) (w' : World) : Prop :=
  Kept (LoB lo) w w' ∧ ∃ (p : Nat) (m : Md) (l : Bool) (o : List Int) (er : Int) (v : IV), Steps b M 0 .block false [] p m l o ∧ p ≤ 8 * b.length ∧
    ((m = .fin ∧ er = 0) ∨ (m ≠ .fin ∧ er ≠ 0 ∧ ∃ p1 m1 l1 o1, ItemR b M p m l o er p1 m1 l1 o1)) ∧ InfE lo w' D v o ∧ v.us = ((if er = 0 then (p + 7) / 8 else 0 : Nat) : Int) ∧ v.at_ = ((if er = 0 then 0 else if er = 2 then b.length else p / 8 : Nat) : Int) ∧ v.er = er
theorem close_ends {lo : Nat} {w w1 : World} {D M : Nat} {b : List Int} (h : ItemsW lo w D (iv0 M) .block [] b 0 0 w1) (hb : b.length ≤ 1000000) :
    Calls Tryz.prog 31 #[.pointer (some ⟨D, 0, none⟩)] w1 fun e w' => e = .returned (.tuple #[]) ∧ EndW lo w D b M w' := by
  obtain ⟨hk, p, m, l, o, v, hs, hmost, hp, h⟩ := h
  rcases h with ⟨hf, hi, hnx, her, hus, hat⟩ | ⟨er, p1, m1, l1, o1, h0, h2, hit, hi, hnx, hf, her, hus, hat⟩ | ⟨p1, m1, l1, o1, S', hit, hi, hla, hus, hat, hfr, hsp⟩
  · refine (infclose_over w1 D v hi.obj (.inl hnx)).mono ?_
    rintro e w2 ⟨rfl, hk2⟩
    refine ⟨rfl, hk.trans (hk2.mono (fun _ _ e => e.elim)), p, m, l, o, 0, v, hs, hp, .inl ⟨hf, rfl⟩, hi.turn (hk2.mono (fun _ _ e => e.elim)) (hi.obj.kept hk2 (fun e => e)) rfl rfl, ?_, ?_, her⟩
    · rw [hus, if_pos rfl, Nat.zero_add]
    · rw [hat, if_pos rfl]; rfl
  · refine (infclose_over w1 D v hi.obj (.inr (by rw [her]; exact h0))).mono ?_
    rintro e w2 ⟨rfl, hk2⟩
    refine ⟨rfl, hk.trans (hk2.mono (fun _ _ e => e.elim)), p, m, l, o, er, v, hs, hp, .inr ⟨hf, h0, p1, m1, l1, o1, hit⟩, hi.turn (hk2.mono (fun _ _ e => e.elim)) (hi.obj.kept hk2 (fun e => e)) rfl rfl, ?_, ?_, her⟩
    · rw [hus, if_neg h0]; rfl
    · rw [hat, if_neg h0, if_neg h2, Nat.zero_add]
  · have hmf : m ≠ .fin := fun e => by subst e; exact hit.elim
    obtain ⟨ra, rc, hrs⟩ := own_shape hi.rest.own
    refine (infclose_ends w1 D v hi.obj ?_ ra _ rc (0 + p / 8) hrs hfr ⟨by omega, by rw [List.length_drop]; omega⟩).mono ?_
    · rintro (e | e)
      · rw [hi.nx] at e
        cases m <;> first | (exact hmf rfl) | (simp only [nxOf] at e; omega)
      · exact e hi.er
    · rintro e w2 ⟨rfl, ho2, hk2⟩
      refine ⟨rfl, hk.trans (hk2.mono (fun k _ e => by unfold OneB at e; subst e; exact hi.low)), p, m, l, o, 2, _, hs, hp, .inr ⟨hmf, by decide, p1, m1, l1, o1, hit⟩, hi.fin.turn hk2 ho2 rfl rfl, ?_, ?_, rfl⟩
      · show v.us = _; rw [hus, if_neg (by decide)]; rfl
      · rw [if_neg (by decide), if_pos rfl]
        show ((0 + p / 8 + (b.drop (p / 8)).length : Nat) : Int) = _
        rw [List.length_drop]; omega
set_option maxRecDepth 20000 in
set_option maxHeartbeats 8000000 in
theorem infAll_any (w : World) (ba : Option Addr) (bc : Nat) (b : List Int) (z : Int) (M : Nat) (hM : (M : Int) = if z < 0 then 0 else z) (hMl : M ≤ 9223372036854775807) (hr : Reads w ba b) (hba : ba = none → bc = 0) (hbc : b.length ≤ bc) (hb : AllB b) (hbl : b.length ≤ 1000000)
    (hB : ∀ p m' l' o', Steps b M 0 .block false [] p m' l' o' → o'.length ≤ 900000) :
    Calls Tryz.prog 10 #[.slice ba b.length bc, .int .i64 z] w (InfAllR w b M) := by
  have HN := Lib.hid (infnew_any w z M hM hMl)
  have HR := Lib.hid hr; have HBa := Lib.hid hba; have HB := Lib.hid hB; have HAb := Lib.hid hb; have HBc := Lib.hid hbc; have HBl := Lib.hid hbl
  clear hM hr hba hB hb hbc hbl
  go_enter Tryz.func10, Tryz.ntmps10
  go_wp2_with fail
  refine HN.out.mono ?_
  rintro e w1 ⟨D, rfl, hI, hk1⟩
  have hk2 : Kept NoB w1 (w1.alloc (.cells #[.slice ba b.length bc] 22)) := (Kept.refl _ _).alloc _
  have hI2 : Inf0 w.heap.size (w1.alloc (.cells #[.slice ba b.length bc] 22)) D (iv0 M) .block [] [] (fun _ => False) := by
    refine ⟨hI.obj.kept hk2 (fun e => e), hI.low, nilrow, nilrow, ⟨[], nilrow, ⟨⟨[], rfl⟩, .inl rfl⟩, by decide⟩, hI.sep, (fun k hk => hk.elim), hI.sR, hI.nx, hI.er, hI.fit, hI.big, hI.all, hI.allr, trivial, .inl rfl⟩
  have hDl := obj_lt hI.obj
  have HF := Lib.hid (feed_new hI2 (by have := hk1.size; have := hk2.size; omega) w1.heap.size ba bc (cell_new 0 rfl) (by omega) (HR.out.keptNo (hk1.trans hk2)) HBa.out HBc.out HAb.out HBl.out HB.out)
  have HK1 := Lib.hid (hk1.trans hk2)
  clear hI hI2 hk1 hk2 hDl HN
  go_wp2_with fail
  refine HF.out.mono ?_
  rintro e w3 ⟨rfl, hW⟩
  have HC := Lib.hid (close_ends hW HBl.out)
  clear hW HF
  go_wp2_with fail
  refine HC.out.mono ?_
  rintro e w4 ⟨rfl, hk4, p, m, l, o, er, v, hs, hp, hend, hie, hus, hat, her⟩
  have HSt := Lib.hid (infstate_any w4 D v hie.obj)
  rw [hus, hat, her] at HSt
  obtain ⟨us, hus2⟩ : ∃ us : Int, us = ((if er = 0 then (p + 7) / 8 else 0 : Nat) : Int) := ⟨_, rfl⟩
  obtain ⟨at_, hat2⟩ : ∃ at_ : Int, at_ = ((if er = 0 then 0 else if er = 2 then b.length else p / 8 : Nat) : Int) := ⟨_, rfl⟩
  rw [← hus2, ← hat2] at HSt
  obtain ⟨bb, hbb⟩ : ∃ bb : Bool, bb = (v.nx == 5) := ⟨_, rfl⟩
  rw [← hbb] at HSt
  have HS := Lib.hid hs; have HP := Lib.hid hp; have HE := Lib.hid hend; have HIE := Lib.hid hie; have HUs := Lib.hid hus2; have HAt := Lib.hid hat2
  have HK4 := Lib.hid ((HK1.out.mono (fun _ _ e => e.elim)).trans hk4)
  clear hs hp hend hie hus hat her hus2 hat2 hbb hk4 HC
  go_wp2_with fail
  refine HSt.out.mono ?_
  rintro e w5 ⟨rfl, hk5⟩
  have HO := Lib.hid (infout_any (HIE.out.turn (hk5.mono (fun _ _ e => e.elim)) (HIE.out.obj.kept hk5 (fun e => e)) rfl rfl) (by have := HB.out _ _ _ _ HS.out; omega))
  have HK5 := Lib.hid hk5
  clear hk5 HSt
  go_wp2_with fail
  refine HO.out.mono ?_
  rintro e w6 ⟨oa, oc, rfl, h1, h2, h3, hk6⟩
  have HK6 := Lib.hid hk6; have H1 := Lib.hid h1.out; have H2 := Lib.hid h2.out; have H3 := Lib.hid h3.out
  clear h1 h2 h3 hk6 HO
  go_wp2
  refine bodyPost_ret (results_tmp4 rfl _ _ _) rfl ?_
  refine ⟨p, m, l, o, er, oa, oc, HS.out, HP.out, HE.out, ?_, H1, H2, H3, ((HK4.out.lowNo).trans HK5.out).trans HK6.out⟩
  rw [← HUs.out, ← HAt.out]
  rfl
end Go.Proofs.YtfmjfgmbjdhogaaGreatDoor

namespace Go.Proofs.YtfmjfgmbjdhogaaGreatDoor
open Go.RowKit
set_option linter.unusedVariables false
set_option linter.unusedSimpArgs false

theorem headW_lt {lit dist code : List Int} {told : Nat} {rs : List (Int × Int)} (hc : CodeW code told rs (lit ++ dist)) (hb : headB lit dist = true) : ∀ y ∈ headW lit dist code told rs, y.1 < 2 ^ y.2 := by
  obtain ⟨⟨b1, b2, b3, b4⟩, _⟩ := head_small hb
  have hlo := hc.lo
  have hhi := hc.hi
  intro y hy
  unfold headW at hy
  rcases List.mem_append.1 hy with h | h
  · rcases List.mem_append.1 h with h | h
    · simp only [List.mem_cons, List.not_mem_nil, or_false] at h
      rcases h with rfl | rfl | rfl
      · show lit.length - 257 < 32; omega
      · show dist.length - 1 < 32; omega
      · show told - 4 < 16; omega
    · unfold wordsC at h
      obtain ⟨i, _, rfl⟩ := List.mem_map.1 h
      show (code.getD (ordL.getD i 0).toNat 0).toNat < 8
      generalize (ordL.getD i 0).toNat = q
      by_cases hl : q < code.length
      · have e : code.getD q 0 = code[q] := by simp [List.getD, hl]
        have := hc.small _ (List.getElem_mem hl)
        rw [e]; omega
      · have e : code.getD q 0 = 0 := by simp [List.getD, List.getElem?_eq_none (Nat.le_of_not_lt hl)]
        rw [e]; decide
  · unfold wordsR at h
    obtain ⟨z, hz, h⟩ := List.mem_flatMap.1 h
    have ho := runAll_ok _ rs [] _ hc.runs z hz
    simp only [List.mem_cons, List.not_mem_nil, or_false] at h
    rcases h with rfl | rfl
    · exact wordZ_lt _ _
    · exact spanM_lt _ _ ho.2.2
theorem TokW.lt {lit dist : List Int} {t : Tk} {ws : List (Nat × Nat)} (h : TokW lit dist t ws) : ∀ y ∈ ws, y.1 < 2 ^ y.2 := by
  intro y hy
  cases h with
  | one c _ _ _ => simp only [List.mem_cons, List.not_mem_nil, or_false] at hy; subst hy; exact wordZ_lt _ _
  | long j u hj hu _ _ =>
    simp only [List.mem_cons, List.not_mem_nil, or_false] at hy
    rcases hy with rfl | rfl | rfl | rfl
    · exact wordZ_lt _ _
    · decide
    · exact wordZ_lt _ _
    · exact hu
  | copy i v j u hi hv hlv hj hu _ _ =>
    simp only [List.mem_cons, List.not_mem_nil, or_false] at hy
    rcases hy with rfl | rfl | rfl | rfl
    · exact wordZ_lt _ _
    · exact hv
    · exact wordZ_lt _ _
    · exact hu
theorem TokWs.lt {lit dist : List Int} {ts : List Tk} {ws : List (Nat × Nat)} (h : TokWs lit dist ts ws) : ∀ y ∈ ws, y.1 < 2 ^ y.2 := by
  induction h with
  | nil => intro y hy; cases hy
  | cons a _ ih => intro y hy; rcases List.mem_append.1 hy with h | h; exact a.lt y h; exact ih y h
/-- What was put on a fresh writer. -/
theorem puts_of {w w' : World} {R cap : Nat} {v0 : Value} {ps : List (Nat × Nat)} {ao : Option Addr} {bs : List Int} (h : WroteP w R v0 [] 0 ps w' ao cap bs) (hlt : ∀ y ∈ ps, y.1 < 2 ^ y.2) : Puts bs 0 ps :=
  ⟨⟨0, by decide, by rw [h.2.1]; simp [num]⟩, hlt, by have := h.1.2.2.2.1; omega⟩
/-- A block of words that begins at bit s and says b. -/
structure BlkS (s : Nat) (last : Bool) (ps : List (Nat × Nat)) (b : List Int) : Prop where
  lt : ∀ y ∈ ps, y.1 < 2 ^ y.2
  run : ∀ (bs : List Int) (pre post : List (Nat × Nat)) (most : Nat) (l0 : Bool) (out : List Int), s = wdN pre → Puts bs 0 (pre ++ ps ++ post) → out.length + b.length ≤ most → Steps bs most (wdN pre) .block l0 out (wdN (pre ++ ps)) (endM last) last (out ++ b)
theorem lastN_one (last : Bool) : lastN last < 2 ^ 1 := lastN_lt last
theorem BlkS.stored (s : Nat) (last : Bool) (b : List Int) (hb : AllB b) (hl : b.length ≤ 65535) : BlkS s last (storedW last (up8 (s + 3) - (s + 3)) b) b := by
  have hup : up8 (s + 3) - (s + 3) < 8 ∧ (s + 3 + (up8 (s + 3) - (s + 3))) % 8 = 0 := by unfold up8; omega
  refine ⟨fun y hy => ?_, fun bs pre post most l0 out hs hp hm => ?_⟩
  · unfold storedW at hy
    rcases List.mem_append.1 hy with h | h
    · simp only [List.mem_cons, List.not_mem_nil, or_false] at h
      rcases h with rfl | rfl | rfl | rfl | rfl
      · exact lastN_one last
      · decide
      · exact Nat.two_pow_pos _
      · show b.length < 65536; omega
      · show 65535 - b.length < 65536; omega
    · unfold bytesW at h
      obtain ⟨x, hx, rfl⟩ := List.mem_map.1 h
      have := hb x hx
      show x.toNat < 256; omega
  · have h := stored_steps (s := 0) (most := most) (l0 := l0) (out := out) (last := last) (pad := up8 (s + 3) - (s + 3)) (b := b) (pre := pre) (post := post) hp hb hl hup.1 (by rw [Nat.zero_add, ← hs]; exact hup.2) hm
    simpa using h
/-- What All tells of a stream that is whole. -/
def AllDone (w : World) (n : Nat) (O : List Int) (e : Ending) (w' : World) : Prop :=
  ∃ (oa : Option Addr) (oc : Nat), e = .returned (.tuple #[.slice oa O.length oc, .int .i64 (n : Int), .int .i64 0, .int .i64 0]) ∧ Hid (Reads w' oa O) ∧ Hid (oa = none → oc = 0) ∧ Hid ((convert 22 9 (.slice oa O.length oc)).run Tryz.prog w' = .ok (.string (strOfNums O)) w') ∧ Kept NoB w w'
theorem all_done {w w' : World} {b O : List Int} {M P : Nat} {l : Bool} {e : Ending} (h : InfAllR w b M e w') (hs : Steps b M 0 .block false [] P .fin l O) (hP : (P + 7) / 8 = b.length) : AllDone w b.length O e w' := by
  obtain ⟨p, m, l', o, er, oa, oc, h1, hp, h2, rfl, h3, h4, h5, hk⟩ := h
  have hst : Stuck b M p m l' o := by
    rcases h2 with ⟨hm, _⟩ | ⟨_, he, p1, m1, l1, o1, hi⟩
    · exact .inl hm
    · exact .inr ⟨er, p1, m1, l1, o1, he, hi⟩
  obtain ⟨e1, e2, _, e4⟩ := Steps.det hs trivial (.inl rfl) h1 hst
  subst e1 e2 e4
  have her : er = 0 := by
    rcases h2 with ⟨_, h⟩ | ⟨h, _⟩
    · exact h
    · exact absurd rfl h
  subst her
  refine ⟨oa, oc, ?_, h3, h4, h5, hk⟩
  rw [if_pos rfl, if_pos rfl, hP]
  rfl
/-- No way from the start goes beyond what a whole stream says. -/
theorem steps_bound {b O : List Int} {M P : Nat} {l : Bool} (hs : Steps b M 0 .block false [] P .fin l O) {p : Nat} {m : Md} {l' : Bool} {o : List Int} (h : Steps b M 0 .block false [] p m l' o) : o.length ≤ O.length :=
  (Steps.ahead h trivial hs (.inl rfl)).fit.1
end Go.Proofs.YtfmjfgmbjdhogaaGreatDoor

namespace Go.Proofs.YtfmjfgmbjdhogaaGreatDoor
open Go.RowKit
set_option linter.unusedVariables false

variable {T1 T2 : TypeId} {w0 w w' : World} {A : Nat} {aoa : Option Addr} {capa : Nat} {ba : List Int} {sa : Nat} {B : Nat} {aob : Option Addr} {capb : Nat} {bb : List Int} {sb : Nat}
end Go.Proofs.YtfmjfgmbjdhogaaGreatDoor

namespace Go.Proofs.YtfmjfgmbjdhogaaGreatDoor
open Go.RowKit
set_option linter.unusedVariables false
set_option linter.unusedSimpArgs false

variable {T1 T2 : TypeId} {w0 w w' : World} {A : Nat} {aoa : Option Addr} {capa : Nat} {ba : List Int} {sa : Nat} {B : Nat} {aob : Option Addr} {capb : Nat} {bb : List Int} {sb : Nat}
theorem TokWs.wd {lit dist : List Int} (h1 : Small 15 lit) (h2 : Small 15 dist) {ts : List Tk} {ws : List (Nat × Nat)} (h : TokWs lit dist ts ws) : wdN ws ≤ 48 * ts.length := by
  induction h with
  | nil => simp [wdN]
  | cons a _ ih => have := a.wd h1 h2; rw [wdN_append]; simp only [List.length_cons]; omega
end Go.Proofs.YtfmjfgmbjdhogaaGreatDoor

namespace Go.Proofs.YtfmjfgmbjdhogaaGreatDoor
open Go.RowKit
set_option linter.unusedVariables false
set_option linter.unusedSimpArgs false
set_option maxRecDepth 20000

/-- What writeBest leaves: a block of one of the three forms, no longer than a stored one. -/
def BlkBest (w : World) (R : Nat) (ao : Option Addr) (cap : Nat) (bs : List Int) (s : Nat) (last : Bool) (b : List Int) (ts : List Tk) (e : Ending) (w' : World) : Prop :=
  ∃ qs ao' cap' bs', e = .returned (.tuple #[]) ∧ WroteP w R (.slice ao bs.length cap) bs s qs w' ao' cap' bs' ∧ wdN qs ≤ wdN (storedW last (up8 (s + 3) - (s + 3)) b) ∧
    (qs = storedW last (up8 (s + 3) - (s + 3)) b ∨ (∃ ws, TokWs fixL fixD ts ws ∧ qs = [(lastN last, 1), (1, 2)] ++ (ws ++ [wordZ fixL 256])) ∨
      (∃ lit dist code told rs ws, CodeOk lit ∧ CodeOk dist ∧ HasC lit 256 ∧ headB lit dist = true ∧ CodeW code told rs (lit ++ dist) ∧ TokWs lit dist ts ws ∧ qs = [(lastN last, 1), (2, 2)] ++ (headW lit dist code told rs ++ (ws ++ [wordZ lit 256]))))
set_option maxHeartbeats 4000000 in
theorem writeBest_any (w : World) (R : Nat) (ao : Option Addr) (cap : Nat) (bs : List Int) (s : Nat) (last : Bool) (ba : Option Addr) (bc : Nat) (b : List Int) (ta : Option Addr) (tc : Nat) (ts : List Tk)
    (h : Wtr w R ao cap bs s) (hss : s ≤ 800000) (hrb : Reads w ba b) (hab : AllB b) (hbl : b.length ≤ 65535) (hsb : b ≠ [] → ∀ a, ba = some a → a.block ≠ R ∧ (Value.slice ao bs.length cap).ownBlock ≠ some a.block)
    (hrt : Toks w ta ts) (hst : ts ≠ [] → ∀ a, ta = some a → a.block ≠ R ∧ (Value.slice ao bs.length cap).ownBlock ≠ some a.block) (htl : ts.length ≤ 800000) (hwf : AllT ts) (hok : allOkB ts = true) :
    Calls Tryz.prog 53 #[.pointer (some ⟨R, 0, none⟩), .slice ba b.length bc, .slice ta ts.length tc, .bool last] w (BlkBest w R ao cap bs s last b ts) := by
  have hto := lensOk_tally ts (by omega)
  have htb := tally_b2 ts
  obtain ⟨L, hL⟩ : ∃ L, L = b.length := ⟨_, rfl⟩
  obtain ⟨s3, h3⟩ : ∃ x, x = s + 3 := ⟨_, rfl⟩
  obtain ⟨s10, h10⟩ : ∃ x, x = s3 + 7 := ⟨_, rfl⟩
  obtain ⟨Q, hQ⟩ : ∃ x, x = s10 / 8 := ⟨_, rfl⟩
  obtain ⟨Q8, hQ8⟩ : ∃ x, x = Q * 8 := ⟨_, rfl⟩
  obtain ⟨U, hU⟩ : ∃ x, x = Q8 + 32 := ⟨_, rfl⟩
  obtain ⟨L8, hL8⟩ : ∃ x, x = 8 * L := ⟨_, rfl⟩
  obtain ⟨V, hV⟩ : ∃ x, x = U + L8 := ⟨_, rfl⟩
  obtain ⟨st, hstq⟩ : ∃ x, x = V - s := ⟨_, rfl⟩
  have hLb : L ≤ 65535 := by omega
  have a1 : IntKind.i64.wrap ((s : Int) + 3) = (s3 : Int) := by rw [IntWalk.i64_in _ (by omega)]; omega
  have a2 : IntKind.i64.wrap ((s3 : Int) + 7) = (s10 : Int) := by rw [IntWalk.i64_in _ (by omega)]; omega
  have a3 : (s10 : Int).tdiv 8 = (Q : Int) := by rw [Int.tdiv_eq_ediv_of_nonneg (by omega)]; omega
  have a3' : (s10 : Int) / 8 = (Q : Int) := by omega
  have HStw : Hid (st = wdN (storedW last (up8 (s + 3) - (s + 3)) b)) := Lib.hid (by
    unfold storedW
    rw [wdN_append, bytesW_wd]
    simp only [wdN]
    unfold up8; omega)
  have hQb : Q ≤ 110000 := by omega
  have HStE : Hid ((st : Int) = (Q : Int) * 8 + 32 + 8 * (L : Int) - (s : Int)) := Lib.hid (by omega)
  have H := Lib.hid h; have HRb := Lib.hid hrb; have HAb := Lib.hid hab; have HSb := Lib.hid hsb; have HRt := Lib.hid hrt; have HSt := Lib.hid hst; have HTl := Lib.hid htl; have HWf := Lib.hid hwf; have HOk := Lib.hid hok; have HTo := Lib.hid hto; have HTb := Lib.hid htb; have HL := Lib.hid hL
  rw [← hL]
  clear h hrb hab hbl hsb hrt hst htl hwf hok hto htb hL h3 h10 hQ hQ8 hU hL8 hV hstq
  go_enter Tryz.func53, Tryz.ntmps53
  go_wp2_with fail
  refine (wlen_any _ _ _ _ _ _ H.out).mono ?_
  rintro e w1 ⟨rfl, hk1⟩
  have HK1 := Lib.hid hk1
  clear hk1
  go_wp2_with fail
  refine (wlen_any _ _ _ _ _ _ (H.out.keptNo HK1.out)).mono ?_
  rintro e w2 ⟨rfl, hk2⟩
  have HK2 := Lib.hid (HK1.out.trans hk2)
  have HCn := Lib.hid (counts_any2 ta tc ts w2 (HRt.out.keptNo HK2.out) (by have := HTl.out; omega) HWf.out)
  clear hk2 HK1
  go_wp2_with fail
  refine HCn.out.mono ?_
  rintro e w3 ⟨G, Hh, rfl, hT⟩
  have HG := Lib.hid (hT.a.reads HTb.out.1); have HH := Lib.hid (hT.b.reads HTb.out.2.1); have HK3 := Lib.hid (HK2.out.trans hT.k)
  have HEx := Lib.hid (extraBits_any w3 G Hh (tally ts).1 (tally ts).2 HG.out HH.out HTb.out.1 HTb.out.2.1 HTo.out.1.small HTo.out.2.small)
  clear hT HCn HK2 a1 a2 a3 a3'
  go_wp2_with fail
  refine HEx.out.mono ?_
  rintro e w4 ⟨X, rfl, hX, hXb, rfl⟩
  have HX := Lib.hid hX
  clear hX HEx
  go_wp2_with fail
  refine (fixed_any w3).mono ?_
  rintro e w5 ⟨F1, F2, rfl, hT⟩
  have hf1 := hT.a.reads fixL_len; have hf2 := hT.b.reads fixD_len
  have hsm1 : Small 1048576 fixL := fun z hz => by have := fixL_ok.2.1 z hz; omega
  have hsm2 : Small 1048576 fixD := fun z hz => by have := fixD_ok.2.1 z hz; omega
  have ht1 : Small 1048576 (tally ts).1 := fun z hz => by have := HTo.out.1.small z hz; omega
  have ht2 : Small 1048576 (tally ts).2 := fun z hz => by have := HTo.out.2.small z hz; omega
  have c1' := cost_le (tally ts).1 fixL 1000000 15 (by decide) (by decide) HTo.out.1.small fixL_ok.2.1
  have c2' := cost_le (tally ts).2 fixD 1000000 15 (by decide) (by decide) HTo.out.2.small fixD_ok.2.1
  rw [HTb.out.1] at c1'
  rw [HTb.out.2.1] at c2'
  obtain ⟨k1, hk1⟩ : ∃ k1 : Nat, costL (tally ts).1 fixL = (k1 : Int) := ⟨(costL (tally ts).1 fixL).toNat, by omega⟩
  obtain ⟨k2, hk2⟩ : ∃ k2 : Nat, costL (tally ts).2 fixD = (k2 : Int) := ⟨(costL (tally ts).2 fixD).toNat, by omega⟩
  rw [hk1] at c1'
  rw [hk2] at c2'
  have HC1 : Hid (∀ W, Kept NoB w5 W → Calls Tryz.prog 92 #[.slice (some ⟨G, 0, none⟩) 286 286, .slice (some ⟨F1, 0, none⟩) 288 288] W fun e w' => e = .returned (.int .i64 (k1 : Int)) ∧ Kept NoB W w') := Lib.hid fun W hk => by
    have h := cost_calls (some ⟨G, 0, none⟩) (some ⟨F1, 0, none⟩) 286 288 _ _ (tally ts).1 fixL W (HG.out.keptNo (hT.k.trans hk)) (hf1.keptNo hk) ht1 hsm1 (by rw [HTb.out.1]; omega) (by rw [fixL_len]; omega)
    rw [HTb.out.1, fixL_len, hk1] at h
    exact h
  have HC2 : Hid (∀ W, Kept NoB w5 W → Calls Tryz.prog 92 #[.slice (some ⟨Hh, 0, none⟩) 30 30, .slice (some ⟨F2, 0, none⟩) 32 32] W fun e w' => e = .returned (.int .i64 (k2 : Int)) ∧ Kept NoB W w') := Lib.hid fun W hk => by
    have h := cost_calls (some ⟨Hh, 0, none⟩) (some ⟨F2, 0, none⟩) 30 32 _ _ (tally ts).2 fixD W (HH.out.keptNo (hT.k.trans hk)) (hf2.keptNo hk) ht2 hsm2 (by rw [HTb.out.2.1]; omega) (by rw [fixD_len]; omega)
    rw [HTb.out.2.1, fixD_len, hk2] at h
    exact h
  have Hk1 := Lib.hid hk1; have Hk2 := Lib.hid hk2; have HK5 := Lib.hid hT.k
  clear hf1 hf2 hsm1 hsm2 ht1 ht2 hT hk1 hk2
  go_wp2_with fail
  refine (HC1.out _ (Kept.refl _ _)).mono ?_
  rintro e w6 ⟨rfl, hk6⟩
  have HK6 := Lib.hid hk6
  clear hk6
  go_wp2_with fail
  refine (HC2.out _ HK6.out).mono ?_
  rintro e w7 ⟨rfl, hk7⟩
  have HK7 := Lib.hid (HK5.out.trans (HK6.out.trans hk7))
  have HDb := Lib.hid (dynBits_any w7 G Hh ts (HG.out.keptNo HK7.out).room (HH.out.keptNo HK7.out).room (by have := HTl.out; omega))
  clear hk7 HC1 HC2 HK5 HK6
  go_wp2_with fail
  refine HDb.out.mono ?_
  rintro e w8 ⟨lit, dist, code, told, rs, N, hb1, hb2, hcw, hhf, rfl, hN, hNb, hk8⟩
  have HB1 := Lib.hid hb1; have HB2 := Lib.hid hb2; have HCw := Lib.hid hcw; have HHf := Lib.hid hhf; have HN := Lib.hid hN
  have HK8 := Lib.hid (HK3.out.trans (HK7.out.trans hk8))
  clear hb1 hb2 hcw hhf hN hk8 HDb HK7
  have hXe : (X : Int) = (extraS ts : Int) := by rw [HX.out]; exact extra_tally HWf.out HOk.out
  have HXe := Lib.hid hXe
  have hw8 := H.out.keptNo HK8.out
  have hr8 := HRt.out.keptNo HK8.out
  have hcS := stored_yes2 w8 R ao cap bs s last ba bc b hw8 (by omega) (HRb.out.kept HK8.out (fun _ _ e => e)) HAb.out (by have := HL.out; omega) HSb.out
  have hcF := fixedBlock_yes w8 R ao cap bs s last ta tc ts hw8 (by omega) hr8 HSt.out (by have := HTl.out; omega) HWf.out HOk.out
  have hcD := dynamic_f w8 R ao cap bs s last ta tc ts hw8 (by omega) hr8 HSt.out (by have := HTl.out; omega) HWf.out HOk.out
  rw [← HL.out] at hcS
  have HcS := Lib.hid hcS; have HcF := Lib.hid hcF; have HcD := Lib.hid hcD
  have hbase : ∀ (qs : List (Nat × Nat)) (w' : World) (a2 : Option Addr) (c2 : Nat) (b2 : List Int), WroteP w8 R (.slice ao bs.length cap) bs s qs w' a2 c2 b2 → WroteP w R (.slice ao bs.length cap) bs s qs w' a2 c2 b2 := fun _ _ _ _ _ h => h.base HK8.out
  have HBase := Lib.hid hbase
  clear hXe hw8 hr8 hcS hcF hcD hbase
  by_cases hA : (Q : Int) * 8 + 32 + 8 * (L : Int) - (s : Int) ≤ 3 + (k1 : Int) + (k2 : Int) + (X : Int) ∧ (Q : Int) * 8 + 32 + 8 * (L : Int) - (s : Int) ≤ (N : Int) + (X : Int)
  · obtain ⟨hA1, hA2⟩ := hA
    go_wp2_with fail
    refine HcS.out.mono ?_
    rintro e w9 ⟨a2, c2, b2, rfl, hW⟩
    have hW2 := HBase.out _ _ _ _ _ hW
    have HW2 := Lib.hid hW2
    clear hW hW2
    go_wp2
    refine bodyPost_end (results_none rfl _ _ _) rfl ?_
    exact ⟨_, a2, c2, b2, rfl, HW2.out, Nat.le_refl _, .inl rfl⟩
  · have hway : (¬ (Q : Int) * 8 + 32 + 8 * (L : Int) - (s : Int) ≤ 3 + (k1 : Int) + (k2 : Int) + (X : Int)) ∨ ((Q : Int) * 8 + 32 + 8 * (L : Int) - (s : Int) ≤ 3 + (k1 : Int) + (k2 : Int) + (X : Int) ∧ ¬ (Q : Int) * 8 + 32 + 8 * (L : Int) - (s : Int) ≤ (N : Int) + (X : Int)) := by omega
    have HA := Lib.hid hA
    clear hA
    by_cases hC : 3 + (k1 : Int) + (k2 : Int) + (X : Int) ≤ (N : Int) + (X : Int)
    · have hC2 : 3 + (k1 : Int) + (k2 : Int) ≤ (N : Int) := by omega
      have h1 : ¬ (Q : Int) * 8 + 32 + 8 * (L : Int) - (s : Int) ≤ 3 + (k1 : Int) + (k2 : Int) + (X : Int) := by omega
      clear hway
      all_goals
        go_wp2_with fail
        refine HcF.out.mono ?_
        rintro e w9 ⟨ws, a2, c2, b2, rfl, hws, hW⟩
        have HW2 := Lib.hid (HBase.out _ _ _ _ _ hW)
        have hwd := wd_cost hws HOk.out (fixL_has 256 (by omega))
        rw [Hk1.out, Hk2.out] at hwd
        have HWd := Lib.hid hwd; have HWs := Lib.hid hws
        clear hW hws hwd
        go_wp2
        refine bodyPost_end (results_none rfl _ _ _) rfl ?_
        refine ⟨_, a2, c2, b2, rfl, HW2.out, ?_, .inr (.inl ⟨ws, HWs.out, rfl⟩)⟩
        rw [← HStw.out, wdN_append]
        have h3 := HWd.out
        have h4 := HXe.out
        have h5 := HA.out
        have h7 := HStE.out
        simp only [wdN]
        omega
    · have hC2 : ¬ 3 + (k1 : Int) + (k2 : Int) ≤ (N : Int) := by omega
      rcases hway with h1 | ⟨h1, h2⟩
      all_goals
        go_wp2_with fail
        refine HcD.out.mono ?_
        rintro e w9 ⟨lit2, dist2, code2, told2, rs2, ws, a2, c2, b2, rfl, hb1, hb2, hcw, hhf, hws, hW⟩
        obtain rfl : lit2 = lit := hb1.det HB1.out
        obtain rfl : dist2 = dist := hb2.det HB2.out
        obtain ⟨rfl, rfl, rfl⟩ := hhf.det hcw HHf.out HCw.out
        have HW2 := Lib.hid (HBase.out _ _ _ _ _ hW)
        have hhd := best_head (by have := HTl.out; omega) hb1 hb2
        have hwd := wd_cost hws HOk.out hhd.2.2.1
        have HWd := Lib.hid hwd; have HWs := Lib.hid hws; have HHd := Lib.hid hhd
        clear hW hws hwd hb1 hb2 hcw hhf hhd
        go_wp2
        refine bodyPost_end (results_none rfl _ _ _) rfl ?_
        refine ⟨_, a2, c2, b2, rfl, HW2.out, ?_, .inr (.inr ⟨lit2, dist2, code2, told2, rs2, ws, HHd.out.1, HHd.out.2.1, HHd.out.2.2.1, HHd.out.2.2.2, HCw.out, HWs.out, rfl⟩)⟩
        rw [← HStw.out, wdN_append, wdN_append]
        have h3 := HWd.out
        have h4 := HXe.out
        have h5 := HA.out
        have h7 := HStE.out
        have h6 := HN.out
        simp only [wdN]
        omega
end Go.Proofs.YtfmjfgmbjdhogaaGreatDoor
