/-
  inflate.All.
  What the document fixes of stage 9.
-/
import Derived.Test.YthapkciebphhkaaMb22
namespace Go.Proofs.Ythapkciebphhkaa
open Go.RowKit
set_option linter.unusedVariables false
set_option linter.unusedSimpArgs false

theorem ItemR.fit {bs : List Int} {most p : Nat} {m : Md} {last : Bool} {out : List Int} {p1 : Nat} {m1 : Md} {l1 : Bool} {o1 : List Int} (h : ItemR bs most p m last out 0 p1 m1 l1 o1) : out.length ≤ o1.length ∧ (out.length ≤ most → o1.length ≤ most) := by
  cases m with
  | fin => exact h.elim
  | block =>
    unfold ItemR at h
    simp only at h
    split at h
    · exact absurd h (by decide)
    · split at h
      · obtain ⟨_, _, _, _, rfl⟩ := h; exact ⟨Nat.le_refl _, fun e => e⟩
      · split at h
        · obtain ⟨_, _, _, _, rfl⟩ := h; exact ⟨Nat.le_refl _, fun e => e⟩
        · split at h
          · obtain ⟨_, _, _, _, rfl⟩ := h; exact ⟨Nat.le_refl _, fun e => e⟩
          · exact absurd h (by decide)
  | stored =>
    unfold ItemR at h
    simp only at h
    split at h
    · exact absurd h (by decide)
    · split at h
      · exact absurd h (by decide)
      · obtain ⟨_, _, _, _, rfl⟩ := h; exact ⟨Nat.le_refl _, fun e => e⟩
  | bytes n =>
    unfold ItemR at h
    simp only at h
    split at h
    · exact absurd h (by decide)
    · split at h
      · exact absurd h (by decide)
      · obtain ⟨_, _, _, _, rfl⟩ := h
        rw [List.length_append, List.length_singleton]
        exact ⟨by omega, fun e => by omega⟩
  | head =>
    unfold ItemR at h
    simp only at h
    obtain ⟨lit, dist, f, q, hh, h⟩ := h
    split at h
    · obtain ⟨_, _, _, _, rfl⟩ := h; exact ⟨Nat.le_refl _, fun e => e⟩
    · rename_i hf
      exact absurd h.symm hf
  | sym lit dist =>
    unfold ItemR at h
    simp only at h
    obtain ⟨s, f, q, hh, h⟩ := h
    split at h
    · rename_i hf
      exact absurd h.symm hf
    · split at h
      · split at h
        · obtain ⟨_, _, _, _, rfl⟩ := h
          rw [List.length_append, List.length_singleton]
          exact ⟨by omega, fun e => by omega⟩
        · exact absurd h (by decide)
      · split at h
        · obtain ⟨_, _, _, _, rfl⟩ := h; exact ⟨Nat.le_refl _, fun e => e⟩
        · split at h
          · exact absurd h (by decide)
          · split at h
            · exact absurd h (by decide)
            · obtain ⟨d, g, r, hd, h⟩ := h
              split at h
              · rename_i hg
                exact absurd h.symm hg
              · split at h
                · exact absurd h (by decide)
                · split at h
                  · exact absurd h (by decide)
                  · split at h
                    · exact absurd h (by decide)
                    · split at h
                      · exact absurd h (by decide)
                      · obtain ⟨_, _, _, _, rfl⟩ := h
                        rw [copyN_len]
                        exact ⟨by omega, fun e => by omega⟩
theorem Steps.fit {bs : List Int} {most p p1 : Nat} {m m1 : Md} {l l1 : Bool} {o o1 : List Int} (h : Steps bs most p m l o p1 m1 l1 o1) : o.length ≤ o1.length ∧ (o.length ≤ most → o1.length ≤ most) := by
  induction h with
  | refl => exact ⟨Nat.le_refl _, fun e => e⟩
  | step a _ ih => have b := a.fit; exact ⟨by omega, fun e => ih.2 (b.2 e)⟩
/-- What comes ahead of where reading ends. -/
theorem Steps.ahead {bs : List Int} {most p p1 p2 : Nat} {m m1 m2 : Md} {l l1 l2 : Bool} {o o1 o2 : List Int} (h : Steps bs most p m l o p1 m1 l1 o1) (hm : m.ok) (h2 : Steps bs most p m l o p2 m2 l2 o2) (hs2 : Stuck bs most p2 m2 l2 o2) : Steps bs most p1 m1 l1 o1 p2 m2 l2 o2 := by
  induction h with
  | refl => exact h2
  | step a _ ih =>
    cases h2 with
    | refl => exact (hs2.no hm a).elim
    | step b hb =>
      obtain ⟨_, e⟩ := ItemR.det hm a b
      obtain ⟨rfl, rfl, rfl, rfl⟩ := e rfl
      exact ih (a.next hm).1 hb
/-- What All tells. -/
def AllR (w : World) (b : List Int) (M : Nat) (e : Ending) (w' : World) : Prop :=
  ∃ (p : Nat) (m : Md) (l : Bool) (o : List Int) (er : Int) (oa : Option Addr) (oc : Nat), Steps b M 0 .block false [] p m l o ∧ p ≤ 8 * b.length ∧
    ((m = .fin ∧ er = 0) ∨ (m ≠ .fin ∧ er ≠ 0 ∧ ∃ p1 m1 l1 o1, ItemR b M p m l o er p1 m1 l1 o1)) ∧
    e = .returned (.tuple #[.slice oa o.length oc, .int .i64 ((if er = 0 then (p + 7) / 8 else 0 : Nat) : Int), .int .i64 ((if er = 0 then 0 else if er = 2 then b.length else p / 8 : Nat) : Int), .int .i64 er]) ∧
    Hid (Reads w' oa o) ∧ Hid (oa = none → oc = 0) ∧ Hid ((convert 23 9 (.slice oa o.length oc)).run Try.prog w' = .ok (.string (strOfNums o)) w') ∧ Kept NoB w w'
theorem Kept.lowNo {w w' : World} (h : Kept (LoB w.heap.size) w w') : Kept NoB w w' := ⟨h.os, h.tape, h.output, h.size, fun k hk _ => h.block k hk (fun e => by unfold LoB at e; omega)⟩
/-- Behind Feed: how it ends. -/
def EndW (lo : Nat) (w : World) (D : Nat) (b : List Int) (M : Nat) (w' : World) : Prop :=
  Kept (LoB lo) w w' ∧ ∃ (p : Nat) (m : Md) (l : Bool) (o : List Int) (er : Int) (v : IV), Steps b M 0 .block false [] p m l o ∧ p ≤ 8 * b.length ∧
    ((m = .fin ∧ er = 0) ∨ (m ≠ .fin ∧ er ≠ 0 ∧ ∃ p1 m1 l1 o1, ItemR b M p m l o er p1 m1 l1 o1)) ∧ InfE lo w' D v o ∧ v.us = ((if er = 0 then (p + 7) / 8 else 0 : Nat) : Int) ∧ v.at_ = ((if er = 0 then 0 else if er = 2 then b.length else p / 8 : Nat) : Int) ∧ v.er = er
theorem close_ends {lo : Nat} {w w1 : World} {D M : Nat} {b : List Int} (h : ItemsW lo w D (iv0 M) .block [] b 0 0 w1) (hb : b.length ≤ 1000000) :
    Calls Try.prog 13 #[.pointer (some ⟨D, 0, none⟩)] w1 fun e w' => e = .returned (.tuple #[]) ∧ EndW lo w D b M w' := by
  obtain ⟨hk, p, m, l, o, v, hs, hmost, hp, h⟩ := h
  rcases h with ⟨hf, hi, hnx, her, hus, hat⟩ | ⟨er, p1, m1, l1, o1, h0, h2, hit, hi, hnx, hf, her, hus, hat⟩ | ⟨p1, m1, l1, o1, S', hit, hi, hla, hus, hat, hfr, hsp⟩
  · refine (infclose_over w1 D v hi.obj (.inl hnx)).mono ?_
    rintro e w2 ⟨rfl, hk2⟩
    refine ⟨rfl, hk.trans (hk2.mono (fun _ _ e => e.elim)), p, m, l, o, 0, v, hs, hp, .inl ⟨hf, rfl⟩, hi.turn (hk2.mono (fun _ _ e => e.elim)) (hi.obj.kept hk2 (fun e => e)) rfl rfl, ?_, ?_, her⟩
    · rw [hus, if_pos rfl, Nat.zero_add]
    · rw [hat, if_pos rfl]; rfl
  · refine (infclose_over w1 D v hi.obj (.inr (by rw [her]; exact h0))).mono ?_
    rintro e w2 ⟨rfl, hk2⟩
    refine ⟨rfl, hk.trans (hk2.mono (fun _ _ e => e.elim)), p, m, l, o, er, v, hs, hp, .inr ⟨hf, h0, p1, m1, l1, o1, hit⟩, hi.turn (hk2.mono (fun _ _ e => e.elim)) (hi.obj.kept hk2 (fun e => e)) rfl rfl, ?_, ?_, her⟩
    · rw [hus, if_neg h0]; rfl
    · rw [hat, if_neg h0, if_neg h2, Nat.zero_add]
  · have hmf : m ≠ .fin := fun e => by subst e; exact hit.elim
    obtain ⟨ra, rc, hrs⟩ := own_shape hi.rest.own
    refine (infclose_ends w1 D v hi.obj ?_ ra _ rc (0 + p / 8) hrs hfr ⟨by omega, by rw [List.length_drop]; omega⟩).mono ?_
    · rintro (e | e)
      · rw [hi.nx] at e
        cases m <;> first | (exact hmf rfl) | (simp only [nxOf] at e; omega)
      · exact e hi.er
    · rintro e w2 ⟨rfl, ho2, hk2⟩
      refine ⟨rfl, hk.trans (hk2.mono (fun k _ e => by unfold OneB at e; subst e; exact hi.low)), p, m, l, o, 2, _, hs, hp, .inr ⟨hmf, by decide, p1, m1, l1, o1, hit⟩, hi.fin.turn hk2 ho2 rfl rfl, ?_, ?_, rfl⟩
      · show v.us = _; rw [hus, if_neg (by decide)]; rfl
      · rw [if_neg (by decide), if_pos rfl]
        show ((0 + p / 8 + (b.drop (p / 8)).length : Nat) : Int) = _
        rw [List.length_drop]; omega
set_option maxRecDepth 20000 in
set_option maxHeartbeats 8000000 in
theorem infAll_any (w : World) (ba : Option Addr) (bc : Nat) (b : List Int) (z : Int) (M : Nat) (hM : (M : Int) = if z < 0 then 0 else z) (hMl : M ≤ 9223372036854775807) (hr : Reads w ba b) (hba : ba = none → bc = 0) (hbc : b.length ≤ bc) (hb : AllB b) (hbl : b.length ≤ 1000000)
    (hB : ∀ p m' l' o', Steps b M 0 .block false [] p m' l' o' → o'.length ≤ 900000) :
    Calls Try.prog 6 #[.slice ba b.length bc, .int .i64 z] w (AllR w b M) := by
  have HN := Lib.hid (infnew_any w z M hM hMl)
  have HR := Lib.hid hr; have HBa := Lib.hid hba; have HB := Lib.hid hB; have HAb := Lib.hid hb; have HBc := Lib.hid hbc; have HBl := Lib.hid hbl
  clear hM hr hba hB hb hbc hbl
  go_enter Try.func6, Try.ntmps6
  go_wp2_with fail
  refine HN.out.mono ?_
  rintro e w1 ⟨D, rfl, hI, hk1⟩
  have hk2 : Kept NoB w1 (w1.alloc (.cells #[.slice ba b.length bc] 23)) := (Kept.refl _ _).alloc _
  have hI2 : Inf0 w.heap.size (w1.alloc (.cells #[.slice ba b.length bc] 23)) D (iv0 M) .block [] [] (fun _ => False) := by
    refine ⟨hI.obj.kept hk2 (fun e => e), hI.low, nilrow, nilrow, ⟨[], nilrow, ⟨⟨[], rfl⟩, .inl rfl⟩, by decide⟩, hI.sep, (fun k hk => hk.elim), hI.sR, hI.nx, hI.er, hI.fit, hI.big, hI.all, hI.allr, trivial, .inl rfl⟩
  have hDl := obj_lt hI.obj
  have HF := Lib.hid (feed_new hI2 (by have := hk1.size; have := hk2.size; omega) w1.heap.size ba bc (cell_new 0 rfl) (by omega) (HR.out.keptNo (hk1.trans hk2)) HBa.out HBc.out HAb.out HBl.out HB.out)
  have HK1 := Lib.hid (hk1.trans hk2)
  clear hI hI2 hk1 hk2 hDl HN
  go_wp2_with fail
  refine HF.out.mono ?_
  rintro e w3 ⟨rfl, hW⟩
  have HC := Lib.hid (close_ends hW HBl.out)
  clear hW HF
  go_wp2_with fail
  refine HC.out.mono ?_
  rintro e w4 ⟨rfl, hk4, p, m, l, o, er, v, hs, hp, hend, hie, hus, hat, her⟩
  have HSt := Lib.hid (infstate_any w4 D v hie.obj)
  rw [hus, hat, her] at HSt
  obtain ⟨us, hus2⟩ : ∃ us : Int, us = ((if er = 0 then (p + 7) / 8 else 0 : Nat) : Int) := ⟨_, rfl⟩
  obtain ⟨at_, hat2⟩ : ∃ at_ : Int, at_ = ((if er = 0 then 0 else if er = 2 then b.length else p / 8 : Nat) : Int) := ⟨_, rfl⟩
  rw [← hus2, ← hat2] at HSt
  obtain ⟨bb, hbb⟩ : ∃ bb : Bool, bb = (v.nx == 5) := ⟨_, rfl⟩
  rw [← hbb] at HSt
  have HS := Lib.hid hs; have HP := Lib.hid hp; have HE := Lib.hid hend; have HIE := Lib.hid hie; have HUs := Lib.hid hus2; have HAt := Lib.hid hat2
  have HK4 := Lib.hid ((HK1.out.mono (fun _ _ e => e.elim)).trans hk4)
  clear hs hp hend hie hus hat her hus2 hat2 hbb hk4 HC
  go_wp2_with fail
  refine HSt.out.mono ?_
  rintro e w5 ⟨rfl, hk5⟩
  have HO := Lib.hid (infout_any (HIE.out.turn (hk5.mono (fun _ _ e => e.elim)) (HIE.out.obj.kept hk5 (fun e => e)) rfl rfl) (by have := HB.out _ _ _ _ HS.out; omega))
  have HK5 := Lib.hid hk5
  clear hk5 HSt
  go_wp2_with fail
  refine HO.out.mono ?_
  rintro e w6 ⟨oa, oc, rfl, h1, h2, h3, hk6⟩
  have HK6 := Lib.hid hk6; have H1 := Lib.hid h1.out; have H2 := Lib.hid h2.out; have H3 := Lib.hid h3.out
  clear h1 h2 h3 hk6 HO
  go_wp2
  refine bodyPost_ret (results_tmp4 rfl _ _ _) rfl ?_
  refine ⟨p, m, l, o, er, oa, oc, HS.out, HP.out, HE.out, ?_, H1, H2, H3, ((HK4.out.lowNo).trans HK5.out).trans HK6.out⟩
  rw [← HUs.out, ← HAt.out]
  rfl
end Go.Proofs.Ythapkciebphhkaa

namespace Go.Proofs.Ythapkciebphhkaa
open Go.RowKit
set_option linter.unusedVariables false
set_option linter.unusedSimpArgs false
set_option maxRecDepth 20000

/-- All's answer, once it is known where reading ends. -/
def AllIs (w : World) (o : List Int) (used at_ er : Int) (e : Ending) (w' : World) : Prop :=
  ∃ (oa : Option Addr) (oc : Nat), e = .returned (.tuple #[.slice oa o.length oc, .int .i64 used, .int .i64 at_, .int .i64 er]) ∧ Hid (Reads w' oa o) ∧ Hid (oa = none → oc = 0) ∧ Hid ((convert 23 9 (.slice oa o.length oc)).run Try.prog w' = .ok (.string (strOfNums o)) w') ∧ Kept NoB w w'
theorem AllR.fin {w w' : World} {b : List Int} {M p : Nat} {l : Bool} {o : List Int} {e : Ending} (h : AllR w b M e w') (hs : Steps b M 0 .block false [] p .fin l o) : AllIs w o (((p + 7) / 8 : Nat) : Int) 0 0 e w' := by
  obtain ⟨p2, m2, l2, o2, er, oa, oc, h1, h2, h3, h4, h5, h6, h7, h8⟩ := h
  have hst : Stuck b M p2 m2 l2 o2 := by
    rcases h3 with ⟨rfl, _⟩ | ⟨_, h0, p1, m1, l1, o1, hi⟩
    · exact .inl rfl
    · exact .inr ⟨er, p1, m1, l1, o1, h0, hi⟩
  obtain ⟨rfl, rfl, rfl, rfl⟩ := Steps.det hs trivial (.inl rfl) h1 hst
  rcases h3 with ⟨_, rfl⟩ | ⟨hf, _⟩
  · exact ⟨oa, oc, by simpa using h4, h5, h6, h7, h8⟩
  · exact absurd rfl hf
theorem AllR.err {w w' : World} {b : List Int} {M p p1 : Nat} {m m1 : Md} {l l1 : Bool} {o o1 : List Int} {er : Int} {e : Ending} (h : AllR w b M e w') (hs : Steps b M 0 .block false [] p m l o) (hi : ItemR b M p m l o er p1 m1 l1 o1) (h0 : er ≠ 0) : AllIs w o 0 ((if er = 2 then b.length else p / 8 : Nat) : Int) er e w' := by
  obtain ⟨p2, m2, l2, o2, er2, oa, oc, h1, h2, h3, h4, h5, h6, h7, h8⟩ := h
  have hst : Stuck b M p2 m2 l2 o2 := by
    rcases h3 with ⟨rfl, _⟩ | ⟨_, h0, p1, m1, l1, o1, hi⟩
    · exact .inl rfl
    · exact .inr ⟨er2, p1, m1, l1, o1, h0, hi⟩
  obtain ⟨rfl, rfl, rfl, rfl⟩ := Steps.det hs trivial (.inr ⟨er, p1, m1, l1, o1, h0, hi⟩) h1 hst
  rcases h3 with ⟨rfl, _⟩ | ⟨_, h02, p3, m3, l3, o3, hi2⟩
  · exact hi.elim
  · obtain ⟨rfl, _⟩ := ItemR.det (hs.ok trivial).1 hi hi2
    rw [if_neg h0, if_neg h0] at h4
    exact ⟨oa, oc, h4, h5, h6, h7, h8⟩
theorem word256 : wordZ fixL 256 = (0, 7) := by decide +kernel
theorem puts30 : Puts [3, 0] 0 ([] ++ ([(lastN true, 1), (1, 2)] ++ ([] ++ [wordZ fixL 256])) ++ []) := by
  rw [word256]
  refine ⟨⟨0, by decide, by decide⟩, ?_, by decide⟩
  intro y hy
  simp [lastN] at hy
  rcases hy with rfl | rfl | rfl <;> decide
theorem steps30 : Steps [3, 0] 10 0 .block false [] 10 .fin true [] := by
  have h := fixed_steps (most := 10) (l0 := false) (out := []) (ts := []) (ws := []) (pre := []) (post := []) (last := true) .nil puts30 trivial
  rw [word256] at h
  exact h
theorem short5 : ∃ l, Steps [1, 1, 0, 254, 255] 10 0 .block false [] 40 (.bytes 1) l [] ∧ ItemR [1, 1, 0, 254, 255] 10 40 (.bytes 1) l [] 2 0 .fin false [] := by
  refine ⟨true, .step (p1 := 3) (m1 := .stored) (l1 := true) (o1 := []) ?_ (.step (p1 := 40) (m1 := .bytes 1) (l1 := true) (o1 := []) ?_ .refl), ?_⟩
  · unfold ItemR
    dsimp only
    rw [if_neg (by decide), if_pos (by decide)]
    exact ⟨rfl, rfl, rfl, by decide, rfl⟩
  · unfold ItemR
    dsimp only
    rw [if_neg (by decide), if_neg (by decide)]
    exact ⟨rfl, rfl, by rw [if_neg (by decide)]; rfl, rfl, rfl⟩
  · unfold ItemR
    dsimp only
    rw [if_pos (by decide)]
theorem stored6 : Steps [1, 1, 0, 254, 255, 7] 10 0 .block false [] 48 .fin true [7] := by
  have h := stored_at (bs := [1, 1, 0, 254, 255, 7]) (by unfold AllB; decide) (most := 10) (q := 0) (last := true) (l0 := false) (out := []) (row := [7]) (r := []) rfl (by decide) (by decide)
  exact h
theorem reads_lit {w : World} {cs : Array Value} (L : List Int) (h : cs = (L.map (Value.int .u8)).toArray) : Reads (w.alloc (.cells cs 5)) (some ⟨w.heap.size, 0, none⟩) L := by
  refine ⟨(fun h => by cases h), ?_⟩
  intro a ha i hi
  cases ha
  rw [addr_add, Nat.zero_add, cell_new i rfl, h]
  simp [List.getD, hi]
theorem small_fit {b : List Int} {M : Nat} (hM : M ≤ 900000) : ∀ p m' l' o', Steps b M 0 .block false [] p m' l' o' → o'.length ≤ 900000 := fun p m' l' o' h => by have := h.fit.2 (Nat.zero_le _); omega
set_option maxHeartbeats 4000000 in
theorem awake9 (w : World) : Calls Try.prog 5 #[] w fun e w' => e = .returned (.bool true) ∧ Kept NoB w w' := by
  have hall : ∀ (W : World) (cs : Array Value) (L : List Int), cs = (L.map (Value.int .u8)).toArray → AllB L → L.length ≤ 1000 → Calls Try.prog 6 #[.slice (some ⟨W.heap.size, 0, none⟩) L.length L.length, .int .i64 10] (W.alloc (.cells cs 5)) (AllR (W.alloc (.cells cs 5)) L 10) := fun W cs L hcs hL hl =>
    infAll_any _ _ _ L 10 10 rfl (by decide) (reads_lit L hcs) (fun h => by cases h) (Nat.le_refl _) hL (by omega) (small_fit (by decide))
  have HA := Lib.hid (fun W => (hall W _ [3, 0] rfl (by unfold AllB; decide) (by decide)).mono fun e w' h => h.fin steps30)
  have HB := Lib.hid (fun W => (hall W _ [1, 1, 0, 254, 255] rfl (by unfold AllB; decide) (by decide)).mono fun e w' h => h.err short5.choose_spec.1 short5.choose_spec.2 (by decide))
  have HC := Lib.hid (fun W => (hall W _ [1, 1, 0, 254, 255, 7] rfl (by unfold AllB; decide) (by decide)).mono fun e w' h => h.fin stored6)
  clear hall
  go_enter Try.func5, Try.ntmps5
  go_wp2_with fail
  refine (HA.out _).mono ?_
  rintro e w1 ⟨oa, oc, rfl, _, _, _, hk1⟩
  have HK1 := Lib.hid (((Kept.refl NoB w).alloc _).trans hk1)
  clear hk1 HA
  go_wp2_with fail
  refine (HB.out _).mono ?_
  rintro e w2 ⟨ob, oc2, rfl, _, _, _, hk2⟩
  have HK2 := Lib.hid ((HK1.out.alloc _).trans hk2)
  clear hk2 HB
  go_wp2_with fail
  refine (HC.out _).mono ?_
  rintro e w3 ⟨od, oc3, rfl, _, _, hcv, hk3⟩
  have HK3 := Lib.hid ((HK2.out.alloc _).trans hk3)
  have hcv : (convert 23 9 (.slice od 1 oc3)).run Try.prog w3 = .ok (.string { data := #[7] }) w3 := hcv.out
  clear hk3 HC
  go_wp2
  go_ret
  exact ⟨rfl, HK3.out⟩
end Go.Proofs.Ythapkciebphhkaa
