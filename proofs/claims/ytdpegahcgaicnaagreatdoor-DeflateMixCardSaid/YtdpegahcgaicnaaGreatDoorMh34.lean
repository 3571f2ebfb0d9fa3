/-
  Feed of one part; All.
  inflate.All.
  Blocks that were put are read as what they say; what a whole stream that was put is unpacked as.
  What was there before, on paper: the longest row, the nearest of them; chains. No Go in sight.
  match: word, TrailingZeros64, shared.
  match: TrailingZeros64 by its table; shared.
  match: best, Longest.
  match.Longest.
-/
import Derived.Test.YtdpegahcgaicnaaGreatDoorMh33
import Derived.Lib.Endian
import Derived.Lib.TrailingZeros
import Derived.Lib.EndianBits
import Derived.Laws.Bits64b
import Derived.BigQuiet
import Derived.Deep.QuietTactic
import Derived.Deep.RegionHeld3
import Derived.Lib.LaidTab
import Derived.Deep.CutBlock
namespace Go.Proofs.YtdpegahcgaicnaaGreatDoor
open Go.RowKit
set_option linter.unusedVariables false
set_option linter.unusedSimpArgs false

/-- More bytes behind what is kept. -/
theorem Inf0.grow {lo : Nat} {w w1 w2 : World} {D : Nat} {v : IV} {m : Md} {out bs b : List Int} {S : Nat → Prop} {ra : Option Addr} {rc : Nat} (h : Inf0 lo w D v m out bs S) (hlo : lo ≤ w.heap.size) (hk1 : Kept (OwnB v.rs) w w1)
    (hown : w1.ownsRow 0 5 1 (.slice ra (bs ++ b).length rc) (bs ++ b).length ((bs ++ b).map (.int .u8))) (hf : ∀ k, (Value.slice ra (bs ++ b).length rc).ownBlock = some k → v.rs.ownBlock = some k ∨ w.heap.size ≤ k) (hb : AllB b)
    (hw2 : w2 = w1.setCell ⟨D, 3, none⟩ (.slice ra (bs ++ b).length rc)) (hdec : ∃ S0 : Nat → Prop, (∀ k, S0 k → S k ∧ v.rs.ownBlock ≠ some k) ∧ ModeOk w S0 v m ∧ FixOk w S0 v) :
    ∃ S', Inf0 lo w2 D { v with rs := .slice ra (bs ++ b).length rc } m out (bs ++ b) S' ∧ Kept (LoB lo) w w2 := by
  obtain ⟨S0, hS0, hm0, hf0⟩ := hdec
  have hD := obj_lt h.obj
  have hrD : ∀ k, v.rs.ownBlock = some k → k ≠ D := fun k hk => (h.s k (h.sR k hk)).2.2.1
  have ho1 := h.obj.kept hk1 (fun e => hrD D e rfl)
  obtain ⟨wnd, hw, hx, hz⟩ := h.win
  have hskl := own_lt h.sink.own
  have hwnl := own_lt hw.own
  have hrl := own_lt h.rest.own
  have hk2 : Kept (OneB D) w1 w2 := by rw [hw2]; exact Kept.setCell (S := OneB D) (p := ⟨D, 3, none⟩) (Kept.refl _ w1) (.inl rfl) _
  have hk : Kept (fun k => v.rs.ownBlock = some k ∨ k = D) w w2 := (hk1.mono (fun _ _ e => .inl e)).trans (hk2.mono (fun _ _ e => .inr e))
  have hown2 : w2.ownsRow 0 5 1 (.slice ra (bs ++ b).length rc) (bs ++ b).length ((bs ++ b).map (.int .u8)) := hk2.row hown (fun k e1 e2 => row_ne hown ho1 (by decide) k e1 e2)
  have hol := own_lt hown2
  refine ⟨fun k => S0 k ∨ (Value.slice ra (bs ++ b).length rc).ownBlock = some k, ⟨?_, h.low, ?_, ⟨hown2, ?_⟩, ⟨wnd, ?_, hx, hz⟩, h.sep, ?_, fun k e => .inr e, h.nx, h.er, h.fit, h.big, h.all, ?_, ?_, ?_⟩, ?_⟩
  · rw [hw2]; exact ho1.setRs _
  · exact h.sink.kept hk (fun k e1 e2 => by
      rcases e2 with e2 | e2
      · exact (h.s k (h.sR k e2)).2.2.2.1 e1
      · exact row_ne h.sink.own h.obj (by decide) k e1 e2)
  · intro k e
    rcases hf k e with e | e
    · exact h.rest.fresh k e
    · omega
  · exact hw.kept hk (fun k e1 e2 => by
      rcases e2 with e2 | e2
      · exact (h.s k (h.sR k e2)).2.2.2.2 e1
      · exact row_ne hw.own h.obj (by decide) k e1 e2)
  · intro k e
    have hz := hk.size
    rcases e with e | e
    · obtain ⟨a, b, c, d⟩ := h.s k (hS0 k e).1
      exact ⟨a, by omega, c, d⟩
    · rcases hf k e with e2 | e2
      · obtain ⟨a, b, c, d⟩ := h.s k (h.sR k e2)
        exact ⟨a, by omega, c, d⟩
      · exact ⟨by omega, hol k e, by omega, fun e3 => by have := hskl k e3; omega, fun e3 => by have := hwnl k e3; omega⟩
  · intro x hx
    rcases List.mem_append.1 hx with hx | hx
    · exact h.allr x hx
    · exact hb x hx
  · exact (hm0.kept hk (fun k hk e => e.elim (hS0 k hk).2 (h.s k (hS0 k hk).1).2.2.1) rfl rfl rfl).more (fun _ e => .inl e)
  · exact (hf0.kept hk (fun k hk e => e.elim (hS0 k hk).2 (h.s k (hS0 k hk).1).2.2.1) rfl rfl).more (fun _ e => .inl e)
  · refine hk.mono (fun k _ e => ?_)
    rcases e with e | e
    · exact (h.s k (h.sR k e)).1
    · exact e ▸ h.low
theorem wpList_app_none {P : Program} {w : World} {ops : Array Oper} {rest : List Oper} {o : Oper} {act : Act} {Q : Exit → Act → World → Prop} (hgd : o.guard = none) (s x : Operand) (t : TypeId)
    (ho : o.op = .call { callee := .builtin .append, args := #[s, x], argTypes := #[t, t] }) (e : TypeId) (i : TypeInfo) (size : Nat) (ht : P.underlying t = some (.slice e)) (hi : P.info? e = some i)
    (v : Value) (n : Nat) (xs : List Value) (hs : act.eval s = v) (hown : w.ownsRow 0 e size v n xs) (hx : act.eval x = .slice none 0 0)
    (h : wpList P ops Q rest (act.put o.dst v) w) : wpList P ops Q (o :: rest) act w := by
  refine wpList_plain hgd fun _ hK => ?_
  have hr := run_append_owned_none (P := P) (w := w) 0 t o.type e i size ht hi v n xs hown
  unfold Oper.wp execOp
  simp only [ho, resolve, invoke, builtin, Sem.run_bind, Sem.run_pure, Result.andThen_ok, List.map_toArray, List.map_cons, List.map_nil, hs, hx, hr]
  exact hK _ _ h
set_option maxRecDepth 20000 in
set_option maxHeartbeats 8000000 in
/-- A new Inflater is fed all bytes. -/
theorem feed_new {w : World} {lo D M : Nat} {b : List Int} (h : Inf0 lo w D (iv0 M) .block [] [] (fun _ => False)) (hlo : lo ≤ w.heap.size) (H : Nat) (ba : Option Addr) (bc : Nat) (hc : w.cell? ⟨H, 0, none⟩ = some (.slice ba b.length bc)) (hHD : H ≠ D) (hr : Reads w ba b) (hba : ba = none → bc = 0) (hbc : b.length ≤ bc) (hb : AllB b) (hbl : b.length ≤ 1000000)
    (hB : ∀ p m' l' o', Steps b M 0 .block false [] p m' l' o' → o'.length ≤ 900000) :
    Calls Tryz.prog 42 #[.pointer (some ⟨D, 0, none⟩), .slice (some ⟨H, 0, none⟩) 1 1] w fun e w' => e = .returned (.tuple #[]) ∧ ItemsW lo w D (iv0 M) .block [] b 0 0 w' := by
  obtain ⟨i0, hi, hz0, hz1, hz2⟩ := info_parts info5
  have HOv := over_any w D _ h.obj
  have hdc : decide ((iv0 M).nx = 5 ∨ (iv0 M).er ≠ 0) = false := rfl
  rw [hdc] at HOv
  have HOv := Lib.hid HOv
  have H0 := Lib.hid h; have HR := Lib.hid hr; have HBa := Lib.hid hba; have HB := Lib.hid hB; have HAb := Lib.hid hb
  clear h hr hba hB hdc hb
  go_enter Tryz.func42, Tryz.ntmps42
  go_wp2_with fail
  go_loopw [5, 8] (fun _u i wr => (i = .int .i64 0 ∧ wr = w) ∨ (i = .int .i64 1 ∧ Hid (ItemsW lo w D (iv0 M) .block [] b 0 0 wr))) (fun _ i _ => (2 - intOf i).toNat)
  case atStart => exact .inl ⟨rfl, rfl⟩
  case round =>
    rcases hrel with ⟨rfl, rfl⟩ | ⟨rfl, HI⟩
    · go_wp2_with fail
      refine HOv.out.mono ?_
      rintro e w1 ⟨rfl, hk1⟩
      have hD1 := H0.out.obj.kept hk1 (fun e => e)
      have c3 := hD1.c3
      have f3 := hD1.free 3
      have HK1 := Lib.hid hk1
      have c3 : w1.cell? ⟨D, 3, none⟩ = some (.slice none 0 0) := c3
      clear hk1 hD1
      have hfin : ∀ (w2 : World) (a2 : Option Addr) (c2 : Nat), Kept NoB w1 w2 → w2.ownsRow 0 5 1 (.slice a2 b.length c2) b.length (b.map (.int .u8)) → (∀ k, (Value.slice a2 b.length c2).ownBlock = some k → w1.heap.size ≤ k) →
          ∃ S', Inf0 lo (w2.setCell ⟨D, 3, none⟩ (.slice a2 b.length c2)) D { (iv0 M) with rs := .slice a2 b.length c2 } .block [] b S' ∧ Kept (LoB lo) wr (w2.setCell ⟨D, 3, none⟩ (.slice a2 b.length c2)) := by
        intro w2 a2 c2 hk2 ho2 hf2
        have := H0.out.grow (b := b) (w1 := w2) (ra := a2) (rc := c2) hlo ((HK1.out.trans hk2).mono (fun _ _ e => e.elim)) ho2 (fun k hk => .inr (by have := hf2 k hk; have := HK1.out.size; omega)) HAb.out rfl ⟨fun _ => False, fun _ e => e.elim, trivial, .inl rfl⟩
        exact this
      have HF := Lib.hid hfin
      have hrun : ∀ (w2 : World) (a2 : Option Addr) (c2 : Nat), Kept NoB w1 w2 → w2.ownsRow 0 5 1 (.slice a2 b.length c2) b.length (b.map (.int .u8)) → (∀ k, (Value.slice a2 b.length c2).ownBlock = some k → w1.heap.size ≤ k) →
          Calls Tryz.prog 80 #[.pointer (some ⟨D, 0, none⟩)] (w2.setCell ⟨D, 3, none⟩ (.slice a2 b.length c2)) fun e w' => e = .returned (.tuple #[]) ∧ ItemsW lo wr D (iv0 M) .block [] b 0 0 w' := by
        intro w2 a2 c2 h1 h2 h3
        obtain ⟨S', hI, hk⟩ := hfin w2 a2 c2 h1 h2 h3
        refine (readItems_any hI (by have := hk.size; omega) hbl 0 0 rfl (by decide) rfl (by decide) (Nat.zero_le _) trivial (by intro n e; cases e) HB.out).mono ?_
        rintro e w' ⟨he, hkw, hrest⟩
        exact ⟨he, hk.trans hkw, hrest⟩
      have HRun := Lib.hid hrun
      clear hfin hrun
      cases ba with
      | none =>
        obtain rfl : b = [] := HR.out.1 rfl
        have hbc0 : bc = 0 := HBa.out rfl
        subst hbc0
        have HRn := Lib.hid (HRun.out w1 none 0 (Kept.refl _ _) (World.ownsRow_nil _ _ _ _) (fun k hk => by simp [Value.ownBlock] at hk))
        simp only [List.length_nil] at HRn
        go_wp2_with (at_builtin; refine wpList_app_none rfl _ _ 22 rfl 5 i0 1 Tryz.underlying22 hi (.slice none 0 0) 0 [] rfl (World.ownsRow_nil _ _ _ _) rfl ?_)
        go_wp2_with fail
        refine HRn.out.mono ?_
        rintro e w3 ⟨rfl, hI⟩
        have HI := Lib.hid hI
        clear hI HRn
        go_wp2
        go_roundw
        case rel => exact .inr ⟨by go_num, HI⟩
        case measure => simp [intOf]
      | some ad =>
        have HNw := Lib.hid (reads_news (HR.out.keptNo HK1.out))
        go_wp2_with (at_builtin; refine wpList_app _ rfl _ _ 22 rfl 5 i0 (.int .u8 0) 1 1 Tryz.underlying22 hi hz0 hz1 hz2 rfl (by decide) (.slice none 0 0) 0 [] rfl (World.ownsRow_nil _ _ _ _) ad b.length bc (b.map (.int .u8)) rfl (by rw [List.length_map]; omega) HNw.out ?d2 ?d3 ?d4 ?_)
        case d2 => exact news_one b
        case d3 => unfold maxLen; omega
        case d4 => omega
        intro v' w2 hown' hgrow hnew
        obtain ⟨ao', cap', rfl⟩ := own_shape hown'
        have hk2 : Kept NoB w1 w2 := (Kept.refl _ _).grown hgrow (fun k _ e => by simp [Value.ownBlock] at e)
        have HRn := Lib.hid (HRun.out w2 ao' cap' hk2 hown' (fun k hk => by
          rcases hnew k hk with e | e
          · simp [Value.ownBlock] at e
          · exact e))
        have c3' : w2.cell? ⟨D, 3, none⟩ = some (.slice none 0 0) := hk2.cell c3
        have f3' := (H0.out.obj.kept (HK1.out.trans hk2) (fun e => e)).free 3
        clear hown' hgrow hnew hk2
        go_wp2_with fail
        refine HRn.out.mono ?_
        rintro e w3 ⟨rfl, hI⟩
        have HI := Lib.hid hI
        clear hI HRn
        go_wp2
        go_roundw
        case rel => exact .inr ⟨by go_num, HI⟩
        case measure => simp [intOf]
    · go_wp2
      refine bodyPost_end (results_none rfl _ _ _) rfl ?_
      exact ⟨rfl, HI.out⟩
end Go.Proofs.YtdpegahcgaicnaaGreatDoor

namespace Go.Proofs.YtdpegahcgaicnaaGreatDoor
open Go.RowKit
set_option linter.unusedVariables false
set_option linter.unusedSimpArgs false

theorem ItemR.fit {bs : List Int} {most p : Nat} {m : Md} {last : Bool} {out : List Int} {p1 : Nat} {m1 : Md} {l1 : Bool} {o1 : List Int} (h : ItemR bs most p m last out 0 p1 m1 l1 o1) : out.length ≤ o1.length ∧ (out.length ≤ most → o1.length ≤ most) := by
  cases m with
  | fin => exact h.elim
  | block =>
    unfold ItemR at h
    simp only at h
    split at h
    · exact absurd h (by decide)
    · split at h
      · obtain ⟨_, _, _, _, rfl⟩ := h; exact ⟨Nat.le_refl _, fun e => e⟩
      · split at h
        · obtain ⟨_, _, _, _, rfl⟩ := h; exact ⟨Nat.le_refl _, fun e => e⟩
        · split at h
          · obtain ⟨_, _, _, _, rfl⟩ := h; exact ⟨Nat.le_refl _, fun e => e⟩
          · exact absurd h (by decide)
  | stored =>
    unfold ItemR at h
    simp only at h
    split at h
    · exact absurd h (by decide)
    · split at h
      · exact absurd h (by decide)
      · obtain ⟨_, _, _, _, rfl⟩ := h; exact ⟨Nat.le_refl _, fun e => e⟩
  | bytes n =>
    unfold ItemR at h
    simp only at h
    split at h
    · exact absurd h (by decide)
    · split at h
      · exact absurd h (by decide)
      · obtain ⟨_, _, _, _, rfl⟩ := h
        rw [List.length_append, List.length_singleton]
        exact ⟨by omega, fun e => by omega⟩
  | head =>
    unfold ItemR at h
    simp only at h
    obtain ⟨lit, dist, f, q, hh, h⟩ := h
    split at h
    · obtain ⟨_, _, _, _, rfl⟩ := h; exact ⟨Nat.le_refl _, fun e => e⟩
    · rename_i hf
      exact absurd h.symm hf
  | sym lit dist =>
    unfold ItemR at h
    simp only at h
    obtain ⟨s, f, q, hh, h⟩ := h
    split at h
    · rename_i hf
      exact absurd h.symm hf
    · split at h
      · split at h
        · obtain ⟨_, _, _, _, rfl⟩ := h
          rw [List.length_append, List.length_singleton]
          exact ⟨by omega, fun e => by omega⟩
        · exact absurd h (by decide)
      · split at h
        · obtain ⟨_, _, _, _, rfl⟩ := h; exact ⟨Nat.le_refl _, fun e => e⟩
        · split at h
          · exact absurd h (by decide)
          · split at h
            · exact absurd h (by decide)
            · obtain ⟨d, g, r, hd, h⟩ := h
              split at h
              · rename_i hg
                exact absurd h.symm hg
              · split at h
                · exact absurd h (by decide)
                · split at h
                  · exact absurd h (by decide)
                  · split at h
                    · exact absurd h (by decide)
                    · split at h
                      · exact absurd h (by decide)
                      · obtain ⟨_, _, _, _, rfl⟩ := h
                        rw [copyN_len]
                        exact ⟨by omega, fun e => by omega⟩
theorem Steps.fit {bs : List Int} {most p p1 : Nat} {m m1 : Md} {l l1 : Bool} {o o1 : List Int} (h : Steps bs most p m l o p1 m1 l1 o1) : o.length ≤ o1.length ∧ (o.length ≤ most → o1.length ≤ most) := by
  induction h with
  | refl => exact ⟨Nat.le_refl _, fun e => e⟩
  | step a _ ih => have b := a.fit; exact ⟨by omega, fun e => ih.2 (b.2 e)⟩
/-- What comes ahead of where reading ends. -/
theorem Steps.ahead {bs : List Int} {most p p1 p2 : Nat} {m m1 m2 : Md} {l l1 l2 : Bool} {o o1 o2 : List Int} (h : Steps bs most p m l o p1 m1 l1 o1) (hm : m.ok) (h2 : Steps bs most p m l o p2 m2 l2 o2) (hs2 : Stuck bs most p2 m2 l2 o2) : Steps bs most p1 m1 l1 o1 p2 m2 l2 o2 := by
  induction h with
  | refl => exact h2
  | step a _ ih =>
    cases h2 with
    | refl => exact (hs2.no hm a).elim
    | step b hb =>
      obtain ⟨_, e⟩ := ItemR.det hm a b
      obtain ⟨rfl, rfl, rfl, rfl⟩ := e rfl
      exact ih (a.next hm).1 hb
/-- What All tells. -/
def InfAllR (w : World) (b : List Int) (M : Nat) (e : Ending) (w' : World) : Prop :=
  ∃ (p : Nat) (m : Md) (l : Bool) (o : List Int) (er : Int) (oa : Option Addr) (oc : Nat), Steps b M 0 .block false [] p m l o ∧ p ≤ 8 * b.length ∧
    ((m = .fin ∧ er = 0) ∨ (m ≠ .fin ∧ er ≠ 0 ∧ ∃ p1 m1 l1 o1, ItemR b M p m l o er p1 m1 l1 o1)) ∧
    e = .returned (.tuple #[.slice oa o.length oc, .int .i64 ((if er = 0 then (p + 7) / 8 else 0 : Nat) : Int), .int .i64 ((if er = 0 then 0 else if er = 2 then b.length else p / 8 : Nat) : Int), .int .i64 er]) ∧
    Hid (Reads w' oa o) ∧ Hid (oa = none → oc = 0) ∧ Hid ((convert 22 9 (.slice oa o.length oc)).run Tryz.prog w' = .ok (.string (strOfNums o)) w') ∧ Kept NoB w w'
theorem Kept.lowNo {w w' : World} (h : Kept (LoB w.heap.size) w w') : Kept NoB w w' := ⟨h.os, h.tape, h.output, h.size, fun k hk _ => h.block k hk (fun e => by unfold LoB at e; omega)⟩
/-- Behind Feed: how it ends. -/
def EndW (lo : Nat) (w : World) (D : Nat) (b : List Int) (M : Nat) (w' : World) : Prop :=
  Kept (LoB lo) w w' ∧ ∃ (p : Nat) (m : Md) (l : Bool) (o : List Int) (er : Int) (v : IV), Steps b M 0 .block false [] p m l o ∧ p ≤ 8 * b.length ∧
    ((m = .fin ∧ er = 0) ∨ (m ≠ .fin ∧ er ≠ 0 ∧ ∃ p1 m1 l1 o1, ItemR b M p m l o er p1 m1 l1 o1)) ∧ InfE lo w' D v o ∧ v.us = ((if er = 0 then (p + 7) / 8 else 0 : Nat) : Int) ∧ v.at_ = ((if er = 0 then 0 else if er = 2 then b.length else p / 8 : Nat) : Int) ∧ v.er = er
theorem close_ends {lo : Nat} {w w1 : World} {D M : Nat} {b : List Int} (h : ItemsW lo w D (iv0 M) .block [] b 0 0 w1) (hb : b.length ≤ 1000000) :
    Calls Tryz.prog 43 #[.pointer (some ⟨D, 0, none⟩)] w1 fun e w' => e = .returned (.tuple #[]) ∧ EndW lo w D b M w' := by
  obtain ⟨hk, p, m, l, o, v, hs, hmost, hp, h⟩ := h
  rcases h with ⟨hf, hi, hnx, her, hus, hat⟩ | ⟨er, p1, m1, l1, o1, h0, h2, hit, hi, hnx, hf, her, hus, hat⟩ | ⟨p1, m1, l1, o1, S', hit, hi, hla, hus, hat, hfr, hsp⟩
  · refine (infclose_over w1 D v hi.obj (.inl hnx)).mono ?_
    rintro e w2 ⟨rfl, hk2⟩
    refine ⟨rfl, hk.trans (hk2.mono (fun _ _ e => e.elim)), p, m, l, o, 0, v, hs, hp, .inl ⟨hf, rfl⟩, hi.turn (hk2.mono (fun _ _ e => e.elim)) (hi.obj.kept hk2 (fun e => e)) rfl rfl, ?_, ?_, her⟩
    · rw [hus, if_pos rfl, Nat.zero_add]
    · rw [hat, if_pos rfl]; rfl
  · refine (infclose_over w1 D v hi.obj (.inr (by rw [her]; exact h0))).mono ?_
    rintro e w2 ⟨rfl, hk2⟩
    refine ⟨rfl, hk.trans (hk2.mono (fun _ _ e => e.elim)), p, m, l, o, er, v, hs, hp, .inr ⟨hf, h0, p1, m1, l1, o1, hit⟩, hi.turn (hk2.mono (fun _ _ e => e.elim)) (hi.obj.kept hk2 (fun e => e)) rfl rfl, ?_, ?_, her⟩
    · rw [hus, if_neg h0]; rfl
    · rw [hat, if_neg h0, if_neg h2, Nat.zero_add]
  · have hmf : m ≠ .fin := fun e => by subst e; exact hit.elim
    obtain ⟨ra, rc, hrs⟩ := own_shape hi.rest.own
    refine (infclose_ends w1 D v hi.obj ?_ ra _ rc (0 + p / 8) hrs hfr ⟨by omega, by rw [List.length_drop]; omega⟩).mono ?_
    · rintro (e | e)
      · rw [hi.nx] at e
        cases m <;> first | (exact hmf rfl) | (simp only [nxOf] at e; omega)
      · exact e hi.er
    · rintro e w2 ⟨rfl, ho2, hk2⟩
      refine ⟨rfl, hk.trans (hk2.mono (fun k _ e => by unfold OneB at e; subst e; exact hi.low)), p, m, l, o, 2, _, hs, hp, .inr ⟨hmf, by decide, p1, m1, l1, o1, hit⟩, hi.fin.turn hk2 ho2 rfl rfl, ?_, ?_, rfl⟩
      · show v.us = _; rw [hus, if_neg (by decide)]; rfl
      · rw [if_neg (by decide), if_pos rfl]
        show ((0 + p / 8 + (b.drop (p / 8)).length : Nat) : Int) = _
        rw [List.length_drop]; omega
set_option maxRecDepth 20000 in
set_option maxHeartbeats 8000000 in
theorem infAll_any (w : World) (ba : Option Addr) (bc : Nat) (b : List Int) (z : Int) (M : Nat) (hM : (M : Int) = if z < 0 then 0 else z) (hMl : M ≤ 9223372036854775807) (hr : Reads w ba b) (hba : ba = none → bc = 0) (hbc : b.length ≤ bc) (hb : AllB b) (hbl : b.length ≤ 1000000)
    (hB : ∀ p m' l' o', Steps b M 0 .block false [] p m' l' o' → o'.length ≤ 900000) :
    Calls Tryz.prog 15 #[.slice ba b.length bc, .int .i64 z] w (InfAllR w b M) := by
  have HN := Lib.hid (infnew_any w z M hM hMl)
  have HR := Lib.hid hr; have HBa := Lib.hid hba; have HB := Lib.hid hB; have HAb := Lib.hid hb; have HBc := Lib.hid hbc; have HBl := Lib.hid hbl
  clear hM hr hba hB hb hbc hbl
  go_enter Tryz.func15, Tryz.ntmps15
  go_wp2_with fail
  refine HN.out.mono ?_
  rintro e w1 ⟨D, rfl, hI, hk1⟩
  have hk2 : Kept NoB w1 (w1.alloc (.cells #[.slice ba b.length bc] 22)) := (Kept.refl _ _).alloc _
  have hI2 : Inf0 w.heap.size (w1.alloc (.cells #[.slice ba b.length bc] 22)) D (iv0 M) .block [] [] (fun _ => False) := by
    refine ⟨hI.obj.kept hk2 (fun e => e), hI.low, nilrow, nilrow, ⟨[], nilrow, ⟨⟨[], rfl⟩, .inl rfl⟩, by decide⟩, hI.sep, (fun k hk => hk.elim), hI.sR, hI.nx, hI.er, hI.fit, hI.big, hI.all, hI.allr, trivial, .inl rfl⟩
  have hDl := obj_lt hI.obj
  have HF := Lib.hid (feed_new hI2 (by have := hk1.size; have := hk2.size; omega) w1.heap.size ba bc (cell_new 0 rfl) (by omega) (HR.out.keptNo (hk1.trans hk2)) HBa.out HBc.out HAb.out HBl.out HB.out)
  have HK1 := Lib.hid (hk1.trans hk2)
  clear hI hI2 hk1 hk2 hDl HN
  go_wp2_with fail
  refine HF.out.mono ?_
  rintro e w3 ⟨rfl, hW⟩
  have HC := Lib.hid (close_ends hW HBl.out)
  clear hW HF
  go_wp2_with fail
  refine HC.out.mono ?_
  rintro e w4 ⟨rfl, hk4, p, m, l, o, er, v, hs, hp, hend, hie, hus, hat, her⟩
  have HSt := Lib.hid (infstate_any w4 D v hie.obj)
  rw [hus, hat, her] at HSt
  obtain ⟨us, hus2⟩ : ∃ us : Int, us = ((if er = 0 then (p + 7) / 8 else 0 : Nat) : Int) := ⟨_, rfl⟩
  obtain ⟨at_, hat2⟩ : ∃ at_ : Int, at_ = ((if er = 0 then 0 else if er = 2 then b.length else p / 8 : Nat) : Int) := ⟨_, rfl⟩
  rw [← hus2, ← hat2] at HSt
  obtain ⟨bb, hbb⟩ : ∃ bb : Bool, bb = (v.nx == 5) := ⟨_, rfl⟩
  rw [← hbb] at HSt
  have HS := Lib.hid hs; have HP := Lib.hid hp; have HE := Lib.hid hend; have HIE := Lib.hid hie; have HUs := Lib.hid hus2; have HAt := Lib.hid hat2
  have HK4 := Lib.hid ((HK1.out.mono (fun _ _ e => e.elim)).trans hk4)
  clear hs hp hend hie hus hat her hus2 hat2 hbb hk4 HC
  go_wp2_with fail
  refine HSt.out.mono ?_
  rintro e w5 ⟨rfl, hk5⟩
  have HO := Lib.hid (infout_any (HIE.out.turn (hk5.mono (fun _ _ e => e.elim)) (HIE.out.obj.kept hk5 (fun e => e)) rfl rfl) (by have := HB.out _ _ _ _ HS.out; omega))
  have HK5 := Lib.hid hk5
  clear hk5 HSt
  go_wp2_with fail
  refine HO.out.mono ?_
  rintro e w6 ⟨oa, oc, rfl, h1, h2, h3, hk6⟩
  have HK6 := Lib.hid hk6; have H1 := Lib.hid h1.out; have H2 := Lib.hid h2.out; have H3 := Lib.hid h3.out
  clear h1 h2 h3 hk6 HO
  go_wp2
  refine bodyPost_ret (results_tmp4 rfl _ _ _) rfl ?_
  refine ⟨p, m, l, o, er, oa, oc, HS.out, HP.out, HE.out, ?_, H1, H2, H3, ((HK4.out.lowNo).trans HK5.out).trans HK6.out⟩
  rw [← HUs.out, ← HAt.out]
  rfl
end Go.Proofs.YtdpegahcgaicnaaGreatDoor

namespace Go.Proofs.YtdpegahcgaicnaaGreatDoor
open Go.RowKit
set_option linter.unusedVariables false
set_option linter.unusedSimpArgs false

theorem headW_lt {lit dist code : List Int} {told : Nat} {rs : List (Int × Int)} (hc : CodeW code told rs (lit ++ dist)) (hb : headB lit dist = true) : ∀ y ∈ headW lit dist code told rs, y.1 < 2 ^ y.2 := by
  obtain ⟨⟨b1, b2, b3, b4⟩, _⟩ := head_small hb
  have hlo := hc.lo
  have hhi := hc.hi
  intro y hy
  unfold headW at hy
  rcases List.mem_append.1 hy with h | h
  · rcases List.mem_append.1 h with h | h
    · simp only [List.mem_cons, List.not_mem_nil, or_false] at h
      rcases h with rfl | rfl | rfl
      · show lit.length - 257 < 32; omega
      · show dist.length - 1 < 32; omega
      · show told - 4 < 16; omega
    · unfold wordsC at h
      obtain ⟨i, _, rfl⟩ := List.mem_map.1 h
      show (code.getD (ordL.getD i 0).toNat 0).toNat < 8
      generalize (ordL.getD i 0).toNat = q
      by_cases hl : q < code.length
      · have e : code.getD q 0 = code[q] := by simp [List.getD, hl]
        have := hc.small _ (List.getElem_mem hl)
        rw [e]; omega
      · have e : code.getD q 0 = 0 := by simp [List.getD, List.getElem?_eq_none (Nat.le_of_not_lt hl)]
        rw [e]; decide
  · unfold wordsR at h
    obtain ⟨z, hz, h⟩ := List.mem_flatMap.1 h
    have ho := runAll_ok _ rs [] _ hc.runs z hz
    simp only [List.mem_cons, List.not_mem_nil, or_false] at h
    rcases h with rfl | rfl
    · exact wordZ_lt _ _
    · exact spanM_lt _ _ ho.2.2
theorem TokW.lt {lit dist : List Int} {t : Tk} {ws : List (Nat × Nat)} (h : TokW lit dist t ws) : ∀ y ∈ ws, y.1 < 2 ^ y.2 := by
  intro y hy
  cases h with
  | one c _ _ _ => simp only [List.mem_cons, List.not_mem_nil, or_false] at hy; subst hy; exact wordZ_lt _ _
  | long j u hj hu _ _ =>
    simp only [List.mem_cons, List.not_mem_nil, or_false] at hy
    rcases hy with rfl | rfl | rfl | rfl
    · exact wordZ_lt _ _
    · decide
    · exact wordZ_lt _ _
    · exact hu
  | copy i v j u hi hv hlv hj hu _ _ =>
    simp only [List.mem_cons, List.not_mem_nil, or_false] at hy
    rcases hy with rfl | rfl | rfl | rfl
    · exact wordZ_lt _ _
    · exact hv
    · exact wordZ_lt _ _
    · exact hu
theorem TokWs.lt {lit dist : List Int} {ts : List Tk} {ws : List (Nat × Nat)} (h : TokWs lit dist ts ws) : ∀ y ∈ ws, y.1 < 2 ^ y.2 := by
  induction h with
  | nil => intro y hy; cases hy
  | cons a _ ih => intro y hy; rcases List.mem_append.1 hy with h | h; exact a.lt y h; exact ih y h
/-- What was put on a fresh writer. -/
theorem puts_of {w w' : World} {R cap : Nat} {v0 : Value} {ps : List (Nat × Nat)} {ao : Option Addr} {bs : List Int} (h : WroteP w R v0 [] 0 ps w' ao cap bs) (hlt : ∀ y ∈ ps, y.1 < 2 ^ y.2) : Puts bs 0 ps :=
  ⟨⟨0, by decide, by rw [h.2.1]; simp [num]⟩, hlt, by have := h.1.2.2.2.1; omega⟩
/-- A block of words that begins at bit s and says b. -/
structure BlkS (s : Nat) (last : Bool) (ps : List (Nat × Nat)) (b : List Int) : Prop where
  lt : ∀ y ∈ ps, y.1 < 2 ^ y.2
  run : ∀ (bs : List Int) (pre post : List (Nat × Nat)) (most : Nat) (l0 : Bool) (out : List Int), s = wdN pre → Puts bs 0 (pre ++ ps ++ post) → out.length + b.length ≤ most → Steps bs most (wdN pre) .block l0 out (wdN (pre ++ ps)) (endM last) last (out ++ b)
theorem lastN_one (last : Bool) : lastN last < 2 ^ 1 := lastN_lt last
theorem BlkS.stored (s : Nat) (last : Bool) (b : List Int) (hb : AllB b) (hl : b.length ≤ 65535) : BlkS s last (storedW last (up8 (s + 3) - (s + 3)) b) b := by
  have hup : up8 (s + 3) - (s + 3) < 8 ∧ (s + 3 + (up8 (s + 3) - (s + 3))) % 8 = 0 := by unfold up8; omega
  refine ⟨fun y hy => ?_, fun bs pre post most l0 out hs hp hm => ?_⟩
  · unfold storedW at hy
    rcases List.mem_append.1 hy with h | h
    · simp only [List.mem_cons, List.not_mem_nil, or_false] at h
      rcases h with rfl | rfl | rfl | rfl | rfl
      · exact lastN_one last
      · decide
      · exact Nat.two_pow_pos _
      · show b.length < 65536; omega
      · show 65535 - b.length < 65536; omega
    · unfold bytesW at h
      obtain ⟨x, hx, rfl⟩ := List.mem_map.1 h
      have := hb x hx
      show x.toNat < 256; omega
  · have h := stored_steps (s := 0) (most := most) (l0 := l0) (out := out) (last := last) (pad := up8 (s + 3) - (s + 3)) (b := b) (pre := pre) (post := post) hp hb hl hup.1 (by rw [Nat.zero_add, ← hs]; exact hup.2) hm
    simpa using h
theorem BlkS.fixed (s : Nat) (last : Bool) {ts : List Tk} {ws : List (Nat × Nat)} {b : List Int} (hw : TokWs fixL fixD ts ws) (hg : ∀ (most : Nat) (out : List Int), out.length + b.length ≤ most → good (most : Int) ts out ∧ putAll ts out = out ++ b) : BlkS s last ([(lastN last, 1), (1, 2)] ++ (ws ++ [wordZ fixL 256])) b := by
  refine ⟨fun y hy => ?_, fun bs pre post most l0 out hs hp hm => ?_⟩
  · rcases List.mem_append.1 hy with h | h
    · simp only [List.mem_cons, List.not_mem_nil, or_false] at h
      rcases h with rfl | rfl
      · exact lastN_one last
      · decide
    · rcases List.mem_append.1 h with h | h
      · exact hw.lt y h
      · simp only [List.mem_cons, List.not_mem_nil, or_false] at h; subst h; exact wordZ_lt _ _
  · obtain ⟨h1, h2⟩ := hg most out hm
    have h := fixed_steps (s := 0) (l0 := l0) hw hp h1
    rw [h2] at h
    simpa using h
theorem BlkS.dynamic (s : Nat) (last : Bool) {ts : List Tk} {ws : List (Nat × Nat)} {b lit dist code : List Int} {told : Nat} {rs : List (Int × Int)} (hw : TokWs lit dist ts ws) (hl : CodeOk lit) (hd : CodeOk dist) (h256 : HasC lit 256) (hc : CodeW code told rs (lit ++ dist)) (hb : headB lit dist = true)
    (hg : ∀ (most : Nat) (out : List Int), out.length + b.length ≤ most → good (most : Int) ts out ∧ putAll ts out = out ++ b) : BlkS s last ([(lastN last, 1), (2, 2)] ++ (headW lit dist code told rs ++ (ws ++ [wordZ lit 256]))) b := by
  refine ⟨fun y hy => ?_, fun bs pre post most l0 out hs hp hm => ?_⟩
  · rcases List.mem_append.1 hy with h | h
    · simp only [List.mem_cons, List.not_mem_nil, or_false] at h
      rcases h with rfl | rfl
      · exact lastN_one last
      · decide
    · rcases List.mem_append.1 h with h | h
      · exact headW_lt hc hb y h
      · rcases List.mem_append.1 h with h | h
        · exact hw.lt y h
        · simp only [List.mem_cons, List.not_mem_nil, or_false] at h; subst h; exact wordZ_lt _ _
  · obtain ⟨h1, h2⟩ := hg most out hm
    have h := dynamic_steps (s := 0) (l0 := l0) hw hl hd h256 hc hb hp h1
    rw [h2] at h
    simpa using h
/-- What All tells of a stream that is whole. -/
def AllDone (w : World) (n : Nat) (O : List Int) (e : Ending) (w' : World) : Prop :=
  ∃ (oa : Option Addr) (oc : Nat), e = .returned (.tuple #[.slice oa O.length oc, .int .i64 (n : Int), .int .i64 0, .int .i64 0]) ∧ Hid (Reads w' oa O) ∧ Hid (oa = none → oc = 0) ∧ Hid ((convert 22 9 (.slice oa O.length oc)).run Tryz.prog w' = .ok (.string (strOfNums O)) w') ∧ Kept NoB w w'
theorem all_done {w w' : World} {b O : List Int} {M P : Nat} {l : Bool} {e : Ending} (h : InfAllR w b M e w') (hs : Steps b M 0 .block false [] P .fin l O) (hP : (P + 7) / 8 = b.length) : AllDone w b.length O e w' := by
  obtain ⟨p, m, l', o, er, oa, oc, h1, hp, h2, rfl, h3, h4, h5, hk⟩ := h
  have hst : Stuck b M p m l' o := by
    rcases h2 with ⟨hm, _⟩ | ⟨_, he, p1, m1, l1, o1, hi⟩
    · exact .inl hm
    · exact .inr ⟨er, p1, m1, l1, o1, he, hi⟩
  obtain ⟨e1, e2, _, e4⟩ := Steps.det hs trivial (.inl rfl) h1 hst
  subst e1 e2 e4
  have her : er = 0 := by
    rcases h2 with ⟨_, h⟩ | ⟨h, _⟩
    · exact h
    · exact absurd rfl h
  subst her
  refine ⟨oa, oc, ?_, h3, h4, h5, hk⟩
  rw [if_pos rfl, if_pos rfl, hP]
  rfl
end Go.Proofs.YtdpegahcgaicnaaGreatDoor

namespace Go.Proofs.YtdpegahcgaicnaaGreatDoor
open Go.Lib
set_option linter.unusedVariables false

/-- The longest of the first so many, and the nearest of them, above a length. -/
def BestP (c : Nat → Nat) (D n0 n dist : Nat) : Prop :=
  (dist = 0 ∧ n = n0 ∧ ∀ d, 1 ≤ d → d ≤ D → c d ≤ n0) ∨ (1 ≤ dist ∧ dist ≤ D ∧ n = c dist ∧ n0 < n ∧ ∀ d, 1 ≤ d → d ≤ D → c d ≤ n ∧ (d < dist → c d < n))
theorem BestP.start (c : Nat → Nat) (n0 : Nat) : BestP c 0 n0 n0 0 := .inl ⟨rfl, rfl, fun d h1 h2 => by omega⟩
theorem BestP.le {c : Nat → Nat} {D n0 n d : Nat} (h : BestP c D n0 n d) : n0 ≤ n ∧ d ≤ D ∧ (d = 0 → n = n0) ∧ (d ≠ 0 → n0 < n) := by
  rcases h with ⟨rfl, rfl, h⟩ | ⟨h1, h2, h3, h4, h5⟩
  · exact ⟨Nat.le_refl _, Nat.zero_le _, fun _ => rfl, fun h => absurd rfl h⟩
  · exact ⟨by omega, h2, fun h => by omega, fun _ => h4⟩
/-- Those that are no longer change nothing. -/
theorem BestP.skip {c : Nat → Nat} {D D2 n0 n d : Nat} (h : BestP c D n0 n d) (hD : D ≤ D2) (hc : ∀ e, D < e → e ≤ D2 → c e ≤ n) : BestP c D2 n0 n d := by
  rcases h with ⟨rfl, rfl, h⟩ | ⟨h1, h2, h3, h4, h5⟩
  · refine .inl ⟨rfl, rfl, fun e e1 e2 => ?_⟩
    by_cases he : e ≤ D
    · exact h e e1 he
    · exact hc e (by omega) e2
  · refine .inr ⟨h1, by omega, h3, h4, fun e e1 e2 => ?_⟩
    by_cases he : e ≤ D
    · exact h5 e e1 he
    · exact ⟨hc e (by omega) e2, fun h => by omega⟩
theorem BestP.take {c : Nat → Nat} {D n0 n d : Nat} (h : BestP c D n0 n d) (hc : n < c (D + 1)) : BestP c (D + 1) n0 (c (D + 1)) (D + 1) := by
  have hle := h.le
  refine .inr ⟨by omega, Nat.le_refl _, rfl, by omega, fun e e1 e2 => ?_⟩
  by_cases he : e ≤ D
  · have : c e ≤ n := by
      rcases h with ⟨_, rfl, h⟩ | ⟨_, _, _, _, h5⟩
      · exact h e e1 he
      · exact (h5 e e1 he).1
    exact ⟨by omega, fun _ => by omega⟩
  · have : e = D + 1 := by omega
    subst this
    exact ⟨Nat.le_refl _, fun h => by omega⟩
/-- One more is tried. -/
theorem BestP.step {c : Nat → Nat} {D n0 n d : Nat} (h : BestP c D n0 n d) : BestP c (D + 1) n0 (if n < c (D + 1) then c (D + 1) else n) (if n < c (D + 1) then D + 1 else d) := by
  by_cases hc : n < c (D + 1)
  · rw [if_pos hc, if_pos hc]; exact h.take hc
  · rw [if_neg hc, if_neg hc]
    refine h.skip (by omega) (fun e e1 e2 => ?_)
    have : e = D + 1 := by omega
    subst this
    omega
end Go.Proofs.YtdpegahcgaicnaaGreatDoor

namespace Go.Proofs.YtdpegahcgaicnaaGreatDoor
open Go.RowKit
set_option linter.unusedVariables false
set_option linter.unusedSimpArgs false

/-- Bytes from a place on are read. -/
def RdB (w : World) (g o : Nat) (L : List UInt8) (p n : Nat) : Prop := ∀ i, i < n → w.cell? ⟨g, o + i, none⟩ = some (.int .u8 ((L.getD (p + i) 0).toNat : Int))
theorem RdB.kept {w w' : World} {g o p n : Nat} {L : List UInt8} (h : RdB w g o L p n) (hk : Kept NoB w w') : RdB w' g o L p n := fun i hi => hk.cell (h i hi)
theorem RdB.drop {w : World} {g o p n : Nat} {L : List UInt8} (h : RdB w g o L p n) (k : Nat) : RdB w g (o + k) L (p + k) (n - k) := fun i hi => by
  have := h (k + i) (by omega)
  rw [show o + k + i = o + (k + i) by omega, show p + k + i = p + (k + i) by omega]
  exact this
end Go.Proofs.YtdpegahcgaicnaaGreatDoor

namespace Go.Proofs.YtdpegahcgaicnaaGreatDoor
open Go.RowKit
set_option linter.unusedVariables false
set_option linter.unusedSimpArgs false

/-- The table lies as its initialiser laid it. -/
def DeB (w : World) : Prop := ∀ j, j < 64 → w.cell? ⟨0, j, none⟩ = some (.int .u8 ((Lib.deBruijn64tab.getD j 0 : Nat) : Int))
theorem DeB.kept {w w' : World} (h : DeB w) (hk : Kept NoB w w') : DeB w' := fun j hj => hk.cell (h j hj)
end Go.Proofs.YtdpegahcgaicnaaGreatDoor

namespace Go.Proofs.YtdpegahcgaicnaaGreatDoor
open Go.RowKit
set_option linter.unusedVariables false
set_option linter.unusedSimpArgs false
set_option maxRecDepth 20000

def bestC (g o N c a m n d : Nat) : Array Value := #[.slice (some ⟨g, o, none⟩) N c, .int .i64 (a : Int), .int .i64 (m : Int), .int .i64 (n : Int), .int .i64 (d : Int)]
/-- What was found so far. -/
def BestAt (w : World) (r g o N c a m n d : Nat) : Prop := w.heap[r]? = some (.cells (bestC g o N c a m n d) 182 (0, 0))
theorem BestAt.cells {w : World} {r g o N c a m n d : Nat} (h : BestAt w r g o N c a m n d) :
    w.cell? ⟨r, 0, none⟩ = some (.slice (some ⟨g, o, none⟩) N c) ∧ w.cell? ⟨r, 1, none⟩ = some (.int .i64 (a : Int)) ∧ w.cell? ⟨r, 2, none⟩ = some (.int .i64 (m : Int)) ∧ w.cell? ⟨r, 3, none⟩ = some (.int .i64 (n : Int)) ∧ w.cell? ⟨r, 4, none⟩ = some (.int .i64 (d : Int)) :=
  ⟨obj_cell h 0, obj_cell h 1, obj_cell h 2, obj_cell h 3, obj_cell h 4⟩
theorem BestAt.kept {w w' : World} {r g o N c a m n d : Nat} (h : BestAt w r g o N c a m n d) (hk : Kept NoB w w') : BestAt w' r g o N c a m n d := hk.obj h (fun h => h)
end Go.Proofs.YtdpegahcgaicnaaGreatDoor

namespace Go.Proofs.YtdpegahcgaicnaaGreatDoor
open Go.RowKit
set_option linter.unusedVariables false
set_option linter.unusedSimpArgs false

/-- A row of bytes that came in or was made; its block is below n. -/
def RowB (w : World) (n : Nat) (ao : Option Addr) (L : List UInt8) : Prop := 0 < L.length → ∃ g o, ao = some ⟨g, o, none⟩ ∧ g < n ∧ RdB w g o L 0 L.length
theorem RowB.kept {w w' : World} {n : Nat} {ao : Option Addr} {L : List UInt8} (h : RowB w n ao L) (hk : Kept NoB w w') : RowB w' n ao L := fun hl => by
  obtain ⟨g, o, h1, h2, h3⟩ := h hl
  exact ⟨g, o, h1, h2, h3.kept hk⟩
theorem RowB.room {w : World} {n m : Nat} {ao : Option Addr} {L : List UInt8} (h : RowB w n ao L) (hm : n ≤ m) : RowB w m ao L := fun hl => by
  obtain ⟨g, o, h1, h2, h3⟩ := h hl
  exact ⟨g, o, h1, by omega, h3⟩
theorem RdB.keptS {S : Nat → Prop} {w w' : World} {g o p n : Nat} {L : List UInt8} (h : RdB w g o L p n) (hk : Kept S w w') (hs : ¬ S g) : RdB w' g o L p n := fun i hi => by
  have hc := h i hi
  exact (World.cell?_of_block (hk.block _ (World.block_lt_of_cell? w _ hc) hs)).trans hc
theorem DeB.keptS {S : Nat → Prop} {w w' : World} (h : DeB w) (hk : Kept S w w') (hs : ¬ S 0) : DeB w' := fun j hj => by
  have hc := h j hj
  exact (World.cell?_of_block (hk.block _ (World.block_lt_of_cell? w _ hc) hs)).trans hc
theorem BestP.all {c : Nat → Nat} {D D2 n0 n d m : Nat} (h : BestP c D n0 n d) (hD : D ≤ D2) (hm : m ≤ n) (hc : ∀ e, c e ≤ m) : BestP c D2 n0 n d := h.skip hD (fun e _ _ => Nat.le_trans (hc e) hm)
end Go.Proofs.YtdpegahcgaicnaaGreatDoor
