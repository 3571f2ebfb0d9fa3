/-
  An Inflater beside its reader: what is kept from item to item.
  startFixed.
  readBlock: a block's kind.
  readStored, whole.
-/
import Derived.Test.YtdpegahcgaicnaaGreatDoorMh29
namespace Go.Proofs.YtdpegahcgaicnaaGreatDoor
open Go.RowKit
set_option linter.unusedVariables false
set_option linter.unusedSimpArgs false

def LoB (lo : Nat) : Nat → Prop := fun k => lo ≤ k
structure InfS (lo : Nat) (w : World) (D : Nat) (v : IV) (m : Md) (out bs : List Int) (S : Nat → Prop) (R : Nat) (ao : Option Addr) (cap p : Nat) : Prop where
  obj : InfO w D v
  low : lo ≤ D
  lowR : lo ≤ R
  sink : RowU w lo v.sk out
  rest : RowU w lo v.rs bs
  win : ∃ wnd, RowU w lo v.wn wnd ∧ Sfx wnd out ∧ wnd.length < 98304
  sep : ∀ k, v.sk.ownBlock = some k → v.wn.ownBlock ≠ some k
  rd : Rdr w R ao cap bs p
  s : ∀ k, S k → lo ≤ k ∧ k < w.heap.size ∧ k ≠ D ∧ k ≠ R ∧ v.sk.ownBlock ≠ some k ∧ v.wn.ownBlock ≠ some k
  sR : ∀ k, v.rs.ownBlock = some k → S k
  sA : ∀ a, ao = some a → S a.block
  nx : v.nx = nxOf m
  er : v.er = 0
  fit : out.length ≤ v.most
  big : v.most ≤ 9223372036854775807
  all : AllB out
  mode : ModeOk w S v m
  fix : FixOk w S v
theorem InfS.DR {lo : Nat} {w : World} {D : Nat} {v : IV} {m : Md} {out bs : List Int} {S : Nat → Prop} {R : Nat} {ao : Option Addr} {cap p : Nat} (h : InfS lo w D v m out bs S R ao cap p) : D ≠ R := by
  intro e
  have h1 := h.obj
  have h2 := h.rd.1
  unfold InfO at h1
  rw [e, h2] at h1
  simp at h1
theorem InfS.skD {lo : Nat} {w : World} {D : Nat} {v : IV} {m : Md} {out bs : List Int} {S : Nat → Prop} {R : Nat} {ao : Option Addr} {cap p : Nat} (h : InfS lo w D v m out bs S R ao cap p) : ∀ k, v.sk.ownBlock = some k → k ≠ D ∧ k ≠ R :=
  fun k hk => ⟨row_ne h.sink.own h.obj (by decide) k hk, row_ne h.sink.own h.rd.1 (by decide) k hk⟩
theorem InfS.wnD {lo : Nat} {w : World} {D : Nat} {v : IV} {m : Md} {out bs : List Int} {S : Nat → Prop} {R : Nat} {ao : Option Addr} {cap p : Nat} (h : InfS lo w D v m out bs S R ao cap p) : ∀ k, v.wn.ownBlock = some k → k ≠ D ∧ k ≠ R := by
  intro k hk
  obtain ⟨wnd, hw, _⟩ := h.win
  exact ⟨row_ne hw.own h.obj (by decide) k hk, row_ne hw.own h.rd.1 (by decide) k hk⟩
theorem InfS.aoD {lo : Nat} {w : World} {D : Nat} {v : IV} {m : Md} {out bs : List Int} {S : Nat → Prop} {R : Nat} {ao : Option Addr} {cap p : Nat} (h : InfS lo w D v m out bs S R ao cap p) : ∀ k, (Value.slice ao bs.length cap).ownBlock = some k → S k := by
  intro k hk
  cases ao with
  | none => simp [Value.ownBlock] at hk
  | some a =>
    have := h.sA a rfl
    obtain ⟨b, o, sp⟩ := a
    simp [Value.ownBlock] at hk
    rw [← hk]; exact this
theorem ModeOk.kept {S T : Nat → Prop} {w w' : World} {v v' : IV} {m : Md} (h : ModeOk w S v m) (hk : Kept T w w') (hs : ∀ k, S k → ¬ T k) (h1 : v'.lf = v.lf) (h2 : v'.li = v.li) (h3 : v'.di = v.di) : ModeOk w' S v' m := by
  cases m with
  | bytes n => obtain ⟨a, b⟩ := h; exact ⟨h1.trans a, b⟩
  | sym lit dist =>
    obtain ⟨a, b, Dl, Dd, c1, c2, d1, d2⟩ := h
    exact ⟨a, b, Dl, Dd, h2.trans c1, h3.trans c2, d1.kept hk hs, d2.kept hk hs⟩
  | _ => trivial
theorem FixOk.kept {S T : Nat → Prop} {w w' : World} {v v' : IV} (h : FixOk w S v) (hk : Kept T w w') (hs : ∀ k, S k → ¬ T k) (h1 : v'.fl = v.fl) (h2 : v'.fd = v.fd) : FixOk w' S v' := by
  rcases h with h | ⟨a, b, c1, c2, d1, d2⟩
  · exact .inl (h1.trans h)
  · exact .inr ⟨a, b, h1.trans c1, h2.trans c2, d1.kept hk hs, d2.kept hk hs⟩
theorem ModeOk.more {S S' : Nat → Prop} {w : World} {v : IV} {m : Md} (h : ModeOk w S v m) (hs : ∀ k, S k → S' k) : ModeOk w S' v m := by
  cases m with
  | bytes n => exact h
  | sym lit dist =>
    obtain ⟨a, b, Dl, Dd, c1, c2, d1, d2⟩ := h
    exact ⟨a, b, Dl, Dd, c1, c2, d1.mono hs, d2.mono hs⟩
  | _ => trivial
theorem FixOk.more {S S' : Nat → Prop} {w : World} {v : IV} (h : FixOk w S v) (hs : ∀ k, S k → S' k) : FixOk w S' v := by
  rcases h with h | ⟨a, b, c1, c2, d1, d2⟩
  · exact .inl h
  · exact .inr ⟨a, b, c1, c2, d1.mono hs, d2.mono hs⟩
/-- The Inflater's and the reader's own cells alone were written (and new blocks made). -/
theorem InfS.step {lo : Nat} {w w' : World} {D : Nat} {v v' : IV} {m m' : Md} {out bs : List Int} {S S' T : Nat → Prop} {R : Nat} {ao : Option Addr} {cap p q : Nat} (h : InfS lo w D v m out bs S R ao cap p)
    (hk : Kept T w w') (hT : ∀ k, T k → k = D ∨ k = R) (hlo : lo ≤ w.heap.size) (ho : InfO w' D v') (hr : Rdr w' R ao cap bs q) (e1 : v'.sk = v.sk) (e2 : v'.wn = v.wn) (e3 : v'.rs = v.rs) (e4 : v'.most = v.most) (hnx : v'.nx = nxOf m') (her : v'.er = 0)
    (hS : ∀ k, S k → S' k) (hS' : ∀ k, S' k → S k ∨ (w.heap.size ≤ k ∧ k < w'.heap.size)) (hm : ModeOk w' S' v' m') (hf : FixOk w' S' v') : InfS lo w' D v' m' out bs S' R ao cap q := by
  have hsk := h.skD
  have hwn := h.wnD
  have hrs : ∀ k, v.rs.ownBlock = some k → k ≠ D ∧ k ≠ R := fun k hk => ⟨(h.s k (h.sR k hk)).2.2.1, (h.s k (h.sR k hk)).2.2.2.1⟩
  obtain ⟨wnd, hw, hx, hz⟩ := h.win
  refine ⟨ho, h.low, h.lowR, ?_, ?_, ⟨wnd, ?_, hx, hz⟩, ?_, hr, ?_, ?_, ?_, hnx, her, by rw [e4]; exact h.fit, by rw [e4]; exact h.big, h.all, hm, hf⟩
  · rw [e1]; exact h.sink.kept hk (fun k hk1 ht => by have := hsk k hk1; have := hT k ht; omega)
  · rw [e3]; exact h.rest.kept hk (fun k hk1 ht => by have := hrs k hk1; have := hT k ht; omega)
  · rw [e2]; exact hw.kept hk (fun k hk1 ht => by have := hwn k hk1; have := hT k ht; omega)
  · rw [e1, e2]; exact h.sep
  · intro k hk1
    rcases hS' k hk1 with hs | ⟨h1, h2⟩
    · obtain ⟨a, b, c⟩ := h.s k hs
      exact ⟨a, Nat.lt_of_lt_of_le b hk.size, by rw [e1, e2]; exact c⟩
    · have hD := obj_lt h.obj
      have hR := obj_lt h.rd.1
      refine ⟨by omega, h2, by omega, by omega, ?_, ?_⟩
      · rw [e1]; intro e; have := own_lt h.sink.own k e; omega
      · rw [e2]; intro e; have := own_lt hw.own k e; omega
  · rw [e3]; exact fun k hk => hS k (h.sR k hk)
  · exact fun a ha => hS _ (h.sA a ha)
/-- What a call for one item tells, and what it leaves. -/
def ItemW (lo : Nat) (w : World) (D : Nat) (v : IV) (m : Md) (out bs : List Int) (R : Nat) (ao : Option Addr) (cap p : Nat) (er : Int) (w' : World) : Prop :=
  Kept (LoB lo) w w' ∧ ∃ v' m' o' S' p', InfS lo w' D v' m' o' bs S' R ao cap p' ∧ v'.rs = v.rs ∧ v'.fr = v.fr ∧ v'.sp = v.sp ∧ (v'.most = v.most ∧ v'.us = v.us ∧ v'.at_ = v.at_) ∧
    (if er = 0 then Steps bs v.most p m v.la out p' m' v'.la o' ∧ p < p' else (∃ p1 m1 l1 o1, ItemR bs v.most p m v.la out er p1 m1 l1 o1) ∧ o' = out ∧ m' = m ∧ (er = 2 → v'.la = v.la))
/-- Behind the reader alone. -/
theorem InfS.moved {lo : Nat} {w w' : World} {D : Nat} {v : IV} {m : Md} {out bs : List Int} {S T : Nat → Prop} {R : Nat} {ao : Option Addr} {cap p q : Nat} (h : InfS lo w D v m out bs S R ao cap p) (hlo : lo ≤ w.heap.size) (hk : Kept T w w') (hT : ∀ k, T k → k = R) (hr : Rdr w' R ao cap bs q) : InfS lo w' D v m out bs S R ao cap q := by
  have hs : ∀ k, S k → ¬ T k := fun k hs ht => (h.s k hs).2.2.2.1 (hT k ht)
  exact h.step hk (fun k hk => .inr (hT k hk)) hlo (h.obj.kept hk (fun e => h.DR (hT _ e))) hr rfl rfl rfl rfl h.nx h.er (fun _ h => h) (fun _ h => .inl h) (h.mode.kept hk hs rfl rfl rfl) (h.fix.kept hk hs rfl rfl)
/-- An item that fails, with nothing changed but the reader. -/
theorem InfS.fails {lo : Nat} {w w' : World} {D : Nat} {v : IV} {m : Md} {out bs : List Int} {S T : Nat → Prop} {R : Nat} {ao : Option Addr} {cap p q : Nat} (h : InfS lo w D v m out bs S R ao cap p) (hlo : lo ≤ w.heap.size) (hk : Kept T w w') (hT : ∀ k, T k → k = R) (hr : Rdr w' R ao cap bs q) (er : Int) (he : er ≠ 0)
    (hi : ∃ p1 m1 l1 o1, ItemR bs v.most p m v.la out er p1 m1 l1 o1) : ItemW lo w D v m out bs R ao cap p er w' :=
  ⟨hk.mono (fun k _ ht => by have := hT k ht; subst this; exact h.lowR), v, m, out, S, q, h.moved hlo hk hT hr, rfl, rfl, rfl, ⟨rfl, rfl, rfl⟩, by rw [if_neg he]; exact ⟨hi, rfl, rfl, fun _ => rfl⟩⟩
/-- Bytes were put out. -/
theorem InfS.put {lo : Nat} {w w1 w2 : World} {D : Nat} {v : IV} {m : Md} {out bs x wnd' : List Int} {S : Nat → Prop} {R : Nat} {ao : Option Addr} {cap p g : Nat} {sk' wn' : Value} (h : InfS lo w D v m out bs S R ao cap p) (hlo : lo ≤ w.heap.size)
    (hk1 : Kept (OwnB v.wn) w w1) (hg : v.wn.ownBlock = some g ∨ w.heap.size ≤ g) (ho : InfO w2 D { v with sk := sk', wn := wn' }) (hs : RowU w2 lo sk' (out ++ x)) (hw : RowU w2 lo wn' wnd') (hwg : wn'.ownBlock = some g) (hx : Sfx wnd' (out ++ x)) (hl : wnd'.length < 98304)
    (hsep : sk'.ownBlock ≠ some g) (hk2 : Kept (fun j => j = D ∨ j = g ∨ v.sk.ownBlock = some j) w1 w2) (hf : ∀ j, sk'.ownBlock = some j → v.sk.ownBlock = some j ∨ w1.heap.size ≤ j) (hfit : (out ++ x).length ≤ v.most) (hall : AllB x) :
    InfS lo w2 D { v with sk := sk', wn := wn' } m (out ++ x) bs S R ao cap p ∧ Kept (LoB lo) w w2 := by
  have hD := obj_lt h.obj
  have hR := obj_lt h.rd.1
  obtain ⟨wnd, hw0, _, _⟩ := h.win
  have hskl := own_lt h.sink.own
  have hwnl := own_lt hw0.own
  have hsz := hk1.size
  have hS1 : ∀ k, S k → ¬ OwnB v.wn k := fun k hk e => (h.s k hk).2.2.2.2.2 e
  have hS2 : ∀ k, S k → ¬ (k = D ∨ k = g ∨ v.sk.ownBlock = some k) := fun k hk e => by
    obtain ⟨a1, a2, a3, a4, a5, a6⟩ := h.s k hk
    rcases e with e | e | e
    · exact a3 e
    · rcases hg with hg | hg
      · exact a6 (by rw [e]; exact hg)
      · omega
    · exact a5 e
  have hk : Kept (fun j => OwnB v.wn j ∨ j = D ∨ j = g ∨ v.sk.ownBlock = some j) w w2 := (hk1.mono (fun _ _ e => .inl e)).trans (hk2.mono (fun _ _ e => .inr e))
  have hSn : ∀ k, S k → ¬ (OwnB v.wn k ∨ k = D ∨ k = g ∨ v.sk.ownBlock = some k) := fun k hk e => e.elim (hS1 k hk) (hS2 k hk)
  have hRn : ¬ (OwnB v.wn R ∨ R = D ∨ R = g ∨ v.sk.ownBlock = some R) := fun e => by
    rcases e with e | e | e | e
    · exact (h.wnD R e).2 rfl
    · exact h.DR e.symm
    · rcases hg with hg | hg
      · exact (h.wnD g hg).2 e.symm
      · omega
    · exact (h.skD R e).2 rfl
  refine ⟨⟨ho, h.low, h.lowR, hs, ?_, ⟨wnd', hw, hx, hl⟩, ?_, ?_, ?_, h.sR, h.sA, h.nx, h.er, hfit, h.big, ?_, h.mode.kept hk hSn rfl rfl rfl, h.fix.kept hk hSn rfl rfl⟩, hk.mono ?_⟩
  · exact h.rest.kept hk (fun k hk1 => hSn k (h.sR k hk1))
  · intro k hk1 hk2
    rw [hwg] at hk2
    exact hsep (by rw [hk2]; exact hk1)
  · exact h.rd.kept hk hRn (fun k hk1 => hSn k (h.aoD k hk1))
  · intro k hk1
    obtain ⟨a1, a2, a3, a4, a5, a6⟩ := h.s k hk1
    have hz := hk.size
    refine ⟨a1, by omega, a3, a4, ?_, ?_⟩
    · intro e
      rcases hf k e with e | e
      · exact a5 e
      · omega
    · intro e
      rw [hwg] at e
      rcases hg with hg | hg
      · exact a6 (by rw [hg]; exact e)
      · have : g = k := Option.some.inj e
        omega
  · intro b hb
    rcases List.mem_append.1 hb with hb | hb
    · exact h.all b hb
    · exact hall b hb
  · intro k hkl e
    rcases e with e | e | e | e
    · exact hw0.fresh k e
    · exact e ▸ h.low
    · rcases hg with hg | hg
      · exact e ▸ hw0.fresh g hg
      · omega
    · exact h.sink.fresh k e
theorem Sfx.app {wnd out x : List Int} (h : Sfx wnd out) : Sfx (wnd ++ x) (out ++ x) := by
  obtain ⟨⟨pre, h1⟩, h2⟩ := h
  refine ⟨⟨pre, by rw [h1, List.append_assoc]⟩, ?_⟩
  rcases h2 with h2 | h2
  · exact .inl (by rw [h2])
  · exact .inr (by rw [List.length_append]; omega)
theorem Sfx.cut {wnd out : List Int} (h : Sfx wnd out) (k : Nat) (hk : k + 32768 ≤ wnd.length) : Sfx (wnd.drop k) out := by
  obtain ⟨⟨pre, h1⟩, h2⟩ := h
  exact ⟨⟨pre ++ wnd.take k, by rw [h1, List.append_assoc, List.take_append_drop]⟩, .inr (by rw [List.length_drop]; omega)⟩
end Go.Proofs.YtdpegahcgaicnaaGreatDoor

namespace Go.Proofs.YtdpegahcgaicnaaGreatDoor
open Go.RowKit
set_option linter.unusedVariables false
set_option linter.unusedSimpArgs false

theorem TwoZ.A {w0 w : World} {G n H m : Nat} {L M : List Int} (h : TwoZ w0 w G n H m L M) (hl : L.length = n) : RdI w w.heap.size (some ⟨G, 0, none⟩) L := h.a.reads hl
theorem TwoZ.B {w0 w : World} {G n H m : Nat} {L M : List Int} (h : TwoZ w0 w G n H m L M) (hl : M.length = m) : RdI w w.heap.size (some ⟨H, 0, none⟩) M := h.b.reads hl
theorem TwoZ.BG {w0 w : World} {G n H m : Nat} {L M : List Int} (h : TwoZ w0 w G n H m L M) (hl : M.length = m) : RdG w (fun k => k = H) (some ⟨H, 0, none⟩) M := fun i hi => by
  obtain ⟨g, o, e, _, hc⟩ := h.B hl i hi
  cases e
  exact ⟨H, 0, rfl, rfl, hc⟩
set_option maxRecDepth 20000 in
set_option maxHeartbeats 4000000 in
theorem startFixed_any2 {w : World} {D : Nat} {v : IV} (h : InfO w D v) (a b : Addr) (hfl : v.fl = some a) (hfd : v.fd = some b) :
    Calls Tryz.prog 139 #[.pointer (some ⟨D, 0, none⟩)] w fun e w' => e = .returned (.tuple #[]) ∧ InfO w' D { v with li := some a, di := some b, nx := 4 } ∧ Kept (OneB D) w w' := by
  have ho := h
  have c9 := ho.c9
  have c10 := ho.c10
  have c6 := ho.c6
  have c11 := ho.c11
  have c12 := ho.c12
  rw [hfl] at c11
  rw [hfd] at c12
  have f6 := ho.free 6
  have f9 := ho.free 9
  have f10 := ho.free 10
  have HO := Lib.hid ho
  clear ho h hfl hfd
  go_enter Tryz.func139, Tryz.ntmps139
  go_upto_region 4 with fail
  go_region
  all_goals go_wp2
  refine bodyPost_end (results_none rfl _ _ _) rfl ?_
  exact ⟨rfl, ((HO.out.setLi (some a)).setDi (some b)).setNx 4, Kept.drew (Kept.setCell (p := ⟨D, 6, none⟩) (Kept.setCell (p := ⟨D, 10, none⟩) (Kept.setCell (p := ⟨D, 9, none⟩) (Kept.refl (OneB D) w) (.inl rfl) _) (.inl rfl) _) (.inl rfl) _)⟩
set_option maxRecDepth 20000 in
set_option maxHeartbeats 4000000 in
theorem startFixed_none {w : World} {D : Nat} {v : IV} (h : InfO w D v) (hfl : v.fl = none) :
    Calls Tryz.prog 139 #[.pointer (some ⟨D, 0, none⟩)] w fun e w' => e = .returned (.tuple #[]) ∧ ∃ Fl Fd, InfO w' D { v with li := some ⟨Fl, 0, none⟩, di := some ⟨Fd, 0, none⟩, fl := some ⟨Fl, 0, none⟩, fd := some ⟨Fd, 0, none⟩, nx := 4 } ∧ Kept (OneB D) w w' ∧
      DecG fixL Fl (fun k => w.heap.size ≤ k ∧ k < w'.heap.size) w' ∧ DecG fixD Fd (fun k => w.heap.size ≤ k ∧ k < w'.heap.size) w' := by
  have c11 := h.c11
  rw [hfl] at c11
  have hDl := obj_lt h
  have HO := Lib.hid h
  have HF := Lib.hid (fixed_any w)
  have HNL := Lib.hid (fun (W : World) (G B : Nat) (hr : RdI W B (some ⟨G, 0, none⟩) fixL) => new_calls2 (some ⟨G, 0, none⟩) 288 B fixL W hr fixL_ok.2.1 fixL_ok.1 fixL_ok.2.2)
  have HND := Lib.hid (fun (W : World) (G B : Nat) (hr : RdI W B (some ⟨G, 0, none⟩) fixD) => new_calls2 (some ⟨G, 0, none⟩) 32 B fixD W hr fixD_ok.2.1 fixD_ok.1 fixD_ok.2.2)
  rw [fixL_len] at HNL
  rw [fixD_len] at HND
  clear h hfl
  go_enter Tryz.func139, Tryz.ntmps139
  go_wp2_with fail
  refine HF.out.mono ?_
  rintro e w1 ⟨G, H, rfl, hT⟩
  have HT := Lib.hid hT
  clear hT HF
  go_wp2_with fail
  refine (HNL.out w1 G w1.heap.size (HT.out.A fixL_len)).mono ?_
  rintro e w2 ⟨Fl, rfl, hd2, hk2⟩
  have ho2 := (HO.out.kept HT.out.k (fun e => e)).kept hk2 (fun e => e)
  have c11' := ho2.c11
  have f11 := ho2.free 11
  have HO2 := Lib.hid (ho2.setFl (some ⟨Fl, 0, none⟩))
  have HD2 := Lib.hid hd2; have HK2 := Lib.hid (HT.out.k.trans hk2)
  have HRD := Lib.hid ((HT.out.BG fixD_len).kept hk2 (fun _ _ e => e))
  clear ho2 hd2 hk2 c11
  go_upto_region 3 with fail
  obtain ⟨w3, hw3⟩ : ∃ w3, w3 = w2.setCell ⟨D, 11, none⟩ (.pointer (some ⟨Fl, 0, none⟩)) := ⟨_, rfl⟩
  rw [← hw3] at HO2 ⊢
  have hk3 : Kept (OneB D) w2 w3 := by rw [hw3]; exact Kept.setCell (S := OneB D) (p := ⟨D, 11, none⟩) (Kept.refl _ w2) (.inl rfl) _
  have HK3 := Lib.hid hk3
  have hHD : H ≠ D := by have := HT.out.h; omega
  have HRD3 := Lib.hid ((HRD.out.kept hk3 (fun k hk e => hHD (hk.symm.trans e))).room)
  clear hw3 hk3 c11' f11
  go_wp2_with fail
  refine (HND.out w3 H _ HRD3.out).mono ?_
  rintro e w4 ⟨Fd, rfl, hd4, hk4⟩
  have ho4 := HO2.out.kept hk4 (fun e => e)
  have c12' := ho4.c12
  have f12 := ho4.free 12
  have ho5 := ho4.setFd (some ⟨Fd, 0, none⟩)
  have HO5 := Lib.hid ho5
  have HD4 := Lib.hid hd4; have HK4 := Lib.hid hk4
  clear ho4 hd4 hk4
  go_upto_region 4 with fail
  obtain ⟨w5, hw5⟩ : ∃ w5, w5 = w4.setCell ⟨D, 12, none⟩ (.pointer (some ⟨Fd, 0, none⟩)) := ⟨_, rfl⟩
  rw [← hw5] at HO5 ho5 ⊢
  have HK5 : Hid (Kept (OneB D) w4 w5) := by rw [hw5]; exact Kept.setCell (S := OneB D) (p := ⟨D, 12, none⟩) (Kept.refl _ w4) (.inl rfl) _
  have e11 := ho5.c11
  have e12 := ho5.c12
  have e9 := ho5.c9
  have e10 := ho5.c10
  have e6 := ho5.c6
  have g6 := ho5.free 6
  have g9 := ho5.free 9
  have g10 := ho5.free 10
  simp only at e11 e12 e9 e10 e6
  clear hw5 ho5 c12' f12
  go_region
  all_goals go_wp2
  refine bodyPost_end (results_none rfl _ _ _) rfl ?_
  have hk6 : Kept (OneB D) w5 ((((w5.setCell ⟨D, 9, none⟩ (.pointer (some ⟨Fl, 0, none⟩))).setCell ⟨D, 10, none⟩ (.pointer (some ⟨Fd, 0, none⟩))).setCell ⟨D, 6, none⟩ (.int .i64 4)).drew) := Kept.drew (Kept.setCell (p := ⟨D, 6, none⟩) (Kept.setCell (p := ⟨D, 10, none⟩) (Kept.setCell (p := ⟨D, 9, none⟩) (Kept.refl (OneB D) w5) (.inl rfl) _) (.inl rfl) _) (.inl rfl) _)
  have hF : ∀ {S : Nat → Prop} {a b : World}, Kept NoB a b → Kept S a b := fun h => h.mono (fun _ _ e => e.elim)
  have k45 := (HK5.out.trans hk6)
  have k25 := (HK3.out.trans (hF HK4.out)).trans k45
  have k05 := (hF HK2.out).trans k25
  have z1 := HT.out.k.size
  have z2 := HK2.out.size
  have z3 := HK3.out.size
  have z4 := HK4.out.size
  have z5 := k45.size
  refine ⟨rfl, Fl, Fd, ((HO5.out.setLi _).setDi _).setNx 4, k05, ?_, ?_⟩
  · refine ((HD2.out.toG.inH).kept k25 (fun k hk e => ?_)).mono (fun k hk => ⟨by omega, ?_⟩)
    · unfold OneB at e; omega
    · have := k25.size; omega
  · refine ((HD4.out.toG.inH).kept k45 (fun k hk e => ?_)).mono (fun k hk => ⟨by omega, by omega⟩)
    unfold OneB at e; omega
end Go.Proofs.YtdpegahcgaicnaaGreatDoor

namespace Go.Proofs.YtdpegahcgaicnaaGreatDoor
open Go.RowKit
set_option linter.unusedVariables false
set_option linter.unusedSimpArgs false

/-- The mode turned, the cells beside it, by the Inflater's own cells alone. -/
theorem InfS.turn {lo : Nat} {w w1 w2 : World} {D : Nat} {v v' : IV} {m m' : Md} {out bs : List Int} {S S' : Nat → Prop} {R : Nat} {ao : Option Addr} {cap p q : Nat} (h : InfS lo w D v m out bs S R ao cap p) (hlo : lo ≤ w.heap.size)
    (hk1 : Kept (OneB R) w w1) (hr : Rdr w1 R ao cap bs q) (hk2 : Kept (OneB D) w1 w2) (ho : InfO w2 D v') (e1 : v'.sk = v.sk) (e2 : v'.wn = v.wn) (e3 : v'.rs = v.rs) (e4 : v'.most = v.most) (hnx : v'.nx = nxOf m') (her : v'.er = 0)
    (hS : ∀ k, S k → S' k) (hS' : ∀ k, S' k → S k ∨ (w.heap.size ≤ k ∧ k < w2.heap.size)) (hm : ModeOk w2 S' v' m') (hf : FixOk w2 S' v') : InfS lo w2 D v' m' out bs S' R ao cap q ∧ Kept (LoB lo) w w2 := by
  have hk : Kept (fun k => k = D ∨ k = R) w w2 := (hk1.mono (fun _ _ e => .inr e)).trans (hk2.mono (fun _ _ e => .inl e))
  refine ⟨h.step hk (fun _ e => e) hlo ho (hr.kept hk2 (fun e => h.DR e.symm) (fun k hk3 e => ?_)) e1 e2 e3 e4 hnx her hS hS' hm hf, hk.mono (fun k _ e => ?_)⟩
  · exact (h.s k (h.aoD k hk3)).2.2.1 e
  · rcases e with e | e
    · exact e ▸ h.low
    · exact e ▸ h.lowR
theorem InfS.fixAt {lo : Nat} {w w1 w2 : World} {D : Nat} {v v' : IV} {m : Md} {out bs : List Int} {S : Nat → Prop} {R : Nat} {ao : Option Addr} {cap p : Nat} (h : InfS lo w D v m out bs S R ao cap p) (hk1 : Kept (OneB R) w w1) (hk2 : Kept (OneB D) w1 w2) (e1 : v'.fl = v.fl) (e2 : v'.fd = v.fd) : FixOk w2 S v' :=
  h.fix.kept ((hk1.mono (fun _ _ e => .inr e)).trans (hk2.mono (T := fun k => k = D ∨ k = R) (fun _ _ e => .inl e))) (fun k hs e => e.elim (h.s k hs).2.2.1 (h.s k hs).2.2.2.1) e1 e2
theorem ItemR.block_at {bs : List Int} {most p : Nat} {l l' : Bool} {out : List Int} {k b : Nat} (hp : p + 3 ≤ 8 * bs.length) (hx : bitsAt bs p 3 = 2 * k + b) (hb : b < 2) (hl : l' = ((b : Int) == 1)) :
    ItemR bs most p .block l out (if k < 3 then 0 else 6) (p + 3) (if k = 0 then .stored else if k = 1 then .sym fixL fixD else .head) l' out := by
  have hl2 : l' = ((2 * k + b) % 2 == 1) := by
    rw [hl]
    have : b = 0 ∨ b = 1 := by omega
    rcases this with rfl | rfl <;> simp <;> omega
  unfold ItemR
  dsimp only
  rw [hx, if_neg (by omega), show (2 * k + b) / 2 = k by omega]
  by_cases k0 : k = 0
  · rw [if_pos k0, if_pos (by omega), if_pos k0]; exact ⟨rfl, rfl, rfl, hl2, rfl⟩
  · rw [if_neg k0, if_neg k0]
    by_cases k1 : k = 1
    · rw [if_pos k1, if_pos (by omega), if_pos k1]; exact ⟨rfl, rfl, rfl, hl2, rfl⟩
    · rw [if_neg k1, if_neg k1]
      by_cases k2 : k = 2
      · rw [if_pos k2, if_pos (by omega)]; exact ⟨rfl, rfl, rfl, hl2, rfl⟩
      · rw [if_neg k2, if_neg (by omega)]
set_option maxRecDepth 20000 in
set_option maxHeartbeats 4000000 in
theorem readBlock_any {lo : Nat} {w : World} {D : Nat} {v : IV} {out bs : List Int} {S : Nat → Prop} {R : Nat} {ao : Option Addr} {cap p : Nat} (h : InfS lo w D v .block out bs S R ao cap p) (hlo : lo ≤ w.heap.size) :
    Calls Tryz.prog 124 #[.pointer (some ⟨D, 0, none⟩), .pointer (some ⟨R, 0, none⟩)] w fun e w' => ∃ er, e = .returned (.int .i64 er) ∧ ItemW lo w D v .block out bs R ao cap p er w' := by
  by_cases hsh : 8 * bs.length < p + 3
  · have HT := Lib.hid (take_no w R ao cap bs p 3 h.rd (.inr (.inr (by omega))))
    have H := Lib.hid h; have HSh := Lib.hid hsh
    clear h hsh
    go_enter Tryz.func124, Tryz.ntmps124
    go_wp2_with fail
    refine HT.out.mono ?_
    rintro e w1 ⟨rfl, hk⟩
    have HK := Lib.hid hk
    clear hk HT
    go_wp2
    go_ret
    exact ⟨2, rfl, H.out.fails hlo HK.out (fun _ e => e.elim) (H.out.rd.keptNo HK.out) 2 (by decide) ⟨0, .fin, false, [], by unfold ItemR; dsimp only; rw [if_pos HSh.out]⟩⟩
  · have HT := Lib.hid (take_yes w R ao cap bs p 3 h.rd (by decide) (by omega))
    have hlt := bitsAt_lt bs p 3
    obtain ⟨x, hx⟩ : ∃ x, x = bitsAt bs p 3 := ⟨_, rfl⟩
    rw [← hx] at HT hlt
    obtain ⟨k, b, hb, hxk⟩ : ∃ k b : Nat, b < 2 ∧ x = 2 * k + b := ⟨x / 2, x % 2, by omega, by omega⟩
    obtain ⟨l, hl⟩ : ∃ l : Bool, l = ((b : Int) == 1) := ⟨_, rfl⟩
    have hk4 : k < 4 := by omega
    have HI := Lib.hid (ItemR.block_at (most := v.most) (l := v.la) (out := out) (by omega) (hx.symm.trans hxk) hb hl)
    have e1 : bits .and .u32 (x : Int) 1 = (b : Int) := by rw [and1_u32d x (by omega)]; omega
    have e2 : (x : Int) / 2 = (k : Int) := by omega
    have hl' := hl.symm
    have hl2 : decide ((b : Int) = 1) = l := by rw [hl]; rfl
    have hnp : p < p + 3 := by omega
    have H := Lib.hid h
    clear h hx hxk hsh hlt hl
    go_enter Tryz.func124, Tryz.ntmps124
    go_wp2_with fail
    refine HT.out.mono ?_
    rintro e w1 ⟨rfl, hr1, hk1⟩
    have HR1 := Lib.hid hr1; have HK1 := Lib.hid hk1
    clear hr1 hk1 HT
    have ho1 := H.out.obj.kept HK1.out (fun e => H.out.DR e)
    have c7 := ho1.c7
    have f7 := ho1.free 7
    have ho2 := ho1.setLa l
    have HO1 := Lib.hid ho1
    obtain ⟨w2, hw2⟩ : ∃ w2, w2 = w1.setCell ⟨D, 7, none⟩ (.bool l) := ⟨_, rfl⟩
    have hk2 : Kept (OneB D) w1 w2 := by rw [hw2]; exact Kept.setCell (S := OneB D) (p := ⟨D, 7, none⟩) (Kept.refl _ w1) (.inl rfl) _
    rw [← hw2] at ho2
    have HO2 := Lib.hid ho2
    have HK2 := Lib.hid hk2
    have c6 := ho2.c6
    have f6 := ho2.free 6
    have HW2 := Lib.hid hw2
    simp only at c6
    clear ho1 ho2 hk2 hw2
    have hnx : v.nx = 0 := H.out.nx
    go_upto_region 5 with fail
    rw [← HW2.out]
    have hk4' : k = 0 ∨ k = 1 ∨ k = 2 ∨ k = 3 := by omega
    rcases hk4' with rfl | rfl | rfl | rfl
    · have e2' : (x : Int) / 2 = 0 := e2
      have ho3 := HO2.out.setNx 1
      have hk3 : Kept (OneB D) w2 (w2.setCell ⟨D, 6, none⟩ (.int .i64 1)) := Kept.setCell (S := OneB D) (p := ⟨D, 6, none⟩) (Kept.refl _ w2) (.inl rfl) _
      have HO3 := Lib.hid ho3; have HK3 := Lib.hid (HK2.out.trans hk3)
      clear ho3 hk3 e2
      go_wp2
      go_ret
      have hT := H.out.turn hlo HK1.out HR1.out HK3.out HO3.out rfl rfl rfl rfl (m' := .stored) rfl H.out.er (fun _ e => e) (fun _ e => .inl e) trivial (H.out.fixAt HK1.out HK3.out rfl rfl)
      refine ⟨0, rfl, hT.2, _, _, _, _, _, hT.1, rfl, rfl, rfl, ⟨rfl, rfl, rfl⟩, ?_⟩
      rw [if_pos rfl]
      exact ⟨Steps.one HI.out, hnp⟩
    · have e2' : (x : Int) / 2 = 1 := e2
      have HSt : Hid (Calls Tryz.prog 139 #[.pointer (some ⟨D, 0, none⟩)] w2 fun e w' => e = .returned (.tuple #[]) ∧ ItemW lo w D v .block out bs R ao cap p 0 w') := by
        rcases H.out.fix with hfl | ⟨Fl, Fd, hfl, hfd, g1, g2⟩
        · refine (startFixed_none HO2.out hfl).mono ?_
          rintro e w3 ⟨rfl, Fl, Fd, ho3, hk3, d1, d2⟩
          refine ⟨rfl, ?_⟩
          have hk13 := HK2.out.trans hk3
          have z1 := HK1.out.size
          have z2 := HK2.out.size
          have hz : ∀ k, w2.heap.size ≤ k ∧ k < w3.heap.size → S k ∨ (w.heap.size ≤ k ∧ k < w3.heap.size) := fun k hk => .inr ⟨by omega, hk.2⟩
          have hT := H.out.turn hlo HK1.out HR1.out hk13 ho3 rfl rfl rfl rfl (m' := .sym fixL fixD) rfl H.out.er (S' := fun k => S k ∨ (w.heap.size ≤ k ∧ k < w3.heap.size)) (fun _ e => .inl e) (fun _ e => e) ⟨fixL_ok, fixD_ok, Fl, Fd, rfl, rfl, d1.mono hz, d2.mono hz⟩ (.inr ⟨Fl, Fd, rfl, rfl, d1.mono hz, d2.mono hz⟩)
          refine ⟨hT.2, _, _, _, _, _, hT.1, rfl, rfl, rfl, ⟨rfl, rfl, rfl⟩, ?_⟩
          rw [if_pos rfl]
          exact ⟨Steps.one HI.out, hnp⟩
        · refine (startFixed_any2 HO2.out _ _ hfl hfd).mono ?_
          rintro e w3 ⟨rfl, ho3, hk3⟩
          refine ⟨rfl, ?_⟩
          have hk13 := HK2.out.trans hk3
          have hfx := H.out.fixAt (v' := { v with la := l, li := some ⟨Fl, 0, none⟩, di := some ⟨Fd, 0, none⟩, nx := 4 }) HK1.out hk13 rfl rfl
          have hmd : DecG fixL Fl S w3 ∧ DecG fixD Fd S w3 := by
            rcases hfx with e | ⟨a, b, ea, eb, x1, x2⟩
            · rw [show v.fl = some _ from hfl] at e; cases e
            · rw [show v.fl = some _ from hfl] at ea
              rw [show v.fd = some _ from hfd] at eb
              cases ea; cases eb
              exact ⟨x1, x2⟩
          have hT := H.out.turn hlo HK1.out HR1.out hk13 ho3 rfl rfl rfl rfl (m' := .sym fixL fixD) rfl H.out.er (fun _ e => e) (fun _ e => .inl e) ⟨fixL_ok, fixD_ok, Fl, Fd, rfl, rfl, hmd.1, hmd.2⟩ hfx
          refine ⟨hT.2, _, _, _, _, _, hT.1, rfl, rfl, rfl, ⟨rfl, rfl, rfl⟩, ?_⟩
          rw [if_pos rfl]
          exact ⟨Steps.one HI.out, hnp⟩
      clear e2
      go_wp2_with fail
      refine HSt.out.mono ?_
      rintro e w3 ⟨rfl, hW⟩
      have HW := Lib.hid hW
      clear hW
      go_wp2
      go_ret
      exact ⟨0, rfl, HW.out⟩
    · have e2' : (x : Int) / 2 = 2 := e2
      have ho3 := HO2.out.setNx 3
      have hk3 : Kept (OneB D) w2 (w2.setCell ⟨D, 6, none⟩ (.int .i64 3)) := Kept.setCell (S := OneB D) (p := ⟨D, 6, none⟩) (Kept.refl _ w2) (.inl rfl) _
      have HO3 := Lib.hid ho3; have HK3 := Lib.hid (HK2.out.trans hk3)
      clear ho3 hk3 e2
      go_wp2
      go_ret
      have hT := H.out.turn hlo HK1.out HR1.out HK3.out HO3.out rfl rfl rfl rfl (m' := .head) rfl H.out.er (fun _ e => e) (fun _ e => .inl e) trivial (H.out.fixAt HK1.out HK3.out rfl rfl)
      refine ⟨0, rfl, hT.2, _, _, _, _, _, hT.1, rfl, rfl, rfl, ⟨rfl, rfl, rfl⟩, ?_⟩
      rw [if_pos rfl]
      exact ⟨Steps.one HI.out, hnp⟩
    · have e2' : (x : Int) / 2 = 3 := e2
      clear e2
      go_wp2
      go_ret
      have hT := H.out.turn hlo HK1.out HR1.out HK2.out HO2.out rfl rfl rfl rfl (m' := .block) H.out.nx H.out.er (fun _ e => e) (fun _ e => .inl e) trivial (H.out.fixAt HK1.out HK2.out rfl rfl)
      refine ⟨6, rfl, hT.2, _, _, _, _, _, hT.1, rfl, rfl, rfl, ⟨rfl, rfl, rfl⟩, ?_⟩
      rw [if_neg (by decide)]
      exact ⟨⟨_, _, _, _, HI.out⟩, rfl, rfl, fun e => absurd e (by decide)⟩
end Go.Proofs.YtdpegahcgaicnaaGreatDoor

namespace Go.Proofs.YtdpegahcgaicnaaGreatDoor
open Go.RowKit
set_option linter.unusedVariables false
set_option linter.unusedSimpArgs false

set_option maxRecDepth 20000 in
set_option maxHeartbeats 4000000 in
theorem readStored_yes {lo : Nat} {w : World} {D : Nat} {v : IV} {out bs : List Int} {S : Nat → Prop} {R : Nat} {ao : Option Addr} {cap p : Nat} (h : InfS lo w D v .stored out bs S R ao cap p) (hlo : lo ≤ w.heap.size) (hp : up8 p + 32 ≤ 8 * bs.length) (hne : bitsAt bs (up8 p) 16 + bitsAt bs (up8 p + 16) 16 = 65535) :
    Calls Tryz.prog 125 #[.pointer (some ⟨D, 0, none⟩), .pointer (some ⟨R, 0, none⟩)] w fun e w' => ∃ er, e = .returned (.int .i64 er) ∧ ItemW lo w D v .stored out bs R ao cap p er w' := by
  have hi : ItemR bs v.most p .stored v.la out 0 (up8 p + 32) (if bitsAt bs (up8 p) 16 = 0 then endM v.la else .bytes (bitsAt bs (up8 p) 16)) v.la out := by
    unfold ItemR
    dsimp only
    rw [if_neg (by omega), if_neg (by omega)]
    exact ⟨rfl, rfl, rfl, rfl, rfl⟩
  have HA := Lib.hid (ralign_any w R ao cap bs p h.rd)
  have hlt := bitsAt_lt bs (up8 p) 32
  have hpp : p < up8 p + 32 := by unfold up8; omega
  rw [← bits_low, ← bits_high] at hne
  rw [← bits_low] at hi
  obtain ⟨x, hx⟩ : ∃ x, x = bitsAt bs (up8 p) 32 := ⟨_, rfl⟩
  have HT : Hid (∀ w, Rdr w R ao cap bs (up8 p) → Calls Tryz.prog 105 #[.pointer (some ⟨R, 0, none⟩), .int .i64 32] w fun e w' => e = .returned (.tuple #[.int .u32 (x : Nat), .bool true]) ∧ Rdr w' R ao cap bs (up8 p + 32) ∧ Kept (OneB R) w w') := Lib.hid fun w hw => by rw [hx]; exact take_yes w R ao cap bs (up8 p) 32 hw (by omega) hp
  rw [← hx] at hlt hne hi
  obtain ⟨a, ha⟩ : ∃ a, a = x % 65536 := ⟨_, rfl⟩
  rw [← ha] at hi
  have HI := Lib.hid hi
  obtain ⟨y, hy⟩ : ∃ y, y = 4294967295 - x := ⟨_, rfl⟩
  have e1 : bits .and .u32 (x : Int) 65535 = (a : Int) := by rw [and16 x (by omega), ha]
  have e2 : bits .xor .u32 IntKind.u32.max (x : Int) = (y : Int) := by rw [not32 x (by omega), hy]
  have e3 : (y : Int) / 65536 = (a : Int) := by omega
  have ha2 : a < 65536 := by omega
  have e5 : IntKind.i64.wrap (a : Int) = a := IntWalk.i64_in _ (by omega)
  have H := Lib.hid h
  clear h hp hx ha hy hne hlt hi
  go_enter Tryz.func125, Tryz.ntmps125
  go_wp2_with fail
  refine HA.out.mono ?_
  rintro e w1 ⟨rfl, hr1, hk1⟩
  have HT1 := Lib.hid (HT.out w1 hr1); have HK1 := Lib.hid hk1
  clear hr1 hk1 HA HT
  go_wp2_with fail
  refine HT1.out.mono ?_
  rintro e w2 ⟨rfl, hr2, hk2⟩
  have HK := Lib.hid (HK1.out.trans hk2)
  have HR := Lib.hid hr2
  clear hr2 hk2 HK1 HT1
  have hI2 : InfO w2 D v := H.out.obj.kept HK.out (fun e => H.out.DR e)
  have c8 := hI2.c8
  have f8 := hI2.free 8
  have hI3 := hI2.setLf (a : Int)
  obtain ⟨w3, hw3⟩ : ∃ w3, w3 = w2.setCell ⟨D, 8, none⟩ (.int .i64 (a : Int)) := ⟨_, rfl⟩
  have hk3 : Kept (OneB D) w2 w3 := by rw [hw3]; exact Kept.setCell (S := OneB D) (p := ⟨D, 8, none⟩) (Kept.refl _ w2) (.inl rfl) _
  rw [← hw3] at hI3
  have c6 := hI3.c6
  have f6 := hI3.free 6
  have hI4 := hI3.setNx 2
  obtain ⟨w4, hw4⟩ : ∃ w4, w4 = w3.setCell ⟨D, 6, none⟩ (.int .i64 2) := ⟨_, rfl⟩
  have hk4 : Kept (OneB D) w3 w4 := by rw [hw4]; exact Kept.setCell (S := OneB D) (p := ⟨D, 6, none⟩) (Kept.refl _ w3) (.inl rfl) _
  rw [← hw4] at hI4
  have d8 := hI4.c8
  simp only at c6 d8
  have HW3 := Lib.hid hw3; have HW4 := Lib.hid hw4; have HK34 := Lib.hid (hk3.trans hk4); have HI4 := Lib.hid hI4
  clear hw3 hw4 hI2 hI3 hI4 hk3 hk4
  have e4 : ((a : Int) != (a : Int)) = false := by simp
  go_upto_region 6 with fail
  go_upto_region 8 with fail
  any_goals (exfalso; simp_all; done)
  go_upto_region 9 with fail
  rw [← HW3.out]
  go_upto_region 10 with fail
  rw [← HW4.out]
  clear c8 f8 c6 f6
  by_cases h0 : a = 0
  · subst h0
    have HE := Lib.hid (endBlock_any w4 D _ HI4.out)
    go_wp2_with fail
    refine HE.out.mono ?_
    rintro e w5 ⟨rfl, ho5, hk5⟩
    have HO5 := Lib.hid ho5; have HK5 := Lib.hid hk5
    clear ho5 hk5
    go_wp2
    go_ret
    have hT := H.out.turn hlo HK.out HR.out (HK34.out.trans HK5.out) HO5.out rfl rfl rfl rfl (m' := endM v.la) (endM_nx _).symm H.out.er (fun _ e => e) (fun _ e => .inl e) (by cases hla : v.la <;> trivial) (H.out.fixAt HK.out (HK34.out.trans HK5.out) rfl rfl)
    refine ⟨0, rfl, hT.2, _, _, _, _, _, hT.1, rfl, rfl, rfl, ⟨rfl, rfl, rfl⟩, ?_⟩
    rw [if_pos rfl]
    have hi := HI.out
    first | rw [if_pos rfl] at hi | rw [if_pos trivial] at hi
    exact ⟨Steps.one hi, hpp⟩
  · have e8 : ((a : Int) == 0) = false := by simpa using h0
    go_wp2
    go_ret
    have hT := H.out.turn hlo HK.out HR.out HK34.out HI4.out rfl rfl rfl rfl (m' := .bytes a) rfl H.out.er (fun _ e => e) (fun _ e => .inl e) ⟨rfl, by omega, by omega⟩ (H.out.fixAt HK.out HK34.out rfl rfl)
    refine ⟨0, rfl, hT.2, _, _, _, _, _, hT.1, rfl, rfl, rfl, ⟨rfl, rfl, rfl⟩, ?_⟩
    rw [if_pos rfl]
    have hi := HI.out
    rw [if_neg h0] at hi
    exact ⟨Steps.one hi, hpp⟩
theorem readStored_any {lo : Nat} {w : World} {D : Nat} {v : IV} {out bs : List Int} {S : Nat → Prop} {R : Nat} {ao : Option Addr} {cap p : Nat} (h : InfS lo w D v .stored out bs S R ao cap p) (hlo : lo ≤ w.heap.size) :
    Calls Tryz.prog 125 #[.pointer (some ⟨D, 0, none⟩), .pointer (some ⟨R, 0, none⟩)] w fun e w' => ∃ er, e = .returned (.int .i64 er) ∧ ItemW lo w D v .stored out bs R ao cap p er w' := by
  by_cases hsh : 8 * bs.length < up8 p + 32
  · refine (readStored_short2 w D v R ao cap bs p h.obj h.rd hsh).mono ?_
    rintro e w' ⟨rfl, hr, hk⟩
    exact ⟨2, rfl, h.fails hlo hk (fun _ e => e) hr 2 (by decide) ⟨0, .fin, false, [], by unfold ItemR; dsimp only; rw [if_pos hsh]⟩⟩
  · by_cases hne : bitsAt bs (up8 p) 16 + bitsAt bs (up8 p + 16) 16 = 65535
    · exact readStored_yes h hlo (by omega) hne
    · refine (readStored_bad2 w D v R ao cap bs p h.obj h.rd (by omega) hne).mono ?_
      rintro e w' ⟨rfl, hr, hk⟩
      exact ⟨6, rfl, h.fails hlo hk (fun _ e => e) hr 6 (by decide) ⟨0, .fin, false, [], by unfold ItemR; dsimp only; rw [if_neg hsh, if_pos hne]⟩⟩
end Go.Proofs.YtdpegahcgaicnaaGreatDoor
