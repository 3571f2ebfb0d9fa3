/-
  law7.Rows: bytes that come again.
  DeflateMix: slices of a row, tokens of single bytes, blocks one behind the other.
  deflate.packAll of up to 32768 bytes: one block.
  slices.Concat of one or two rows of bytes.
-/
import Derived.Test.YtfmjfgmbjdhogaaGreatDoorMs43
import Derived.Lib.SlBytesConst
import Derived.Laws.StructEq
import Derived.ChangeKeysEq
import Derived.Lib.AppendZerosOnto
namespace Go.Proofs.YtfmjfgmbjdhogaaGreatDoor
open Go.RowKit
set_option linter.unusedVariables false
set_option linter.unusedSimpArgs false

theorem BySt.drewN {w0 w : World} {a : Option Addr} {l c : Nat} {L : List UInt8} (h : BySt w0 w a l c L) (k : Nat) : BySt w0 (w.drewN k) a l c L := h.on (Kept.drewN (Kept.refl _ _) k)
/-- Nothing appended. -/
theorem wpList_by_none {w : World} {ops : Array Oper} {rest : List Oper} {o : Oper} {act : Act} {Q : Exit → Act → World → Prop} (hgd : o.guard = none) (s x : Operand)
    (ho : o.op = .call { callee := .builtin .append, args := #[s, x], argTypes := #[22, 22] })
    {w0 : World} {a : Option Addr} {l c : Nat} {L : List UInt8} (hS : BySt w0 w a l c L) (hs : act.eval s = .slice a l c) (hx : act.eval x = .slice none 0 0)
    (h : wpList Tryz.prog ops Q rest (act.put o.dst (.slice a l c)) w) : wpList Tryz.prog ops Q (o :: rest) act w := by
  obtain ⟨i, hi, hz, hsz, hby⟩ := info_parts info5
  refine wpList_plain hgd fun _ hK => ?_
  have hr := run_append_owned_none (P := Tryz.prog) (w := w) 0 22 o.type 5 i 1 Tryz.underlying22 hi (.slice a l c) l (bc L) hS.own
  unfold Oper.wp execOp
  simp only [ho, resolve, invoke, builtin, Sem.run_bind, Sem.run_pure, Result.andThen_ok, List.map_toArray, List.map_cons, List.map_nil, hs, hx, hr]
  exact hK _ _ h
end Go.Proofs.YtfmjfgmbjdhogaaGreatDoor

namespace Go.Proofs.YtfmjfgmbjdhogaaGreatDoor
open Go.RowKit
set_option linter.unusedVariables false
set_option linter.unusedSimpArgs false

/-- Where a part of an own row lies. -/
structure PartR (a : Option Addr) (len cap : Nat) (xs : List Int) (l h : Nat) (o1 : Option Addr) (c1 : Nat) : Prop where
  reads : ∀ W, Reads W a xs → Reads W o1 ((xs.drop l).take (h - l))
  room : h - l ≤ c1
  block : ∀ q, o1 = some q → ∃ q', a = some q' ∧ q.block = q'.block
theorem part_of (a : Option Addr) (len cap l h : Nat) (xs : List Int) (hlen : len = xs.length) (hs : ∀ q, a = some q → ∃ g, q = ⟨g, 0, none⟩) (hl : l ≤ h) (hh : h ≤ len) (hc : len ≤ cap) (hn : a = none → cap = 0) :
    ∃ o1 c1, sliced a l h cap 1 = .slice o1 (h - l) c1 ∧ PartR a len cap xs l h o1 c1 := by
  cases a with
  | none =>
    have h0 := hn rfl
    refine ⟨none, cap - l, ?_, ⟨fun W hr => ?_, by omega, fun q e => by cases e⟩⟩
    · unfold sliced
      rw [if_pos (by omega)]
    · have e : (xs.drop l).take (h - l) = [] := List.eq_nil_of_length_eq_zero (by rw [List.length_take, List.length_drop]; omega)
      rw [e]; exact ⟨fun _ => rfl, fun a ha => by cases ha⟩
  | some q =>
    obtain ⟨g, rfl⟩ := hs q rfl
    by_cases hcl : cap = l
    · refine ⟨some ⟨g, 0, none⟩, cap - l, ?_, ⟨fun W hr => ?_, by omega, fun q e => ⟨_, rfl, by cases e; rfl⟩⟩⟩
      · unfold sliced
        rw [if_pos hcl]
      · have e : (xs.drop l).take (h - l) = [] := List.eq_nil_of_length_eq_zero (by rw [List.length_take, List.length_drop]; omega)
        rw [e]; exact reads_empty
    · refine ⟨some ⟨g, l, none⟩, cap - l, ?_, ⟨fun W hr => ?_, by omega, fun q e => ⟨_, rfl, by cases e; rfl⟩⟩⟩
      · unfold sliced
        rw [if_neg hcl]
        simp [Addr.add]
        intro h0
        exact h0.symm
      · have h1 := reads_drop l hr
        rw [addr_add, Nat.zero_add] at h1
        exact reads_take _ h1
set_option maxRecDepth 100000 in
theorem size_u8 : ∀ W : World, (sizeOf (Tryz.prog.elem 22)).run Tryz.prog W = .ok 1 W := fun W => by rfl
theorem slc_lh (a : Option Addr) (len cap l h : Nat) (xs : List Int) (hlen : len = xs.length) (hs : ∀ q, a = some q → ∃ g, q = ⟨g, 0, none⟩) (hl : l ≤ h) (hh : h ≤ len) (hc : len ≤ cap) (hn : a = none → cap = 0) :
    ∃ o1 c1, (∀ W, (Instr.slice 22 (.slice a len cap) (some (.int .i64 (l : Int))) (some (.int .i64 (h : Int))) none).run Tryz.prog W = .ok (.slice o1 (h - l) c1) W) ∧ PartR a len cap xs l h o1 c1 := by
  obtain ⟨o1, c1, h1, h2⟩ := part_of a len cap l h xs hlen hs hl hh hc hn
  refine ⟨o1, c1, fun W => ?_, h2⟩
  rw [run_slice_lh (P := Tryz.prog) (w := W) 22 a len cap (by kernel_rfl) .i64 .i64 (l : Int) (h : Int) (by omega) (by omega) (by omega), size_u8]
  simp only [Result.andThen, Int.toNat_natCast]
  rw [h1]
theorem slc_l (a : Option Addr) (len cap l : Nat) (xs : List Int) (hlen : len = xs.length) (hs : ∀ q, a = some q → ∃ g, q = ⟨g, 0, none⟩) (hl : l ≤ len) (hc : len ≤ cap) (hn : a = none → cap = 0) :
    ∃ o1 c1, (∀ W, (Instr.slice 22 (.slice a len cap) (some (.int .i64 (l : Int))) none none).run Tryz.prog W = .ok (.slice o1 (len - l) c1) W) ∧ PartR a len cap xs l len o1 c1 := by
  obtain ⟨o1, c1, h1, h2⟩ := part_of a len cap l len xs hlen hs hl (Nat.le_refl _) hc hn
  refine ⟨o1, c1, fun W => ?_, h2⟩
  rw [run_slice_l (P := Tryz.prog) (w := W) 22 a len cap (by kernel_rfl) .i64 (l : Int) (by omega) (by omega), size_u8]
  simp only [Result.andThen, Int.toNat_natCast]
  rw [h1]
/-- So far what was put says O; d: whether the last block was put. -/
structure Said (d : Bool) (ps : List (Nat × Nat)) (O : List Int) : Prop where
  lt : ∀ y ∈ ps, y.1 < 2 ^ y.2
  run : ∀ (bs : List Int) (post : List (Nat × Nat)) (most : Nat), Puts bs 0 (ps ++ post) → O.length ≤ most → Steps bs most 0 .block false [] (wdN ps) (endM d) d O
theorem Said.nil : Said false [] [] := ⟨(fun y h => by cases h), (fun bs post most _ _ => Steps.refl)⟩
theorem Said.more {d : Bool} {ps qs : List (Nat × Nat)} {O b : List Int} (h : Said false ps O) (hb : BlkS (wdN ps) d qs b) : Said d (ps ++ qs) (O ++ b) := by
  refine ⟨fun y hy => ?_, fun bs post most hp hm => ?_⟩
  · rcases List.mem_append.1 hy with h1 | h1
    · exact h.lt y h1
    · exact hb.lt y h1
  · rw [List.length_append] at hm
    exact (h.run bs (qs ++ post) most (by rw [← List.append_assoc]; exact hp) (by omega)).trans (hb.run bs ps post most false O rfl hp hm)
end Go.Proofs.YtfmjfgmbjdhogaaGreatDoor

namespace Go.Proofs.YtfmjfgmbjdhogaaGreatDoor
open Go.RowKit
set_option linter.unusedVariables false
set_option linter.unusedSimpArgs false
set_option maxRecDepth 20000

theorem expF_good {most : Int} : ∀ (ts : List Tk) (bs x : List Int) (i n : Nat), expF most ts bs i = (x, n, 0) → good most ts bs ∧ putAll ts bs = x
  | [], bs, x, i, n, h => by
    unfold expF at h
    simp only [Prod.mk.injEq] at h
    exact ⟨trivial, h.1⟩
  | t :: r, bs, x, i, n, h => by
    unfold expF at h
    by_cases hn : t.no bs.length most = 0
    · rw [if_pos hn] at h
      obtain ⟨h1, h2⟩ := expF_good r (t.put bs) x (i + 1) n h
      exact ⟨⟨hn, h1⟩, h2⟩
    · rw [if_neg hn] at h
      simp only [Prod.mk.injEq] at h
      exact absurd h.2.2 hn
theorem good_allOk {most : Int} : ∀ (ts : List Tk) (bs : List Int), good most ts bs → allOkB ts = true
  | [], _, _ => rfl
  | t :: r, bs, h => by
    have h1 := good_allOk r _ h.2
    have h2 : t.ok = true := by
      have h3 := h.1
      unfold Tk.no at h3
      cases hok : t.ok with
      | true => rfl
      | false => rw [hok] at h3; simp at h3
    unfold allOkB at h1 ⊢
    rw [List.all_cons, h2, h1]; rfl
/-- What the tokens of a short row are. -/
theorem rest_facts (lv : Int) (L : List UInt8) (hL : L.length ≤ 32768) : AllT (restT lv L 0) ∧ good (L.length : Int) (restT lv L 0) [] ∧ putAll (restT lv L 0) [] = nb L ∧ allOkB (restT lv L 0) = true := by
  obtain ⟨h1, h2⟩ := exp_rest lv L hL L.length 0 0 (by omega) (by omega)
  rw [List.take_zero] at h2
  obtain ⟨h3, h4⟩ := expF_good _ _ _ _ _ h2
  exact ⟨h1, h3, h4, good_allOk _ _ h3⟩
theorem putAll_mono (ts : List Tk) (j : Nat) : (putAll (ts.take j) []).length ≤ (putAll ts []).length := (putAll_take_pre ts j []).length_le
/-- One token more; but for its own row all is kept. -/
theorem wpList_tk2 {ops : Array Oper} {rest : List Oper} {o : Oper} {act : Act} {w : World} {Q : Exit → Act → World → Prop} (hgd : o.guard = none) (s x : Operand)
    (ho : o.op = .call { callee := .builtin .append, args := #[s, x], argTypes := #[98, 98] })
    {lo : Nat} {a1 : Option Addr} {l1 c1 : Nat} {ts : List Tk} (hS : TkSt lo w a1 l1 c1 ts) (hlo : lo ≤ w.heap.size) (hs : act.eval s = .slice a1 l1 c1)
    (g cx : Nat) (t : Tk) (hx : act.eval x = .slice (some ⟨g, 0, none⟩) 1 cx) (h0 : w.cell? ⟨g, 0, none⟩ = some (.int .i64 t.l)) (h1 : w.cell? ⟨g, 1, none⟩ = some (.int .i64 t.d)) (h2' : w.cell? ⟨g, 2, none⟩ = some (.int .u8 t.c)) (hn : l1 ≤ 1000000)
    (h : ∀ a2 c2 w', TkSt lo w' a2 (l1 + 1) c2 (ts ++ [t]) → Kept (OwnB (.slice a1 l1 c1)) w w' → wpList Tryz.prog ops Q rest (act.put o.dst (.slice a2 (l1 + 1) c2)) w') : wpList Tryz.prog ops Q (o :: rest) act w := by
  obtain ⟨i0, hi, hz0, hz1, hz2⟩ := info_parts infoTk
  refine wpList_app w hgd s x 98 ho 101 i0 (.agg #[.int .i64 0, .int .i64 0, .int .u8 0]) 3 24 Tryz.underlying98 hi hz0 hz1 hz2 rfl (by decide) _ l1 (tkC ts) hs hS.own ⟨g, 0, none⟩ 1 cx [.int .i64 t.l, .int .i64 t.d, .int .u8 t.c] hx rfl ?_ ?_ (by unfold maxLen; omega) (by omega) ?_
  · intro j u hu
    rw [addr_add, Nat.zero_add]
    match j with
    | 0 => simp at hu; subst hu; exact h0
    | 1 => simp at hu; subst hu; exact h1
    | 2 => simp at hu; subst hu; exact h2'
    | j + 3 => simp at hu
  · intro u hu
    simp at hu
    rcases hu with rfl | rfl | rfl <;> rfl
  intro v' w' h2 h3 h4
  obtain ⟨a2, c2, rfl⟩ := slice_shape h2
  refine h _ _ _ ⟨by rw [List.length_append, ← hS.len]; rfl, by simpa [tkC] using h2, ?_⟩ ((Kept.refl _ w).grown h3 (fun k _ e => e))
  intro k hk
  rcases h4 k hk with h | h
  · exact hS.fresh k h
  · omega
set_option maxHeartbeats 4000000 in
theorem packAll_short (w : World) (R : Nat) (ao : Option Addr) (cap : Nat) (bs : List Int) (s : Nat) (last : Bool) (lv : Int) (ba : Option Addr) (n bc : Nat) (L : List UInt8)
    (h : Wtr w R ao cap bs s) (hss : s ≤ 800000) (hrow : RowB w w.heap.size ba L) (hrb : Reads w ba (nb L)) (hshp : ∀ q, ba = some q → ∃ g, q = ⟨g, 0, none⟩) (hn : n = L.length) (hn3 : n ≤ 32768) (hc : n ≤ bc) (hcm : bc ≤ 9223372036854775807) (hnil : ba = none → bc = 0)
    (hsb : ∀ a, ba = some a → a.block ≠ R ∧ (Value.slice ao bs.length cap).ownBlock ≠ some a.block) (hT : DeB w) (hlv : -9223372036854775808 ≤ lv ∧ lv ≤ 9223372036854775807) :
    Calls Tryz.prog 27 #[.pointer (some ⟨R, 0, none⟩), .slice ba n bc, .int .i64 lv, .bool last] w (BlkBest w R ao cap bs s last (nb L) (restT lv L 0)) := by
  obtain ⟨f1, f2, f3, f4⟩ := rest_facts lv L (by omega)
  have htk := tokens_all ba n bc lv L w hrow hn hn3 hc hcm hT hlv
  obtain ⟨ts, hts⟩ : ∃ ts, ts = restT lv L 0 := ⟨_, rfl⟩
  rw [← hts] at f1 f2 f3 f4 htk ⊢
  have hlen : ts.length ≤ n := by
    have h1 := rest_len lv L L.length 0 (by omega) (by omega)
    rw [hts]; omega
  obtain ⟨N, hN⟩ : ∃ N, N = ts.length := ⟨_, rfl⟩
  rw [← hN] at htk hlen
  have hfl : (nb L).length = n := by rw [nb_len]; exact hn.symm
  obtain ⟨o1, c1, E1, P1⟩ := slc_lh ba n bc 0 n (nb L) hfl.symm hshp (Nat.zero_le _) (Nat.le_refl _) hc hnil
  rw [Nat.sub_zero] at E1
  have hE1 : ∀ W, (Instr.slice 22 (.slice ba n bc) (some (.int .i64 0)) (some (.int .i64 (n : Int))) none).run Tryz.prog W = .ok (.slice o1 n c1) W := E1
  have H := Lib.hid h; have HRb := Lib.hid hrb; have HTk := Lib.hid htk; have HN := Lib.hid hN; have HF1 := Lib.hid f1; have HF2 := Lib.hid f2; have HF3 := Lib.hid f3; have HF4 := Lib.hid f4; have HSb := Lib.hid hsb; have HFl := Lib.hid hfl; have HP1 := Lib.hid P1; have HE1 := Lib.hid hE1; have HTs := Lib.hid hts
  clear h hrow hrb hshp hnil hsb hT htk f1 f2 f3 f4 hts hN hfl E1 P1 hE1 hn
  go_enter Tryz.func27, Tryz.ntmps27
  go_wp2_with fail
  refine HTk.out.mono ?_
  rintro e w1 ⟨a1, c1', rfl, hst, hk1⟩
  have HSt := Lib.hid hst; have HK1 := Lib.hid hk1
  have HCapT := Lib.hid hst.cap
  obtain ⟨LO, hLO⟩ : ∃ LO, LO = w1.heap.size := ⟨_, rfl⟩
  have HLO := Lib.hid hLO
  clear hst hk1 hLO HTk
  go_wp2_with fail
  go_loopw [19, 8, 9, 10, 12, 13, 14] (fun iv bv gv av _t _r _z wr => ∃ (j at0 : Nat) (ta : Option Addr) (tcap : Nat), j ≤ N ∧ iv = .int .i64 (j : Int) ∧ bv = .slice ta j tcap ∧ gv = .int .i64 0 ∧ av = .int .i64 (at0 : Int) ∧ at0 ≤ n ∧ Hid (at0 = (putAll (ts.take j) []).length) ∧ Hid (TkSt LO wr ta j tcap (ts.take j)) ∧ Hid (Kept NoB w1 wr)) (fun iv _ _ _ _ _ _ _ => N - (intOf iv).toNat)
  case atStart => exact ⟨0, 0, none, 0, by omega, rfl, rfl, rfl, rfl, by omega, Lib.hid (by simp [putAll]), Lib.hid (by simpa using TkSt.start LO w1), Lib.hid (Kept.refl _ _)⟩
  case round =>
    obtain ⟨j, at0, ta, tcap, hj, rfl, rfl, rfl, rfl, hat, HAt, HTk, HK⟩ := hrel
    by_cases hlt : (j : Int) < (N : Int)
    · have hjt : j < ts.length := by have := HN.out; omega
      obtain ⟨g, off, rfl, c0, c1b, c2⟩ := (HSt.out.reads.keptNo HK.out) j hjt
      have htm : ts.getD j ⟨0, 0, 0⟩ ∈ ts := by rw [List.getD, List.getElem?_eq_getElem hjt, Option.getD_some]; exact List.getElem_mem hjt
      have hwf := HF1.out _ htm
      have hok := allOkB_mem HF4.out _ htm
      have hpl := putAll_succ ts [] j hjt
      have hmo := putAll_mono ts (j + 1)
      rw [HF3.out, HFl.out] at hmo
      have hpn := congrArg List.length hpl
      rw [put_len, ← HAt.out] at hpn
      rw [hpn] at hmo
      have hsn := take_snocT ts j hjt
      generalize ts.getD j ⟨0, 0, 0⟩ = t at c0 c1b c2 hwf hok hpn hmo hsn
      have HPn := Lib.hid hpn; have HSn := Lib.hid hsn
      have hloW : LO ≤ wr.heap.size := by rw [HLO.out]; exact HK.out.size
      have hsh := tok_shape hwf hok
      clear htm hwf hok hpl hpn hsn hjt
      have hway : ∃ k : Nat, 1 ≤ k ∧ (t.l = 0 ∧ k = 1 ∨ t.l = (k : Int) ∧ 1 < k) := by
        rcases hsh with ⟨c, hc, rfl⟩ | ⟨jj, u, hjj, hu, rfl⟩ | ⟨i, v, jj, u, hi, hv, hlv, hjj, hu, rfl⟩
        · exact ⟨1, by omega, .inl ⟨rfl, rfl⟩⟩
        · exact ⟨258, by omega, .inr ⟨rfl, by omega⟩⟩
        · have h3 := lb_top i hi
          exact ⟨lb i + v, by omega, .inr ⟨rfl, by omega⟩⟩
      obtain ⟨k, hk1, hk⟩ := hway
      have hko : at0 + k ≤ n := by
        rcases hk with ⟨h1, h2⟩ | ⟨h1, h2⟩
        · rw [if_pos h1] at hmo; omega
        · rw [if_neg (by omega), h1, Int.toNat_natCast] at hmo; omega
      have HAn : Hid (at0 + k = (putAll (ts.take (j + 1)) []).length) := Lib.hid (by
        rw [HPn.out]
        rcases hk with ⟨h1, h2⟩ | ⟨h1, h2⟩
        · rw [if_pos h1]; omega
        · rw [if_neg (by omega), h1, Int.toNat_natCast])
      obtain ⟨tl, td, tc⟩ := t
      simp only at c0 c1b c2 hk
      obtain ⟨B, hB⟩ : ∃ B, B = wr.heap.size := ⟨_, rfl⟩
      have hkk : (tl = 0 ∧ k = 1) ∨ (tl = (k : Int) ∧ 1 < k) := hk
      clear hsh hmo hk
      rcases hkk with ⟨rfl, rfl⟩ | ⟨rfl, hk2⟩
      · go_upto_region 5 with fail
        rw [← hB]
        obtain ⟨wb, hwb⟩ : ∃ wb, wb = wr.alloc (.cells #[.int .i64 0, .int .i64 td, .int .u8 tc] 101) := ⟨_, rfl⟩
        have hc0 : wb.cell? ⟨B, 0, none⟩ = some (.int .i64 0) := by rw [hwb, hB]; exact cell_new 0 rfl
        have hc1 : wb.cell? ⟨B, 1, none⟩ = some (.int .i64 td) := by rw [hwb, hB]; exact cell_new 1 rfl
        have hc2 : wb.cell? ⟨B, 2, none⟩ = some (.int .u8 tc) := by rw [hwb, hB]; exact cell_new 2 rfl
        have hkb : Kept NoB wr wb := by rw [hwb]; exact (Kept.refl _ _).alloc _
        rw [← hwb]
        have HA0 : Hid (TkSt LO (wb.alloc (.cells #[.int .i64 0, .int .i64 td, .int .u8 tc] 101)) ta j tcap (ts.take j)) := Lib.hid (HTk.out.keptS (hkb.alloc _) (fun _ _ e => e))
        have HloA : Hid (LO ≤ (wb.alloc (.cells #[.int .i64 0, .int .i64 td, .int .u8 tc] 101)).heap.size) := Lib.hid (Nat.le_trans hloW (hkb.alloc _).size)
        have HKb := Lib.hid hkb
        have HOl : Hid (∀ q, (Value.slice ta j tcap).ownBlock = some q → q < B) := Lib.hid (by rw [hB]; exact own_lt HTk.out.own)
        have HBl : Hid (B < wb.heap.size) := Lib.hid (World.block_lt_of_cell? wb _ hc0)
        have HC0 := Lib.hid hc0
        clear hB hwb hkb hloW c0 c1b c2
        go_wp2_with (at_builtin; refine wpList_tk2 rfl (.tmp 70) (.tmp 72) rfl HA0.out HloA.out rfl wb.heap.size 1 (Tk.mk 0 td tc) rfl (cell_new 0 rfl) (cell_new 1 rfl) (cell_new 2 rfl) (by omega) ?_)
        intro a2 c2' w2' hst2 hk2'
        have hd0 : w2'.cell? ⟨B, 0, none⟩ = some (.int .i64 0) := by
          have h1 : (wb.alloc (.cells #[.int .i64 0, .int .i64 td, .int .u8 tc] 101)).cell? ⟨B, 0, none⟩ = some (.int .i64 0) := ((Kept.refl NoB wb).alloc _).cell HC0.out
          exact (World.cell?_of_block (hk2'.block _ (World.block_lt_of_cell? _ _ h1) (fun e => by have := HOl.out _ e; simp only at this; omega))).trans h1
        have HSt2 : Hid (TkSt LO w2' a2 (j + 1) c2' (ts.take (j + 1))) := Lib.hid (by rw [HSn.out]; exact hst2)
        have HKn : Hid (Kept NoB w1 w2') := Lib.hid (((HK.out.trans HKb.out).alloc _).transO hk2' (fun i hi e => by have h1 := HTk.out.fresh i e; have h2 := HLO.out; omega))
        clear hst2 hk2' hc0 hc1 hc2 HC0
        go_wp2
        go_roundw
        case rel => exact ⟨j + 1, at0 + 1, a2, c2', by omega, by go_num, rfl, rfl, by go_num, by omega, HAn, HSt2, HKn⟩
        case measure => simp [intOf]; omega
      · go_upto_region 5 with fail
        rw [← hB]
        obtain ⟨wb, hwb⟩ : ∃ wb, wb = wr.alloc (.cells #[.int .i64 (k : Int), .int .i64 td, .int .u8 tc] 101) := ⟨_, rfl⟩
        have hc0 : wb.cell? ⟨B, 0, none⟩ = some (.int .i64 (k : Int)) := by rw [hwb, hB]; exact cell_new 0 rfl
        have hc1 : wb.cell? ⟨B, 1, none⟩ = some (.int .i64 td) := by rw [hwb, hB]; exact cell_new 1 rfl
        have hc2 : wb.cell? ⟨B, 2, none⟩ = some (.int .u8 tc) := by rw [hwb, hB]; exact cell_new 2 rfl
        have hkb : Kept NoB wr wb := by rw [hwb]; exact (Kept.refl _ _).alloc _
        rw [← hwb]
        have HA0 : Hid (TkSt LO (wb.alloc (.cells #[.int .i64 (k : Int), .int .i64 td, .int .u8 tc] 101)) ta j tcap (ts.take j)) := Lib.hid (HTk.out.keptS (hkb.alloc _) (fun _ _ e => e))
        have HloA : Hid (LO ≤ (wb.alloc (.cells #[.int .i64 (k : Int), .int .i64 td, .int .u8 tc] 101)).heap.size) := Lib.hid (Nat.le_trans hloW (hkb.alloc _).size)
        have HKb := Lib.hid hkb
        have HOl : Hid (∀ q, (Value.slice ta j tcap).ownBlock = some q → q < B) := Lib.hid (by rw [hB]; exact own_lt HTk.out.own)
        have HBl : Hid (B < wb.heap.size) := Lib.hid (World.block_lt_of_cell? wb _ hc0)
        have HC0 := Lib.hid hc0
        clear hB hwb hkb hloW c0 c1b c2
        go_wp2_with (at_builtin; refine wpList_tk2 rfl (.tmp 70) (.tmp 72) rfl HA0.out HloA.out rfl wb.heap.size 1 (Tk.mk (k : Int) td tc) rfl (cell_new 0 rfl) (cell_new 1 rfl) (cell_new 2 rfl) (by omega) ?_)
        intro a2 c2' w2' hst2 hk2'
        have hd0 : w2'.cell? ⟨B, 0, none⟩ = some (.int .i64 (k : Int)) := by
          have h1 : (wb.alloc (.cells #[.int .i64 (k : Int), .int .i64 td, .int .u8 tc] 101)).cell? ⟨B, 0, none⟩ = some (.int .i64 (k : Int)) := ((Kept.refl NoB wb).alloc _).cell HC0.out
          exact (World.cell?_of_block (hk2'.block _ (World.block_lt_of_cell? _ _ h1) (fun e => by have := HOl.out _ e; simp only at this; omega))).trans h1
        have HSt2 : Hid (TkSt LO w2' a2 (j + 1) c2' (ts.take (j + 1))) := Lib.hid (by rw [HSn.out]; exact hst2)
        have HKn : Hid (Kept NoB w1 w2') := Lib.hid (((HK.out.trans HKb.out).alloc _).transO hk2' (fun i hi e => by have h1 := HTk.out.fresh i e; have h2 := HLO.out; omega))
        clear hst2 hk2' hc0 hc1 hc2 HC0
        go_wp2
        go_roundw
        case rel => exact ⟨j + 1, at0 + k, a2, c2', by omega, by go_num, rfl, rfl, by go_num, by omega, HAn, HSt2, HKn⟩
        case measure => simp [intOf]; omega
    · have hjN : j = N := by omega
      subst hjN
      have htk : ts.take j = ts := List.take_of_length_le (by rw [← HN.out]; exact Nat.le_refl _)
      rw [htk] at HAt HTk
      have hatn : at0 = n := by rw [HAt.out, HF3.out]; exact HFl.out
      subst hatn
      have hkw := HK1.out.trans HK.out
      have hE := HE1.out
      have hrd : Reads wr o1 (nb L) := by
        have h := HP1.out.reads wr (HRb.out.kept hkw (fun _ _ e => e))
        rwa [List.drop_zero, Nat.sub_zero, List.take_of_length_le (by rw [HFl.out]; exact Nat.le_refl _)] at h
      have hwb := writeBest_any wr R ao cap bs s last o1 c1 (nb L) ta tcap ts (H.out.keptNo hkw) hss hrd (nb_all L) (by rw [HFl.out]; omega) (fun _ q hq => by
          obtain ⟨q', h1, h2⟩ := HP1.out.block q hq
          rw [h2]; exact HSb.out q' h1)
        HTk.out.reads (fun _ q hq => by
          have h1 := HTk.out.fresh q.block (by rw [hq]; rfl)
          have h2 := HLO.out
          have h3 := HK1.out.size
          have h4 := obj_lt H.out.1
          exact ⟨by omega, fun e => by have := own_lt H.out.2.1 _ e; omega⟩) (by rw [← HN.out]; omega) HF1.out HF4.out
      rw [HFl.out, ← HN.out] at hwb
      have HWb := Lib.hid hwb; have HKw := Lib.hid hkw
      clear hrd hwb hkw htk HAt
      go_wp2_with fail
      refine HWb.out.mono ?_
      rintro e w9 ⟨qs, a9, c9, b9, rfl, hW, hlen, hform⟩
      have HW := Lib.hid (hW.base HKw.out); have HLen := Lib.hid hlen; have HFm := Lib.hid hform
      clear hW hlen hform HWb
      go_wp2
      refine bodyPost_end (results_none rfl _ _ _) rfl ?_
      exact ⟨qs, a9, c9, b9, rfl, HW.out, HLen.out, HFm.out⟩
end Go.Proofs.YtfmjfgmbjdhogaaGreatDoor

namespace Go.Proofs.YtfmjfgmbjdhogaaGreatDoor
open Go.RowKit
set_option linter.unusedVariables false
set_option linter.unusedSimpArgs false

set_option maxRecDepth 20000 in
set_option maxHeartbeats 2000000 in
theorem growB_nil (n : Nat) (w : World) (hn : 1 ≤ n ∧ n ≤ 100000) :
    Calls Tryz.prog 49 #[.slice none 0 0, .int .i64 (n : Int)] w fun e w' => ∃ c, e = .returned (.slice (some ⟨w.heap.size, 0, none⟩) 0 c) ∧ BySt w w' (some ⟨w.heap.size, 0, none⟩) 0 c [] := by
  obtain ⟨i0, hi, hz0, hz1, hz2⟩ := info_parts info5
  have h1 : ¬ ((n : Int) < 0) := by omega
  have h2 : (0 : Int) < (n : Int) := by omega
  have hold : (Builtin.firstCells i0.size 0 (.slice none 0 0)).run Tryz.prog w.drew = .ok #[] w.drew := run_firstCells_none w.drew i0.size 0 0 0
  have hrz : ∀ ty, (Builtin.append_ #[22, 3] ty #[.slice none 0 0, .int .i64 (n : Int)]).run Tryz.prog w =
      .ok (.slice (some ⟨w.heap.size, 0, none⟩) n (grownCap w n 0 5)) (w.drew.alloc (.cells (([] : List Value).toArray ++ Builtin.zeroCells (Value.int .u8 0).cells n ++ Builtin.zeroCells (Value.int .u8 0).cells (grownCap w n 0 5 - n)) 5)) := fun ty => by
    have h := Lib.run_append_grow_zeros w 22 3 ty 5 i0 (.int .u8 0) .i64 .i64 Tryz.underlying22 rfl hi hz0 none 0 0 [] hold n (by omega) (by rw [hz1]; omega) (by omega) (by omega)
      (by rw [hz2]; omega)
      (by rw [Nat.zero_add]; exact growslice_fits (by omega) (by rw [hz2]; omega))
    rw [Nat.zero_add] at h
    exact h
  have hGn : n ≤ grownCap w n 0 5 := grownCap_ge w _ _ _
  have hGm : grownCap w n 0 5 ≤ maxLen := grownCap_le_maxLen w n 0 5 (by unfold maxLen; omega)
  obtain ⟨G, hG⟩ : ∃ G, G = grownCap w n 0 5 := ⟨_, rfl⟩
  rw [← hG] at hrz hGn hGm
  have hcz : ∀ k, (Builtin.zeroCells (Value.int .u8 0).cells k).size = k := fun k => by simp [Builtin.zeroCells, Value.cells]
  obtain ⟨cs, hcs⟩ : ∃ cs : Array Value, cs = ([] : List Value).toArray ++ Builtin.zeroCells (Value.int .u8 0).cells n ++ Builtin.zeroCells (Value.int .u8 0).cells (G - n) := ⟨_, rfl⟩
  have hsz : cs.size = G := by rw [hcs]; simp [hcz]; omega
  rw [← hcs] at hrz
  have hst : BySt w (w.drew.alloc (.cells cs 5)) (some ⟨w.heap.size, 0, none⟩) 0 G [] := ⟨rfl, ⟨rfl, .inr ⟨w.heap.size, G, cs, rfl, Nat.zero_le _, by simpa using heap_alloc_new w.drew (.cells cs 5), Nat.zero_le _, hGm, by rw [hsz, Nat.mul_one], by simp [bc]⟩⟩, (Kept.drew (Kept.refl NoB w)).alloc _, fun k hk => by simp [Value.ownBlock] at hk; omega⟩
  have HSt := Lib.hid hst
  have g63 : (G : Int) ≤ 9223372036854775807 := by unfold maxLen at hGm; omega
  clear hold hG hcs hsz hst hGm hcz
  go_enter Tryz.func49, Tryz.ntmps49
  go_wp2_with (at_builtin; refine Lib.wpList_append_run _ rfl _ _ _ _ rfl _ _ rfl rfl _ _ (hrz _) ?_)
  all_goals (go_ret; exact ⟨G, rfl, HSt.out⟩)
set_option maxRecDepth 20000 in
set_option maxHeartbeats 2000000 in
theorem growB_zero (w : World) : Calls Tryz.prog 49 #[.slice none 0 0, .int .i64 0] w fun e w' => e = .returned (.slice none 0 0) ∧ Kept NoB w w' := by
  go_enter Tryz.func49, Tryz.ntmps49
  go_wp2
  go_ret
  exact ⟨rfl, Kept.refl _ _⟩
theorem flat_step (ps : List (List UInt8)) (i : Nat) (h : i < ps.length) : (ps.take (i + 1)).flatten = (ps.take i).flatten ++ ps.getD i [] := by
  rw [List.take_add_one, List.getElem?_eq_getElem h, List.flatten_append]
  simp [List.getD, h]
theorem flat_le (ps : List (List UInt8)) (i : Nat) : ((ps.take i).flatten).length ≤ ps.flatten.length := by
  conv => rhs; rw [← List.take_append_drop i ps]
  rw [List.flatten_append, List.length_append]; omega
set_option maxRecDepth 20000 in
set_option maxHeartbeats 4000000 in
theorem concatB_any (H k : Nat) (ps : List (List UInt8)) (w : World) (hk : k = ps.length) (hk4 : k ≤ 1000) (hp : ∀ i, i < k → ∃ o c, w.cell? ⟨H, i, none⟩ = some (.slice o (ps.getD i []).length c) ∧ Reads w o (nb (ps.getD i [])) ∧ (o = none → c = 0)) (hlen : ps.flatten.length ≤ 100000) :
    Calls Tryz.prog 24 #[.slice (some ⟨H, 0, none⟩) k k] w fun e w' => ∃ a l c, e = .returned (.slice a l c) ∧ l = ps.flatten.length ∧ BySt w w' a l c ps.flatten := by
  have HK := Lib.hid hk; have HP := Lib.hid hp; have HLen := Lib.hid hlen
  clear hk hp hlen
  go_enter Tryz.func24, Tryz.ntmps24
  go_wp2_with fail
  go_loopw [11, 3, 5] (fun iv sv _p wr => ∃ i S : Nat, i ≤ k ∧ iv = .int .i64 (i : Int) ∧ sv = .int .i64 (S : Int) ∧ Hid (S = ((ps.take i).flatten).length) ∧ w = wr) (fun iv _ _ _ => k - (intOf iv).toNat)
  case atStart => exact ⟨0, 0, by omega, rfl, rfl, Lib.hid (by simp), rfl⟩
  case round =>
    obtain ⟨i, S, hi, rfl, rfl, HS, rfl⟩ := hrel
    by_cases hlt : (i : Int) < (k : Int)
    · have hil : i < ps.length := by have := HK.out; omega
      obtain ⟨o, c, hc, _, _⟩ := HP.out i (by omega)
      have hfs := congrArg List.length (flat_step ps i hil)
      rw [List.length_append, ← HS.out] at hfs
      have hle := flat_le ps (i + 1)
      obtain ⟨m, hm⟩ : ∃ m, m = (ps.getD i []).length := ⟨_, rfl⟩
      rw [← hm] at hc hfs
      have hSm : S + m ≤ 100000 := by have := HLen.out; omega
      have HFs := Lib.hid hfs
      have hng : ¬ ((S : Int) + (m : Int) < 0) := by omega
      clear hfs hle hm hil
      go_wp2
      go_roundw
      case rel => exact ⟨i + 1, S + m, by omega, by go_num, by go_num, Lib.hid HFs.out.symm, trivial⟩
      case measure => simp [intOf]; omega
    · have hik : i = k := by omega
      subst hik
      have htk : ps.take i = ps := List.take_of_length_le (by rw [← HK.out]; exact Nat.le_refl _)
      rw [htk] at HS
      have hS1 : S ≤ 100000 := by have := HS.out; have := HLen.out; omega
      have hgr : Calls Tryz.prog 49 #[.slice none 0 0, .int .i64 (S : Int)] w fun e w' => ∃ a c, e = .returned (.slice a 0 c) ∧ BySt w w' a 0 c [] := by
        by_cases h0 : S = 0
        · subst h0
          refine (growB_zero w).mono ?_
          rintro e w' ⟨rfl, hk'⟩
          exact ⟨none, 0, rfl, (BySt.nil w).on hk'⟩
        · refine (growB_nil S w (by omega)).mono ?_
          rintro e w' ⟨c, rfl, hst⟩
          exact ⟨_, c, rfl, hst⟩
      have HGr := Lib.hid hgr
      clear htk hgr
      go_wp2_with fail
      refine HGr.out.mono ?_
      rintro e w1 ⟨a1, c1, rfl, hst⟩
      have HSt := Lib.hid hst
      clear hst HGr
      go_wp2_with fail
      go_loopw [27, 6, 8] (fun iv bv _p wr => ∃ (j l : Nat) (a : Option Addr) (c : Nat), j ≤ i ∧ iv = .int .i64 (j : Int) ∧ bv = .slice a l c ∧ Hid (l = ((ps.take j).flatten).length) ∧ l ≤ 100000 ∧ Hid (BySt w wr a l c (ps.take j).flatten)) (fun iv _ _ _ => i - (intOf iv).toNat)
      case atStart => exact ⟨0, 0, a1, c1, by omega, rfl, rfl, Lib.hid (by simp), by omega, Lib.hid (by simpa using HSt.out)⟩
      case round =>
        obtain ⟨j, l, a, c, hj, rfl, rfl, HL, hl, HB⟩ := hrel
        by_cases hlt2 : (j : Int) < (i : Int)
        · have hjl : j < ps.length := by have := HK.out; omega
          obtain ⟨o, pc, hc, hrd, hnil⟩ := HP.out j (by omega)
          have hcw := HB.out.kept.cell hc
          have hrw := hrd.kept HB.out.kept (fun _ _ e => e)
          have hfs := flat_step ps j hjl
          have hfl := congrArg List.length hfs
          rw [List.length_append, ← HL.out] at hfl
          have hle := flat_le ps (j + 1)
          obtain ⟨b, hb⟩ : ∃ b, b = ps.getD j [] := ⟨_, rfl⟩
          rw [← hb] at hcw hrw hfs hfl
          obtain ⟨m, hm⟩ : ∃ m, m = b.length := ⟨_, rfl⟩
          rw [← hm] at hcw hfl
          have hlm : l + m ≤ 100000 := by have := HLen.out; omega
          have HFs := Lib.hid hfs; have HFl := Lib.hid hfl; have HM := Lib.hid hm; have HRw := Lib.hid hrw
          clear hfs hfl hle hb hm hrd hc hjl hrw
          cases o with
          | none =>
            have hm0 : m = 0 := by
              have h := HRw.out.1 rfl
              have h2 := congrArg List.length h
              rw [nb_len] at h2
              rw [HM.out]; simpa using h2
            have hpc := hnil rfl
            subst hpc
            subst hm0
            have hbn : b = [] := List.eq_nil_of_length_eq_zero HM.out.symm
            have HBn : Hid (BySt w wr a l c (ps.take (j + 1)).flatten) := Lib.hid (by rw [HFs.out, hbn, List.append_nil]; exact HB.out)
            clear hnil hbn
            go_wp2_with (at_builtin; refine wpList_by_none rfl (.tmp 31) (.tmp 32) rfl HB.out rfl rfl ?_)
            go_wp2
            go_roundw
            case rel => exact ⟨j + 1, l, a, c, by omega, by go_num, rfl, Lib.hid (by rw [HFl.out]; rfl), by omega, HBn⟩
            case measure => simp [intOf]; omega
          | some ad =>
            clear hnil
            go_wp2_with (at_builtin; refine wpList_by_row rfl (.tmp 31) (.tmp 32) rfl HB.out rfl ad pc m b HM.out rfl HRw.out (by omega) ?_)
            intro a2 c2 w2 hS2
            have HS2 : Hid (BySt w w2 a2 (l + m) c2 (ps.take (j + 1)).flatten) := Lib.hid (by rw [HFs.out]; exact hS2)
            clear hS2
            go_wp2
            go_roundw
            case rel => exact ⟨j + 1, l + m, a2, c2, by omega, by go_num, rfl, Lib.hid HFl.out.symm, by omega, HS2⟩
            case measure => simp [intOf]; omega
        · have hji : j = i := by omega
          subst hji
          have htk : ps.take j = ps := List.take_of_length_le (by rw [← HK.out]; exact Nat.le_refl _)
          rw [htk] at HL HB
          clear htk
          go_wp2
          go_ret
          exact ⟨a, l, c, rfl, by have h := HL.out; simpa using h, HB.out⟩
end Go.Proofs.YtfmjfgmbjdhogaaGreatDoor
