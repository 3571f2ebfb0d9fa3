/-
  Rows of bytes of the call's own that grow (for a seat without strings: out of XBytB); a row that is read.
  law7.Rows: bytes that come again.
  A row of tokens of the call's own; one token more.
  The writer and the document's own writer, side by side: what one call does to both.
  The writer and the document's, side by side, block by block.
  DeflateMix: slices of a row, tokens of single bytes, blocks one behind the other.
-/
import Derived.Test.YtdpegahcgaicnaaGreatDoorMh34
import Derived.Lib.SlBytesConst
import Derived.Laws.StructEq
import Derived.ChangeKeysEq
namespace Go.Proofs.YtdpegahcgaicnaaGreatDoor
open Go.RowKit
set_option linter.unusedVariables false
set_option linter.unusedSimpArgs false
set_option maxRecDepth 20000

/-- Bytes as cells, and as numbers. -/
def bc (L : List UInt8) : List Value := L.map fun b => Value.int .u8 (b.toNat : Int)
def nb (L : List UInt8) : List Int := L.map fun b => (b.toNat : Int)
theorem bc_nb (L : List UInt8) : bc L = (nb L).map (.int .u8) := by simp [bc, nb]
theorem nb_len (L : List UInt8) : (nb L).length = L.length := by simp [nb]
theorem nb_all (L : List UInt8) : AllB (nb L) := by
  intro b hb
  obtain ⟨c, _, rfl⟩ := List.mem_map.1 hb
  have := UInt8.toNat_lt c
  omega
/-- Numbers that are bytes, as bytes. -/
def un (xs : List Int) : List UInt8 := xs.map fun n => UInt8.ofNat n.toNat
theorem nb_un {xs : List Int} (h : AllB xs) : nb (un xs) = xs := by
  unfold nb un
  rw [List.map_map]
  conv => rhs; rw [← List.map_id xs]
  apply List.map_congr_left
  intro x hx
  have := h x hx
  simp only [Function.comp_apply, id_eq, UInt8.toNat_ofNat']
  omega

/-- A row of bytes of the call's own. -/
structure BySt (w0 w : World) (a : Option Addr) (l c : Nat) (L : List UInt8) : Prop where
  len : l = L.length
  own : w.ownsRow 0 5 1 (.slice a l c) l (bc L)
  kept : Kept NoB w0 w
  fresh : ∀ k, (Value.slice a l c).ownBlock = some k → w0.heap.size ≤ k
theorem BySt.nil (w : World) : BySt w w none 0 0 [] := ⟨rfl, World.ownsRow_nil _ _ _ _, Kept.refl _ _, fun k hk => by simp [Value.ownBlock] at hk⟩
theorem BySt.on {w0 w w' : World} {a : Option Addr} {l c : Nat} {L : List UInt8} (h : BySt w0 w a l c L) (hk : Kept NoB w w') : BySt w0 w' a l c L := ⟨h.len, hk.row h.own (fun _ _ h => h), h.kept.trans hk, h.fresh⟩
theorem BySt.reads {w0 w : World} {a : Option Addr} {l c : Nat} {L : List UInt8} (h : BySt w0 w a l c L) : Reads w a (nb L) := by
  have ho := h.own
  have hl := h.len
  subst hl
  rw [bc_nb] at ho
  have e := nb_len L
  rw [← e] at ho
  exact own_reads ho rfl
theorem BySt.cap {w0 w : World} {a : Option Addr} {l c : Nat} {L : List UInt8} (h : BySt w0 w a l c L) : l ≤ c ∧ c ≤ maxLen ∧ (a = none → c = 0) := ⟨(own_cap h.own).1, (own_cap h.own).2, own_nil h.own⟩
theorem kv_shape {w : World} {base e s : Nat} {v : Value} {n : Nat} {xs : List Value} (h : w.ownsRow base e s v n xs) : ∃ ao cap, v = .slice ao n cap := by
  rcases h.2 with ⟨rfl, rfl⟩ | ⟨g, cap, cur, rfl, _⟩
  · exact ⟨none, 0, rfl⟩
  · exact ⟨_, cap, rfl⟩
theorem BySt.grow {w0 w w' : World} {a : Option Addr} {l c n : Nat} {L M : List UInt8} {v : Value} (h : BySt w0 w a l c L) (ho : w'.ownsRow 0 5 1 v (l + n) (bc L ++ bc M)) (hn : n = M.length) (hg : w.grownBy w' (Value.slice a l c).ownBlock)
    (hf : ∀ k, v.ownBlock = some k → (Value.slice a l c).ownBlock = some k ∨ w.heap.size ≤ k) : ∃ a2 c2, v = .slice a2 (l + n) c2 ∧ BySt w0 w' a2 (l + n) c2 (L ++ M) := by
  obtain ⟨a2, c2, rfl⟩ := kv_shape ho
  refine ⟨a2, c2, rfl, by rw [List.length_append, h.len, hn], by simpa [bc] using ho, h.kept.grown hg (fun k hk e => by have := h.fresh k e; omega), ?_⟩
  intro k hk
  rcases hf k hk with e | e
  · exact h.fresh k e
  · have := h.kept.size; omega
theorem wpList_by_row {w : World} {ops : Array Oper} {rest : List Oper} {o : Oper} {act : Act} {Q : Exit → Act → World → Prop} (hgd : o.guard = none) (s x : Operand)
    (ho : o.op = .call { callee := .builtin .append, args := #[s, x], argTypes := #[22, 22] })
    {w0 : World} {a : Option Addr} {l c : Nat} {L : List UInt8} (hS : BySt w0 w a l c L) (hs : act.eval s = .slice a l c) (ad : Addr) (cx m : Nat) (M : List UInt8) (hm : m = M.length) (hx : act.eval x = .slice (some ad) m cx) (hr : Reads w (some ad) (nb M)) (hn : l + m ≤ 100000000)
    (h : ∀ a2 c2 w', BySt w0 w' a2 (l + m) c2 (L ++ M) → wpList Tryz.prog ops Q rest (act.put o.dst (.slice a2 (l + m) c2)) w') : wpList Tryz.prog ops Q (o :: rest) act w := by
  obtain ⟨i0, hi, hz0, hz1, hz2⟩ := info_parts info5
  refine wpList_app w hgd s x 22 ho 5 i0 (.int .u8 0) 1 1 Tryz.underlying22 hi hz0 hz1 hz2 rfl (by decide) _ l (bc L) hs hS.own ad m cx (bc M) hx (by simp [bc, hm]) ?_ ?_ (by unfold maxLen; omega) (by omega) ?_
  · rw [bc_nb]; exact reads_news hr
  · rw [bc_nb]; exact news_one _
  intro v' w' h2 h3 h4
  obtain ⟨a2, c2, rfl, hb⟩ := hS.grow h2 hm h3 h4
  exact h _ _ _ hb

/-- An own row, as what reads it asks. -/
theorem BySt.rowB {w0 w : World} {a : Option Addr} {l c : Nat} {L : List UInt8} (h : BySt w0 w a l c L) : RowB w w.heap.size a L := fun hl => by
  have hn := h.len
  rcases h.own.2 with ⟨_, hz⟩ | ⟨g, cc, cur, hv, _⟩
  · omega
  · simp at hv
    obtain ⟨rfl, rfl⟩ := hv
    have hc : ∀ i, i < L.length → w.cell? ⟨g, i, none⟩ = some (.int .u8 ((L.getD i 0).toNat : Int)) := fun i hi => by
      rw [h.own.cellAt i (by omega), bc, List.getElem?_map, List.getElem?_eq_getElem hi]
      simp [List.getD, hi]
    refine ⟨g, 0, rfl, block_lt_of_cell (hc 0 hl), fun i hi => ?_⟩
    rw [Nat.zero_add]
    exact hc i hi
end Go.Proofs.YtdpegahcgaicnaaGreatDoor

namespace Go.Proofs.YtdpegahcgaicnaaGreatDoor
open Go.RowKit
set_option linter.unusedVariables false
set_option linter.unusedSimpArgs false

theorem mask3 (n : Int) : bits .and .i64 n 3 = n % 4 := i64_mask n 2 (by decide)
theorem maskF (n : Int) : bits .and .i64 n 15 = n % 16 := i64_mask n 4 (by decide)
theorem mask24 (n : Int) : bits .and .i64 n 16777215 = n % 16777216 := i64_mask n 24 (by decide)
theorem BySt.drewN {w0 w : World} {a : Option Addr} {l c : Nat} {L : List UInt8} (h : BySt w0 w a l c L) (k : Nat) : BySt w0 (w.drewN k) a l c L := h.on (Kept.drewN (Kept.refl _ _) k)
/-- Nothing appended. -/
theorem wpList_by_none {w : World} {ops : Array Oper} {rest : List Oper} {o : Oper} {act : Act} {Q : Exit → Act → World → Prop} (hgd : o.guard = none) (s x : Operand)
    (ho : o.op = .call { callee := .builtin .append, args := #[s, x], argTypes := #[22, 22] })
    {w0 : World} {a : Option Addr} {l c : Nat} {L : List UInt8} (hS : BySt w0 w a l c L) (hs : act.eval s = .slice a l c) (hx : act.eval x = .slice none 0 0)
    (h : wpList Tryz.prog ops Q rest (act.put o.dst (.slice a l c)) w) : wpList Tryz.prog ops Q (o :: rest) act w := by
  obtain ⟨i, hi, hz, hsz, hby⟩ := info_parts info5
  refine wpList_plain hgd fun _ hK => ?_
  have hr := run_append_owned_none (P := Tryz.prog) (w := w) 0 22 o.type 5 i 1 Tryz.underlying22 hi (.slice a l c) l (bc L) hS.own
  unfold Oper.wp execOp
  simp only [ho, resolve, invoke, builtin, Sem.run_bind, Sem.run_pure, Result.andThen_ok, List.map_toArray, List.map_cons, List.map_nil, hs, hx, hr]
  exact hK _ _ h
/-- One byte appended. -/
theorem wpList_by_one {w : World} {ops : Array Oper} {rest : List Oper} {o : Oper} {act : Act} {Q : Exit → Act → World → Prop} (hgd : o.guard = none) (s x : Operand)
    (ho : o.op = .call { callee := .builtin .append, args := #[s, x], argTypes := #[22, 22] })
    {w0 : World} {a : Option Addr} {l c : Nat} {L : List UInt8} (hS : BySt w0 w a l c L) (hs : act.eval s = .slice a l c) (b : UInt8) (z : Int) (hz : z = (b.toNat : Int)) (hx : act.eval x = .slice (some ⟨w.heap.size, 0, none⟩) 1 1) (hn : l + 1 ≤ 100000000)
    (h : ∀ a2 c2 w', BySt w0 w' a2 (l + 1) c2 (L ++ [b]) → wpList Tryz.prog ops Q rest (act.put o.dst (.slice a2 (l + 1) c2)) w') : wpList Tryz.prog ops Q (o :: rest) act (w.alloc (.cells #[.int .u8 z] 5)) :=
  wpList_by_row hgd s x ho (hS.on ((Kept.refl _ w).alloc _)) hs ⟨w.heap.size, 0, none⟩ 1 1 [b] rfl hx (lit_reads (t := 5) (fr := (0, 0)) (cs := #[.int .u8 z]) _ (heap_alloc_new _ _) (by rw [hz]; rfl)) hn h

set_option maxRecDepth 20000 in
set_option maxHeartbeats 4000000 in
theorem rows7_any (bo : Option Addr) (bl cb : Nat) (B : List UInt8) (lo : Option Addr) (nl cl : Nat) (zs : List Int) (w : World) (hbl : bl = B.length) (hrb : Reads w bo (nb B)) (hbn : bo = none → cb = 0) (hbc : bl ≤ cb) (hbm : cb ≤ maxLen) (hl : RdI w w.heap.size lo zs) (hnl : nl = zs.length) (hlc : nl ≤ cl) (hcm : cl ≤ maxLen) :
    Calls Tryz.prog 10 #[.slice bo bl cb, .slice lo nl cl] w fun e w' => ∃ (x : List UInt8) (a : Option Addr) (m c : Nat), e = .returned (.slice a m c) ∧ m ≤ 200 ∧ BySt w w' a m c x := by
  unfold maxLen at hbm hcm
  have HBl := Lib.hid hbl; have HRb := Lib.hid hrb; have HBn := Lib.hid hbn; have HL := Lib.hid hl; have HNl := Lib.hid hnl
  clear hbl hrb hbn hl hnl
  go_enter Tryz.func10, Tryz.ntmps10
  go_wp2_with fail
  go_loopw [5, 6] (fun v5 v6 wr => ∃ (x : List UInt8) (a : Option Addr) (m c i : Nat), v5 = .slice a m c ∧ v6 = .int .i64 (i : Int) ∧ i ≤ nl ∧ m ≤ 200 ∧ Hid (BySt w wr a m c x)) (fun _ v6 _ => nl - (intOf v6).toNat)
  case atStart => exact ⟨[], none, 0, 0, 0, rfl, rfl, by omega, by omega, Lib.hid (BySt.nil w)⟩
  case round =>
    obtain ⟨x, a, m, c, i, rfl, rfl, hi, hm, HS⟩ := hrel
    by_cases hgo : i < nl ∧ i < 40 ∧ m < 130
    · obtain ⟨h1, h2, h3⟩ := hgo
      obtain ⟨g, off, rfl, hgl, hc0⟩ := HL.out i (by have := HNl.out; omega)
      have hc0' := HS.out.kept.cell hc0
      generalize zs.getD i 0 = z at hc0'
      have hmz := mask24 z
      obtain ⟨X, hX⟩ : ∃ X : Nat, (X : Int) = z % 16777216 := ⟨(z % 16777216).toNat, by omega⟩
      rw [← hX] at hmz
      have hXb : X < 16777216 := by omega
      have h1' : (i : Int) < (nl : Int) := by omega
      have h2' : (i : Int) < 40 := by omega
      have h3' : (m : Int) < 130 := by omega
      clear hgl hc0 hX
      have hm3 := mask3 (X : Int)
      obtain ⟨r, hr⟩ : ∃ r : Nat, (r : Int) = (X : Int) % 4 := ⟨((X : Int) % 4).toNat, by omega⟩
      rw [← hr] at hm3
      by_cases hA : r = 0 ∨ m = 0
      · have hmF := maskF ((X : Int) / 4)
        obtain ⟨k0, hk0⟩ : ∃ k0 : Nat, (k0 : Int) = (X : Int) / 4 % 16 := ⟨((X : Int) / 4 % 16).toNat, by omega⟩
        rw [← hk0] at hmF
        have hk16 : k0 < 16 := by omega
        obtain ⟨k, hk⟩ : ∃ k, k = min bl k0 := ⟨_, rfl⟩
        have hkk : min (bl : Int) (k0 : Int) = (k : Int) := by omega
        have hkb : k < 16 ∧ k ≤ bl := by omega
        have hkc : (k : Int) ≤ (cb : Int) := by omega
        obtain ⟨y, hy⟩ : ∃ y : UInt8, IntKind.u8.wrap ((X : Int) / 256) = (y.toNat : Int) := ⟨UInt8.ofNat (X / 256), by
          rw [UInt8.toNat_ofNat']
          show ((X : Int) / 256) % 256 = _
          omega⟩
        have hAB : ((r : Int) == 0) = true ∨ (((r : Int) == 0) = false ∧ ((m : Int) == 0) = true) := by
          rcases hA with h | h
          · exact .inl (by simp [h])
          · by_cases h2 : r = 0
            · exact .inl (by simp [h2])
            · exact .inr ⟨by simp [h2], by simp [h]⟩
        clear hk0 hk hr hA h1 h2 h3
        cases bo with
        | none =>
          have hcb : cb = 0 := HBn.out rfl
          have hbl0 : bl = 0 := by omega
          have hkz : min (bl : Int) (k0 : Int) = 0 := by omega
          have hkz2 : (if (k0 : Int) < (bl : Int) then (k0 : Int) else (bl : Int)) = 0 := by rw [if_neg (by omega)]; omega
          have hkz3 : ¬ k0 < bl := by omega
          have hkz4 : (bl : Int) = 0 := by omega
          subst hcb
          subst hbl0
          clear hbc hkb hkk hkc hkz2 hkz3 hkz4
          rcases hAB with g1 | ⟨g1, g2⟩
          all_goals
            go_wp2_with (at_builtin; first | refine wpList_by_none rfl (.tmp 39) (.tmp 47) rfl HS.out rfl rfl ?_ | refine wpList_by_one rfl (.tmp 49) (.tmp 53) rfl HS.out rfl y _ rfl rfl (by omega) ?_)
            intro a3 c3 w3 hS3
            have HS3 := Lib.hid hS3
            clear hS3 HS hc0'
            go_wp2
            go_roundw
            case rel => exact ⟨x ++ [y], a3, m + 1, c3, i + 1, rfl, by go_num, by omega, by omega, HS3⟩
            case measure => simp [intOf]; omega
        | some ad =>
          have hrk : ∀ W, Kept NoB w W → Reads W (some ad) (nb (B.take k)) := fun W h => by
            have := reads_take k (HRb.out.keptNo h)
            rwa [nb, ← List.map_take] at this
          have hkl : k = (B.take k).length := by rw [List.length_take, ← HBl.out]; omega
          have HRk := Lib.hid hrk; have HKl := Lib.hid hkl
          clear hrk hkl
          have hway : (k = k0 ∧ k0 < bl) ∨ (k = bl ∧ ¬ k0 < bl) := by omega
          rcases hway with ⟨e, hq⟩ | ⟨e, hq⟩
          all_goals
            subst e
            clear hkk
          all_goals rcases hAB with g1 | ⟨g1, g2⟩
          all_goals
            go_wp2_with (at_builtin; refine wpList_by_row rfl (.tmp 39) (.tmp 47) rfl HS.out rfl ad cb k (B.take k) HKl.out rfl (HRk.out wr HS.out.kept) (by omega) ?_)
            intro a2 c2 w2 hS2
            have HS2 := Lib.hid hS2
            clear hS2 HS hc0'
            go_wp2_with (at_builtin; refine wpList_by_one rfl (.tmp 49) (.tmp 53) rfl HS2.out rfl y _ rfl rfl (by omega) ?_)
            intro a3 c3 w3 hS3
            have HS3 := Lib.hid hS3
            clear hS3 HS2
            go_wp2
            go_roundw
            case rel => exact ⟨x ++ (B.take k ++ [y]), a3, m + k + 1, c3, i + 1, rfl, by go_num, by omega, by omega, HS3⟩
            case measure => simp [intOf]; omega
      · have g1 : ((r : Int) == 0) = false := by simp; omega
        have g2 : ((m : Int) == 0) = false := by simp; omega
        have hm0 : 0 < m := by omega
        obtain ⟨A, hAA⟩ : ∃ A : Nat, (A : Int) = (X : Int) / 4 % (m : Int) := ⟨((X : Int) / 4 % (m : Int)).toNat, Int.toNat_of_nonneg (Int.emod_nonneg _ (by omega))⟩
        have hAm : A < m := by have := Int.emod_lt_of_pos ((X : Int) / 4) (show (0 : Int) < m by omega); omega
        have hA2 : (X : Int) / 4 % (m : Int) = (A : Int) := hAA.symm
        have hA3 : ((X : Int) / 4).tmod (m : Int) = (A : Int) := by rw [Int.tmod_eq_emod_of_nonneg (by omega)]; exact hAA.symm
        have hm63 := mask63 ((X : Int) / 4096)
        obtain ⟨q, hq⟩ : ∃ q : Nat, (q : Int) = (X : Int) / 4096 % 64 := ⟨((X : Int) / 4096 % 64).toNat, by omega⟩
        rw [← hq] at hm63
        have hq64 : q < 64 := by omega
        have hmz0 : ¬ m = 0 := by omega
        clear hAA hq hr hA h1 h2 h3
        go_wp2_with fail
        go_loopw [5, 10] (fun v5 v10 wq => ∃ (y : List UInt8) (a' : Option Addr) (l' c' k : Nat), v5 = .slice a' l' c' ∧ v10 = .int .i64 (k : Int) ∧ k ≤ q + 1 ∧ l' = m + k ∧ Hid (BySt w wq a' l' c' y)) (fun _ v10 _ => q + 1 - (intOf v10).toNat)
        case atStart => exact ⟨x, a, m, c, 0, rfl, rfl, by omega, by omega, HS⟩
        case round =>
          clear HS
          obtain ⟨y, a', l', c', k, rfl, rfl, hkq, hlk, HS⟩ := hrel
          by_cases hlt : k ≤ q
          · have hlt' : (k : Int) ≤ (q : Int) := by omega
            have hlt2 : (k : Int) < (q : Int) + 1 := by omega
            obtain ⟨g', o', rfl, hg', hrd⟩ := HS.out.rowB (by have := HS.out.len; omega)
            obtain ⟨u, hu⟩ : ∃ u, u = A + k := ⟨_, rfl⟩
            have hc := hrd u (by have := HS.out.len; omega)
            rw [Nat.zero_add] at hc
            have hwu : IntKind.i64.wrap ((A : Int) + (k : Int)) = (u : Int) := by rw [hu]; exact (IntWalk.i64_in _ (by omega)).trans (by omega)
            have hul : (u : Int) < (l' : Int) := by omega
            obtain ⟨b, hb⟩ : ∃ b, b = y.getD u 0 := ⟨_, rfl⟩
            rw [← hb] at hc
            have hlb : l' ≤ 300 := by omega
            have HLk := Lib.hid hlk; have HU := Lib.hid hu
            clear hrd hu hlk hb
            go_wp2_with (at_builtin; refine wpList_by_one rfl (.tmp 69) (.tmp 76) rfl HS.out rfl b _ rfl rfl (by omega) ?_)
            intro a3 c3 w3 hS3
            have HS3 := Lib.hid hS3
            clear hS3 HS hc
            go_wp2
            go_roundw
            case rel => exact ⟨y ++ [b], a3, l' + 1, c3, k + 1, rfl, by go_num, by omega, by have := HLk.out; omega, HS3⟩
            case measure => simp [intOf]; omega
          · have hlt' : ¬ (k : Int) ≤ (q : Int) := by omega
            have hlt2 : ¬ (k : Int) < (q : Int) + 1 := by omega
            have HLk := Lib.hid hlk
            clear hlk
            go_wp2
            go_roundw
            case rel => exact ⟨y, a', l', c', i + 1, rfl, by go_num, by omega, by have := HLk.out; omega, HS⟩
            case measure => simp [intOf]; omega
    · have hex : ¬ (i : Int) < (nl : Int) ∨ ((i : Int) < (nl : Int) ∧ ¬ (i : Int) < 40) ∨ ((i : Int) < (nl : Int) ∧ (i : Int) < 40 ∧ ¬ (m : Int) < 130) := by omega
      clear hgo
      rcases hex with h1 | ⟨h1, h2⟩ | ⟨h1, h2, h3⟩
      all_goals
        go_wp2
        go_ret
        exact ⟨x, a, m, c, rfl, hm, HS.out⟩
end Go.Proofs.YtdpegahcgaicnaaGreatDoor

namespace Go.Proofs.YtdpegahcgaicnaaGreatDoor
open Go.RowKit
set_option linter.unusedVariables false
set_option linter.unusedSimpArgs false

theorem infoTk : (Tryz.prog.info? 32).map (fun i => (i.zero, i.size, i.bytes)) = some (some (.agg #[.int .i64 0, .int .i64 0, .int .u8 0]), 3, 24) := by kernel_rfl
def tkC (ts : List Tk) : List Value := ts.flatMap fun t => [.int .i64 t.l, .int .i64 t.d, .int .u8 t.c]
theorem tkC_at : ∀ (ts : List Tk) (i : Nat) (h : i < ts.length), (tkC ts)[i * 3]? = some (.int .i64 ts[i].l) ∧ (tkC ts)[i * 3 + 1]? = some (.int .i64 ts[i].d) ∧ (tkC ts)[i * 3 + 2]? = some (.int .u8 ts[i].c) := by
  intro ts
  induction ts with
  | nil => intro i hi; simp at hi
  | cons p r ih =>
    intro i hi
    have e : tkC (p :: r) = .int .i64 p.l :: .int .i64 p.d :: .int .u8 p.c :: tkC r := by simp [tkC]
    rw [e]
    cases i with
    | zero => exact ⟨rfl, rfl, rfl⟩
    | succ i =>
      have hi' : i < r.length := by simpa using hi
      obtain ⟨h1, h2, h3⟩ := ih i hi'
      rw [show (i + 1) * 3 = i * 3 + 1 + 1 + 1 by omega]
      refine ⟨by simpa using h1, ?_, ?_⟩
      · rw [List.getElem?_cons_succ, List.getElem?_cons_succ, List.getElem?_cons_succ]; simpa using h2
      · rw [List.getElem?_cons_succ, List.getElem?_cons_succ, List.getElem?_cons_succ]; simpa using h3
/-- A row of tokens of the call's own. -/
structure TkSt (lo : Nat) (w : World) (a : Option Addr) (l c : Nat) (ts : List Tk) : Prop where
  len : l = ts.length
  own : w.ownsRow 0 32 3 (.slice a l c) l (tkC ts)
  fresh : ∀ k, (Value.slice a l c).ownBlock = some k → lo ≤ k
theorem TkSt.start (lo : Nat) (w : World) : TkSt lo w none 0 0 [] := ⟨rfl, World.ownsRow_nil _ _ _ _, (fun k hk => by simp [Value.ownBlock] at hk)⟩
theorem TkSt.keptS {S : Nat → Prop} {lo : Nat} {w w' : World} {a : Option Addr} {l c : Nat} {ts : List Tk} (h : TkSt lo w a l c ts) (hk : Kept S w w') (hs : ∀ k, lo ≤ k → ¬ S k) : TkSt lo w' a l c ts :=
  ⟨h.len, hk.row h.own (fun k hk2 => hs k (h.fresh k hk2)), h.fresh⟩
theorem TkSt.reads {lo : Nat} {w : World} {a : Option Addr} {l c : Nat} {ts : List Tk} (h : TkSt lo w a l c ts) : Toks w a ts := by
  intro i hi
  have hl := h.len
  have e : ts.getD i ⟨0, 0, 0⟩ = ts[i] := by simp [List.getD, hi]
  rw [e]
  rcases h.own.2 with ⟨_, hz⟩ | ⟨g, cc, cur, hv, _⟩
  · omega
  · simp at hv
    obtain ⟨rfl, rfl⟩ := hv
    obtain ⟨h1, h2, h3⟩ := tkC_at ts i hi
    refine ⟨g, 0, rfl, ?_, ?_, ?_⟩
    · rw [Nat.zero_add, ← h1]; exact h.own.cellAt (i * 3) (by omega)
    · rw [Nat.zero_add, ← h2]; exact h.own.cellAt (i * 3 + 1) (by omega)
    · rw [Nat.zero_add, ← h3]; exact h.own.cellAt (i * 3 + 2) (by omega)
theorem TkSt.cap {lo : Nat} {w : World} {a : Option Addr} {l c : Nat} {ts : List Tk} (h : TkSt lo w a l c ts) : l ≤ c ∧ c ≤ maxLen ∧ (a = none → c = 0) := by
  rcases h.own.2 with ⟨hv, hz⟩ | ⟨g, cc, cur, hv, _, _, h1, h2, _⟩
  · simp at hv
    obtain ⟨_, rfl, rfl⟩ := hv
    exact ⟨Nat.le_refl _, Nat.zero_le _, fun _ => rfl⟩
  · simp at hv
    obtain ⟨rfl, rfl⟩ := hv
    exact ⟨h1, h2, fun h => by cases h⟩
theorem slice_shape {w : World} {base e s : Nat} {v : Value} {n : Nat} {xs : List Value} (h : w.ownsRow base e s v n xs) : ∃ ao cap, v = .slice ao n cap := by
  rcases h.2 with ⟨rfl, rfl⟩ | ⟨g, cap, cur, rfl, _⟩
  · exact ⟨none, 0, rfl⟩
  · exact ⟨_, cap, rfl⟩
/-- One token more. -/
theorem wpList_tk {ops : Array Oper} {rest : List Oper} {o : Oper} {act : Act} {w : World} {Q : Exit → Act → World → Prop} (hgd : o.guard = none) (s x : Operand)
    (ho : o.op = .call { callee := .builtin .append, args := #[s, x], argTypes := #[30, 30] })
    {lo : Nat} {a1 : Option Addr} {l1 c1 : Nat} {ts : List Tk} (hS : TkSt lo w a1 l1 c1 ts) (hlo : lo ≤ w.heap.size) (hs : act.eval s = .slice a1 l1 c1)
    (g cx : Nat) (t : Tk) (hx : act.eval x = .slice (some ⟨g, 0, none⟩) 1 cx) (h0 : w.cell? ⟨g, 0, none⟩ = some (.int .i64 t.l)) (h1 : w.cell? ⟨g, 1, none⟩ = some (.int .i64 t.d)) (h2' : w.cell? ⟨g, 2, none⟩ = some (.int .u8 t.c)) (hn : l1 ≤ 1000000)
    (h : ∀ a2 c2 w', TkSt lo w' a2 (l1 + 1) c2 (ts ++ [t]) → Kept (fun k => lo ≤ k) w w' → wpList Tryz.prog ops Q rest (act.put o.dst (.slice a2 (l1 + 1) c2)) w') : wpList Tryz.prog ops Q (o :: rest) act w := by
  obtain ⟨i0, hi, hz0, hz1, hz2⟩ := info_parts infoTk
  refine wpList_app w hgd s x 30 ho 32 i0 (.agg #[.int .i64 0, .int .i64 0, .int .u8 0]) 3 24 Tryz.underlying30 hi hz0 hz1 hz2 rfl (by decide) _ l1 (tkC ts) hs hS.own ⟨g, 0, none⟩ 1 cx [.int .i64 t.l, .int .i64 t.d, .int .u8 t.c] hx rfl ?_ ?_ (by unfold maxLen; omega) (by omega) ?_
  · intro j u hu
    rw [addr_add, Nat.zero_add]
    match j with
    | 0 => simp at hu; subst hu; exact h0
    | 1 => simp at hu; subst hu; exact h1
    | 2 => simp at hu; subst hu; exact h2'
    | j + 3 => simp at hu
  · intro u hu
    simp at hu
    rcases hu with rfl | rfl | rfl <;> rfl
  intro v' w' h2 h3 h4
  obtain ⟨a2, c2, rfl⟩ := slice_shape h2
  refine h _ _ _ ⟨by rw [List.length_append, ← hS.len]; rfl, by simpa [tkC] using h2, ?_⟩ ((Kept.refl _ w).grown h3 (fun k _ e => hS.fresh k e))
  intro k hk
  rcases h4 k hk with h | h
  · exact hS.fresh k h
  · omega
end Go.Proofs.YtdpegahcgaicnaaGreatDoor

namespace Go.Proofs.YtdpegahcgaicnaaGreatDoor
open Go.RowKit
set_option linter.unusedVariables false

variable {T1 T2 : TypeId} {w0 w w' : World} {A : Nat} {aoa : Option Addr} {capa : Nat} {ba : List Int} {sa : Nat} {B : Nat} {aob : Option Addr} {capb : Nat} {bb : List Int} {sb : Nat}
end Go.Proofs.YtdpegahcgaicnaaGreatDoor

namespace Go.Proofs.YtdpegahcgaicnaaGreatDoor
open Go.RowKit
set_option linter.unusedVariables false
set_option linter.unusedSimpArgs false

variable {T1 T2 : TypeId} {w0 w w' : World} {A : Nat} {aoa : Option Addr} {capa : Nat} {ba : List Int} {sa : Nat} {B : Nat} {aob : Option Addr} {capb : Nat} {bb : List Int} {sb : Nat}
/-- Both hold the same bytes. -/
def DuoF (w0 w : World) (A B : Nat) (bs : List Int) (s : Nat) : Prop := ∃ aoa capa aob capb, Two 73 45 w0 w A aoa capa bs s B aob capb bs s
/-- The first is ahead by what it was given. -/
def HalfF (w0 w : World) (A B : Nat) (bs : List Int) (s : Nat) (ps : List (Nat × Nat)) : Prop := ∃ aoa capa b2 aob capb, Two 73 45 w0 w A aoa capa b2 (s + wdN ps) B aob capb bs s ∧ num b2 = num bs + putsN ps * 2 ^ s
theorem HalfF.keptNo {A B s : Nat} {bs : List Int} {ps : List (Nat × Nat)} (h : HalfF w0 w A B bs s ps) (hk : Kept NoB w w') : HalfF w0 w' A B bs s ps := by
  obtain ⟨a, c, b2, x, y, h1, h2⟩ := h
  exact ⟨a, c, b2, x, y, h1.keptNo hk, h2⟩
theorem DuoF.keptNo {A B s : Nat} {bs : List Int} (h : DuoF w0 w A B bs s) (hk : Kept NoB w w') : DuoF w0 w' A B bs s := by
  obtain ⟨a, c, x, y, h1⟩ := h
  exact ⟨a, c, x, y, h1.keptNo hk⟩
theorem TokWs.wd {lit dist : List Int} (h1 : Small 15 lit) (h2 : Small 15 dist) {ts : List Tk} {ws : List (Nat × Nat)} (h : TokWs lit dist ts ws) : wdN ws ≤ 48 * ts.length := by
  induction h with
  | nil => simp [wdN]
  | cons a _ ih => have := a.wd h1 h2; rw [wdN_append]; simp only [List.length_cons]; omega
end Go.Proofs.YtdpegahcgaicnaaGreatDoor

namespace Go.Proofs.YtdpegahcgaicnaaGreatDoor
open Go.RowKit
set_option linter.unusedVariables false
set_option linter.unusedSimpArgs false

/-- Where a part of an own row lies. -/
structure PartR (a : Option Addr) (len cap : Nat) (xs : List Int) (l h : Nat) (o1 : Option Addr) (c1 : Nat) : Prop where
  reads : ∀ W, Reads W a xs → Reads W o1 ((xs.drop l).take (h - l))
  room : h - l ≤ c1
  block : ∀ q, o1 = some q → ∃ q', a = some q' ∧ q.block = q'.block
theorem part_of (a : Option Addr) (len cap l h : Nat) (xs : List Int) (hlen : len = xs.length) (hs : ∀ q, a = some q → ∃ g, q = ⟨g, 0, none⟩) (hl : l ≤ h) (hh : h ≤ len) (hc : len ≤ cap) (hn : a = none → cap = 0) :
    ∃ o1 c1, sliced a l h cap 1 = .slice o1 (h - l) c1 ∧ PartR a len cap xs l h o1 c1 := by
  cases a with
  | none =>
    have h0 := hn rfl
    refine ⟨none, cap - l, ?_, ⟨fun W hr => ?_, by omega, fun q e => by cases e⟩⟩
    · unfold sliced
      rw [if_pos (by omega)]
    · have e : (xs.drop l).take (h - l) = [] := List.eq_nil_of_length_eq_zero (by rw [List.length_take, List.length_drop]; omega)
      rw [e]; exact ⟨fun _ => rfl, fun a ha => by cases ha⟩
  | some q =>
    obtain ⟨g, rfl⟩ := hs q rfl
    by_cases hcl : cap = l
    · refine ⟨some ⟨g, 0, none⟩, cap - l, ?_, ⟨fun W hr => ?_, by omega, fun q e => ⟨_, rfl, by cases e; rfl⟩⟩⟩
      · unfold sliced
        rw [if_pos hcl]
      · have e : (xs.drop l).take (h - l) = [] := List.eq_nil_of_length_eq_zero (by rw [List.length_take, List.length_drop]; omega)
        rw [e]; exact reads_empty
    · refine ⟨some ⟨g, l, none⟩, cap - l, ?_, ⟨fun W hr => ?_, by omega, fun q e => ⟨_, rfl, by cases e; rfl⟩⟩⟩
      · unfold sliced
        rw [if_neg hcl]
        simp [Addr.add]
        intro h0
        exact h0.symm
      · have h1 := reads_drop l hr
        rw [addr_add, Nat.zero_add] at h1
        exact reads_take _ h1
set_option maxRecDepth 100000 in
theorem size_u8 : ∀ W : World, (sizeOf (Tryz.prog.elem 22)).run Tryz.prog W = .ok 1 W := fun W => by rfl
theorem slc_h (a : Option Addr) (len cap h : Nat) (xs : List Int) (hlen : len = xs.length) (hs : ∀ q, a = some q → ∃ g, q = ⟨g, 0, none⟩) (hh : h ≤ len) (hc : len ≤ cap) (hn : a = none → cap = 0) :
    ∃ o1 c1, (∀ W, (Instr.slice 22 (.slice a len cap) none (some (.int .i64 (h : Int))) none).run Tryz.prog W = .ok (.slice o1 h c1) W) ∧ PartR a len cap xs 0 h o1 c1 := by
  obtain ⟨o1, c1, h1, h2⟩ := part_of a len cap 0 h xs hlen hs (Nat.zero_le _) hh hc hn
  refine ⟨o1, c1, fun W => ?_, h2⟩
  rw [run_slice_h (P := Tryz.prog) (w := W) 22 a len cap (by kernel_rfl) .i64 (h : Int) (by omega) (by omega), size_u8]
  simp only [Result.andThen, Int.toNat_natCast]
  rw [h1, Nat.sub_zero]
theorem slc_lh (a : Option Addr) (len cap l h : Nat) (xs : List Int) (hlen : len = xs.length) (hs : ∀ q, a = some q → ∃ g, q = ⟨g, 0, none⟩) (hl : l ≤ h) (hh : h ≤ len) (hc : len ≤ cap) (hn : a = none → cap = 0) :
    ∃ o1 c1, (∀ W, (Instr.slice 22 (.slice a len cap) (some (.int .i64 (l : Int))) (some (.int .i64 (h : Int))) none).run Tryz.prog W = .ok (.slice o1 (h - l) c1) W) ∧ PartR a len cap xs l h o1 c1 := by
  obtain ⟨o1, c1, h1, h2⟩ := part_of a len cap l h xs hlen hs hl hh hc hn
  refine ⟨o1, c1, fun W => ?_, h2⟩
  rw [run_slice_lh (P := Tryz.prog) (w := W) 22 a len cap (by kernel_rfl) .i64 .i64 (l : Int) (h : Int) (by omega) (by omega) (by omega), size_u8]
  simp only [Result.andThen, Int.toNat_natCast]
  rw [h1]
theorem slc_l (a : Option Addr) (len cap l : Nat) (xs : List Int) (hlen : len = xs.length) (hs : ∀ q, a = some q → ∃ g, q = ⟨g, 0, none⟩) (hl : l ≤ len) (hc : len ≤ cap) (hn : a = none → cap = 0) :
    ∃ o1 c1, (∀ W, (Instr.slice 22 (.slice a len cap) (some (.int .i64 (l : Int))) none none).run Tryz.prog W = .ok (.slice o1 (len - l) c1) W) ∧ PartR a len cap xs l len o1 c1 := by
  obtain ⟨o1, c1, h1, h2⟩ := part_of a len cap l len xs hlen hs hl (Nat.le_refl _) hc hn
  refine ⟨o1, c1, fun W => ?_, h2⟩
  rw [run_slice_l (P := Tryz.prog) (w := W) 22 a len cap (by kernel_rfl) .i64 (l : Int) (by omega) (by omega), size_u8]
  simp only [Result.andThen, Int.toNat_natCast]
  rw [h1]
/-- A token a byte. -/
def litsT (b : List Int) : List Tk := b.map fun x => ⟨0, 0, x⟩
theorem lits_len (b : List Int) : (litsT b).length = b.length := by simp [litsT]
theorem lits_wf {b : List Int} (h : AllB b) : AllT (litsT b) := fun t ht => by
  obtain ⟨x, hx, rfl⟩ := List.mem_map.1 ht
  have := h x hx
  exact ⟨by simp, by simp, (by show (0 : Int) ≤ x; omega), (by show x < 256; omega)⟩
theorem lits_ok (b : List Int) : allOkB (litsT b) = true := by
  unfold allOkB litsT
  rw [List.all_map, List.all_eq_true]
  intro x _
  simp [Tk.ok]
theorem lits_good : ∀ (b : List Int) (most : Nat) (out : List Int), out.length + b.length ≤ most → good (most : Int) (litsT b) out ∧ putAll (litsT b) out = out ++ b
  | [], most, out, h => ⟨trivial, by simp [litsT, putAll]⟩
  | x :: r, most, out, h => by
    simp only [List.length_cons] at h
    have hp : (Tk.mk 0 0 x).put out = out ++ [x] := by simp [Tk.put]
    obtain ⟨h1, h2⟩ := lits_good r most (out ++ [x]) (by simp; omega)
    have hno : (Tk.mk 0 0 x).no out.length (most : Int) = 0 := by
      unfold Tk.no
      have hok : (Tk.mk 0 0 x).ok = true := by simp [Tk.ok]
      rw [hok]
      simp
      omega
    refine ⟨⟨hno, by rw [hp]; exact h1⟩, ?_⟩
    have e : putAll (litsT (x :: r)) out = putAll (litsT r) ((Tk.mk 0 0 x).put out) := rfl
    rw [e, hp, h2]; simp
theorem lits_snoc (b : List Int) (x : Int) : litsT (b ++ [x]) = litsT b ++ [⟨0, 0, x⟩] := by simp [litsT]
/-- So far what was put says O; d: whether the last block was put. -/
structure Said (d : Bool) (ps : List (Nat × Nat)) (O : List Int) : Prop where
  lt : ∀ y ∈ ps, y.1 < 2 ^ y.2
  run : ∀ (bs : List Int) (post : List (Nat × Nat)) (most : Nat), Puts bs 0 (ps ++ post) → O.length ≤ most → Steps bs most 0 .block false [] (wdN ps) (endM d) d O
theorem Said.nil : Said false [] [] := ⟨(fun y h => by cases h), (fun bs post most _ _ => Steps.refl)⟩
theorem Said.more {d : Bool} {ps qs : List (Nat × Nat)} {O b : List Int} (h : Said false ps O) (hb : BlkS (wdN ps) d qs b) : Said d (ps ++ qs) (O ++ b) := by
  refine ⟨fun y hy => ?_, fun bs post most hp hm => ?_⟩
  · rcases List.mem_append.1 hy with h1 | h1
    · exact h.lt y h1
    · exact hb.lt y h1
  · rw [List.length_append] at hm
    exact (h.run bs (qs ++ post) most (by rw [← List.append_assoc]; exact hp) (by omega)).trans (hb.run bs ps post most false O rfl hp hm)
end Go.Proofs.YtdpegahcgaicnaaGreatDoor
