/-
  sparse.appendNumber.
-/
import Derived.Test.YtbambcondcikbaaDoorSpOk
namespace Go.Proofs.YtbambcondcikbaaDoor
open Go.RowKit
set_option linter.unusedVariables false
set_option linter.unusedSimpArgs false

theorem itoa_len (n : Int) (h0 : -9223372036854775808 ≤ n) (h1 : n ≤ 9223372036854775807) : 1 ≤ (Lib.itoa n).length ∧ (Lib.itoa n).length ≤ 20 := by
  have hU : ∀ U : Nat, U ≤ 9223372036854775808 → 1 ≤ (Lib.decDigits U).length ∧ (Lib.decDigits U).length ≤ 19 := fun U hU => by
    refine ⟨?_, decDigits_len 19 U (by decide) (by omega)⟩
    have := decDigits_ne U
    cases hd : Lib.decDigits U with
    | nil => exact absurd hd this
    | cons _ _ => simp
  by_cases h : n < 0
  · have := hU n.natAbs (by omega)
    rw [show n = -((n.natAbs : Nat) : Int) by omega, Lib.itoa_neg _ (by omega), List.length_cons]
    omega
  · have := hU n.toNat (by omega)
    rw [show n = ((n.toNat : Nat) : Int) by omega, Lib.itoa_nonneg]
    omega
theorem wpList_by_strG {w : World} {ops : Array Oper} {rest : List Oper} {o : Oper} {act : Act} {Q : Exit → Act → World → Prop} (hgd : o.guard = none) (s x : Operand)
    (ho : o.op = .call { callee := .builtin .append, args := #[s, x], argTypes := #[26, 9] })
    {w0 : World} {a : Option Addr} {l c : Nat} {L : List UInt8} (hS : BySt w0 w a l c L) (hs : act.eval s = .slice a l c) (X : ByteArray) (M : List UInt8) (hX : X = strB M) (hx : act.eval x = .string X) (h0 : M ≠ []) (hn : l + M.length ≤ 100000000)
    (h : ∀ a2 c2 w', BySt w0 w' a2 (l + M.length) c2 (L ++ M) → w.grownBy w' (Value.slice a l c).ownBlock → (∀ k, (Value.slice a2 (l + M.length) c2).ownBlock = some k → (Value.slice a l c).ownBlock = some k ∨ w.heap.size ≤ k) → wpList Tryd.prog ops Q rest (act.put o.dst (.slice a2 (l + M.length) c2)) w') : wpList Tryd.prog ops Q (o :: rest) act w := by
  subst hX
  have hsz := strB_size M
  have h00 : 0 < M.length := by cases M with | nil => exact absurd rfl h0 | cons _ _ => simp
  refine wpList_app_str hgd s x 26 9 ho Tryd.underlying26 Tryd.underlying9 _ l (bc L) hs hS.own (strB M) hx (by omega) (by omega) ?_
  intro v' w' h2 h3 h4
  rw [byteCells_strB, hsz] at h2
  obtain ⟨a2, c2, rfl, hb⟩ := hS.grow h2 rfl h3 h4
  rw [hsz] at *
  exact h _ _ _ hb h3 h4
theorem wpList_by_rowG {w : World} {ops : Array Oper} {rest : List Oper} {o : Oper} {act : Act} {Q : Exit → Act → World → Prop} (hgd : o.guard = none) (s x : Operand)
    (ho : o.op = .call { callee := .builtin .append, args := #[s, x], argTypes := #[26, 26] })
    {w0 : World} {a : Option Addr} {l c : Nat} {L : List UInt8} (hS : BySt w0 w a l c L) (hs : act.eval s = .slice a l c) (ad : Addr) (cx m : Nat) (M : List UInt8) (hm : m = M.length) (hx : act.eval x = .slice (some ad) m cx) (hr : Reads w (some ad) (nb M)) (hn : l + m ≤ 100000000)
    (h : ∀ a2 c2 w', BySt w0 w' a2 (l + m) c2 (L ++ M) → w.grownBy w' (Value.slice a l c).ownBlock → (∀ k, (Value.slice a2 (l + m) c2).ownBlock = some k → (Value.slice a l c).ownBlock = some k ∨ w.heap.size ≤ k) → wpList Tryd.prog ops Q rest (act.put o.dst (.slice a2 (l + m) c2)) w') : wpList Tryd.prog ops Q (o :: rest) act w := by
  obtain ⟨i0, hi, hz0, hz1, hz2⟩ := info_parts info5
  refine wpList_app w hgd s x 26 ho 5 i0 (.int .u8 0) 1 1 Tryd.underlying26 hi hz0 hz1 hz2 rfl (by decide) _ l (bc L) hs hS.own ad m cx (bc M) hx (by simp [bc, hm]) ?_ ?_ (by unfold maxLen; omega) (by omega) ?_
  · rw [bc_nb]; exact reads_news hr
  · rw [bc_nb]; exact news_one _
  intro v' w' h2 h3 h4
  obtain ⟨a2, c2, rfl, hb⟩ := hS.grow h2 hm h3 h4
  exact h _ _ _ hb h3 h4
/-- What a call on a row of bytes of the caller's gives back. -/
def ByR (w0 w : World) (v : Value) (M : List UInt8) (e : Ending) (w' : World) : Prop := ∃ a2 c2, e = .returned (.slice a2 M.length c2) ∧ BySt w0 w' a2 M.length c2 M ∧ Kept (OwnB v) w w' ∧ ∀ k, (Value.slice a2 M.length c2).ownBlock = some k → v.ownBlock = some k ∨ w.heap.size ≤ k

set_option maxRecDepth 20000 in
set_option maxHeartbeats 4000000 in
theorem appNum_any (w0 : World) (a : Option Addr) (l c : Nat) (L : List UInt8) (n : Int) (w : World) (h0 : -9223372036854775808 ≤ n) (h1 : n ≤ 9223372036854775807) (hS : BySt w0 w a l c L) (hl : l ≤ 50000000) (htab : Pow10 w) :
    Calls Tryd.prog 33 #[.slice a l c, .int .i64 n] w (ByR w0 w (.slice a l c) (L ++ lineB n)) := by
  have HD := Lib.hid (digits_any n h0 h1 w htab)
  have hil := itoa_len n h0 h1
  have hne : Lib.itoa n ≠ [] := by intro e; rw [e] at hil; simp at hil
  obtain ⟨D, hD⟩ : ∃ D, D = Lib.itoa n := ⟨_, rfl⟩
  obtain ⟨X, hX⟩ : ∃ X : ByteArray, X = ⟨(Lib.itoa n).toArray⟩ := ⟨_, rfl⟩
  rw [← hX] at HD
  have hXD : X = strB D := by rw [hX, hD]; rfl
  rw [← hD] at hil hne
  have hLn : L ++ lineB n = L ++ D ++ [10] := by rw [lineB, ← hD]; simp
  rw [hLn]
  obtain ⟨M, hM⟩ : ∃ M, M = L ++ D ++ [10] := ⟨_, rfl⟩
  rw [← hM]
  have HM := Lib.hid hM
  clear hM
  obtain ⟨dl, hdl⟩ : ∃ dl, dl = D.length := ⟨_, rfl⟩
  rw [← hdl] at hil
  have HXD := Lib.hid hXD; have HNe := Lib.hid hne; have HS := Lib.hid hS; have HDl := Lib.hid hdl
  clear hD hX hXD hne hS htab hLn hdl
  go_enter Tryd.func33, Tryd.ntmps33
  go_wp2_with fail
  refine HD.out.mono ?_
  rintro e w1 ⟨rfl, hk1⟩
  have HS1 := Lib.hid (HS.out.on hk1)
  have HK1 := Lib.hid (hk1.mono (T := OwnB (.slice a l c)) (fun k _ h => absurd h (fun h => h)))
  have HZ1 := Lib.hid hk1.size
  clear hk1
  go_wp2_with (at_builtin; refine wpList_by_strG rfl (.tmp 5) (.tmp 7) rfl HS1.out rfl X D HXD.out rfl HNe.out (by have := HDl.out; omega) ?_)
  intro a2 c2 w2 h2 g2 f2
  have HK2 := Lib.hid (HK1.out.grown g2 (fun k _ e => e))
  have HF2 : Hid (∀ k, (Value.slice a2 (l + D.length) c2).ownBlock = some k → (Value.slice a l c).ownBlock = some k ∨ w.heap.size ≤ k) := Lib.hid (fun k hk => (f2 k hk).imp id (fun h => Nat.le_trans HZ1.out h))
  clear g2 f2
  have hl2 : l + D.length ≤ 60000000 := by have := HDl.out; omega
  have H2 := Lib.hid h2
  clear h2
  obtain ⟨l2, hl22⟩ : ∃ l2, l2 = l + D.length := ⟨_, rfl⟩
  rw [← hl22] at H2 hl2 HF2 ⊢
  clear hl22
  go_wp2_with (at_builtin; refine wpList_by_rowG rfl (.tmp 8) (.tmp 9) rfl (H2.out.on ((Kept.refl NoB w2).alloc _)) rfl ⟨w2.heap.size, 0, none⟩ 1 1 [10] rfl rfl (lit_reads (t := 5) (fr := (0, 0)) (cs := #[.int .u8 10]) _ (heap_alloc_new _ _) rfl) (by omega) ?_)
  intro a3 c3 w3 h3 g3 f3
  have HK3 : Hid (Kept (OwnB (.slice a l c)) w w3) := Lib.hid ((HK2.out.alloc _).grown g3 (fun k hk e => by
    rcases HF2.out k e with h | h
    · exact h
    · omega))
  have HF3 : Hid (∀ k, (Value.slice a3 (l2 + 1) c3).ownBlock = some k → (Value.slice a l c).ownBlock = some k ∨ w.heap.size ≤ k) := Lib.hid (fun k hk => by
    rcases f3 k hk with h | h
    · exact HF2.out k h
    · have h1 := HK2.out.size
      have h2 := (Kept.alloc (Kept.refl NoB w2) (.cells #[.int .u8 10] 5)).size
      exact .inr (by omega))
  clear g3 f3
  have H3 : Hid (BySt w0 w3 a3 (l2 + 1) c3 M) := Lib.hid (by rw [HM.out]; simpa using h3)
  have HL := Lib.hid H3.out.len
  clear h3
  go_wp2
  go_ret
  exact ⟨a3, c3, by rw [← HL.out]; rfl, by rw [← HL.out]; exact H3.out, HK3.out, by rw [← HL.out]; exact HF3.out⟩
end Go.Proofs.YtbambcondcikbaaDoor
