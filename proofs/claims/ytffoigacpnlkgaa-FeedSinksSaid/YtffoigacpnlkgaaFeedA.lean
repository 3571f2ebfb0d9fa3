/-
  A row of numbers, and a copy of it; a source of bytes in pieces.
-/
import Derived.Test.YtffoigacpnlkgaaParts
import Derived.Test.YtffoigacpnlkgaaCrcS
import Derived.Deep.DeepCutAuto
namespace Go.Proofs.Ytffoigacpnlkgaa
open Go.RowKit
set_option linter.unusedVariables false

theorem infoI : (Try.prog.info? 3).map (fun i => (i.zero, i.size, i.bytes)) = some (some (.int .i64 0), 1, 8) := by kernel_rfl
theorem cells_int : Try.prog.cellsOf 3 = 1 := by kernel_rfl

/-- A slice of numbers reads as zs; its block is below B. -/
def RdI (w : World) (B : Nat) (ao : Option Addr) (zs : List Int) : Prop :=
  ∀ i, i < zs.length → ∃ g off, ao = some ⟨g, off, none⟩ ∧ g < B ∧ w.cell? ⟨g, off + i, none⟩ = some (.int .i64 (zs.getD i 0))
theorem RdI.kept {S : Nat → Prop} {w w' : World} {B : Nat} {ao : Option Addr} {zs : List Int} (h : RdI w B ao zs) (hk : Kept S w w') (hs : ∀ k, k < B → ¬ S k) : RdI w' B ao zs := by
  intro i hi
  obtain ⟨g, off, h1, h2, h3⟩ := h i hi
  exact ⟨g, off, h1, h2, (World.cell?_of_block (hk.block _ (World.block_lt_of_cell? w _ h3) (hs g h2))).trans h3⟩
theorem RdI.mono {w : World} {B C : Nat} {ao : Option Addr} {zs : List Int} (h : RdI w B ao zs) (hb : B ≤ C) : RdI w C ao zs := by
  intro i hi
  obtain ⟨g, off, h1, h2, h3⟩ := h i hi
  exact ⟨g, off, h1, Nat.lt_of_lt_of_le h2 hb, h3⟩
theorem RdI.room {w : World} {B : Nat} {ao : Option Addr} {zs : List Int} (h : RdI w B ao zs) : RdI w w.heap.size ao zs := by
  intro i hi
  obtain ⟨g, off, h1, h2, h3⟩ := h i hi
  exact ⟨g, off, h1, World.block_lt_of_cell? w _ h3, h3⟩
def AllI (zs : List Int) : Prop := ∀ z ∈ zs, -9223372036854775808 ≤ z ∧ z ≤ 9223372036854775807
theorem AllI.getD {zs : List Int} (h : AllI zs) (i : Nat) : -9223372036854775808 ≤ zs.getD i 0 ∧ zs.getD i 0 ≤ 9223372036854775807 := by
  by_cases hi : i < zs.length
  · have : zs.getD i 0 = zs[i] := by simp [List.getD, hi]
    rw [this]; exact h _ (List.getElem_mem hi)
  · have : zs.getD i 0 = 0 := by simp [List.getD, List.getElem?_eq_none (Nat.le_of_not_lt hi)]
    omega

theorem Arg.ints {w : World} {v : Value} (h : Arg w 64 v) :
    ∃ (ao : Option Addr) (cap : Nat) (zs : List Int), v = .slice ao zs.length cap ∧ zs.length ≤ cap ∧ cap ≤ maxLen ∧ RdI w w.heap.size ao zs ∧ AllI zs ∧ (ao = none → cap = 0) := by
  obtain ⟨ao, len, cap, rfl, hl, hm, hn, hc⟩ := h.slice Try.underlying64
  rw [cells_int] at hc
  have key : ∀ i, ∃ z : Int, (-9223372036854775808 ≤ z ∧ z ≤ 9223372036854775807) ∧ (∀ x, ao = some x → i < len → w.cell? (x.add i) = some (.int .i64 z)) := by
    intro i
    by_cases hi : i < len
    · cases ao with
      | none => exact ⟨0, by decide, (fun x hx => by cases hx)⟩
      | some x =>
        obtain ⟨cs, hr, hcl, hcc⟩ := hc x rfl i hi
        obtain ⟨z, rfl, hz⟩ := hr.int Try.underlying3
        refine ⟨z, i64_bd hz, ?_⟩
        intro y hy _
        cases hy
        simpa using hcc 0 (by simp)
    · exact ⟨0, by decide, (fun x _ h => absurd h hi)⟩
  obtain ⟨f, hf⟩ := choose1 key
  refine ⟨ao, cap, (List.range len).map f, by simp, by simpa using hl, hm, ?_, ?_, (fun h => (hn h).2)⟩
  · intro i hi
    have hil : i < len := by simpa using hi
    cases ao with
    | none => have := (hn rfl).1; omega
    | some x =>
      have hcell := (hf i).2 x rfl hil
      obtain ⟨b, off, spot⟩ := x
      have hs : spot = none := by
        have := World.cell?_spot ((hf 0).2 _ rfl (by omega))
        simpa [Addr.add] using this
      subst hs
      rw [addr_add] at hcell
      rw [range_getD f len i 0 hil]
      exact ⟨b, off, rfl, World.block_lt_of_cell? w _ hcell, hcell⟩
  · intro z hz
    obtain ⟨i, _, rfl⟩ := List.mem_map.1 hz
    exact (hf i).1

theorem own_readsI {w : World} {base n cap : Nat} {ao : Option Addr} {zs : List Int} (h : w.ownsRow base 3 1 (.slice ao n cap) n (zs.map (.int .i64))) (hn : zs.length = n) : RdI w w.heap.size ao zs := by
  intro i hi
  rcases h.2 with ⟨_, hz⟩ | ⟨g, c, cur, hv, _⟩
  · omega
  · simp at hv
    obtain ⟨rfl, rfl⟩ := hv
    have hc : w.cell? ⟨g, i, none⟩ = some (.int .i64 (zs.getD i 0)) := by
      rw [h.cellAt i (by omega)]; simp [List.getD, hi]
    exact ⟨g, 0, rfl, World.block_lt_of_cell? w _ hc, by rw [Nat.zero_add]; exact hc⟩
/-- What a copy of a row of numbers is. -/
def CopiedI (w : World) (zs : List Int) (e : Ending) (w' : World) : Prop :=
  ∃ ao' cap', e = .returned (.slice ao' zs.length cap') ∧ RdI w' w'.heap.size ao' zs ∧ (zs ≠ [] → ∀ a, ao' = some a → w.heap.size ≤ a.block) ∧ Kept NoB w w'

set_option maxHeartbeats 1000000 in
theorem clonei_any (ao : Option Addr) (cap : Nat) (zs : List Int) (w : World) (hr : RdI w w.heap.size ao zs) (hl : zs.length ≤ 1000000) (hn0 : ao = none → zs.length = 0 ∧ cap = 0) :
    Calls Try.prog 58 #[.slice ao zs.length cap] w (CopiedI w zs) := by
  obtain ⟨i0, hi, hz0, hz1, hz2⟩ := info_parts infoI
  have q22 : ∀ (w : World) (a : Option Addr) (n c n' c' : Nat), (binOp .eql 64 (.slice a n c) (.slice none n' c')).run Try.prog w = .ok (.bool a.isNone) w := fun w a n c n' c' => Lib.run_eql_slice_nil w _ _ a n c n' c' Try.underlying64
  cases ao with
  | none =>
    have hn := hn0 rfl
    have : zs = [] := List.eq_nil_of_length_eq_zero hn.1
    subst this
    clear hr hn0
    go_enter Try.func58, Try.ntmps58
    go_wp2
    go_ret
    exact ⟨none, 0, rfl, (fun i hi => by simp at hi), (fun h => absurd rfl h), Kept.refl _ _⟩
  | some a =>
    have HR := Lib.hid hr; clear hr hn0
    obtain ⟨n, hn⟩ : ∃ n, n = zs.length := ⟨_, rfl⟩
    have HN := Lib.hid hn
    rw [← hn] at hl ⊢
    clear hn
    go_enter Try.func58, Try.ntmps58
    go_wp2_with (at_builtin; refine wpList_append_own _ rfl _ _ 64 rfl w.heap.size 3 i0 (.int .i64 0) 1 8 Try.underlying64 hi hz0 hz1 hz2 rfl (by decide) _ _ _ rfl (World.ownsRow_made w #[] 0 (Nat.le_refl _) (Nat.zero_le _) rfl) a n cap (zs.map (Value.int .i64)) rfl ?qc1 ?qc2 ?qc3 ?qc4 ?qc5 ?qc6 ?_)
    case qc1 => simp [HN.out]
    case qc2 =>
      intro j u hj
      have hjn : j < zs.length := by
        have := (List.getElem?_eq_some_iff.1 hj).1
        simpa using this
      refine Lib.cell?_alloc_some _ ?_
      obtain ⟨g, off, h1, h2, h3⟩ := HR.out j hjn
      simp at h1
      subst h1
      rw [addr_add, h3]
      have e : (zs.map (Value.int .i64))[j]? = some (Value.int .i64 (zs.getD j 0)) := by simp [List.getD, List.getElem?_eq_getElem hjn]
      rw [e] at hj
      exact hj
    case qc3 => intro u hu; obtain ⟨x, _, rfl⟩ := List.mem_map.1 hu; rfl
    case qc4 => unfold maxLen; omega
    case qc5 => omega
    case qc6 => simp
    intro v' w1 hown hgrow hnil
    go_wp2
    go_ret
    obtain ⟨ao', cap', rfl⟩ := own_shape hown
    have hb := hown.lt
    refine ⟨ao', cap', by rw [HN.out]; rfl, own_readsI hown HN.out.symm, ?_, ?_⟩
    · intro _ x hx
      subst hx
      rcases hown.2 with ⟨h1, _⟩ | ⟨g, c, cur, h1, _⟩
      · simp at h1
      · simp at h1
        have := (hb g (by rw [h1.1]; rfl)).1
        rw [h1.1]; exact this
    · exact ((Kept.refl NoB w).alloc _).grown hgrow (by intro k hk e; simp [Value.ownBlock] at e; omega)

/-- A source: its bytes and its sizes, in memory that nobody else writes; how many bytes were told, and which size is next. -/
structure Src (w : World) (S : Nat) (L : Nat) (ab : Option Addr) (cb : Nat) (bs : List Int) (az : Option Addr) (cs : Nat) (zs : List Int) (p t : Nat) : Prop where
  obj : w.heap[S]? = some (.cells #[.slice ab bs.length cb, .slice az zs.length cs, .int .i64 p, .int .i64 t] 92 (0, 0))
  rd : Reads w ab bs
  rdb : ∀ a, ab = some a → L ≤ a.block ∧ a.block < S
  ri : RdI w S az zs
  rib : zs ≠ [] → ∀ a, az = some a → L ≤ a.block
  low : L ≤ S
  cap : bs.length ≤ cb ∧ cb ≤ maxLen ∧ (ab = none → cb = 0)
  pl : p ≤ bs.length
  tl : zs = [] ∨ t < zs.length
  bl : bs.length ≤ 1000000
  zl : zs.length ≤ 1000000
  ball : AllB bs
  zall : AllI zs
theorem Src.below {w w' : World} {S L : Nat} {ab : Option Addr} {cb : Nat} {bs : List Int} {az : Option Addr} {cs : Nat} {zs : List Int} {p t : Nat} (h : Src w S L ab cb bs az cs zs p t) {T : Nat → Prop} (hk : Kept T w w') (hs : ∀ k, L ≤ k → k < w.heap.size → ¬ T k) : Src w' S L ab cb bs az cs zs p t :=
  { h with
    obj := hk.obj h.obj (hs S h.low (obj_lt h.obj))
    rd := h.rd.kept hk (fun a ha => hs _ (h.rdb a ha).1 (Nat.lt_trans (h.rdb a ha).2 (obj_lt h.obj)))
    ri := by
      intro i hi
      obtain ⟨g, off, h1, h2, h3⟩ := h.ri i hi
      have hz : zs ≠ [] := by intro e; rw [e] at hi; simp at hi
      exact ⟨g, off, h1, h2, (World.cell?_of_block (hk.block _ (World.block_lt_of_cell? w _ h3) (hs g (h.rib hz ⟨g, off, none⟩ h1) (World.block_lt_of_cell? w _ h3)))).trans h3⟩ }
theorem Src.keptNo {w w' : World} {S L : Nat} {ab : Option Addr} {cb : Nat} {bs : List Int} {az : Option Addr} {cs : Nat} {zs : List Int} {p t : Nat} (h : Src w S L ab cb bs az cs zs p t) (hk : Kept NoB w w') : Src w' S L ab cb bs az cs zs p t := h.below hk (fun _ _ _ h => h)
/-- Its last two numbers are set. -/
theorem Src.moved {w w' : World} {S L : Nat} {ab : Option Addr} {cb : Nat} {bs : List Int} {az : Option Addr} {cs : Nat} {zs : List Int} {p t q u : Nat} (h : Src w S L ab cb bs az cs zs p t) (hk : Kept (OneB S) w w') (hq : q ≤ bs.length) (hu : zs = [] ∨ u < zs.length)
    (ho : w'.heap[S]? = some (.cells #[.slice ab bs.length cb, .slice az zs.length cs, .int .i64 q, .int .i64 u] 92 (0, 0))) : Src w' S L ab cb bs az cs zs q u :=
  { h with
    obj := ho
    pl := hq
    tl := hu
    rd := h.rd.kept hk (fun a ha => by have := (h.rdb a ha).2; unfold OneB; omega)
    ri := h.ri.kept hk (fun k hk2 => by unfold OneB; omega) }
end Go.Proofs.Ytffoigacpnlkgaa
