/-
  bytes.Clone: a copy in memory of the call's own.
  What comes in, opened as it is needed: 'Rd w t cs': the cells cs read as a value of type t. One lemma for each kind of type.
  Small things that many walks want: rows of bytes that are read, told as strings, told anew; rows that a call owns.
  What is told of a node: on paper, and as cells; what may be made.
  A tree of files on paper: what each call makes of it, and what it answers.
  A tree of files on paper: what always holds of it; its calls.
-/
import Derived.Test.YtjjgadanobeamaaGreatDoorMt1
import Derived.Test.YtjjgadanobeamaaGreatDoorRows
import Derived.ProofKit
import Derived.OpenShut
import Derived.ShutString
import Derived.ChangeOld
import Derived.Deep.Slices
import Derived.Deep.Fields
import Derived.Deep.DeepCutAuto
import Derived.Deep.RegionHeld3
import Derived.BigRegion
import Derived.Laws.BytesArg
import Derived.Laws.AppendOwnNone
import Derived.Lib.IndexAny
import Derived.Lib.BytesEntry
import Derived.OwnWalk
namespace Go.Proofs.YtjjgadanobeamaaGreatDoor
open Go.RowKit
set_option linter.unusedVariables false

theorem info5 : (Tryz.prog.info? 5).map (fun i => (i.zero, i.size, i.bytes)) = some (some (.int .u8 0), 1, 1) := by kernel_rfl

def Reads (w : World) (ao : Option Addr) (xs : List Int) : Prop :=
  (ao = none → xs = []) ∧ ∀ a, ao = some a → ∀ i, i < xs.length → w.cell? (a.add i) = some (.int .u8 (xs.getD i 0))

theorem Reads.kept {S : Nat → Prop} {w w' : World} {ao : Option Addr} {xs : List Int} (h : Reads w ao xs) (hk : Kept S w w') (hs : ∀ a, ao = some a → ¬ S a.block) : Reads w' ao xs := by
  refine ⟨h.1, fun a ha i hi => ?_⟩
  have hc := h.2 a ha i hi
  have hb := World.block_lt_of_cell? w _ hc
  have e : (a.add i).block = a.block := by unfold Addr.add; split <;> rfl
  exact (World.cell?_of_block (hk.block _ hb (by rw [e]; exact hs a ha))).trans hc

theorem addr_add (g o i : Nat) : (⟨g, o, none⟩ : Addr).add i = ⟨g, o + i, none⟩ := by unfold Addr.add; split <;> simp_all

theorem own_reads {w : World} {ao : Option Addr} {n cap : Nat} {xs : List Int} (h : w.ownsRow 0 5 1 (.slice ao n cap) xs.length (xs.map (.int .u8))) (hn : n = xs.length) : Reads w ao xs := by
  subst hn
  refine ⟨fun e => ?_, fun a e i hi => ?_⟩
  · subst e
    rcases h.2 with ⟨_, hz⟩ | ⟨g, c, cur, hv, _⟩
    · exact List.eq_nil_of_length_eq_zero hz
    · simp at hv
  · subst e
    obtain ⟨g, rfl⟩ : ∃ g, a = ⟨g, 0, none⟩ := by
      rcases h.2 with ⟨hv, _⟩ | ⟨g, c, cur, hv, _⟩
      · simp at hv
      · simp at hv; exact ⟨g, hv.1⟩
    rw [addr_add, Nat.zero_add, h.cellAt i (by omega)]
    simp [List.getD, hi]

def Copied (w : World) (ao : Option Addr) (xs : List Int) (e : Ending) (w' : World) : Prop :=
  ∃ ao' cap', e = .returned (.slice ao' xs.length cap') ∧ w'.ownsRow 0 5 1 (.slice ao' xs.length cap') xs.length (xs.map (.int .u8)) ∧
    (∀ k, (Value.slice ao' xs.length cap').ownBlock = some k → w.heap.size ≤ k) ∧ (ao' = none ↔ ao = none) ∧ Kept NoB w w'

theorem own_shape {w : World} {base e : Nat} {v : Value} {n : Nat} {xs : List Value} (h : w.ownsRow base e 1 v n xs) : ∃ ao cap, v = .slice ao n cap := by
  rcases h.2 with ⟨rfl, rfl⟩ | ⟨g, cap, cur, rfl, _⟩
  · exact ⟨none, 0, rfl⟩
  · exact ⟨_, cap, rfl⟩

set_option maxHeartbeats 1000000 in
theorem clone_any (ao : Option Addr) (cap : Nat) (xs : List Int) (w : World) (hr : Reads w ao xs) (hl : xs.length ≤ 140737488355328) :
    Calls Tryz.prog 32 #[.slice ao xs.length cap] w (Copied w ao xs) := by
  obtain ⟨i0, hi, hz0, hz1, hz2⟩ := info_parts info5
  have q22 : ∀ (w : World) (a : Option Addr) (n c n' c' : Nat), (binOp .eql 26 (.slice a n c) (.slice none n' c')).run Tryz.prog w = .ok (.bool a.isNone) w := fun w a n c n' c' => Lib.run_eql_slice_nil w _ _ a n c n' c' Tryz.underlying26
  cases ao with
  | none =>
    go_enter Tryz.func32, Tryz.ntmps32
    go_wp2
    go_ret
    have : xs = [] := hr.1 rfl
    subst this
    exact ⟨none, 0, rfl, World.ownsRow_nil _ _ _ _, by simp [Value.ownBlock], by simp, Kept.refl _ _⟩
  | some a =>
    have HA := Lib.hid (hr.2 a rfl); clear hr
    obtain ⟨n, hn⟩ : ∃ n, n = xs.length := ⟨_, rfl⟩
    have HN := Lib.hid hn
    rw [← hn] at hl ⊢
    clear hn
    go_enter Tryz.func32, Tryz.ntmps32
    go_wp2_with (at_builtin; refine wpList_append_own _ rfl _ _ 26 rfl w.heap.size 5 i0 (.int .u8 0) 1 1 Tryz.underlying26 hi hz0 hz1 hz2 rfl (by decide) _ _ _ rfl (World.ownsRow_made w #[] 0 (Nat.le_refl _) (Nat.zero_le _) rfl) a n cap (xs.map (Value.int .u8)) rfl ?qc1 ?qc2 ?qc3 ?qc4 ?qc5 ?qc6 ?_)
    case qc1 => simp [HN.out]
    case qc2 =>
      intro j u hj
      have hjn : j < xs.length := by
        have := (List.getElem?_eq_some_iff.1 hj).1
        simpa using this
      refine Lib.cell?_alloc_some _ ?_
      rw [HA.out j hjn]
      have e : (xs.map (Value.int .u8))[j]? = some (Value.int .u8 (xs.getD j 0)) := by simp [List.getD, List.getElem?_eq_getElem hjn]
      rw [e] at hj
      exact hj
    case qc3 => intro u hu; obtain ⟨x, _, rfl⟩ := List.mem_map.1 hu; rfl
    case qc4 => unfold maxLen; omega
    case qc5 => omega
    case qc6 => simp
    intro v' w1 hown hgrow hnil
    go_wp2
    go_ret
    obtain ⟨ao', cap', rfl⟩ := own_shape hown
    have hb := hown.lt
    rw [HN.out] at hown hb hnil ⊢
    refine ⟨ao', cap', rfl, ⟨hown.1, ?_⟩, fun k hk => (hb k hk).1, ?_, ?_⟩
    · rcases hown.2 with h | ⟨g, c, cur, e1, _, e2⟩
      · exact .inl h
      · exact .inr ⟨g, c, cur, e1, Nat.zero_le _, e2⟩
    · constructor
      · intro e
        subst e
        rcases hown.2 with ⟨h1, h2⟩ | ⟨g, c, cur, h1, _⟩
        · exact absurd h1 hnil
        · simp at h1
      · intro e; cases e
    · exact ((Kept.refl NoB w).alloc _).grown hgrow (by intro k hk e; simp [Value.ownBlock] at e; omega)
end Go.Proofs.YtjjgadanobeamaaGreatDoor

namespace Go.Proofs.YtjjgadanobeamaaGreatDoor
open Go.RowKit Go.ChangeShapes Go.WideShapes Go.Deep
set_option linter.unusedVariables false
set_option maxRecDepth 20000

def Rd (w : World) (t : TypeId) (cs : List Value) : Prop :=
  ∃ (H : Type) (enc : TypeId × Value → H) (base : Nat) (spare : Nat → Bool) (held : Bool) (fuel : Nat) (x : DataW H × List MemPlace), DataW.trod enc Tryz.prog w base spare held fuel t cs = some x
def Arg (w : World) (t : TypeId) (v : Value) : Prop := (∃ base, Value.okWide Tryz.prog w .any base t v) ∧ Rd w t v.cells.toList

theorem Rd.int {w : World} {t : TypeId} {cs : List Value} {k : IntKind} (ht : Tryz.prog.underlying t = some (.int k)) (h : Rd w t cs) : ∃ n, cs = [.int k n] ∧ (Lit.int k n).wf = true := by
  obtain ⟨H, enc, base, spare, held, fuel, x, hx⟩ := h
  obtain ⟨n, h1, _, h2⟩ := DataW.trod_int ht hx
  exact ⟨n, h1, h2⟩
theorem Rd.string {w : World} {t : TypeId} {cs : List Value} (ht : Tryz.prog.underlying t = some .string) (h : Rd w t cs) : ∃ s : ByteArray, cs = [.string s] ∧ s.size ≤ maxLen := by
  obtain ⟨H, enc, base, spare, held, fuel, x, hx⟩ := h
  obtain ⟨s, h1, _, h2⟩ := DataW.trod_string ht hx
  exact ⟨s, h1, h2⟩
theorem Rd.slice {w : World} {t e : TypeId} {cs : List Value} (ht : Tryz.prog.underlying t = some (.slice e)) (h : Rd w t cs) :
    ∃ (ao : Option Addr) (len cap : Nat), cs = [.slice ao len cap] ∧ len ≤ cap ∧ cap ≤ maxLen ∧ (ao = none → len = 0 ∧ cap = 0) ∧
      ∀ a, ao = some a → ∀ i, i < len → ∃ cs', Rd w e cs' ∧ cs'.length = Tryz.prog.cellsOf e ∧ ∀ j, j < cs'.length → w.cell? (a.add (i * Tryz.prog.cellsOf e + j)) = cs'[j]? := by
  obtain ⟨H, enc, base, spare, held, fuel, x, hx⟩ := h
  rcases open_slice ht hx with ⟨h0, _⟩ | ⟨a, len, cap, m, n, D, Pl, hcs, hb, hl, hm, hmm, hx2, hi⟩
  · exact ⟨none, 0, 0, h0, Nat.le_refl _, Nat.zero_le _, (fun _ => ⟨rfl, rfl⟩), (fun a ha => by cases ha)⟩
  · refine ⟨some a, len, cap, hcs, hl, hm, (fun h => by cases h), ?_⟩
    intro a' ha i hil
    cases ha
    obtain ⟨cs', h1, h2⟩ := hi i (by rw [hmm]; split <;> omega)
    obtain ⟨_, hlen, hat⟩ := World.cells?_some h1
    refine ⟨cs', ⟨H, enc, base, spare, held, n, _, h2⟩, hlen, fun j hj => ?_⟩
    rw [← Go.Deep.add_add]
    exact hat j (by omega)
theorem Rd.struct {w : World} {t : TypeId} {cs : List Value} {fs : Array Field} (ht : Tryz.prog.underlying t = some (.struct fs)) (h : Rd w t cs) :
    cs.length = Tryz.prog.cellsOf t ∧ ∀ (i : Nat) (f : Field), fs[i]? = some f → Rd w f.type ((cs.drop f.offset).take (Tryz.prog.cellsOf f.type)) := by
  obtain ⟨H, enc, base, spare, held, fuel, x, hx⟩ := h
  obtain ⟨ys, n, _, _, hlen, hyl, hf⟩ := DataW.trod_struct ht hx
  refine ⟨hlen, fun i f hi => ?_⟩
  have hil : i < fs.size := (Array.getElem?_eq_some_iff.1 hi).1
  have hy : ys[i]? = some (ys[i]'(by omega)) := List.getElem?_eq_getElem (by omega)
  exact ⟨H, enc, base, spare, held, n, _, (hf i f hi).trans hy⟩
theorem Arg.mk' {H : Type} {enc : TypeId × Value → H} {w : World} {b0 base : Nat} {spare : Nat → Bool} {held : Bool} {t : TypeId} {v : Value} {d : DataW H} {p : List MemPlace} (hv : Value.okWide Tryz.prog w .any b0 t v)
    (hd : DataW.Trod enc Tryz.prog w base spare held t v d p) : Arg w t v := by
  obtain ⟨fuel, h⟩ := hd
  exact ⟨⟨b0, hv⟩, H, enc, base, spare, held, fuel, _, h⟩
theorem Arg.int {w : World} {t : TypeId} {v : Value} {k : IntKind} (ht : Tryz.prog.underlying t = some (.int k)) (h : Arg w t v) : ∃ n, v = .int k n ∧ (Lit.int k n).wf = true := by
  obtain ⟨⟨base, hv⟩, hr⟩ := h
  obtain ⟨n, rfl⟩ := okWide_int ht hv
  obtain ⟨m, h1, h2⟩ := hr.int ht
  simp [Value.cells] at h1
  subst h1
  exact ⟨_, rfl, h2⟩
theorem Arg.slice {w : World} {t e : TypeId} {v : Value} (ht : Tryz.prog.underlying t = some (.slice e)) (h : Arg w t v) :
    ∃ (ao : Option Addr) (len cap : Nat), v = .slice ao len cap ∧ len ≤ cap ∧ cap ≤ maxLen ∧ (ao = none → len = 0 ∧ cap = 0) ∧
      ∀ a, ao = some a → ∀ i, i < len → ∃ cs', Rd w e cs' ∧ cs'.length = Tryz.prog.cellsOf e ∧ ∀ j, j < cs'.length → w.cell? (a.add (i * Tryz.prog.cellsOf e + j)) = cs'[j]? := by
  obtain ⟨⟨base, hv⟩, hr⟩ := h
  obtain ⟨a, l, c, rfl⟩ := okWide_slice ht hv
  obtain ⟨ao, len, cap, h1, rest⟩ := hr.slice ht
  simp [Value.cells] at h1
  obtain ⟨rfl, rfl, rfl⟩ := h1
  exact ⟨_, _, _, rfl, rest⟩
theorem Arg.string {w : World} {t : TypeId} {v : Value} (ht : Tryz.prog.underlying t = some .string) (h : Arg w t v) : ∃ s : ByteArray, v = .string s ∧ s.size ≤ maxLen := by
  obtain ⟨⟨base, hv⟩, hr⟩ := h
  obtain ⟨s, rfl⟩ := okWide_string ht hv
  obtain ⟨s', h1, h2⟩ := hr.string ht
  simp [Value.cells] at h1
  subst h1
  exact ⟨_, rfl, h2⟩

theorem cells_u8 : Tryz.prog.cellsOf 5 = 1 := by kernel_rfl
theorem Rd.bytes {w : World} {t : TypeId} {cs : List Value} (ht : Tryz.prog.underlying t = some (.slice 5)) (h : Rd w t cs) :
    ∃ (ao : Option Addr) (cap : Nat) (bs : List Int), cs = [.slice ao bs.length cap] ∧ bs.length ≤ cap ∧ cap ≤ maxLen ∧ Reads w ao bs ∧ AllB bs ∧ (ao = none → cap = 0) := by
  obtain ⟨H, enc, base, spare, held, fuel, x, hx⟩ := h
  rcases open_ints ht Tryz.underlying5 cells_u8 hx with ⟨hcs, _⟩ | ⟨a, l, c, zs, hcs, _, hl, hm, hz, _, hcell, hwz⟩
  · exact ⟨none, 0, [], hcs, Nat.le_refl _, Nat.zero_le _, ⟨(fun _ => rfl), (fun a ha => by cases ha)⟩, (by intro b hb; cases hb), (fun _ => rfl)⟩
  · have hzl : l ≤ zs.length := by
      have := hz
      split at this <;> omega
    have hlen : (zs.take l).length = l := by rw [List.length_take]; omega
    refine ⟨some a, c, zs.take l, by rw [hlen]; exact hcs, by rw [hlen]; exact hl, hm, ⟨(fun h => by cases h), ?_⟩, ?_, (fun h => by cases h)⟩
    · intro a' ha i hi
      cases ha
      rw [hlen] at hi
      rw [hcell i (by omega)]
      simp [List.getD, hi]
    · intro b hb
      have := hwz b (List.mem_of_mem_take hb)
      simp [Lit.wf, IntKind.min, IntKind.max, IntKind.signed, IntKind.bits] at this
      omega
theorem Arg.bytes {w : World} {t : TypeId} {v : Value} (ht : Tryz.prog.underlying t = some (.slice 5)) (h : Arg w t v) :
    ∃ (ao : Option Addr) (cap : Nat) (bs : List Int), v = .slice ao bs.length cap ∧ bs.length ≤ cap ∧ cap ≤ maxLen ∧ Reads w ao bs ∧ AllB bs ∧ (ao = none → cap = 0) := by
  obtain ⟨⟨base, hv⟩, hr⟩ := h
  obtain ⟨a, l, c, rfl⟩ := okWide_slice ht hv
  obtain ⟨ao, cap, bs, h1, rest⟩ := hr.bytes ht
  simp [Value.cells] at h1
  obtain ⟨rfl, rfl, rfl⟩ := h1
  exact ⟨_, _, _, rfl, rest⟩
end Go.Proofs.YtjjgadanobeamaaGreatDoor

namespace Go.Proofs.YtjjgadanobeamaaGreatDoor
open Go.RowKit
set_option linter.unusedVariables false
set_option linter.unusedSimpArgs false

theorem Reads.at {w : World} {ao : Option Addr} {bs : List Int} (h : Reads w ao bs) (h0 : 0 < bs.length) :
    ∃ b off, ao = some ⟨b, off, none⟩ ∧ b < w.heap.size ∧ ∀ j, j < bs.length → w.cell? ⟨b, off + j, none⟩ = some (.int .u8 (bs.getD j 0)) := by
  cases ao with
  | none => have := h.1 rfl; subst this; simp at h0
  | some a =>
    obtain ⟨b, off, spot⟩ := a
    have hs : spot = none := by
      have := World.cell?_spot (h.2 _ rfl 0 h0)
      simpa [Addr.add] using this
    subst hs
    have h2 : ∀ j, j < bs.length → w.cell? ⟨b, off + j, none⟩ = some (.int .u8 (bs.getD j 0)) := fun j hj => by
      have := h.2 _ rfl j hj
      rwa [addr_add] at this
    exact ⟨b, off, rfl, World.block_lt_of_cell? w _ (h2 0 h0), h2⟩
theorem Reads.keptNo {w w' : World} {ao : Option Addr} {xs : List Int} (h : Reads w ao xs) (hk : Kept NoB w w') : Reads w' ao xs := h.kept hk (fun _ _ h => h)
theorem Kept.cell {w w' : World} (hk : Kept NoB w w') {a : Addr} {v : Value} (h : w.cell? a = some v) : w'.cell? a = some v :=
  (World.cell?_of_block (hk.block _ (World.block_lt_of_cell? w a h) (fun h => h))).trans h
theorem lit_reads {w : World} {g : Nat} {cs : Array Value} {t : TypeId} {fr : Nat × Nat} (bs : List Int) (h : w.heap[g]? = some (.cells cs t fr)) (hc : cs.toList = bs.map (.int .u8)) : Reads w (some ⟨g, 0, none⟩) bs := by
  refine ⟨(fun h => by cases h), ?_⟩
  intro a ha i hi
  cases ha
  rw [addr_add, Nat.zero_add, cell_of_row w g i cs t fr h]
  rw [← Array.getElem?_toList, hc]
  simp [List.getD, hi]
theorem cell_new {w : World} {cs : Array Value} {t : TypeId} {k : Nat} (i : Nat) (hk : k = w.heap.size) : (w.alloc (.cells cs t)).cell? ⟨k, i, none⟩ = cs[i]? := by
  subst hk; exact cell_of_row _ _ _ cs t (0, 0) (heap_alloc_new _ _)
theorem own_cap {w : World} {base e n cap : Nat} {ao : Option Addr} {xs : List Value} (h : w.ownsRow base e 1 (.slice ao n cap) n xs) : n ≤ cap ∧ cap ≤ maxLen := by
  rcases h.2 with ⟨hv, hn⟩ | ⟨g, c, cur, hv, _, _, h1, h2, _⟩
  · simp at hv; obtain ⟨_, rfl, rfl⟩ := hv; exact ⟨Nat.le_refl _, Nat.zero_le _⟩
  · simp at hv; obtain ⟨_, rfl⟩ := hv; exact ⟨h1, h2⟩
theorem own_nil {w : World} {base e n cap : Nat} {ao : Option Addr} {xs : List Value} (h : w.ownsRow base e 1 (.slice ao n cap) n xs) : ao = none → cap = 0 := by
  intro ha
  subst ha
  rcases h.2 with ⟨hv, hn⟩ | ⟨g, c, cur, hv, _⟩
  · simp at hv; exact hv.2
  · simp at hv
theorem conv_reads {w : World} {ao : Option Addr} {n cap : Nat} {xs : List Int} (h : Reads w ao xs) (hn : n = xs.length) (h0 : ao = none → cap = 0) :
    (convert 26 9 (.slice ao n cap)).run Tryz.prog w = .ok (.string (strOfNums xs)) w := by
  subst hn
  by_cases hx : xs = []
  · subst hx
    cases ao with
    | none => exact run_convert_bytes_nil (P := Tryz.prog) w _ 5 Tryz.underlying26 Tryz.underlying5 _ _ _ Tryz.underlying9
    | some a =>
      show (convert 26 9 (.slice (some a) 0 cap)).run Tryz.prog w = .ok (.string (strOfNums [])) w
      rw [run_convert_bytes_string w 26 9 5 (some a) 0 cap Tryz.underlying26 Tryz.underlying5 Tryz.underlying9]
      simp [Conv.bytesToString, loadCells, loadCellsFrom]
      rfl
  · obtain ⟨b, off, rfl, _, hc⟩ := h.at (by cases xs with | nil => exact absurd rfl hx | cons => simp)
    exact run_convert_bytes_arg (P := Tryz.prog) w _ 5 Tryz.underlying26 Tryz.underlying5 b off xs.length cap xs rfl hc _ Tryz.underlying9
theorem reads_take {w : World} {x : Addr} {bs : List Int} (k : Nat) (h : Reads w (some x) bs) : Reads w (some x) (bs.take k) := by
  refine ⟨(fun h => by cases h), ?_⟩
  intro a ha i hi
  cases ha
  rw [List.length_take] at hi
  rw [h.2 x rfl i (by omega)]
  simp [List.getD, show i < k from by omega]
theorem reads_drop {w : World} {x : Addr} {bs : List Int} (k : Nat) (h : Reads w (some x) bs) : Reads w (some (x.add k)) (bs.drop k) := by
  refine ⟨(fun h => by cases h), ?_⟩
  intro a ha i hi
  cases ha
  rw [List.length_drop] at hi
  rw [Go.Deep.add_add, h.2 x rfl (k + i) (by omega)]
  simp [List.getD]
theorem Reads.below {w w' : World} {ao : Option Addr} {bs : List Int} (h : Reads w ao bs) (hb : Below w.heap.size w w') : Reads w' ao bs := h.keptNo ((Kept.refl NoB w).ofBelow hb)
end Go.Proofs.YtjjgadanobeamaaGreatDoor

namespace Go.Proofs.YtjjgadanobeamaaGreatDoor
open Go.RowKit
set_option linter.unusedVariables false
set_option linter.unusedSimpArgs false
set_option maxRecDepth 20000

structure NodeV where
  kind : Int
  mode : Int
  user : Int
  group : Int
  time : Int
  tgt : ByteArray
  major : Int
  minor : Int
  size : Int
  links : Int
  change : Int
def mayB (n : NodeV) : Bool :=
  (n.kind == 1 || n.kind == 6 || n.kind == 7 || n.kind == 3 || n.kind == 4 || n.kind == 5) &&
  (if n.kind = 3 then !n.tgt.toList.isEmpty && decide (n.tgt.size ≤ 1024) && !decide (0 ≤ Lib.indexByte n.tgt.data.toList 0) else n.tgt.toList.isEmpty) &&
  (if n.kind = 4 ∨ n.kind = 5 then decide (0 ≤ n.major) && decide (n.major ≤ 1048575) && (decide (0 ≤ n.minor) && decide (n.minor ≤ 1048575)) else decide (n.major = 0) && decide (n.minor = 0)) &&
  (decide (0 ≤ n.mode) && decide (n.mode ≤ 4095) && (decide (0 ≤ n.user) && decide (n.user ≤ 2147483647)) && (decide (0 ≤ n.group) && decide (n.group ≤ 2147483647))) &&
  decide (n.size = 0) && decide (n.links = 0) && decide (n.change = 0)
theorem infoNd : (Tryz.prog.info? 25).map (·.size) = some 11 := by kernel_rfl
def nvC (v : NodeV) : List Value := [.int .i64 v.kind, .int .i64 v.mode, .int .i64 v.user, .int .i64 v.group, .int .i64 v.time, .string v.tgt, .int .i64 v.major, .int .i64 v.minor, .int .i64 v.size, .int .i64 v.links, .int .i64 v.change]
theorem nv_one (v : NodeV) : (nvC v).toArray.all (·.oneCell') = true := by simp [nvC, Value.oneCell']
end Go.Proofs.YtjjgadanobeamaaGreatDoor

namespace Go.Proofs.YtjjgadanobeamaaGreatDoor
set_option linter.unusedVariables false
set_option linter.unusedSimpArgs false

abbrev Nms := List (List UInt8 × Int)
structure NdP where
  v : NodeV
  names : Nms
  par : Int
  data : List Fp
structure FsP where
  nd : Int → Option NdP
  cnt : Nat
  next : Int
  quota : Int
  used : Int
  clock : Int

def getK (l : Nms) (k : List UInt8) : Option Int := (l.find? (fun p => p.1 == k)).map (·.2)
def putK (l : Nms) (k : List UInt8) (i : Int) : Nms := l.takeWhile (fun p => decide (p.1 < k)) ++ (k, i) :: l.dropWhile (fun p => decide (p.1 < k))
def OkK (l : Nms) : Prop := l.Pairwise (fun p q => p.1 < q.1)
def updN (f : Int → Option NdP) (i : Int) (o : Option NdP) : Int → Option NdP := fun j => if j = i then o else f j
theorem updN_same (f : Int → Option NdP) (i : Int) (o : Option NdP) : updN f i o i = o := by simp [updN]
theorem updN_other (f : Int → Option NdP) {i j : Int} (o : Option NdP) (h : j ≠ i) : updN f i o j = f j := by simp [updN, h]

theorem lt_irr (a : List UInt8) : ¬ a < a := List.lt_irrefl a
theorem lt_tr {a b c : List UInt8} (h : a < b) (k : b < c) : a < c := List.lt_trans h k
theorem lt_tri (a b : List UInt8) (h : ¬ a < b) (hn : a ≠ b) : b < a := by
  by_cases hb : b < a
  · exact hb
  · exact absurd (List.le_antisymm (List.not_lt.1 hb) (List.not_lt.1 h)) hn

theorem getK_mem {l : Nms} {k : List UInt8} {i : Int} (h : getK l k = some i) : (k, i) ∈ l := by
  unfold getK at h
  cases hf : l.find? (fun p => p.1 == k) with
  | none => rw [hf] at h; cases h
  | some p =>
    rw [hf] at h
    have h1 := List.mem_of_find?_eq_some hf
    have h2 := List.find?_some hf
    simp at h h2
    rw [← h2, ← h]; exact h1
theorem OkK.inj {l : Nms} (h : OkK l) {k : List UInt8} {i j : Int} (hi : (k, i) ∈ l) (hj : (k, j) ∈ l) : i = j := by
  induction l with
  | nil => cases hi
  | cons p t ih =>
    obtain ⟨h1, h2⟩ := List.pairwise_cons.1 h
    rcases List.mem_cons.1 hi with e1 | m1 <;> rcases List.mem_cons.1 hj with e2 | m2
    · rw [← e2] at e1; exact congrArg Prod.snd e1
    · have := h1 _ m2; rw [← e1] at this; exact absurd this (lt_irr _)
    · have := h1 _ m1; rw [← e2] at this; exact absurd this (lt_irr _)
    · exact ih h2 m1 m2
theorem getK_iff {l : Nms} (h : OkK l) {k : List UInt8} {i : Int} : getK l k = some i ↔ (k, i) ∈ l := by
  constructor
  · exact getK_mem
  · intro hm
    cases hg : getK l k with
    | some j => rw [h.inj hm (getK_mem hg)]
    | none =>
      unfold getK at hg
      rw [Option.map_eq_none_iff, List.find?_eq_none] at hg
      exact absurd (beq_self_eq_true _) (hg _ hm)
theorem getK_none {l : Nms} {k : List UInt8} : getK l k = none ↔ ∀ p ∈ l, p.1 ≠ k := by
  unfold getK
  rw [Option.map_eq_none_iff, List.find?_eq_none]
  simp
theorem putK_mem {l : Nms} {k : List UInt8} {i : Int} {p : List UInt8 × Int} : p ∈ putK l k i ↔ p = (k, i) ∨ p ∈ l := by
  unfold putK
  conv => rhs; rw [← List.takeWhile_append_dropWhile (p := fun p => decide (p.1 < k)) (l := l)]
  simp only [List.mem_append, List.mem_cons]
  constructor
  · rintro (h | h | h)
    · exact .inr (.inl h)
    · exact .inl h
    · exact .inr (.inr h)
  · rintro (h | h | h)
    · exact .inr (.inl h)
    · exact .inl h
    · exact .inr (.inr h)
theorem putK_ok {l : Nms} (h : OkK l) (k : List UInt8) (i : Int) (hn : getK l k = none) : OkK (putK l k i) := by
  have hne := getK_none.1 hn
  unfold putK OkK
  have e : l = l.takeWhile (fun p => decide (p.1 < k)) ++ l.dropWhile (fun p => decide (p.1 < k)) := (List.takeWhile_append_dropWhile).symm
  have h1 : ∀ p ∈ l.takeWhile (fun p => decide (p.1 < k)), p.1 < k := fun p hp => by simpa using mem_tw hp
  cases hd : l.dropWhile (fun p => decide (p.1 < k)) with
  | nil =>
    rw [List.pairwise_append]
    refine ⟨h.sublist (List.takeWhile_sublist _), List.pairwise_singleton _ _, ?_⟩
    intro p hp q hq
    simp at hq; subst hq
    exact h1 p hp
  | cons f t =>
    have hf := drop_first hd
    simp at hf
    have hfl : f ∈ l := (List.dropWhile_sublist _).subset (by rw [hd]; exact List.mem_cons_self)
    have hkf : k < f.1 := lt_tri _ _ (by simpa using hf) (hne f hfl)
    have hall := h
    unfold OkK at hall
    rw [e, hd, List.pairwise_append, List.pairwise_cons] at hall
    obtain ⟨a1, ⟨a2, a3⟩, a4⟩ := hall
    rw [List.pairwise_append, List.pairwise_cons, List.pairwise_cons]
    refine ⟨a1, ⟨?_, a2, a3⟩, ?_⟩
    · intro q hq
      rcases List.mem_cons.1 hq with rfl | hq
      · exact hkf
      · exact lt_tr hkf (a2 q hq)
    · intro p hp q hq
      rcases List.mem_cons.1 hq with rfl | hq
      · exact h1 p hp
      · exact a4 p hp q hq
theorem getK_put {l : Nms} (h : OkK l) (k : List UInt8) (i : Int) (hn : getK l k = none) (k' : List UInt8) : getK (putK l k i) k' = if k' = k then some i else getK l k' := by
  have hp := putK_ok h k i hn
  by_cases hk : k' = k
  · subst hk
    rw [if_pos rfl, getK_iff hp, putK_mem]; exact .inl rfl
  · rw [if_neg hk]
    cases hg : getK l k' with
    | some j => rw [getK_iff hp, putK_mem]; exact .inr (getK_mem hg)
    | none =>
      rw [getK_none] at hg ⊢
      intro p hp'
      rcases putK_mem.1 hp' with rfl | hp'
      · exact fun e => hk e.symm
      · exact hg p hp'
theorem putK_len (l : Nms) (k : List UInt8) (i : Int) : (putK l k i).length = l.length + 1 := by
  unfold putK
  have := congrArg List.length (List.takeWhile_append_dropWhile (p := fun p : List UInt8 × Int => decide (p.1 < k)) (l := l))
  simp only [List.length_append, List.length_cons] at *
  omega
end Go.Proofs.YtjjgadanobeamaaGreatDoor

namespace Go.Proofs.YtjjgadanobeamaaGreatDoor
set_option linter.unusedVariables false
set_option linter.unusedSimpArgs false

def sumN (nd : Int → Option NdP) (g : Option NdP → Nat) (n : Nat) : Nat := ((List.range n).map (fun j : Nat => g (nd (j : Int)))).sum
theorem sumN_succ (nd : Int → Option NdP) (g : Option NdP → Nat) (n : Nat) : sumN nd g (n + 1) = sumN nd g n + g (nd (n : Int)) := by
  simp [sumN, List.range_succ]
theorem sumN_congr {nd nd' : Int → Option NdP} {g g' : Option NdP → Nat} {n : Nat} (h : ∀ j : Nat, j < n → g (nd (j : Int)) = g' (nd' (j : Int))) : sumN nd g n = sumN nd' g' n := by
  induction n with
  | zero => rfl
  | succ n ih => rw [sumN_succ, sumN_succ, ih (fun j hj => h j (by omega)), h n (by omega)]
theorem sumN_le {nd : Int → Option NdP} {g : Option NdP → Nat} {n : Nat} (i : Nat) (hi : i < n) : g (nd (i : Int)) ≤ sumN nd g n := by
  induction n with
  | zero => omega
  | succ n ih =>
    rw [sumN_succ]
    rcases Nat.lt_or_ge i n with h | h
    · have := ih h; omega
    · have e : i = n := by omega
      subst e; omega
theorem sumN_upd (nd : Int → Option NdP) (g : Option NdP → Nat) (o : Option NdP) (i : Int) : ∀ n : Nat, 0 ≤ i → i < n → sumN (updN nd i o) g n + g (nd i) = sumN nd g n + g o
  | 0, h0, h => by omega
  | n + 1, h0, h => by
    rw [sumN_succ, sumN_succ]
    by_cases e : i = (n : Int)
    · subst e
      rw [updN_same]
      have : sumN (updN nd (n : Int) o) g n = sumN nd g n := sumN_congr (fun j hj => by rw [updN_other _ _ (by omega)])
      omega
    · have := sumN_upd nd g o i n h0 (by omega)
      rw [updN_other _ _ (fun e' => e e'.symm)]
      omega
theorem sumN_zero {nd : Int → Option NdP} {g : Option NdP → Nat} {n : Nat} (h : sumN nd g n = 0) (i : Nat) (hi : i < n) : g (nd (i : Int)) = 0 := by
  have := @sumN_le nd g n i hi
  omega

def gOne : Option NdP → Nat := fun o => if o.isSome then 1 else 0
def gSize : Option NdP → Nat := fun o => match o with | some n => sizeD n.data | none => 0
def gLink (i : Int) : Option NdP → Nat := fun o => match o with | some n => n.names.countP (fun p => p.2 == i) | none => 0

structure OkNd (T : FsP) (i : Int) (n : NdP) : Prop where
  low : 1 ≤ i
  high : i ≤ T.next
  sorted : OkK n.names
  names : ∀ p ∈ n.names, okN (strB p.1) = true ∧ p.2 ≠ 1 ∧ ∃ m, T.nd p.2 = some m ∧ (m.v.kind = 6 → m.par = i)
  file : n.v.kind ≠ 6 → n.names = []
  data : OkD n.data
  plain : n.v.kind ≠ 1 → n.data = []
  inside : ∀ p ∈ n.data, endP p ≤ n.v.size
  size : 0 ≤ n.v.size ∧ n.v.size ≤ 1099511627776
  par : n.v.kind = 6 → i ≠ 1 → ∃ d, T.nd n.par = some d ∧ d.v.kind = 6 ∧ ∃ k, (k, i) ∈ d.names
  links : n.v.links = (sumN T.nd (gLink i) (T.next + 1).toNat : Nat) + (if i = 1 then 1 else 0)
  most : n.v.links ≤ T.clock + 1
  change : 0 ≤ n.v.change ∧ n.v.change ≤ T.clock
  mode : 0 ≤ n.v.mode ∧ n.v.mode ≤ 4095
  user : 0 ≤ n.v.user ∧ n.v.user ≤ 2147483647
  group : 0 ≤ n.v.group ∧ n.v.group ≤ 2147483647
  time : -9223372036854775808 ≤ n.v.time ∧ n.v.time ≤ 9223372036854775807
  kind : n.v.kind = 1 ∨ n.v.kind = 3 ∨ n.v.kind = 4 ∨ n.v.kind = 5 ∨ n.v.kind = 6 ∨ n.v.kind = 7
  dev : 0 ≤ n.v.major ∧ n.v.major ≤ 1048575 ∧ 0 ≤ n.v.minor ∧ n.v.minor ≤ 1048575
  tgt : n.v.tgt.size ≤ 1024
  one : n.v.kind = 6 → n.v.links = 1
  few : (n.names.length : Int) ≤ T.clock
structure OkT (T : FsP) : Prop where
  root : ∃ d, T.nd 1 = some d ∧ d.v.kind = 6 ∧ d.par = 1
  node : ∀ i n, T.nd i = some n → OkNd T i n
  next : 1 ≤ T.next ∧ T.next ≤ T.clock + 1
  clock : 0 ≤ T.clock
  quota : 0 ≤ T.quota ∧ T.quota ≤ 9223372036854775807
  used : T.used = (sumN T.nd gSize (T.next + 1).toNat : Nat)
  room : T.used ≤ T.quota
  cnt : T.cnt = sumN T.nd gOne (T.next + 1).toNat
  most : T.cnt ≤ 1000
  rank : ∃ r : Int → Nat, ∀ i n, T.nd i = some n → n.v.kind = 6 → i ≠ 1 → r n.par < r i

def placeE (T : FsP) (dir : Int) (part : List UInt8) : Int :=
  match T.nd dir with
  | none => 10
  | some d => if d.v.kind = 6 then (if okN (strB part) = true then 0 else 9) else 12
def namesP (T : FsP) (dir : Int) : Nms := match T.nd dir with | some d => d.names | none => []
def askK : Option Int → Int × Int
  | some i => (i, 0)
  | none => (0, 10)
def findP (T : FsP) (dir : Int) (part : List UInt8) : Int × Int :=
  if placeE T dir part = 0 then askK (getK (namesP T dir) part) else (0, placeE T dir part)
def touch (c : Int) (n : NdP) : NdP := { n with v := { n.v with time := c, change := c } }
def freshN (n : NodeV) (c dir : Int) : NdP := { v := { n with links := 1, change := c }, names := [], par := if n.kind = 6 then dir else 0, data := [] }
def makeT (T : FsP) (dir : Int) (d : NdP) (part : List UInt8) (n : NodeV) : FsP :=
  { T with clock := T.clock + 1, next := T.next + 1, cnt := T.cnt + 1, nd := updN (updN T.nd dir (some { touch (T.clock + 1) d with names := putK d.names part (T.next + 1) })) (T.next + 1) (some (freshN n (T.clock + 1) dir)) }
def makeP (T : FsP) (dir : Int) (part : List UInt8) (n : NodeV) : FsP × Int × Int :=
  match T.nd dir with
  | none => (T, 0, 10)
  | some d =>
    if d.v.kind = 6 then
      if okN (strB part) = true then
        if mayB n = true then
          if (getK d.names part).isSome then (T, 0, 11) else if 1000 ≤ T.cnt then (T, 0, 14) else (makeT T dir d part n, T.next + 1, 0)
        else (T, 0, 1)
      else (T, 0, 9)
    else (T, 0, 12)
end Go.Proofs.YtjjgadanobeamaaGreatDoor
