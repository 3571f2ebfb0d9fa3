/-
  What comes in, opened as it is needed: 'Rd w t cs': the cells cs read as a value of type t. One lemma for each kind of type.
-/
import Derived.Test.YtilndmmjdbhmgaaClone
import Derived.ProofKit
import Derived.OpenShut
import Derived.ShutString
import Derived.ChangeOld
import Derived.Deep.Slices
import Derived.Deep.Fields
namespace Go.Proofs.Ytilndmmjdbhmgaa
open Go.RowKit Go.ChangeShapes Go.WideShapes Go.Deep
set_option linter.unusedVariables false
set_option maxRecDepth 20000

def Rd (w : World) (t : TypeId) (cs : List Value) : Prop :=
  ∃ (H : Type) (enc : TypeId × Value → H) (base : Nat) (spare : Nat → Bool) (held : Bool) (fuel : Nat) (x : DataW H × List MemPlace), DataW.trod enc Try.prog w base spare held fuel t cs = some x
/-- An argument: its value is of its type, and reads. -/
def Arg (w : World) (t : TypeId) (v : Value) : Prop := (∃ base, Value.okWide Try.prog w .any base t v) ∧ Rd w t v.cells.toList

theorem Rd.int {w : World} {t : TypeId} {cs : List Value} {k : IntKind} (ht : Try.prog.underlying t = some (.int k)) (h : Rd w t cs) : ∃ n, cs = [.int k n] ∧ (Lit.int k n).wf = true := by
  obtain ⟨H, enc, base, spare, held, fuel, x, hx⟩ := h
  obtain ⟨n, h1, _, h2⟩ := DataW.trod_int ht hx
  exact ⟨n, h1, h2⟩
theorem Rd.string {w : World} {t : TypeId} {cs : List Value} (ht : Try.prog.underlying t = some .string) (h : Rd w t cs) : ∃ s : ByteArray, cs = [.string s] ∧ s.size ≤ maxLen := by
  obtain ⟨H, enc, base, spare, held, fuel, x, hx⟩ := h
  obtain ⟨s, h1, _, h2⟩ := DataW.trod_string ht hx
  exact ⟨s, h1, h2⟩
/-- A slice: nil, or each element's cells are there and read. -/
theorem Rd.slice {w : World} {t e : TypeId} {cs : List Value} (ht : Try.prog.underlying t = some (.slice e)) (h : Rd w t cs) :
    ∃ (ao : Option Addr) (len cap : Nat), cs = [.slice ao len cap] ∧ len ≤ cap ∧ cap ≤ maxLen ∧ (ao = none → len = 0 ∧ cap = 0) ∧
      ∀ a, ao = some a → ∀ i, i < len → ∃ cs', Rd w e cs' ∧ cs'.length = Try.prog.cellsOf e ∧ ∀ j, j < cs'.length → w.cell? (a.add (i * Try.prog.cellsOf e + j)) = cs'[j]? := by
  obtain ⟨H, enc, base, spare, held, fuel, x, hx⟩ := h
  rcases open_slice ht hx with ⟨h0, _⟩ | ⟨a, len, cap, m, n, D, Pl, hcs, hb, hl, hm, hmm, hx2, hi⟩
  · exact ⟨none, 0, 0, h0, Nat.le_refl _, Nat.zero_le _, (fun _ => ⟨rfl, rfl⟩), (fun a ha => by cases ha)⟩
  · refine ⟨some a, len, cap, hcs, hl, hm, (fun h => by cases h), ?_⟩
    intro a' ha i hil
    cases ha
    obtain ⟨cs', h1, h2⟩ := hi i (by rw [hmm]; split <;> omega)
    obtain ⟨_, hlen, hat⟩ := World.cells?_some h1
    refine ⟨cs', ⟨H, enc, base, spare, held, n, _, h2⟩, hlen, fun j hj => ?_⟩
    rw [← Go.Deep.add_add]
    exact hat j (by omega)
/-- A struct: each field's cells read. -/
theorem Rd.struct {w : World} {t : TypeId} {cs : List Value} {fs : Array Field} (ht : Try.prog.underlying t = some (.struct fs)) (h : Rd w t cs) :
    cs.length = Try.prog.cellsOf t ∧ ∀ (i : Nat) (f : Field), fs[i]? = some f → Rd w f.type ((cs.drop f.offset).take (Try.prog.cellsOf f.type)) := by
  obtain ⟨H, enc, base, spare, held, fuel, x, hx⟩ := h
  obtain ⟨ys, n, _, _, hlen, hyl, hf⟩ := DataW.trod_struct ht hx
  refine ⟨hlen, fun i f hi => ?_⟩
  have hil : i < fs.size := (Array.getElem?_eq_some_iff.1 hi).1
  have hy : ys[i]? = some (ys[i]'(by omega)) := List.getElem?_eq_getElem (by omega)
  exact ⟨H, enc, base, spare, held, n, _, (hf i f hi).trans hy⟩
theorem Arg.mk' {H : Type} {enc : TypeId × Value → H} {w : World} {b0 base : Nat} {spare : Nat → Bool} {held : Bool} {t : TypeId} {v : Value} {d : DataW H} {p : List MemPlace} (hv : Value.okWide Try.prog w .any b0 t v)
    (hd : DataW.Trod enc Try.prog w base spare held t v d p) : Arg w t v := by
  obtain ⟨fuel, h⟩ := hd
  exact ⟨⟨b0, hv⟩, H, enc, base, spare, held, fuel, _, h⟩
theorem Arg.int {w : World} {t : TypeId} {v : Value} {k : IntKind} (ht : Try.prog.underlying t = some (.int k)) (h : Arg w t v) : ∃ n, v = .int k n ∧ (Lit.int k n).wf = true := by
  obtain ⟨⟨base, hv⟩, hr⟩ := h
  obtain ⟨n, rfl⟩ := okWide_int ht hv
  obtain ⟨m, h1, h2⟩ := hr.int ht
  simp [Value.cells] at h1
  subst h1
  exact ⟨_, rfl, h2⟩
theorem Arg.slice {w : World} {t e : TypeId} {v : Value} (ht : Try.prog.underlying t = some (.slice e)) (h : Arg w t v) :
    ∃ (ao : Option Addr) (len cap : Nat), v = .slice ao len cap ∧ len ≤ cap ∧ cap ≤ maxLen ∧ (ao = none → len = 0 ∧ cap = 0) ∧
      ∀ a, ao = some a → ∀ i, i < len → ∃ cs', Rd w e cs' ∧ cs'.length = Try.prog.cellsOf e ∧ ∀ j, j < cs'.length → w.cell? (a.add (i * Try.prog.cellsOf e + j)) = cs'[j]? := by
  obtain ⟨⟨base, hv⟩, hr⟩ := h
  obtain ⟨a, l, c, rfl⟩ := okWide_slice ht hv
  obtain ⟨ao, len, cap, h1, rest⟩ := hr.slice ht
  simp [Value.cells] at h1
  obtain ⟨rfl, rfl, rfl⟩ := h1
  exact ⟨_, _, _, rfl, rest⟩
theorem Arg.string {w : World} {t : TypeId} {v : Value} (ht : Try.prog.underlying t = some .string) (h : Arg w t v) : ∃ s : ByteArray, v = .string s ∧ s.size ≤ maxLen := by
  obtain ⟨⟨base, hv⟩, hr⟩ := h
  obtain ⟨s, rfl⟩ := okWide_string ht hv
  obtain ⟨s', h1, h2⟩ := hr.string ht
  simp [Value.cells] at h1
  subst h1
  exact ⟨_, rfl, h2⟩

theorem cells_u8 : Try.prog.cellsOf 5 = 1 := by kernel_rfl
/-- A slice of bytes that came in: as a list of numbers. -/
theorem Rd.bytes {w : World} {t : TypeId} {cs : List Value} (ht : Try.prog.underlying t = some (.slice 5)) (h : Rd w t cs) :
    ∃ (ao : Option Addr) (cap : Nat) (bs : List Int), cs = [.slice ao bs.length cap] ∧ bs.length ≤ cap ∧ cap ≤ maxLen ∧ Reads w ao bs ∧ AllB bs ∧ (ao = none → cap = 0) := by
  obtain ⟨H, enc, base, spare, held, fuel, x, hx⟩ := h
  rcases open_ints ht Try.underlying5 cells_u8 hx with ⟨hcs, _⟩ | ⟨a, l, c, zs, hcs, _, hl, hm, hz, _, hcell, hwz⟩
  · exact ⟨none, 0, [], hcs, Nat.le_refl _, Nat.zero_le _, ⟨(fun _ => rfl), (fun a ha => by cases ha)⟩, (by intro b hb; cases hb), (fun _ => rfl)⟩
  · have hzl : l ≤ zs.length := by
      have := hz
      split at this <;> omega
    have hlen : (zs.take l).length = l := by rw [List.length_take]; omega
    refine ⟨some a, c, zs.take l, by rw [hlen]; exact hcs, by rw [hlen]; exact hl, hm, ⟨(fun h => by cases h), ?_⟩, ?_, (fun h => by cases h)⟩
    · intro a' ha i hi
      cases ha
      rw [hlen] at hi
      rw [hcell i (by omega)]
      simp [List.getD, hi]
    · intro b hb
      have := hwz b (List.mem_of_mem_take hb)
      simp [Lit.wf, IntKind.min, IntKind.max, IntKind.signed, IntKind.bits] at this
      omega
theorem Arg.bytes {w : World} {t : TypeId} {v : Value} (ht : Try.prog.underlying t = some (.slice 5)) (h : Arg w t v) :
    ∃ (ao : Option Addr) (cap : Nat) (bs : List Int), v = .slice ao bs.length cap ∧ bs.length ≤ cap ∧ cap ≤ maxLen ∧ Reads w ao bs ∧ AllB bs ∧ (ao = none → cap = 0) := by
  obtain ⟨⟨base, hv⟩, hr⟩ := h
  obtain ⟨a, l, c, rfl⟩ := okWide_slice ht hv
  obtain ⟨ao, cap, bs, h1, rest⟩ := hr.bytes ht
  simp [Value.cells] at h1
  obtain ⟨rfl, rfl, rfl⟩ := h1
  exact ⟨_, _, _, rfl, rest⟩
theorem i64_bd {n : Int} (h : (Lit.int .i64 n).wf = true) : -9223372036854775808 ≤ n ∧ n ≤ 9223372036854775807 := by
  simpa [Lit.wf, IntKind.min, IntKind.max, IntKind.signed, IntKind.bits] using h
theorem u32_bd {n : Int} (h : (Lit.int .u32 n).wf = true) : 0 ≤ n ∧ n ≤ 4294967295 := by
  simpa [Lit.wf, IntKind.min, IntKind.max, IntKind.signed, IntKind.bits] using h
theorem u8_bd {n : Int} (h : (Lit.int .u8 n).wf = true) : 0 ≤ n ∧ n ≤ 255 := by
  simpa [Lit.wf, IntKind.min, IntKind.max, IntKind.signed, IntKind.bits] using h
end Go.Proofs.Ytilndmmjdbhmgaa
