/-
  A row of operations that is read (a place, a kind, bytes each).
  'n & (1 << k - 1)' on an int.
  A tree of files and two arrays beside it: which bytes are written, and which they are.
  Holes, on paper: the law's own loops.
  Holes: the row that the law makes itself.
-/
import Derived.Test.YtjjgadanobeamaaMh20
import Derived.Deep.WholeRow
namespace Go.Proofs.Ytjjgadanobeamaa
open Go.RowKit
set_option linter.unusedVariables false
set_option linter.unusedSimpArgs false
set_option maxRecDepth 20000

theorem nb_of2 {bs : List Int} (h : AllB bs) : ∃ b : List UInt8, nb b = bs := by
  refine ⟨bs.map (fun x => UInt8.ofNat x.toNat), ?_⟩
  unfold nb
  rw [List.map_map]
  conv => rhs; rw [← List.map_id bs]
  refine List.map_congr_left (fun x hx => ?_)
  have := h x hx
  simp only [Function.comp_apply, id_eq]
  rw [UInt8.toNat_ofNat']
  omega
theorem Rd.boolH {w : World} {t : TypeId} {cs : List Value} (ht : Try.prog.underlying t = some .bool) (h : Rd w t cs) : ∃ b, cs = [.bool b] := by
  obtain ⟨H, enc, base, spare, held, fuel, x, hx⟩ := h
  obtain ⟨b, h1, _⟩ := DataW.trod_bool ht hx
  exact ⟨b, h1⟩
theorem cells_op : Try.prog.cellsOf 34 = 20 := by kernel_rfl
abbrev HOp := Int × Int × List UInt8
def OpC (w : World) (us : List Value) (p : HOp) : Prop :=
  ∃ (bo : Option Addr) (bc : Nat), us.length = 20 ∧ (∀ v ∈ us, v.oneCell' = true) ∧ us[0]? = some (.int .i64 p.1) ∧ us[3]? = some (.int .i64 p.2.1) ∧ us[18]? = some (.slice bo p.2.2.length bc) ∧ Reads w bo (nb p.2.2) ∧ p.2.2.length ≤ bc ∧ bc ≤ maxLen
def RdH (w : World) (n : Nat) (ao : Option Addr) (l : List HOp) : Prop :=
  ∀ i p, l[i]? = some p → ∃ (b off : Nat) (us : List Value), ao = some ⟨b, off, none⟩ ∧ b < n ∧ (∀ j v, us[j]? = some v → w.cell? ⟨b, off + i * 20 + j, none⟩ = some v) ∧ OpC w us p
def IntH (l : List HOp) : Prop := ∀ p ∈ l, (-9223372036854775808 ≤ p.1 ∧ p.1 ≤ 9223372036854775807) ∧ (-9223372036854775808 ≤ p.2.1 ∧ p.2.1 ≤ 9223372036854775807)
theorem RdH.kept {w w' : World} {n : Nat} {ao : Option Addr} {l : List HOp} (h : RdH w n ao l) (hk : Kept NoB w w') : RdH w' n ao l := by
  intro i p hi
  obtain ⟨b, off, us, h1, h2, h3, bo, bc, q1, q2, h4, h5, h6, h7, h8⟩ := h i p hi
  exact ⟨b, off, us, h1, h2, fun j v hj => hk.cell (h3 j v hj), bo, bc, q1, q2, h4, h5, h6, h7.keptNo hk, h8⟩
theorem chooseF {α : Type} {P : Nat → α → Prop} (h : ∀ i, ∃ a, P i a) : ∃ f : Nat → α, ∀ i, P i (f i) := ⟨fun i => (h i).choose, fun i => (h i).choose_spec⟩
theorem ops_open {w : World} {v : Value} (h : Arg w 22 v) :
    ∃ (ao : Option Addr) (cap : Nat) (l : List HOp), v = .slice ao l.length cap ∧ RdH w w.heap.size ao l ∧ l.length ≤ cap ∧ cap ≤ maxLen ∧ IntH l := by
  obtain ⟨ao, len, cap, rfl, hl, hm, hn, hc⟩ := h.slice Try.underlying22
  rw [cells_op] at hc
  have key : ∀ i, ∃ p : HOp, ((-9223372036854775808 ≤ p.1 ∧ p.1 ≤ 9223372036854775807) ∧ (-9223372036854775808 ≤ p.2.1 ∧ p.2.1 ≤ 9223372036854775807)) ∧ (∀ x, ao = some x → i < len → ∃ us : List Value, (∀ j v, us[j]? = some v → w.cell? (x.add (i * 20 + j)) = some v) ∧ OpC w us p) := by
    intro i
    by_cases hi : i < len
    · cases ao with
      | none => exact ⟨(0, 0, []), by decide, (fun x hx => by cases hx)⟩
      | some x =>
        obtain ⟨cs, hr, hcl, hcc⟩ := hc x rfl i hi
        obtain ⟨_, hf⟩ := hr.struct Try.underlying34
        match cs, hcl with
        | [c0, c1, c2, c3, c4, c5, c6, c7, c8, c9, c10, c11, c12, c13, c14, c15, c16, c17, c18, c19], _ =>
          have i1 : Try.prog.cellsOf 3 = 1 := by kernel_rfl
          have i2 : Try.prog.cellsOf 32 = 1 := by kernel_rfl
          have i3 : Try.prog.cellsOf 9 = 1 := by kernel_rfl
          have i4 : Try.prog.cellsOf 29 = 11 := by kernel_rfl
          have r0 := hf 0 _ rfl
          have r1 := hf 1 _ rfl
          have r2 := hf 2 _ rfl
          have r3 := hf 3 _ rfl
          have r4 := hf 4 _ rfl
          have r5 := hf 5 _ rfl
          have r6 := hf 6 _ rfl
          have r7 := hf 7 _ rfl
          have r8 := hf 8 _ rfl
          have r9 := hf 9 _ rfl
          have i5 : Try.prog.cellsOf 4 = 1 := by kernel_rfl
          simp [i1, i2, i3, i4, i5] at r0 r1 r2 r3 r4 r5 r6 r7 r8 r9
          obtain ⟨z, ez, wz⟩ := r0.int Try.underlying3
          obtain ⟨z1, e1, _⟩ := r1.int Try.underlying3
          obtain ⟨z2, e2, _⟩ := r2.int Try.underlying3
          obtain ⟨y, ey, wy⟩ := r3.int Try.underlying3
          obtain ⟨z4, e4, _⟩ := r4.int Try.underlying3
          obtain ⟨z5, e5, _⟩ := r5.string Try.underlying9
          obtain ⟨z6, e6, _⟩ := r6.string Try.underlying9
          obtain ⟨z9, e9⟩ := r9.boolH Try.underlying4
          obtain ⟨_, hn⟩ := r7.struct Try.underlying29
          have n0 := hn 0 _ rfl
          have n1 := hn 1 _ rfl
          have n2 := hn 2 _ rfl
          have n3 := hn 3 _ rfl
          have n4 := hn 4 _ rfl
          have n5 := hn 5 _ rfl
          have n6 := hn 6 _ rfl
          have n7 := hn 7 _ rfl
          have n8 := hn 8 _ rfl
          have n9 := hn 9 _ rfl
          have n10 := hn 10 _ rfl
          have i6 : Try.prog.cellsOf 3 = 1 := by kernel_rfl
          simp [i1, i3, i6] at n0 n1 n2 n3 n4 n5 n6 n7 n8 n9 n10
          obtain ⟨a0, f0, _⟩ := n0.int Try.underlying3
          obtain ⟨a1, f1, _⟩ := n1.int Try.underlying3
          obtain ⟨a2, f2, _⟩ := n2.int Try.underlying3
          obtain ⟨a3, f3, _⟩ := n3.int Try.underlying3
          obtain ⟨a4, f4, _⟩ := n4.int Try.underlying3
          obtain ⟨a5, f5, _⟩ := n5.string Try.underlying9
          obtain ⟨a6, f6, _⟩ := n6.int Try.underlying3
          obtain ⟨a7, f7, _⟩ := n7.int Try.underlying3
          obtain ⟨a8, f8, _⟩ := n8.int Try.underlying3
          obtain ⟨a9, f9, _⟩ := n9.int Try.underlying3
          obtain ⟨a10, f10, _⟩ := n10.int Try.underlying3
          obtain ⟨bo, bc, bs, eb, h1, h2, h3, h4, h5⟩ := r8.bytes Try.underlying32
          simp at ez e1 e2 ey e4 e5 e6 e9 eb f0 f1 f2 f3 f4 f5 f6 f7 f8 f9 f10
          subst ez e1 e2 ey e4 e5 e6 e9 eb f0 f1 f2 f3 f4 f5 f6 f7 f8 f9 f10
          obtain ⟨b, rfl⟩ := nb_of2 h4
          rw [nb_len] at *
          refine ⟨(z, y, b), ⟨i64_bd wz, i64_bd wy⟩, ?_⟩
          intro q hq _
          cases hq
          refine ⟨[.int .i64 z, .int .i64 z1, .int .i64 z2, .int .i64 y, .int .i64 z4, .string z5, .string z6, .int .i64 a0, .int .i64 a1, .int .i64 a2, .int .i64 a3, .int .i64 a4, .string a5, .int .i64 a6, .int .i64 a7, .int .i64 a8, .int .i64 a9, .int .i64 a10, .slice bo b.length bc, .bool z9], fun j v hj => ?_, bo, bc, rfl, ?_, rfl, rfl, rfl, h3, h1, h2⟩
          · have hjl := (List.getElem?_eq_some_iff.1 hj).1
            rw [hcc j hjl]
            exact hj
          · intro v hv
            simp at hv
            rcases hv with h | h | h | h | h | h | h | h | h | h | h | h | h | h | h | h | h | h | h | h <;> (rw [h]; rfl)
    · exact ⟨(0, 0, []), by decide, (fun x _ h => absurd h hi)⟩
  obtain ⟨f, hf⟩ := chooseF key
  refine ⟨ao, cap, (List.range len).map f, by simp, ?_, by simpa using hl, hm, ?_⟩
  · intro i p hp
    rw [List.getElem?_map] at hp
    by_cases hi : i < len
    · rw [List.getElem?_range hi] at hp
      simp at hp
      subst hp
      cases ao with
      | none => have := (hn rfl).1; omega
      | some x =>
        obtain ⟨us, h1, h2⟩ := (hf i).2 x rfl hi
        obtain ⟨b, off, spot⟩ := x
        have hs : spot = none := by
          obtain ⟨u0, h10, bo, bc, _, _, q0, _⟩ := (hf 0).2 _ rfl (by omega)
          have := World.cell?_spot (h10 0 _ q0)
          simpa [Addr.add] using this
        subst hs
        refine ⟨b, off, us, rfl, ?_, fun j v hj => ?_, h2⟩
        · obtain ⟨bo, bc, _, _, q0, _⟩ := h2
          have hb := World.block_lt_of_cell? w _ (h1 0 _ q0)
          rw [addr_add] at hb
          exact hb
        · have := h1 j v hj
          rw [addr_add] at this
          rw [Nat.add_assoc]
          exact this
    · rw [List.getElem?_eq_none (by simp; omega)] at hp
      cases hp
  · intro p hp
    obtain ⟨i, _, rfl⟩ := List.mem_map.1 hp
    exact (hf i).1
end Go.Proofs.Ytjjgadanobeamaa

namespace Go.Proofs.Ytjjgadanobeamaa
open Go.RowKit
set_option linter.unusedVariables false

theorem i64_mask (n : Int) (k : Nat) (hk : k ≤ 62) : bits .and .i64 n ((2 ^ k - 1 : Nat) : Int) = n % ((2 ^ k : Nat) : Int) := by
  have h1 : 1 ≤ 2 ^ k := Nat.one_le_two_pow
  have h2 : 2 ^ k ≤ 2 ^ 62 := pow_le_pow2 hk
  have ha : (BitVec.ofInt 64 ((2 ^ k - 1 : Nat) : Int)).toNat = 2 ^ k - 1 := by
    rw [BitVec.ofInt_natCast, BitVec.toNat_ofNat]; exact Nat.mod_eq_of_lt (by omega)
  show IntKind.i64.wrap ((BitVec.ofInt 64 n &&& BitVec.ofInt 64 ((2 ^ k - 1 : Nat) : Int)).toNat : Int) = _
  rw [BitVec.toNat_and, ha, Nat.and_two_pow_sub_one_eq_mod]
  have hm : (((BitVec.ofInt 64 n).toNat : Nat) : Int) = n % 18446744073709551616 := by
    rw [BitVec.toNat_ofInt]
    omega
  have hlt : (BitVec.ofInt 64 n).toNat % 2 ^ k < 2 ^ k := Nat.mod_lt _ (by omega)
  rw [IntWalk.i64_in _ (by omega), Int.natCast_emod, hm]
  exact Int.emod_emod_of_dvd n (Int.ofNat_dvd.2 (show 2 ^ k ∣ 2 ^ 64 from Nat.pow_dvd_pow 2 (by omega)))

theorem mask65535 (n : Int) : bits .and .i64 n 65535 = n % 65536 := i64_mask n 16 (by decide)

end Go.Proofs.Ytjjgadanobeamaa

namespace Go.Proofs.Ytjjgadanobeamaa
open Go.RowKit
set_option linter.unusedVariables false
set_option linter.unusedSimpArgs false
set_option maxRecDepth 20000

def arrV (f : Int → Value) : Array Value := ((List.range 1100).map (fun k : Nat => f (k : Int))).toArray
theorem arrV_at (f : Int → Value) (k : Nat) (h : k < 1100) : (arrV f)[k]? = some (f k) := by
  unfold arrV
  simp [h]
theorem arrV_set (f : Int → Value) (k : Nat) (v : Value) : (arrV f).setIfInBounds k v = arrV (fun x => if x = (k : Int) then v else f x) := by
  apply Array.ext_getElem?
  intro i
  rw [Array.getElem?_setIfInBounds]
  have hsz : (arrV f).size = 1100 := by simp [arrV]
  rcases Nat.lt_or_ge i 1100 with h | h
  · rw [arrV_at _ i h, arrV_at _ i h]
    by_cases e : k = i
    · subst e; rw [if_pos rfl, if_pos (by rw [hsz]; exact h), if_pos rfl]
    · rw [if_neg e, if_neg (by omega)]
  · rw [Array.getElem?_eq_none (by rw [hsz]; exact h), Array.getElem?_eq_none (by simp [arrV]; exact h)]
    split
    · split
      · rename_i h1 h2; rw [hsz] at h2; omega
      · rfl
    · rfl
theorem arrV_congr {f g : Int → Value} (h : ∀ x, 0 ≤ x → x < 1100 → f x = g x) : arrV f = arrV g := by
  unfold arrV
  congr 1
  refine List.map_congr_left (fun k hk => ?_)
  rw [List.mem_range] at hk
  exact h k (by omega) (by omega)
theorem arr_info53 : (Try.prog.info? 30).map (fun i => (i.zero, i.size)) = some (some (.agg (Array.replicate 1100 (.bool false))), 1100) := by kernel_rfl
theorem arr_info54 : (Try.prog.info? 31).map (fun i => (i.zero, i.size)) = some (some (.agg (Array.replicate 1100 (.int .u8 0))), 1100) := by kernel_rfl
theorem arr_cells53 : (Value.agg (Array.replicate 1100 (.bool false))).cells = arrV (fun _ => .bool false) := by kernel_rfl
theorem arr_cells54 : (Value.agg (Array.replicate 1100 (.int .u8 0))).cells = arrV (fun _ => .int .u8 0) := by kernel_rfl
theorem wpList_arr {ops : Array Oper} {rest : List Oper} {o : Oper} {a : Act} {w : World} {Q : Exit → Act → World → Prop} (hg : o.guard = none) (t : TypeId) (hop : o.op = Op.alloc t) (z : Value) (cs : Array Value)
    (hz : ∀ w, (zeroValue t).run Try.prog w = .ok z w) (hc : z.cells = cs) (hK : wpList Try.prog ops Q rest (a.put o.dst (.pointer (some ⟨w.heap.size, 0, none⟩))) (w.alloc (.cells cs t))) : wpList Try.prog ops Q (o :: rest) a w := by
  have hrun : (execOp a.eval o).run Try.prog w = .ok (.value (.pointer (some ⟨w.heap.size, 0, none⟩))) (w.alloc (.cells cs t)) := by
    unfold execOp
    rw [hop]
    simp [Instr.alloc, hz, newVar, newRow, hc]
  refine wpList_plain hg fun K hK' => ?_
  unfold Oper.wp
  rw [hrun, Oper.upon_value]
  exact hK' _ _ hK
structure HoS (w W : World) (f BI BC : Nat) (T : FsP) (is : Int → Bool) (c : Int → UInt8) : Prop where
  st : ∃ S : Nat → Prop, FsSt S W f T ∧ (∀ k, S k → w.heap.size ≤ k ∧ k < W.heap.size) ∧ ¬ S BI ∧ ¬ S BC
  oi : W.heap[BI]? = some (.cells (arrV (fun x => .bool (is x))) 30 (0, 0))
  oc : W.heap[BC]? = some (.cells (arrV (fun x => .int .u8 ((c x).toNat : Int))) 31 (0, 0))
  fresh : w.heap.size ≤ BI ∧ w.heap.size ≤ BC ∧ BI ≠ BC
  keep : Kept NoB w W
theorem HoS.ok {w W : World} {f BI BC : Nat} {T : FsP} {is : Int → Bool} {c : Int → UInt8} (h : HoS w W f BI BC T is c) : OkT T := by
  obtain ⟨S, ⟨L, B, mb, h1⟩, _⟩ := h.st
  exact h1.ok
theorem HoS.kept {w W W' : World} {f BI BC : Nat} {T : FsP} {is : Int → Bool} {c : Int → UInt8} (h : HoS w W f BI BC T is c) (hk : Kept NoB W W') : HoS w W' f BI BC T is c := by
  obtain ⟨S, h1, h2, h3⟩ := h.st
  exact ⟨⟨S, h1.keptNo hk, fun k e => ⟨(h2 k e).1, Nat.lt_of_lt_of_le (h2 k e).2 hk.size⟩, h3⟩, hk.obj h.oi id, hk.obj h.oc id, h.fresh, h.keep.trans hk⟩
theorem HoS.lt {w W : World} {f BI BC : Nat} {T : FsP} {is : Int → Bool} {c : Int → UInt8} (h : HoS w W f BI BC T is c) : BI < W.heap.size ∧ BC < W.heap.size := ⟨obj_lt h.oi, obj_lt h.oc⟩
theorem HoS.call {w W : World} {f BI BC : Nat} {T T' : FsP} {is : Int → Bool} {c : Int → UInt8} {fn : Nat} {args : Array Value} {v : Value} (h : HoS w W f BI BC T is c)
    (hc : ∀ S, FsSt S W f T → (∀ k, S k → w.heap.size ≤ k) → Calls Try.prog fn args W fun e w' => e = .returned v ∧ FsSt (Grow S W w') w' f T' ∧ Kept S W w') : Calls Try.prog fn args W fun e w' => e = .returned v ∧ Hid (HoS w w' f BI BC T' is c) := by
  obtain ⟨S, h1, h2, h3⟩ := h.st
  have hlt := h.lt
  refine (hc S h1 (fun k e => (h2 k e).1)).mono ?_
  rintro e w' ⟨rfl, q1, q2⟩
  have hs := q2.size
  have hw := h.keep.size
  refine ⟨rfl, Lib.hid ⟨⟨_, q1, fun k e => ?_, fun e => ?_, fun e => ?_⟩, q2.obj h.oi h3.1, q2.obj h.oc h3.2, h.fresh, keep_on h.keep q2 (fun i hi e => by have := (h2 i e).1; omega)⟩⟩
  · rcases e with e | e
    · exact ⟨(h2 k e).1, by have := (h2 k e).2; omega⟩
    · exact ⟨by omega, e.2⟩
  · rcases e with e | e
    · exact h3.1 e
    · have := e.1; omega
  · rcases e with e | e
    · exact h3.2 e
    · have := e.1; omega
theorem HoS.isAt {w W : World} {f BI BC : Nat} {T : FsP} {is : Int → Bool} {c : Int → UInt8} (h : HoS w W f BI BC T is c) (k : Nat) (hk : k < 1100) : W.cell? ⟨BI, k, none⟩ = some (.bool (is k)) := by
  rw [obj_cell h.oi, arrV_at _ k hk]
theorem HoS.cAt {w W : World} {f BI BC : Nat} {T : FsP} {is : Int → Bool} {c : Int → UInt8} (h : HoS w W f BI BC T is c) (k : Nat) (hk : k < 1100) : W.cell? ⟨BC, k, none⟩ = some (.int .u8 ((c k).toNat : Int)) := by
  rw [obj_cell h.oc, arrV_at _ k hk]
theorem HoS.setI {w W : World} {f BI BC : Nat} {T : FsP} {is : Int → Bool} {c : Int → UInt8} (h : HoS w W f BI BC T is c) (k : Nat) (v : Bool) : HoS w (W.setCell ⟨BI, k, none⟩ (.bool v)) f BI BC T (fun x => if x = (k : Int) then v else is x) c := by
  obtain ⟨S, h1, h2, h3⟩ := h.st
  have hk : Kept (OneB BI) W (W.setCell ⟨BI, k, none⟩ (.bool v)) := kept_one _ _ _ _
  refine ⟨⟨S, h1.kept hk (fun j hS e => h3.1 (by have e : j = BI := e; rw [← e]; exact hS)), fun j e => ⟨(h2 j e).1, Nat.lt_of_lt_of_le (h2 j e).2 hk.size⟩, h3⟩, ?_, hk.obj h.oc (fun e => h.fresh.2.2 (by have e : BC = BI := e; exact e.symm)), h.fresh, keep_on h.keep hk (fun i hi e => by have e : i = BI := e; have := h.fresh.1; omega)⟩
  have := obj_set h.oi k (.bool v)
  rw [arrV_set] at this
  rw [this]
  congr 2
  exact arrV_congr (fun x _ _ => by by_cases e : x = (k : Int); rw [if_pos e, if_pos e]; rw [if_neg e, if_neg e])
theorem HoS.setC {w W : World} {f BI BC : Nat} {T : FsP} {is : Int → Bool} {c : Int → UInt8} (h : HoS w W f BI BC T is c) (k : Nat) (v : UInt8) : HoS w (W.setCell ⟨BC, k, none⟩ (.int .u8 (v.toNat : Int))) f BI BC T is (fun x => if x = (k : Int) then v else c x) := by
  obtain ⟨S, h1, h2, h3⟩ := h.st
  have hk : Kept (OneB BC) W (W.setCell ⟨BC, k, none⟩ (.int .u8 (v.toNat : Int))) := kept_one _ _ _ _
  refine ⟨⟨S, h1.kept hk (fun j hS e => h3.2 (by have e : j = BC := e; rw [← e]; exact hS)), fun j e => ⟨(h2 j e).1, Nat.lt_of_lt_of_le (h2 j e).2 hk.size⟩, h3⟩, hk.obj h.oi (fun e => h.fresh.2.2 e), ?_, h.fresh, keep_on h.keep hk (fun i hi e => by have e : i = BC := e; have := h.fresh.2.1; omega)⟩
  have := obj_set h.oc k (.int .u8 (v.toNat : Int))
  rw [arrV_set] at this
  rw [this]
  congr 2
  exact arrV_congr (fun x _ _ => by by_cases e : x = (k : Int); rw [if_pos e, if_pos e]; rw [if_neg e, if_neg e])
theorem HoS.congr {w W : World} {f BI BC : Nat} {T : FsP} {is is' : Int → Bool} {c c' : Int → UInt8} (h : HoS w W f BI BC T is c) (hi : ∀ x, 0 ≤ x → x < 1100 → is x = is' x) (hc : ∀ x, 0 ≤ x → x < 1100 → c x = c' x) : HoS w W f BI BC T is' c' :=
  ⟨h.st, by rw [h.oi, arrV_congr (f := fun x => .bool (is x)) (g := fun x => .bool (is' x)) (fun x h1 h2 => by rw [hi x h1 h2])], by rw [h.oc, arrV_congr (f := fun x => .int .u8 ((c x).toNat : Int)) (g := fun x => .int .u8 ((c' x).toNat : Int)) (fun x h1 h2 => by rw [hc x h1 h2])], h.fresh, h.keep⟩
theorem HoS.start {w W : World} {f : Nat} {T : FsP} (h : FsOwn w W f T) : HoS w ((W.alloc (.cells (arrV (fun _ => .bool false)) 30)).alloc (.cells (arrV (fun _ => .int .u8 0)) 31)) f W.heap.size (W.heap.size + 1) T (fun _ => false) (fun _ => 0) := by
  have hk1 : Kept NoB W (W.alloc (.cells (arrV (fun _ => .bool false)) 30)) := (Kept.refl _ _).alloc _
  have hk2 : Kept NoB (W.alloc (.cells (arrV (fun _ => .bool false)) 30)) ((W.alloc (.cells (arrV (fun _ => .bool false)) 30)).alloc (.cells (arrV (fun _ => .int .u8 0)) 31)) := (Kept.refl _ _).alloc _
  have hw := h.keep.size
  have hs : W.heap.size ≤ ((W.alloc (.cells (arrV (fun _ => .bool false)) 30)).alloc (.cells (arrV (fun _ => .int .u8 0)) 31)).heap.size := (hk1.trans hk2).size
  refine ⟨⟨_, h.st.keptNo (hk1.trans hk2), fun k e => ⟨e.1, Nat.lt_of_lt_of_le e.2 hs⟩, fun e => ?_, fun e => ?_⟩, hk2.obj (heap_push _ _) id, ?_, ⟨hw, by omega, by omega⟩, h.keep.trans (hk1.trans hk2)⟩
  · have := e.2; omega
  · have := e.2; omega
  · exact heap_push2 _ _ _
end Go.Proofs.Ytjjgadanobeamaa

namespace Go.Proofs.Ytjjgadanobeamaa
set_option linter.unusedVariables false
set_option linter.unusedSimpArgs false
set_option maxRecDepth 20000

structure WrL (is : Int → Bool) (L : Nat) (s : Int) (R n d : Nat) : Prop where
  le : n ≤ L
  room : d ≤ R
  eq : fitB is L s R = ((fitB is (L - n) (s + n) (R - d)).1 + n, (fitB is (L - n) (s + n) (R - d)).2 + d)
theorem WrL.start (is : Int → Bool) (L : Nat) (s : Int) (R : Nat) : WrL is L s R 0 0 := ⟨Nat.zero_le _, Nat.zero_le _, by simp⟩
theorem WrL.yes {is : Int → Bool} {L : Nat} {s : Int} {R n d : Nat} (h : WrL is L s R n d) (hn : n < L) (hi : is (s + n) = true) : WrL is L s R (n + 1) d := by
  refine ⟨by omega, h.room, ?_⟩
  rw [h.eq]
  have e : L - n = (L - (n + 1)) + 1 := by omega
  rw [e]
  simp only [fitB]
  rw [if_pos hi, show s + (n : Int) + 1 = s + ((n + 1 : Nat) : Int) by push_cast; omega]
  refine Prod.ext ?_ rfl
  show _ + 1 + n = _ + (n + 1)
  omega
theorem WrL.no {is : Int → Bool} {L : Nat} {s : Int} {R n d : Nat} (h : WrL is L s R n d) (hn : n < L) (hi : is (s + n) = false) (hd : d < R) : WrL is L s R (n + 1) (d + 1) := by
  refine ⟨by omega, by omega, ?_⟩
  rw [h.eq]
  have e : L - n = (L - (n + 1)) + 1 := by omega
  have e2 : R - d = (R - (d + 1)) + 1 := by omega
  rw [e, e2]
  simp only [fitB]
  rw [if_neg (by rw [hi]; decide), show s + (n : Int) + 1 = s + ((n + 1 : Nat) : Int) by push_cast; omega]
  refine Prod.ext ?_ ?_
  · show _ + 1 + n = _ + (n + 1)
    omega
  · show _ + 1 + d = _ + (d + 1)
    omega
theorem WrL.all {is : Int → Bool} {L : Nat} {s : Int} {R n d : Nat} (h : WrL is L s R n d) (hn : n = L) : fitB is L s R = (n, d) := by
  rw [h.eq, hn, Nat.sub_self]
  simp [fitB]
theorem WrL.full {is : Int → Bool} {L : Nat} {s : Int} {R n d : Nat} (h : WrL is L s R n d) (hn : n < L) (hi : is (s + n) = false) (hd : d = R) : fitB is L s R = (n, d) := by
  rw [h.eq]
  have e : L - n = (L - (n + 1)) + 1 := by omega
  rw [e, hd, Nat.sub_self]
  simp only [fitB]
  rw [if_neg (by rw [hi]; decide)]
  simp
theorem cnt_step (is : Int → Bool) (s : Int) (k : Nat) : cntD is s (k + 1) = cntD is s k + (if is (s + k) = true then 1 else 0) := by
  rw [cnt_add is k 1 s]
  show _ + ((if is (s + k) = true then 1 else 0) + 0) = _
  omega
theorem gone_step (is : Int → Bool) (s : Int) (k : Nat) (x : Int) : (if x = s + (k : Int) then false else (is x && (decide (x < s) || decide (s + (k : Int) ≤ x)))) = (is x && (decide (x < s) || decide (s + ((k + 1 : Nat) : Int) ≤ x))) := by
  by_cases e : x = s + (k : Int)
  · rw [if_pos e]
    have h1 : decide (x < s) = false := by simp; omega
    have h2 : decide (s + ((k + 1 : Nat) : Int) ≤ x) = false := by simp; omega
    rw [h1, h2]; simp
  · rw [if_neg e]
    have h2 : decide (s + (k : Int) ≤ x) = decide (s + ((k + 1 : Nat) : Int) ≤ x) := by
      by_cases h : s + (k : Int) ≤ x
      · have : s + ((k + 1 : Nat) : Int) ≤ x := by push_cast; omega
        simp [h]; push_cast at this; exact this
      · have : ¬ s + ((k + 1 : Nat) : Int) ≤ x := by push_cast; omega
        simp only [h, this]
    rw [h2]
theorem more_step (is : Int → Bool) (s : Int) (k : Nat) (x : Int) : (if x = s + (k : Int) then true else (is x || ivD s (s + k) x)) = (is x || ivD s (s + ((k + 1 : Nat) : Int)) x) := by
  by_cases e : x = s + (k : Int)
  · rw [if_pos e]
    have : ivD s (s + ((k + 1 : Nat) : Int)) x = true := by simp [ivD]; omega
    rw [this, Bool.or_true]
  · rw [if_neg e]
    congr 1
    unfold ivD
    congr 1
    by_cases h : x < s + (k : Int)
    · have : x < s + ((k + 1 : Nat) : Int) := by push_cast; omega
      simp only [h, this]
    · have : ¬ x < s + ((k + 1 : Nat) : Int) := by push_cast; omega
      simp only [h, this]
theorem byte_step (c : Int → UInt8) (b : List UInt8) (s : Int) (k : Nat) (v : UInt8) (hv : b.getD k 0 = v) (x : Int) : (if x = s + (k : Int) then v else (if ivD s (s + k) x then b.getD (x - s).toNat 0 else c x)) = (if ivD s (s + ((k + 1 : Nat) : Int)) x then b.getD (x - s).toNat 0 else c x) := by
  by_cases e : x = s + (k : Int)
  · rw [if_pos e]
    have : ivD s (s + ((k + 1 : Nat) : Int)) x = true := by simp [ivD]; omega
    rw [this, if_pos rfl, ← hv]
    congr 1
    omega
  · rw [if_neg e]
    have : ivD s (s + k) x = ivD s (s + ((k + 1 : Nat) : Int)) x := by
      unfold ivD
      congr 1
      by_cases h : x < s + (k : Int)
      · have : x < s + ((k + 1 : Nat) : Int) := by push_cast; omega
        simp only [h, this]
      · have : ¬ x < s + ((k + 1 : Nat) : Int) := by push_cast; omega
        simp only [h, this]
    rw [this]
theorem iv_none (s x : Int) : ivD s (s + ((0 : Nat) : Int)) x = false := by simp [ivD]
theorem iv_at (s : Int) (k : Nat) : ivD s (s + (k : Int)) (s + k) = false := by simp [ivD]
end Go.Proofs.Ytjjgadanobeamaa

namespace Go.Proofs.Ytjjgadanobeamaa
open Go.RowKit
set_option linter.unusedVariables false
set_option linter.unusedSimpArgs false
set_option maxRecDepth 20000

def wantB (is : Int → Bool) (c : Int → UInt8) (m k : Nat) : List UInt8 := (List.range m).map (fun j : Nat => if j < k ∧ is (j : Int) = true then c (j : Int) else 0)
theorem wantB_len (is : Int → Bool) (c : Int → UInt8) (m k : Nat) : (wantB is c m k).length = m := by simp [wantB]
theorem wantB_at (is : Int → Bool) (c : Int → UInt8) (m k j : Nat) (hj : j < m) : (wantB is c m k)[j]? = some (if j < k ∧ is (j : Int) = true then c (j : Int) else 0) := by
  unfold wantB
  rw [List.getElem?_map, List.getElem?_range hj]
  rfl
theorem wantB_zero (is : Int → Bool) (c : Int → UInt8) (m : Nat) : wantB is c m 0 = List.replicate m 0 := by
  unfold wantB
  simp [List.map_const']
theorem wantB_all (is : Int → Bool) (c : Int → UInt8) (m : Nat) : wantB is c m m = hoB is c m := by
  unfold wantB hoB
  refine List.map_congr_left (fun j hj => ?_)
  rw [List.mem_range] at hj
  simp only [hj, true_and]
theorem wantB_skip {is : Int → Bool} (c : Int → UInt8) (m k : Nat) (h : is (k : Int) = false) : wantB is c m (k + 1) = wantB is c m k := by
  unfold wantB
  refine List.map_congr_left (fun j hj => ?_)
  by_cases e : j = k
  · subst e; rw [if_neg (by rw [h]; simp), if_neg (by omega)]
  · by_cases e2 : j < k
    · simp only [e2, show j < k + 1 by omega, true_and]
    · rw [if_neg (fun q => by have := q.1; omega), if_neg (fun q => e2 q.1)]
theorem wantB_set {is : Int → Bool} (c : Int → UInt8) (m k : Nat) (hk : k < m) (h : is (k : Int) = true) : wantB is c m (k + 1) = (wantB is c m k).set k (c (k : Int)) := by
  apply List.ext_getElem?
  intro j
  rw [List.getElem?_set, wantB_len]
  rcases Nat.lt_or_ge j m with hj | hj
  · rw [wantB_at is c m (k + 1) j hj, wantB_at is c m k j hj]
    by_cases e : k = j
    · subst e; rw [if_pos rfl, if_pos hk, if_pos ⟨by omega, h⟩]
    · rw [if_neg e]
      by_cases e2 : j < k
      · simp only [e2, show j < k + 1 by omega, true_and]
      · rw [if_neg (fun q => by have := q.1; omega), if_neg (fun q => e2 q.1)]
  · rw [List.getElem?_eq_none (by rw [wantB_len]; exact hj), List.getElem?_eq_none (by rw [wantB_len]; exact hj), if_neg (by omega)]
theorem bc_set (l : List UInt8) (k : Nat) (x : UInt8) : bc (l.set k x) = (bc l).set k (.int .u8 (x.toNat : Int)) := by
  unfold bc
  rw [List.map_set]
theorem row_set {w : World} {g : Nat} {l : List UInt8} {t : TypeId} (h : w.heap[g]? = some (.cells (bc l).toArray t (0, 0))) (k : Nat) (x : UInt8) :
    (w.setCell ⟨g, k, none⟩ (.int .u8 (x.toNat : Int))).heap[g]? = some (.cells (bc (l.set k x)).toArray t (0, 0)) := by
  have := obj_set h k (.int .u8 (x.toNat : Int))
  rw [this, bc_set]
  simp
end Go.Proofs.Ytjjgadanobeamaa
