/-
  A tree of files in memory: a new one; stores into the map of nodes and into a map of names.
  A tree of files in memory: tick marks nodes.
  A tree of files in memory: Make.
-/
import Derived.Test.YtgbakogihkdddaaGreatDoorMx7
namespace Go.Proofs.YtgbakogihkdddaaGreatDoor
open Go.RowKit
open Go.Maps (Keyed)
set_option linter.unusedVariables false
set_option linter.unusedSimpArgs false
set_option maxRecDepth 20000

def updB (B : Int → Option Nat) (k : Int) (o : Option Nat) : Int → Option Nat := fun j => if j = k then o else B j
theorem updB_same (B : Int → Option Nat) (k : Int) (o : Option Nat) : updB B k o k = o := by simp [updB]
theorem updB_other (B : Int → Option Nat) {k j : Int} (o : Option Nat) (h : j ≠ k) : updB B k o j = B j := by simp [updB, h]
theorem nodes_put {w : World} {mb : Nat} {B : Int → Option Nat} {c : Nat} (h : NodesAt w mb B c) (k : Int) (hk : -9223372036854775808 ≤ k ∧ k ≤ 9223372036854775807) (b : Nat) (hc : c < maxLen) :
    ∃ w', (Instr.mapUpdate 64 (.map (some mb)) (.int .i64 k) (.pointer (some ⟨b, 0, none⟩))).run Tryz.prog w = .ok () w' ∧ NodesAt w' mb (updB B k (some b)) (if (B k).isSome then c else c + 1) ∧ Kept (OneB mb) w w' ∧ w'.heap.size = w.heap.size := by
  obtain ⟨w', hr, h1, h2⟩ := MapF.store h law_int Tryz.underlying64 hc (Maps.keyOf_int_mk Tryz.underlying3 (i64_wf hk)) (ptrR_mk b)
  refine ⟨w', hr, ?_, turned_kept h2, turned_size h2⟩
  rw [ndF_upd] at h1
  have e : (ndF B (.int .i64 k)).isSome = (B k).isSome := by cases hB : B k <;> simp [ndF, hB]
  rw [e] at h1
  exact h1
theorem nodes_del {w : World} {mb : Nat} {B : Int → Option Nat} {c : Nat} (h : NodesAt w mb B c) (k : Int) (hk : -9223372036854775808 ≤ k ∧ k ≤ 9223372036854775807) (ty : TypeId) :
    ∃ w', (Builtin.delete_ #[64, 3] ty #[.map (some mb), .int .i64 k]).run Tryz.prog w = .ok (.tuple #[]) w' ∧ NodesAt w' mb (updB B k none) (if (B k).isSome then c - 1 else c) ∧ Kept (OneB mb) w w' ∧ w'.heap.size = w.heap.size := by
  obtain ⟨w', hr, h1, h2⟩ := MapF.drop h law_int Tryz.underlying64 (Maps.keyOf_int_mk Tryz.underlying3 (i64_wf hk)) ty
  refine ⟨w', hr, ?_, turned_kept h2, turned_size h2⟩
  rw [ndF_del] at h1
  have e : (ndF B (.int .i64 k)).isSome = (B k).isSome := by cases hB : B k <;> simp [ndF, hB]
  rw [e] at h1
  exact h1
theorem names_put {w : World} {mb : Nat} {l : Nms} (h : NamesAt w mb l) (hl : OkK l) (s : List UInt8) (hs : s.length ≤ maxLen) (i : Int) (hi : -9223372036854775808 ≤ i ∧ i ≤ 9223372036854775807) (hn : getK l s = none) (hc : l.length < maxLen) :
    ∃ w', (Instr.mapUpdate 60 (.map (some mb)) (.string (strB s)) (.int .i64 i)).run Tryz.prog w = .ok () w' ∧ NamesAt w' mb (putK l s i) ∧ Kept (OneB mb) w w' ∧ w'.heap.size = w.heap.size := by
  have hkey := WideMaps.keyOf_string_mk (s := strB s) Tryz.underlying9 (by rw [strB_size]; exact hs)
  rw [strB_data] at hkey
  obtain ⟨w', hr, h1, h2⟩ := MapF.store h law_str Tryz.underlying60 hc hkey (plainElem_int Tryz.underlying3 (i64_wf hi))
  refine ⟨w', hr, ?_, turned_kept h2, turned_size h2⟩
  rw [nmF_put hl s i hn] at h1
  have e : (nmF l (.string s)).isSome = false := by simp [nmF, hn]
  rw [e] at h1
  unfold NamesAt
  rw [putK_len]
  exact h1
theorem names_del {w : World} {mb : Nat} {l : Nms} (h : NamesAt w mb l) (hl : OkK l) (s : List UInt8) (hs : s.length ≤ maxLen) {i : Int} (hn : getK l s = some i) (ty : TypeId) :
    ∃ w', (Builtin.delete_ #[60, 9] ty #[.map (some mb), .string (strB s)]).run Tryz.prog w = .ok (.tuple #[]) w' ∧ NamesAt w' mb (delK l s) ∧ Kept (OneB mb) w w' ∧ w'.heap.size = w.heap.size := by
  have hkey := WideMaps.keyOf_string_mk (s := strB s) Tryz.underlying9 (by rw [strB_size]; exact hs)
  rw [strB_data] at hkey
  obtain ⟨w', hr, h1, h2⟩ := MapF.drop h law_str Tryz.underlying60 hkey ty
  refine ⟨w', hr, ?_, turned_kept h2, turned_size h2⟩
  rw [nmF_del hl s] at h1
  have e : (nmF l (.string s)).isSome = true := by simp [nmF, hn]
  rw [e] at h1
  unfold NamesAt
  have := delK_len hl hn
  have e2 : (delK l s).length = l.length - 1 := by omega
  rw [e2]
  exact h1
section
variable {ops : Array Oper} {rest : List Oper} {o : Oper} {a : Act} {w : World} {Q : Exit → Act → World → Prop}
theorem wpList_nodes_insert (hgd : o.guard = none) (m x v : Operand) (hop : o.op = Op.insert 64 m x v) {mb : Nat} {B : Int → Option Nat} {c : Nat} (hM : NodesAt w mb B c) (hm : a.eval m = .map (some mb)) {k : Int} (hx : a.eval x = .int .i64 k) (hk : -9223372036854775808 ≤ k ∧ k ≤ 9223372036854775807) {b : Nat} (hv : a.eval v = .pointer (some ⟨b, 0, none⟩)) (hc : c < maxLen)
    (h : ∀ w', NodesAt w' mb (updB B k (some b)) (if (B k).isSome then c else c + 1) → Kept (OneB mb) w w' → w'.heap.size = w.heap.size → wpList Tryz.prog ops Q rest (a.put o.dst undef) w') : wpList Tryz.prog ops Q (o :: rest) a w := by
  refine wpList_plain hgd fun K' hK' => ?_
  obtain ⟨w', hr, h1, h2, h3⟩ := nodes_put hM k hk b hc
  unfold Oper.wp
  simp [execOp, hop, hm, hx, hv, hr, Result.andThen]
  exact hK' _ _ (h w' h1 h2 h3)
end

def rootV : NodeV := { kind := 6, mode := 493, user := 0, group := 0, time := 0, tgt := ⟨#[]⟩, major := 0, minor := 0, size := 0, links := 1, change := 0 }
def rootN : NdP := { v := rootV, names := [], par := 1, data := [] }
def newT (q : Int) : FsP := { nd := fun i => if i = 1 then some rootN else none, cnt := 1, next := 1, quota := max q 0, used := 0, clock := 0 }
theorem newT_ok (q : Int) (hq : q ≤ 9223372036854775807) : OkT (newT q) := by
  have h1 : (newT q).nd 1 = some rootN := rfl
  have hother : ∀ i n, (newT q).nd i = some n → i = 1 ∧ n = rootN := by
    intro i n h
    unfold newT at h
    simp only at h
    split at h
    · rename_i hi; cases h; exact ⟨hi, rfl⟩
    · cases h
  refine ⟨⟨rootN, h1, rfl, rfl⟩, ?_, ?_, ?_, ?_, ?_, ?_, ?_, ?_, ?_⟩
  · intro i n h
    obtain ⟨rfl, rfl⟩ := hother i n h
    refine ⟨by decide, Int.le_refl 1, List.Pairwise.nil, (fun p hp => by cases hp), (fun e => absurd rfl e), OkD.nil, (fun _ => rfl), (fun p hp => by cases hp), by decide, (fun _ e => absurd rfl e), ?_, (show (1 : Int) ≤ 0 + 1 by decide), (show (0 : Int) ≤ 0 ∧ (0 : Int) ≤ 0 by decide), by decide, by decide, by decide, by decide, by decide, by decide, by decide, fun _ => rfl, Int.le_refl 0⟩
    have : sumN (newT q).nd (gLink 1) ((newT q).next + 1).toNat = 0 := rfl
    rw [this]; rfl
  · exact ⟨Int.le_refl 1, (show (1 : Int) ≤ 0 + 1 by decide)⟩
  · exact Int.le_refl 0
  · show 0 ≤ max q 0 ∧ max q 0 ≤ _; omega
  · rfl
  · show (0 : Int) ≤ max q 0; omega
  · rfl
  · show 1 ≤ 1000; omega
  · exact ⟨fun _ => 0, fun i n h _ h1 => absurd (hother i n h).1 h1⟩

set_option maxHeartbeats 1000000 in
theorem new_any (q : Int) (w : World) (hq : -9223372036854775808 ≤ q ∧ q ≤ 9223372036854775807) : Calls Tryz.prog 7 #[.int .i64 q] w fun e w' =>
    ∃ f, e = .returned (.pointer (some ⟨f, 0, none⟩)) ∧ FsSt (Grow NoB w w') w' f (newT q) ∧ Kept NoB w w' := by
  go_enter Tryz.func7, Tryz.ntmps7
  have hmm := @run_makeMap Tryz.prog
  go_upto_region 2 with fail
  have hwm : (w.alloc (Obj.map #[] 0)).heap.size = w.heap.size + 1 := by simp
  obtain ⟨wb, hwb⟩ : ∃ wb, wb = (w.alloc (Obj.map #[] 0)).alloc (.cells (ndC rootN (some w.heap.size) none 0).toArray 63) := ⟨_, rfl⟩
  have hkb : Kept NoB w wb := by rw [hwb]; exact ((Kept.refl NoB w).alloc _).alloc _
  have hsb : wb.heap.size = w.heap.size + 2 := by rw [hwb]; simp
  have hob : wb.heap[w.heap.size + 1]? = some (.cells (ndC rootN (some w.heap.size) none 0).toArray 63 (0, 0)) := by
    rw [hwb]; have := heap_alloc_new (w.alloc (Obj.map #[] 0)) (.cells (ndC rootN (some w.heap.size) none 0).toArray 63 (0, 0)); rw [hwm] at this; exact this
  have hmb : NamesAt wb w.heap.size [] := by
    have h0 : MapF (w.alloc (Obj.map #[] 0)) Tryz.prog 9 (plainElem Tryz.prog 3) w.heap.size (nmF []) 0 := by rw [nmF_nil]; exact MapF.made w _ _ _
    refine MapF.kept (S := NoB) h0 ?_ id
    rw [hwb]; exact (Kept.refl NoB _).alloc _
  show Code.wp _ _ _ _ ((w.alloc (Obj.map #[] 0)).alloc (.cells (ndC rootN (some w.heap.size) none 0).toArray 63))
  rw [← hwb]
  have HKb := Lib.hid hkb; have HOb := Lib.hid hob; have HMb := Lib.hid hmb; have HSb := Lib.hid hsb
  clear hkb hob hmb hsb hwb hwm
  have hN0 : Hid (NodesAt (wb.alloc (Obj.map #[] 0)) wb.heap.size (fun _ => none) 0) := Lib.hid (by
    have h0 := MapF.made wb Tryz.prog 3 ptrR
    have e : ndF (fun _ => none) = fun _ => none := by
      funext l
      cases l with
      | int q n => cases q <;> rfl
      | _ => rfl
    unfold NodesAt
    rw [e]; exact h0)
  go_wp2_with (refine wpList_nodes_insert rfl (.tmp 8) (.const (.int .i64 1)) (.tmp 9) rfl hN0.out rfl rfl (by decide) rfl (by decide) ?_; intro w1 hn1 hk1 hs1)
  go_ret
  have hkb := HKb.out; have hob := HOb.out; have hmb := HMb.out; have hsb := HSb.out
  have hs1' : w1.heap.size = wb.heap.size + 1 := by rw [hs1]; simp
  obtain ⟨w2, hw2⟩ : ∃ w2, w2 = w1.alloc (.cells (fsC wb.heap.size (newT q)).toArray 66) := ⟨_, rfl⟩
  have hk12 : Kept NoB w1 w2 := by rw [hw2]; exact (Kept.refl NoB w1).alloc _
  have hk01 : Kept NoB wb w1 := ((((Kept.refl NoB wb).alloc (Obj.map #[] 0)).mono (T := OneB wb.heap.size) (fun k hk e => e.elim)).trans hk1).mono (fun k hk e => by cases e; omega)
  have hk02 : Kept NoB w w2 := (hkb.trans hk01).trans hk12
  have hs2 : w2.heap.size = wb.heap.size + 2 := by rw [hw2]; simp; omega
  have hof : w2.heap[wb.heap.size + 1]? = some (.cells (fsC wb.heap.size (newT q)).toArray 66 (0, 0)) := by
    rw [hw2]; have := heap_alloc_new w1 (.cells (fsC wb.heap.size (newT q)).toArray 66 (0, 0)); rw [hs1'] at this; exact this
  refine ⟨wb.heap.size + 1, rfl, ?_, ?_⟩
  rotate_left
  · show Kept NoB w (w1.alloc (.cells (fsC wb.heap.size (newT q)).toArray 66))
    rw [← hw2]; exact hk02
  show FsSt _ (w1.alloc (.cells (fsC wb.heap.size (newT q)).toArray 66)) _ _
  show FsSt (Grow NoB w (w1.alloc (.cells (fsC wb.heap.size (newT q)).toArray 66))) _ _ _
  rw [← hw2]
  refine ⟨fun k => if k = wb.heap.size + 1 then .fs else if k = wb.heap.size then .tab else if k = w.heap.size + 1 then .nd 1 else if k = w.heap.size then .nm 1 else .no, updB (fun _ => none) 1 (some (w.heap.size + 1)), wb.heap.size, newT_ok q hq.2, hof, by simp, by simp, ?_, ?_, ?_, ?_⟩
  · have := hk12
    exact MapF.kept hn1 hk12 id
  · intro i
    unfold updB newT
    simp only
    split <;> rfl
  · intro i n b hn hb
    have hi : i = 1 ∧ n = rootN := by
      unfold newT at hn
      simp only at hn
      split at hn
      · rename_i hi; cases hn; exact ⟨hi, rfl⟩
      · cases hn
    obtain ⟨rfl, rfl⟩ := hi
    rw [updB_same] at hb
    cases hb
    refine ⟨some w.heap.size, none, 0, [], (hk01.trans hk12).obj hob id, ?_, fun _ => ⟨w.heap.size, rfl, ?_, ?_⟩, fun e => absurd rfl e, ⟨rfl, World.ownsRow_nil _ _ _ _, (fun k e => by simp [Value.ownBlock] at e), (fun q hq => by cases hq), (fun q hq => by cases hq), List.Pairwise.nil⟩, rfl⟩
    · rw [hsb]; simp; try omega
    · rw [hsb]; simp; try omega
    · exact MapF.kept (S := NoB) hmb (hk01.trans hk12) id
  · intro k hk
    have hk' : k = wb.heap.size + 1 ∨ k = wb.heap.size ∨ k = w.heap.size + 1 ∨ k = w.heap.size := by
      by_cases e1 : k = wb.heap.size + 1
      · exact .inl e1
      · by_cases e2 : k = wb.heap.size
        · exact .inr (.inl e2)
        · by_cases e3 : k = w.heap.size + 1
          · exact .inr (.inr (.inl e3))
          · by_cases e4 : k = w.heap.size
            · exact .inr (.inr (.inr e4))
            · exact absurd rfl (hk .no (by simp [e1, e2, e3, e4]))
    refine ⟨.inr ?_, ?_⟩ <;> omega
end Go.Proofs.YtgbakogihkdddaaGreatDoor

namespace Go.Proofs.YtgbakogihkdddaaGreatDoor
open Go.RowKit
set_option linter.unusedVariables false
set_option linter.unusedSimpArgs false
set_option maxRecDepth 20000

theorem cell_same {w w' : World} {b : Nat} (h : w'.heap[b]? = w.heap[b]?) (o : Nat) : w'.cell? ⟨b, o, none⟩ = w.cell? ⟨b, o, none⟩ := by simp [World.cell?, h]
/-- A node's cells, marked at c. -/
def tchA (A : Array Value) (c : Int) : Array Value := (A.setIfInBounds 4 (.int .i64 c)).setIfInBounds 10 (.int .i64 c)
theorem tchA_twice (A : Array Value) (c : Int) : tchA (tchA A c) c = tchA A c := by
  apply Array.ext_getElem?
  intro i
  unfold tchA
  simp only [Array.getElem?_setIfInBounds, Array.size_setIfInBounds]
  by_cases h4 : 4 = i <;> by_cases h10 : 10 = i <;> simp [h4, h10]
theorem tchA_nd (n : NdP) (m : Option Nat) (a : Option Addr) (k : Nat) (c : Int) : tchA (ndC n m a k).toArray c = (ndC (touch c n) m a k).toArray := rfl
theorem tchA_size (A : Array Value) (c : Int) : (tchA A c).size = A.size := by simp [tchA]

set_option maxHeartbeats 2000000 in
theorem tick_any {w : World} {f : Nat} {fc : Array Value} {c : Int} (bs : List Nat) (A : Nat → Array Value) (ao : Option Addr) (cap : Nat)
    (hf : w.heap[f]? = some (.cells fc 66 (0, 0))) (hc : fc[4]? = some (.int .i64 c)) (hcb : 0 ≤ c ∧ c + 1 ≤ 9223372036854775807)
    (hrow : ∀ i (hi : i < bs.length), ∃ rb off, ao = some ⟨rb, off, none⟩ ∧ rb ≠ f ∧ (∀ b ∈ bs, rb ≠ b) ∧ w.cell? ⟨rb, off + i, none⟩ = some (.pointer (some ⟨bs[i], 0, none⟩)))
    (hn : ∀ b ∈ bs, w.heap[b]? = some (.cells (A b) 63 (0, 0)) ∧ 11 ≤ (A b).size) (hl : bs.length ≤ 100) :
    Calls Tryz.prog 27 #[.pointer (some ⟨f, 0, none⟩), .slice ao bs.length cap] w fun e w' =>
      e = .returned (.tuple #[]) ∧ w'.heap[f]? = some (.cells (fc.setIfInBounds 4 (.int .i64 (c + 1))) 66 (0, 0)) ∧ (∀ b ∈ bs, w'.heap[b]? = some (.cells (tchA (A b) (c + 1)) 63 (0, 0))) ∧ Kept (fun k => k = f ∨ k ∈ bs) w w' ∧ w'.heap.size = w.heap.size := by
  have c4 : w.cell? ⟨f, 4, none⟩ = some (.int .i64 c) := by rw [obj_cell hf]; exact hc
  have f4 := obj_free hf 4
  have hfc : 4 < fc.size := (Array.getElem?_eq_some_iff.1 hc).1
  have hfn : ∀ b ∈ bs, b ≠ f := fun b hb e => by
    have := (hn b hb).1
    rw [e, hf] at this
    have h2 := Option.some.inj this
    injection h2 with _ h3
    exact absurd h3 (by decide)
  have HRow := Lib.hid hrow; have HN := Lib.hid hn; have HF := Lib.hid hf; have HFn := Lib.hid hfn
  obtain ⟨N, hN⟩ : ∃ N, N = bs.length := ⟨_, rfl⟩
  have HNl := Lib.hid hN
  rw [← hN] at hl ⊢
  clear hrow hn hf hfn hN
  obtain ⟨w1, hw1⟩ : ∃ w1, w1 = w.setCell ⟨f, 4, none⟩ (.int .i64 (c + 1)) := ⟨_, rfl⟩
  have hk1 : Kept (fun k => k = f ∨ k ∈ bs) w w1 := by rw [hw1]; exact (Kept.refl _ w).setCell (.inl (.inl rfl)) _
  have hof : w1.heap[f]? = some (.cells (fc.setIfInBounds 4 (.int .i64 (c + 1))) 66 (0, 0)) := by rw [hw1]; exact obj_set HF.out 4 _
  have hs1 : w1.heap.size = w.heap.size := by rw [hw1]; simp
  have HK1 := Lib.hid hk1; have HOf := Lib.hid hof; have HS1 := Lib.hid hs1; have HW1 := Lib.hid hw1
  clear hk1 hof hs1 hw1
  go_enter Tryz.func27, Tryz.ntmps27
  go_wp2
  rw [← HW1.out]
  go_loopw [5, 15, 16] (fun _v5 v15 _v16 wr => ∃ k : Nat, v15 = .int .i64 (k : Int) ∧ k ≤ N ∧ Hid (wr.heap[f]? = some (.cells (fc.setIfInBounds 4 (.int .i64 (c + 1))) 66 (0, 0)) ∧ (∀ b ∈ bs, wr.heap[b]? = some (.cells (if b ∈ bs.take k then tchA (A b) (c + 1) else A b) 63 (0, 0))) ∧ Kept (fun k => k = f ∨ k ∈ bs) w wr ∧ wr.heap.size = w.heap.size)) (fun _ v15 _ _ => N - (intOf v15).toNat)
  case atStart =>
    exact ⟨0, rfl, by omega, Lib.hid ⟨HOf.out, fun b hb => by rw [List.take_zero, if_neg (by simp)]; rw [HW1.out]; exact (Below.heap_setCell _ _ _ _ (fun e => HFn.out b hb e)).trans (HN.out b hb).1, HK1.out, HS1.out⟩⟩
  case round =>
    obtain ⟨k, rfl, hk, HS⟩ := hrel
    by_cases hlt : (k : Int) < (N : Int)
    · have hkN : k < N := by omega
      have hkb : k < bs.length := by have := HNl.out; omega
      obtain ⟨rb, off, rfl, hrf, hrb, r0⟩ := HRow.out k hkb
      obtain ⟨b, hb⟩ : ∃ b, b = bs[k] := ⟨_, rfl⟩
      have hbm : b ∈ bs := by rw [hb]; exact List.getElem_mem hkb
      rw [← hb] at r0
      have hfb : b ≠ f := HFn.out b hbm
      obtain ⟨s1, s2, s3, s4⟩ := HS.out
      have d0 : wr.cell? ⟨rb, off + k, none⟩ = some (.pointer (some ⟨b, 0, none⟩)) := by
        rw [cell_same (s3.block rb (World.block_lt_of_cell? w _ r0) (by rintro (e | e); exact hrf e; exact hrb rb e rfl))]; exact r0
      obtain ⟨X, hX⟩ : ∃ X, X = (if b ∈ bs.take k then tchA (A b) (c + 1) else A b) := ⟨_, rfl⟩
      have ob := s2 b hbm
      rw [← hX] at ob
      have hXs : 11 ≤ X.size := by rw [hX]; have := (HN.out b hbm).2; split; rw [tchA_size]; exact this; exact this
      have x4 : wr.cell? ⟨b, 4, none⟩ = some (X.getD 4 undef) := by rw [obj_cell ob]; simp [Array.getD, show 4 < X.size by omega]
      have y4 := obj_free ob 4
      have e4 : wr.cell? ⟨f, 4, none⟩ = some (.int .i64 (c + 1)) := by rw [obj_cell s1]; simp [hfc]
      obtain ⟨wp, hwp⟩ : ∃ wp, wp = wr.setCell ⟨b, 4, none⟩ (.int .i64 (c + 1)) := ⟨_, rfl⟩
      have op := obj_set ob 4 (.int .i64 (c + 1))
      rw [← hwp] at op
      have of2 : wp.heap[f]? = some (.cells (fc.setIfInBounds 4 (.int .i64 (c + 1))) 66 (0, 0)) := by
        rw [hwp]; exact (Below.heap_setCell _ _ _ _ (fun e => hfb e.symm)).trans s1
      have g4 : wp.cell? ⟨f, 4, none⟩ = some (.int .i64 (c + 1)) := by rw [obj_cell of2]; simp [hfc]
      have x10 : wp.cell? ⟨b, 10, none⟩ = some (X.getD 10 undef) := by rw [obj_cell op]; simp [Array.getD, show 10 < X.size by omega]
      have y10 := obj_free op 10
      have oq := obj_set op 10 (.int .i64 (c + 1))
      have HOq := Lib.hid oq; have HX := Lib.hid hX; have HB := Lib.hid hb; have HWp := Lib.hid hwp
      have HSt := Lib.hid (⟨s1, s2, s3, s4⟩ : _ ∧ _ ∧ _ ∧ _)
      rw [hwp] at g4 x10 y10
      clear s1 s2 s3 s4 ob op oq of2 hX hb hwp r0 HS
      go_wp2
      rw [← HWp.out]
      refine ⟨⟨k + 1, by go_num, by omega, Lib.hid ⟨?_, ?_, ?_, ?_⟩⟩, by simp [intOf]; omega⟩
      · rw [Below.heap_setCell _ _ _ _ (fun e => hfb e.symm), HWp.out, Below.heap_setCell _ _ _ _ (fun e => hfb e.symm)]
        exact HSt.out.1
      · intro b1 hb1
        have hmk : b1 ∈ bs.take (k + 1) ↔ b1 ∈ bs.take k ∨ b1 = b := by
          rw [HB.out, List.take_succ_eq_append_getElem hkb, List.mem_append, List.mem_singleton]
        by_cases e : b1 = b
        · subst e
          rw [HOq.out, if_pos (hmk.2 (.inr rfl))]
          have : tchA X (c + 1) = tchA (A b1) (c + 1) := by rw [HX.out]; split; rw [tchA_twice]; rfl
          rw [← this]; rfl
        · rw [Below.heap_setCell _ _ _ _ (fun e' => e e'), HWp.out, Below.heap_setCell _ _ _ _ (fun e' => e e'), HSt.out.2.1 b1 hb1]
          by_cases e2 : b1 ∈ bs.take k
          · rw [if_pos e2, if_pos (hmk.2 (.inl e2))]
          · rw [if_neg e2, if_neg (fun h => by rcases hmk.1 h with h | h; exact e2 h; exact e h)]
      · rw [HWp.out]; exact (HSt.out.2.2.1.setCell (.inl (.inr hbm)) _).setCell (.inl (.inr hbm)) _
      · rw [HWp.out]; simp; exact HSt.out.2.2.2
    · have hkN : k = N := by omega
      go_wp2
      refine bodyPost_end (results_none rfl _ _ _) rfl ?_
      obtain ⟨s1, s2, s3, s4⟩ := HS.out
      refine ⟨rfl, s1, fun b hb => ?_, s3, s4⟩
      have := s2 b hb
      rw [hkN, HNl.out, List.take_length, if_pos hb] at this
      exact this
end Go.Proofs.YtgbakogihkdddaaGreatDoor

namespace Go.Proofs.YtgbakogihkdddaaGreatDoor
open Go.RowKit
set_option linter.unusedVariables false
set_option linter.unusedSimpArgs false
set_option maxRecDepth 20000

theorem FsIn.mono {L : Nat → Lab} {B : Int → Option Nat} {mb : Nat} {S S' : Nat → Prop} {w : World} {f : Nat} {T : FsP} (h : FsIn L B mb S w f T) (hs : ∀ k, S k → S' k) : FsIn L B mb S' w f T :=
  ⟨h.ok, h.obj, h.labf, h.labm, h.tab, h.dom, h.node, fun k hk => ⟨hs k (h.own k hk).1, (h.own k hk).2⟩⟩
theorem FsSt.mono {S S' : Nat → Prop} {w : World} {f : Nat} {T : FsP} (h : FsSt S w f T) (hs : ∀ k, S k → S' k) : FsSt S' w f T := by
  obtain ⟨L, B, mb, h⟩ := h
  exact ⟨L, B, mb, h.mono hs⟩
theorem DatSt.relab {L L' : Nat → Lab} {i : Int} {w : World} {a : Option Addr} {l c : Nat} {qs : List FpQ} (h : DatSt L i w a l c qs) (hl : ∀ k x, L k = x → x ≠ .no → L' k = x) : DatSt L' i w a l c qs :=
  ⟨h.len, h.own, fun k e => hl k _ (h.lab k e) (by simp), h.each, fun q hq k e => hl k _ (h.labs q hq k e) (by simp), h.apart⟩
theorem NdSt.relab {L L' : Nat → Lab} {i : Int} {w : World} {b : Nat} {n : NdP} {m : Option Nat} {a : Option Addr} {c : Nat} {qs : List FpQ} (h : NdSt L i w b n m a c qs) (hl : ∀ k x, L k = x → x ≠ .no → L' k = x) : NdSt L' i w b n m a c qs where
  obj := h.obj
  lab := hl _ _ h.lab (by simp)
  dir := fun hd => by
    obtain ⟨mb, e1, e2, e3⟩ := h.dir hd
    exact ⟨mb, e1, hl _ _ e2 (by simp), e3⟩
  plain := h.plain
  dat := h.dat.relab hl
  data := h.data
/-- The tree behind a call: what did not turn is as it was. -/
theorem FsIn.rebuild {L L' : Nat → Lab} {B B' : Int → Option Nat} {mb : Nat} {S S' : Nat → Prop} {w w' : World} {f : Nat} {T T' : FsP} {K : Nat → Prop} (h : FsIn L B mb S w f T) (ok' : OkT T') (hk : Kept K w w')
    (obj' : w'.heap[f]? = some (.cells (fsC mb T').toArray 66 (0, 0))) (tab' : NodesAt w' mb B' T'.cnt) (dom' : ∀ i, (B' i).isSome = (T'.nd i).isSome)
    (lab : ∀ k x, L k = x → x ≠ .no → L' k = x)
    (node' : ∀ i n b, T'.nd i = some n → B' i = some b → (T.nd i = some n ∧ B i = some b ∧ (∀ k, K k → L k ≠ .nd i ∧ L k ≠ .nm i ∧ L k ≠ .row i ∧ L k ≠ .byt i)) ∨ ∃ m a c qs, NdSt L' i w' b n m a c qs)
    (own' : ∀ k, (∀ x, L' k = x → x ≠ .no) → S' k ∧ k < w'.heap.size) : FsIn L' B' mb S' w' f T' := by
  refine ⟨ok', obj', lab _ _ h.labf (by simp), lab _ _ h.labm (by simp), tab', dom', ?_, own'⟩
  intro i n b hn hb
  rcases node' i n b hn hb with ⟨h1, h2, h3⟩ | h4
  · obtain ⟨m, a, c, qs, hq⟩ := h.node i n b h1 h2
    exact ⟨m, a, c, qs, (hq.kept hk (fun k e hK => (h3 k hK).1 e) (fun k e hK => (h3 k hK).2.1 e) (fun k e hK => (h3 k hK).2.2.1 e) (fun k e hK => (h3 k hK).2.2.2 e)).relab lab⟩
  · exact h4
theorem FsIn.low {L : Nat → Lab} {B : Int → Option Nat} {mb : Nat} {S : Nat → Prop} {w : World} {f : Nat} {T : FsP} (h : FsIn L B mb S w f T) {k : Nat} {x : Lab} (hl : L k = x) (hx : x ≠ .no) : S k ∧ k < w.heap.size := h.own k (fun y ey => by rw [← ey, hl]; exact hx)
theorem placeE_dir {T : FsP} {dir : Int} {part : List UInt8} (h : placeE T dir part = 0) : ∃ d, T.nd dir = some d ∧ d.v.kind = 6 ∧ okN (strB part) = true := by
  unfold placeE at h
  cases hn : T.nd dir with
  | none => rw [hn] at h; simp at h
  | some d =>
    rw [hn] at h
    simp only at h
    by_cases h6 : d.v.kind = 6
    · rw [if_pos h6] at h
      by_cases ho : okN (strB part) = true
      · exact ⟨d, rfl, h6, ho⟩
      · rw [if_neg ho] at h; omega
    · rw [if_neg h6] at h; omega
theorem makeP_no {T : FsP} {dir : Int} {part : List UInt8} (v : NodeV) (h : placeE T dir part ≠ 0) : makeP T dir part v = (T, 0, placeE T dir part) := by
  unfold makeP placeE at *
  cases hn : T.nd dir with
  | none => rfl
  | some d =>
    rw [hn] at h
    simp only at h ⊢
    by_cases h6 : d.v.kind = 6
    · rw [if_pos h6] at h ⊢
      rw [if_pos h6]
      by_cases ho : okN (strB part) = true
      · rw [if_pos ho] at h; exact absurd rfl h
      · rw [if_neg ho, if_neg ho]
    · rw [if_neg h6, if_neg h6]
theorem makeP_yes {T : FsP} {dir : Int} {part : List UInt8} (v : NodeV) {d : NdP} (hd : T.nd dir = some d) (h6 : d.v.kind = 6) (ho : okN (strB part) = true) :
    makeP T dir part v = if mayB v = true then (if (getK d.names part).isSome then (T, 0, 11) else if 1000 ≤ T.cnt then (T, 0, 14) else (makeT T dir d part v, T.next + 1, 0)) else (T, 0, 1) := by
  unfold makeP; rw [hd]; simp only; rw [if_pos h6, if_pos ho]
theorem wpList_nodes_len {ops : Array Oper} {rest : List Oper} {o : Oper} {a : Act} {w : World} {Q : Exit → Act → World → Prop} (hg : o.guard = none) (m : Operand) (hop : o.op = Op.call { callee := Callee.builtin Builtin.len, args := #[m], argTypes := #[64] })
    {mb : Nat} {B : Int → Option Nat} {c : Nat} (hM : NodesAt w mb B c) (hm : a.eval m = .map (some mb)) (hK : wpList Tryz.prog ops Q rest (a.put o.dst (.int .i64 c)) w) : wpList Tryz.prog ops Q (o :: rest) a w := by
  refine wpList_plain hg fun K' hK' => ?_
  unfold Oper.wp
  simp [execOp, hop, resolve, invoke, builtin, hm, MapF.len hM Tryz.underlying64 o.type, Result.andThen]
  exact hK' _ _ hK
def nvA (v : NodeV) : Array Value := #[.int .i64 v.kind, .int .i64 v.mode, .int .i64 v.user, .int .i64 v.group, .int .i64 v.time, .string v.tgt, .int .i64 v.major, .int .i64 v.minor, .int .i64 v.size, .int .i64 v.links, .int .i64 v.change]
theorem nvA_eq (v : NodeV) : nvA v = (nvC v).toArray := rfl

theorem make_done {L : Nat → Lab} {B : Int → Option Nat} {mb : Nat} {S : Nat → Prop} {w : World} {f : Nat} {T : FsP} (h : FsIn L B mb S w f T) {dir : Int} {d : NdP} {part : List UInt8} {v : NodeV} (hd : T.nd dir = some d) (h6 : d.v.kind = 6) (ho : okN (strB part) = true) (hm : mayB v = true) (hgn : getK d.names part = none) (hc : ¬ 1000 ≤ T.cnt)
    (ht : -9223372036854775808 ≤ v.time ∧ v.time ≤ 9223372036854775807) (hclk : T.clock + 1 ≤ 4611686018427387904) {b mb2 : Nat} {a : Option Addr} {c : Nat} {qs : List FpQ} (hB : B dir = some b) (hl2 : L mb2 = .nm dir) (hN : NdSt L dir w b d (some mb2) a c qs)
    {wf : World} {F : Nat} {mF : Option Nat} (hk : Kept (fun k => k = f ∨ k = b ∨ k = mb ∨ k = mb2) w wf) (hF : w.heap.size ≤ F) (hFl : F < wf.heap.size)
    (of : wf.heap[f]? = some (.cells (fsC mb (makeT T dir d part v)).toArray 66 (0, 0))) (ob : wf.heap[b]? = some (.cells (ndC (touch (T.clock + 1) d) (some mb2) a c).toArray 63 (0, 0)))
    (on : NodesAt wf mb (updB B (T.next + 1) (some F)) (T.cnt + 1)) (om : NamesAt wf mb2 (putK d.names part (T.next + 1))) (oF : wf.heap[F]? = some (.cells (ndC (freshN v (T.clock + 1) dir) mF none 0).toArray 63 (0, 0)))
    (hmF : (v.kind = 6 → mF = some (F + 1) ∧ F + 1 < wf.heap.size ∧ NamesAt wf (F + 1) []) ∧ (v.kind ≠ 6 → mF = none)) :
    FsSt (Grow S w wf) wf f (makeT T dir d part v) ∧ Kept S w wf := by
  have hok := makeT_ok h.ok hd h6 ho hm hgn (by omega) ht (by omega)
  have hgone : T.nd (T.next + 1) = none := by
    cases e : T.nd (T.next + 1) with
    | none => rfl
    | some x => have := (h.ok.node _ x e).high; omega
  have hBg := h.gone hgone
  have hdi : dir ≠ T.next + 1 := by have := (h.ok.node _ d hd).high; omega
  have sf := h.low h.labf (by simp)
  have sm := h.low h.labm (by simp)
  have sb := h.low hN.lab (by simp)
  have s2 := h.low hl2 (by simp)
  have hno : ∀ k, w.heap.size ≤ k → ∀ x, L k = x → x = .no := by
    intro k hk x hx
    apply Classical.byContradiction
    intro hx2
    have := (h.low hx hx2).2
    omega
  refine ⟨⟨fun k => if k = F then .nd (T.next + 1) else if k = F + 1 ∧ v.kind = 6 then .nm (T.next + 1) else L k, updB B (T.next + 1) (some F), mb, ?_⟩, hk.mono (fun k hkl e => ?_)⟩
  · refine h.rebuild hok hk of on ?_ ?_ ?_ ?_
    · intro i
      show (updB B (T.next + 1) (some F) i).isSome = (updN (updN T.nd dir _) (T.next + 1) _ i).isSome
      by_cases e1 : i = T.next + 1
      · subst e1; rw [updB_same, updN_same]; rfl
      · rw [updB_other _ _ e1, updN_other _ _ e1]
        by_cases e2 : i = dir
        · subst e2; rw [updN_same, hB]; rfl
        · rw [updN_other _ _ e2]; exact h.dom i
    · intro k x hx hx2
      have hkl := (h.low hx hx2).2
      show (if k = F then _ else _) = x
      rw [if_neg (by omega), if_neg (by omega)]; exact hx
    · intro i n bb hn hb
      have hn' : updN (updN T.nd dir (some { touch (T.clock + 1) d with names := putK d.names part (T.next + 1) })) (T.next + 1) (some (freshN v (T.clock + 1) dir)) i = some n := hn
      by_cases e1 : i = T.next + 1
      · subst e1
        rw [updN_same] at hn'; cases hn'
        rw [updB_same] at hb; cases hb
        right
        refine ⟨mF, none, 0, [], oF, by simp, fun hk6 => ?_, fun hk6 => ?_, ⟨rfl, World.ownsRow_nil _ _ _ _, (fun k e => by simp [Value.ownBlock] at e), (fun q hq => by cases hq), (fun q hq => by cases hq), List.Pairwise.nil⟩, rfl⟩
        · have hv6 : v.kind = 6 := hk6
          obtain ⟨q1, q2, q3⟩ := hmF.1 hv6
          exact ⟨F + 1, q1, by simp [hv6], q3⟩
        · exact hmF.2 hk6
      · rw [updB_other _ _ e1] at hb
        rw [updN_other _ _ e1] at hn'
        by_cases e2 : i = dir
        · subst e2
          rw [updN_same] at hn'; cases hn'
          rw [hB] at hb; cases hb
          right
          refine ⟨some mb2, a, c, qs, ob, ?_, fun _ => ⟨mb2, rfl, ?_, om⟩, fun e => absurd h6 e, ?_, hN.data⟩
          · show (if b = F then _ else _) = _
            rw [if_neg (by omega), if_neg (by omega)]; exact hN.lab
          · show (if mb2 = F then _ else _) = _
            rw [if_neg (by omega), if_neg (by omega)]; exact hl2
          · have hd2 : DatSt L i wf a d.data.length c qs := hN.dat.kept hk
              (fun k e hK => by rcases hK with rfl | rfl | rfl | rfl; rw [h.labf] at e; cases e; rw [hN.lab] at e; cases e; rw [h.labm] at e; cases e; rw [hl2] at e; cases e)
              (fun k e hK => by rcases hK with rfl | rfl | rfl | rfl; rw [h.labf] at e; cases e; rw [hN.lab] at e; cases e; rw [h.labm] at e; cases e; rw [hl2] at e; cases e)
            refine hd2.relab (fun k x hx hx2 => ?_)
            have hkl := (h.low hx hx2).2
            show (if k = F then _ else _) = x
            rw [if_neg (by omega), if_neg (by omega)]; exact hx
        · rw [updN_other _ _ e2] at hn'
          left
          refine ⟨hn', hb, fun k hK => ?_⟩
          rcases hK with rfl | rfl | rfl | rfl
          · rw [h.labf]; simp
          · rw [hN.lab]; simp; exact fun e => e2 e.symm
          · rw [h.labm]; simp
          · rw [hl2]; simp; exact fun e => e2 e.symm
    · intro k hk'
      by_cases e1 : k = F
      · subst e1; exact ⟨.inr ⟨hF, hFl⟩, hFl⟩
      · by_cases e2 : k = F + 1 ∧ v.kind = 6
        · obtain ⟨rfl, hv6⟩ := e2
          have := (hmF.1 hv6).2.1
          exact ⟨.inr ⟨by omega, this⟩, this⟩
        · have := h.own k (fun x hx => hk' x (by show (if k = F then _ else _) = x; rw [if_neg e1, if_neg e2]; exact hx))
          exact ⟨.inl this.1, Nat.lt_of_lt_of_le this.2 hk.size⟩
  · rcases e with rfl | rfl | rfl | rfl
    · exact sf.1
    · exact sb.1
    · exact sm.1
    · exact s2.1
set_option maxHeartbeats 4000000 in
theorem make_any {S : Nat → Prop} {w : World} {f : Nat} {T : FsP} (h : FsSt S w f T) (dir : Int) (hdir : -9223372036854775808 ≤ dir ∧ dir ≤ 9223372036854775807) (part : List UInt8) (hs : part.length < 4294967281) (v : NodeV)
    (ht : -9223372036854775808 ≤ v.time ∧ v.time ≤ 9223372036854775807) (hclk : T.clock + 1 ≤ 4611686018427387904) :
    Calls Tryz.prog 10 #[.pointer (some ⟨f, 0, none⟩), .int .i64 dir, .string (strB part), .agg (nvC v).toArray] w fun e w' =>
      e = .returned (.tuple #[.int .i64 (makeP T dir part v).2.1, .int .i64 (makeP T dir part v).2.2]) ∧ FsSt (Grow S w w') w' f (makeP T dir part v).1 ∧ Kept S w w' := by
  obtain ⟨L, B, mb, h⟩ := h
  obtain ⟨w1, hw1⟩ : ∃ w1, w1 = w.alloc (.cells (nvC v).toArray 27) := ⟨_, rfl⟩
  have hk1 : Kept NoB w w1 := by rw [hw1]; exact (Kept.refl NoB w).alloc _
  have hob1 : w1.heap[w.heap.size]? = some (.cells (nvA v) 27 (0, 0)) := by rw [hw1]; exact heap_alloc_new _ _
  have h1 := h.keptNo hk1
  have HP := Lib.hid (place_in h1 dir hdir part hs)
  have HW1 := Lib.hid hw1
  clear hw1
  have same : ∀ w', Kept NoB w w' → FsSt (Grow S w w') w' f T ∧ Kept S w w' := fun w' hk => ⟨⟨L, B, mb, (h.keptNo hk).mono (fun k e => .inl e)⟩, hk.mono (fun k _ e => e.elim)⟩
  by_cases hp : placeE T dir part = 0
  rotate_left
  · rw [if_neg hp, ptrV_none] at HP
    rw [makeP_no v hp]
    obtain ⟨z, hz⟩ : ∃ z, z = placeE T dir part := ⟨_, rfl⟩
    rw [← hz] at hp HP ⊢
    have hz2 : (z == 0) = false := by simpa using hp
    have HSm := Lib.hid same; have HK1 := Lib.hid hk1
    clear hz h hp h1 same hob1 hk1
    go_enter Tryz.func10, Tryz.ntmps10
    go_upto_region 1 with fail
    rw [← HW1.out]
    go_wp2_with fail
    refine HP.out.mono ?_
    rintro e w2 ⟨rfl, hk2⟩
    go_wp2
    go_ret2
    exact ⟨rfl, HSm.out _ (HK1.out.trans hk2)⟩
  obtain ⟨d, hd, h6, ho⟩ := placeE_dir hp
  rw [makeP_yes v hd h6 ho]
  rw [if_pos hp, hp] at HP
  obtain ⟨b, m, a, c, qs, hB, hN⟩ := h.at hd
  obtain ⟨mb2, rfl, hl2, hM⟩ := hN.dir h6
  rw [hB, ptrV_some] at HP
  have hs2 : part.length ≤ maxLen := by unfold maxLen; omega
  have HMay := Lib.hid (mayBe_any v)
  by_cases hm : mayB v = true
  rotate_left
  · rw [if_neg hm]
    have hm' : mayB v = false := by simpa using hm
    rw [hm'] at HMay
    have HSm := Lib.hid same; have HK1 := Lib.hid hk1; have HO1 := Lib.hid hob1
    clear h hp h1 same hob1 hk1 hm hm' hN hM hl2
    go_enter Tryz.func10, Tryz.ntmps10
    go_upto_region 1 with fail
    rw [← HW1.out]
    go_wp2_with fail
    refine HP.out.mono ?_
    rintro e w2 ⟨rfl, hk2⟩
    have HO2 := Lib.hid (hk2.obj HO1.out id)
    have HK2 := Lib.hid (HK1.out.trans hk2)
    clear hk2
    go_wp2_with (first | (refine wpList_load_row rfl 27 (.tmp 7) rfl w.heap.size rfl 27 (nvA v) (0, 0) _ HO2.out Tryz.underlying27 rfl infoNd ?_) | fail)
    refine (HMay.out _).mono ?_
    rintro e w3 ⟨rfl, hk3⟩
    go_wp2
    go_ret2
    exact ⟨rfl, HSm.out _ (HK2.out.trans hk3)⟩
  rw [if_pos hm]
  rw [hm] at HMay
  have k11 : w1.cell? ⟨b, 11, none⟩ = some (.map (some mb2)) := by
    refine hk1.cell ?_
    rw [hN.cell 11]; rfl
  have c0 : w1.cell? ⟨f, 0, none⟩ = some (.map (some mb)) := hk1.cell h.cells.1
  have HM := Lib.hid (MapF.kept hM hk1 id : NamesAt w1 mb2 d.names)
  have HT := Lib.hid (MapF.kept h.tab hk1 id : NodesAt w1 mb B T.cnt)
  by_cases hg : (getK d.names part).isSome = true
  · rw [if_pos hg]
    obtain ⟨j, hj⟩ := Option.isSome_iff_exists.1 hg
    have HG := Lib.hid hj
    have HSm := Lib.hid same; have HK1 := Lib.hid hk1; have HO1 := Lib.hid hob1
    clear h hp h1 same hob1 hk1 hm hN hM hl2 hg hj
    go_enter Tryz.func10, Tryz.ntmps10
    go_upto_region 1 with fail
    rw [← HW1.out]
    go_wp2_with fail
    refine HP.out.mono ?_
    rintro e w2 ⟨rfl, hk2⟩
    have HO2 := Lib.hid (hk2.obj HO1.out id)
    have HK2 := Lib.hid hk2
    clear hk2
    go_wp2_with (first | (refine wpList_load_row rfl 27 (.tmp 7) rfl w.heap.size rfl 27 (nvA v) (0, 0) _ HO2.out Tryz.underlying27 rfl infoNd ?_) | fail)
    refine (HMay.out _).mono ?_
    rintro e w3 ⟨rfl, hk3⟩
    have HK3 := Lib.hid (HK2.out.trans hk3)
    have l11 := HK3.out.cell k11
    clear hk3 HK2 k11
    go_wp2_with (first | (at_lookup; refine wpList_names_ok rfl _ _ rfl (MapF.kept HM.out HK3.out id) rfl rfl hs2 ?_; rw [HG.out]) | fail)
    go_ret2
    exact ⟨rfl, HSm.out _ (HK1.out.trans HK3.out)⟩
  rw [if_neg hg]
  have hgn : getK d.names part = none := by simpa using hg
  by_cases hc : 1000 ≤ T.cnt
  · rw [if_pos hc]
    have HG := Lib.hid hgn
    have hc2 : (1000 : Int) ≤ (T.cnt : Int) := by omega
    obtain ⟨ct, hct⟩ : ∃ ct, ct = T.cnt := ⟨_, rfl⟩
    rw [← hct] at HT hc2
    have HSm := Lib.hid same; have HK1 := Lib.hid hk1; have HO1 := Lib.hid hob1
    clear h hp h1 same hob1 hk1 hm hN hM hl2 hg hgn hc hct
    go_enter Tryz.func10, Tryz.ntmps10
    go_upto_region 1 with fail
    rw [← HW1.out]
    go_wp2_with fail
    refine HP.out.mono ?_
    rintro e w2 ⟨rfl, hk2⟩
    have HO2 := Lib.hid (hk2.obj HO1.out id)
    have HK2 := Lib.hid hk2
    clear hk2
    go_wp2_with (first | (refine wpList_load_row rfl 27 (.tmp 7) rfl w.heap.size rfl 27 (nvA v) (0, 0) _ HO2.out Tryz.underlying27 rfl infoNd ?_) | fail)
    refine (HMay.out _).mono ?_
    rintro e w3 ⟨rfl, hk3⟩
    have HK3 := Lib.hid (HK2.out.trans hk3)
    have l11 := HK3.out.cell k11
    have l0 := HK3.out.cell c0
    clear hk3 HK2 k11 c0
    go_wp2_with (first | (at_lookup; refine wpList_names_ok rfl _ _ rfl (MapF.kept HM.out HK3.out id) rfl rfl hs2 ?_; rw [HG.out]) | (at_len; refine wpList_nodes_len rfl (.tmp 41) rfl (MapF.kept HT.out HK3.out id) rfl ?_) | fail)
    go_ret2
    exact ⟨rfl, HSm.out _ (HK1.out.trans HK3.out)⟩
  rw [if_neg hc]
  have HG := Lib.hid hgn
  have hc2 : ¬ (1000 : Int) ≤ (T.cnt : Int) := by omega
  obtain ⟨ct, hct⟩ : ∃ ct, ct = T.cnt := ⟨_, rfl⟩
  rw [← hct] at HT hc2
  have HK1 := Lib.hid hk1; have HO1 := Lib.hid hob1; have H := Lib.hid h; have HN := Lib.hid hN; have HD := Lib.hid (⟨hd, h6, ho, hm, hgn, hc, hB, hl2⟩ : _ ∧ _ ∧ _ ∧ _ ∧ _ ∧ _ ∧ _ ∧ _)
  have HCt := Lib.hid hct
  clear h hp h1 same hob1 hk1 hm hN hM hl2 hg hgn hc hct hd h6 ho hB
  go_enter Tryz.func10, Tryz.ntmps10
  go_upto_region 1 with fail
  rw [← HW1.out]
  go_wp2_with fail
  refine HP.out.mono ?_
  rintro e w2 ⟨rfl, hk2⟩
  have HO2 := Lib.hid (hk2.obj HO1.out id)
  have HK2 := Lib.hid hk2
  clear hk2
  go_wp2_with (first | (refine wpList_load_row rfl 27 (.tmp 7) rfl w.heap.size rfl 27 (nvA v) (0, 0) _ HO2.out Tryz.underlying27 rfl infoNd ?_) | fail)
  refine (HMay.out _).mono ?_
  rintro e w3 ⟨rfl, hk3⟩
  have HK3 := Lib.hid (HK2.out.trans hk3)
  have l11 := HK3.out.cell k11
  have l0 := HK3.out.cell c0
  have HO3 := Lib.hid (hk3.obj HO2.out id)
  clear hk3 HK2 HO2 k11 c0
  go_upto_region 11 with (first | (at_lookup; refine wpList_names_ok rfl _ _ rfl (MapF.kept HM.out HK3.out id) rfl rfl hs2 ?_; rw [HG.out]) | (at_len; refine wpList_nodes_len rfl (.tmp 41) rfl (MapF.kept HT.out HK3.out id) rfl ?_) | fail)
  -- the tree at w3
  have hw3 : Kept NoB w w3 := HK1.out.trans HK3.out
  have h3 : FsIn L B mb S w3 f T := H.out.keptNo hw3
  obtain ⟨w4, hw4⟩ : ∃ w4, w4 = w3.alloc (.cells #[.pointer (some ⟨b, 0, none⟩)] 59) := ⟨_, rfl⟩
  have hk4 : Kept NoB w3 w4 := by rw [hw4]; exact (Kept.refl NoB w3).alloc _
  have h4 := h3.keptNo hk4
  have n4 : NdSt L dir w4 b d (some mb2) a c qs := (HN.out.kept hw3 (fun _ _ e => e) (fun _ _ e => e) (fun _ _ e => e) (fun _ _ e => e)).kept hk4 (fun _ _ e => e) (fun _ _ e => e) (fun _ _ e => e) (fun _ _ e => e)
  have r4 : w4.cell? ⟨w3.heap.size, 0, none⟩ = some (.pointer (some ⟨b, 0, none⟩)) := by rw [hw4]; exact cell_new 0 rfl
  have hb3 : b < w3.heap.size := Nat.lt_of_lt_of_le HN.out.lt hw3.size
  have hf3 : f < w3.heap.size := obj_lt h3.obj
  have hok := h3.ok
  have hTk := tick_any (w := w4) (f := f) (fc := (fsC mb T).toArray) (c := T.clock) [b] (fun _ => (ndC d (some mb2) a c).toArray) (some ⟨w3.heap.size, 0, none⟩) 1 h4.obj rfl ⟨hok.clock, by omega⟩
    (fun i hi => ⟨w3.heap.size, 0, rfl, by omega, fun x hx => by simp at hx; omega, by
      have : i = 0 := by simpa using hi
      subst this; exact r4⟩)
    (fun x hx => by simp at hx; subst hx; exact ⟨n4.obj, by simp [ndC, nvC]⟩) (by simp)
  have HTk := Lib.hid hTk; have HW4 := Lib.hid hw4; have HK4 := Lib.hid hk4; have H3 := Lib.hid h3; have HKw := Lib.hid hw3
  clear hTk hw4 hk4 h4 n4 r4 hok h3 hw3
  go_wp2_with fail
  rw [← HW4.out]
  refine HTk.out.mono ?_
  rintro e w5 ⟨rfl, o5, n5, k5, s5⟩
  have nb5 := n5 b (by simp)
  rw [tchA_nd] at nb5
  have o5' : w5.heap[f]? = some (.cells (fsC mb { T with clock := T.clock + 1 }).toArray 66 (0, 0)) := o5
  have f1 : w5.cell? ⟨f, 1, none⟩ = some (.int .i64 T.next) := by rw [obj_cell o5']; rfl
  have g1 := obj_free o5' 1
  obtain ⟨w6, hw6⟩ : ∃ w6, w6 = w5.setCell ⟨f, 1, none⟩ (.int .i64 (T.next + 1)) := ⟨_, rfl⟩
  have o6 : w6.heap[f]? = some (.cells (fsC mb { T with clock := T.clock + 1, next := T.next + 1 }).toArray 66 (0, 0)) := by rw [hw6]; exact obj_set o5' 1 _
  have hfb : b ≠ f := fun e => by
    have h1 := HN.out.obj; have h2 := H.out.obj
    rw [e, h2] at h1
    have h3 := Option.some.inj h1
    injection h3 with _ h4
    exact absurd h4 (by decide)
  have nb6 : w6.heap[b]? = some (.cells (ndC (touch (T.clock + 1) d) (some mb2) a c).toArray 63 (0, 0)) := by rw [hw6, Below.heap_setCell _ _ _ _ hfb]; exact nb5
  have hsz : w6.heap.size = w3.heap.size + 1 := by rw [hw6]; simp; rw [s5, HW4.out]; simp
  have k46 : Kept (fun k => k = f ∨ k = b) w3 w6 := by
    rw [hw6]
    refine Kept.setCell ((HK4.out.mono (fun k _ e => e.elim)).trans (k5.mono (fun k _ e => ?_))) (.inl (.inl rfl)) _
    rcases e with e | e
    · exact .inl e
    · exact .inr (by simpa using e)
  have hwf : f < w.heap.size := obj_lt H.out.obj
  have hwb : b < w.heap.size := HN.out.lt
  have v6 : w6.heap[w.heap.size]? = some (.cells (nvA v) 27 (0, 0)) := k46.obj HO3.out (by omega)
  have F4 : ∀ o, (w6.alloc o).cell? ⟨f, 4, none⟩ = some (.int .i64 (T.clock + 1)) := fun o => ((Kept.refl NoB w6).alloc o).cell (by rw [obj_cell o6]; rfl)
  have V0 : ∀ o, (w6.alloc o).cell? ⟨w.heap.size, 0, none⟩ = some (.int .i64 v.kind) := fun o => ((Kept.refl NoB w6).alloc o).cell (by rw [obj_cell v6]; rfl)
  have hnx := H.out.ok.next
  have HO6 := Lib.hid o6; have HNb6 := Lib.hid nb6; have HSz := Lib.hid hsz; have HK46 := Lib.hid k46; have HV6 := Lib.hid v6; have HW6 := Lib.hid hw6; have HFb := Lib.hid hfb
  obtain ⟨cl, hcl⟩ : ∃ cl, cl = T.clock + 1 := ⟨_, rfl⟩
  rw [← hcl] at F4
  obtain ⟨nx, hnxe⟩ : ∃ nx, nx = T.next := ⟨_, rfl⟩
  rw [← hnxe] at f1 hnx HW6
  have HCl := Lib.hid hcl; have HNx := Lib.hid hnxe
  have hnx2 : 1 ≤ nx ∧ nx ≤ 4611686018427387904 := by omega
  clear o5 n5 k5 s5 nb5 o5' o6 nb6 hsz k46 v6 hw6 hfb HTk hcl hnxe hnx
  go_upto_region 13 with fail
  rw [← HW6.out]
  go_upto_region 14 with (first | (refine wpList_load_row rfl 27 (.tmp 7) rfl w.heap.size rfl 27 #[.int .i64 v.kind, .int .i64 v.mode, .int .i64 v.user, .int .i64 v.group, .int .i64 v.time, .string v.tgt, .int .i64 v.major, .int .i64 v.minor, .int .i64 v.size, .int .i64 v.links, .int .i64 v.change] (0, 0) _ HV6.out Tryz.underlying27 rfl infoNd ?_) | fail)
  have hmm := @run_makeMap Tryz.prog
  have HB0 := Lib.hid H.out.tab
  by_cases hk6 : v.kind = 6
  · rw [hk6] at V0
    go_upto_region 19 with fail
    obtain ⟨wn, hwn⟩ : ∃ wn, wn = (w6.alloc (.cells (ndC (freshN v cl dir) (some (w6.heap.size + 1)) none 0).toArray 63)).alloc (Obj.map #[] 0) := ⟨_, rfl⟩
    have hwn' : wn = (w6.alloc (.cells #[.int .i64 6, .int .i64 v.mode, .int .i64 v.user, .int .i64 v.group, .int .i64 v.time, .string v.tgt, .int .i64 v.major, .int .i64 v.minor, .int .i64 v.size, .int .i64 1, .int .i64 cl, .map (some (w6.heap.size + 1)), .int .i64 dir, .slice none 0 0] 63)).alloc (Obj.map #[] 0) := by
      rw [hwn]; unfold freshN ndC nvC; rw [if_pos hk6, hk6]; rfl
    rw [← hwn']
    have kn : Kept NoB w6 wn := by rw [hwn]; exact ((Kept.refl NoB w6).alloc _).alloc _
    have nF : wn.heap[w6.heap.size]? = some (.cells (ndC (freshN v cl dir) (some (w6.heap.size + 1)) none 0).toArray 63 (0, 0)) := by
      rw [hwn]; exact ((Kept.refl NoB _).alloc _).obj (heap_alloc_new _ _) id
    have nM : NamesAt wn (w6.heap.size + 1) [] := by
      have h0 := MapF.made (w6.alloc (.cells (ndC (freshN v cl dir) (some (w6.heap.size + 1)) none 0).toArray 63)) Tryz.prog 9 (plainElem Tryz.prog 3)
      rw [← nmF_nil] at h0
      have e : (w6.alloc (.cells (ndC (freshN v cl dir) (some (w6.heap.size + 1)) none 0).toArray 63)).heap.size = w6.heap.size + 1 := by simp
      rw [e] at h0
      rw [hwn]; exact h0
    have sn : wn.heap.size = w6.heap.size + 2 := by rw [hwn]; simp
    have hmF : (v.kind = 6 → some (w6.heap.size + 1) = some (w6.heap.size + 1) ∧ w6.heap.size + 1 < wn.heap.size ∧ NamesAt wn (w6.heap.size + 1) []) ∧ (v.kind ≠ 6 → some (w6.heap.size + 1) = none) := ⟨fun _ => ⟨rfl, by omega, nM⟩, fun e => absurd hk6 e⟩
    have sF : w6.heap.size < wn.heap.size := by omega
    clear hwn hwn' nM sn
    obtain ⟨F, hFe⟩ : ∃ F, F = w6.heap.size := ⟨_, rfl⟩
    rw [← hFe] at nF hmF sF ⊢
    have HFe := Lib.hid hFe
    have tn : NodesAt wn mb B T.cnt := MapF.kept (MapF.kept (MapF.kept HB0.out HKw.out id) HK46.out (by have h1 := HN.out.obj; have h2 := H.out.obj; rintro (e | e); exact MapF.ne_cells HB0.out h2 e; exact MapF.ne_cells HB0.out h1 e)) kn id
    have hcm : T.cnt < maxLen := by have := HD.out.2.2.2.2.2.1; unfold maxLen; omega
    obtain ⟨w8, hr8, t8, k8d, s8⟩ := nodes_put (w := wn.drew) (MapF.heap tn rfl : NodesAt wn.drew mb B T.cnt) (nx + 1) (by omega) F hcm
    have k8 : Kept (OneB mb) wn w8 := ((Kept.refl (OneB mb) wn).drew).trans k8d
    have on := kn.obj HO6.out id
    have f0 : wn.cell? ⟨f, 0, none⟩ = some (.map (some mb)) := by rw [obj_cell on]; rfl
    have f1n : wn.cell? ⟨f, 1, none⟩ = some (.int .i64 (nx + 1)) := by rw [obj_cell on, HNx.out]; rfl
    have t8m : NamesAt w8 mb2 d.names := by
      have q1 : NamesAt w3 mb2 d.names := MapF.kept HM.out HK3.out id
      have q2 : NamesAt w6 mb2 d.names := MapF.kept q1 HK46.out (by have h1 := HN.out.obj; have h2 := H.out.obj; obtain ⟨z, z1, _, z2⟩ := HN.out.dir HD.out.2.1; cases z1; rintro (e | e); exact MapF.ne_cells z2 h2 e; exact MapF.ne_cells z2 h1 e)
      have q3 : NamesAt wn mb2 d.names := MapF.kept q2 kn id
      refine MapF.kept q3 k8 (fun e => ?_)
      have l1 := HD.out.2.2.2.2.2.2.2
      have l2 := H.out.labm
      rw [e, l2] at l1; cases l1
    have odd := H.out.ok.node dir d HD.out.1
    have hfew := odd.few
    obtain ⟨w9, hr9, t9, k9d, s9⟩ := names_put (w := w8.drew) (MapF.heap t8m rfl : NamesAt w8.drew mb2 d.names) odd.sorted part hs2 (nx + 1) (by omega) HG.out (by unfold maxLen; omega)
    have k9 : Kept (OneB mb2) w8 w9 := ((Kept.refl (OneB mb2) w8).drew).trans k9d
    have hfmb : f ≠ mb := fun e => MapF.ne_cells tn on e.symm
    have ob := kn.obj HNb6.out id
    have hbmb : b ≠ mb := fun e => MapF.ne_cells tn ob e.symm
    have o8 := k8.obj (R := f) on (fun e => hfmb e)
    have ob8 := k8.obj (R := b) ob (fun e => hbmb e)
    have m0 : w8.cell? ⟨b, 11, none⟩ = some (.map (some mb2)) := by rw [obj_cell ob8]; rfl
    have m1 : w8.cell? ⟨f, 1, none⟩ = some (.int .i64 (nx + 1)) := by rw [obj_cell o8, HNx.out]; rfl
    have hfm2 : f ≠ mb2 := fun e => MapF.ne_cells t8m o8 e.symm
    have hbm2 : b ≠ mb2 := fun e => MapF.ne_cells t8m ob8 e.symm
    have o9 := k9.obj (R := f) o8 (fun e => hfm2 e)
    have ob9 := k9.obj (R := b) ob8 (fun e => hbm2 e)
    have m9 : w9.cell? ⟨f, 1, none⟩ = some (.int .i64 (nx + 1)) := by rw [obj_cell o9, HNx.out]; rfl
    have HAll : Hid (FsSt (Grow S w w9) w9 f (makeT T dir d part v) ∧ Kept S w w9) := Lib.hid (by
      obtain ⟨q1, q2, q3, q4, q5, q6, q7, q8⟩ := HD.out
      have hwn : Kept (fun k => k = f ∨ k = b) w wn := ((HKw.out.mono (fun k _ e => e.elim)).trans HK46.out).trans (kn.mono (fun k _ e => e.elim))
      have hFw : w.heap.size ≤ F := by rw [HFe.out, HSz.out]; have := HKw.out.size; omega
      have hnF : F ≠ mb := by have := (H.out.low H.out.labm (by simp)).2; omega
      have hnF2 : F ≠ mb2 := by have := (H.out.low q8 (by simp)).2; omega
      have hnG : F + 1 ≠ mb := by have := (H.out.low H.out.labm (by simp)).2; omega
      have hnG2 : F + 1 ≠ mb2 := by have := (H.out.low q8 (by simp)).2; omega
      have nF9 := k9.obj (R := F) (k8.obj (R := F) nF (fun e => hnF e)) (fun e => hnF2 e)
      refine make_done H.out q1 q2 q3 q4 q5 q6 ht hclk q7 q8 HN.out (F := F) (mF := some (F + 1)) ((hwn.mono (fun k _ e => ?_)).trans ((k8.mono (fun k _ e => ?_)).trans (k9.mono (fun k _ e => ?_)))) hFw ?_ ?_ ?_ ?_ ?_ ?_ ?_
      · rcases e with e | e
        · exact .inl e
        · exact .inr (.inl e)
      · exact .inr (.inr (.inl e))
      · exact .inr (.inr (.inr e))
      · rw [s9]; show F < w8.heap.size; rw [s8]; exact sF
      · exact o9
      · exact ob9
      · have e0 : (B (T.next + 1)).isSome = false := by
          rw [H.out.dom]
          cases e : T.nd (T.next + 1) with
          | none => rfl
          | some x => have := (H.out.ok.node _ x e).high; omega
        have := t8
        rw [HNx.out, e0] at this
        exact MapF.kept this k9 (fun e => by have l1 := q8; have l2 := H.out.labm; rw [← e, l2] at l1; cases l1)
      · rw [HNx.out] at t9; exact t9
      · rw [HCl.out] at nF9; exact nF9
      · refine ⟨fun e => ?_, hmF.2⟩
        obtain ⟨z1, z2, z3⟩ := hmF.1 e
        exact ⟨z1, by rw [s9]; show F + 1 < w8.heap.size; rw [s8]; exact z2, MapF.kept (MapF.kept z3 k8 (fun e => hnG e)) k9 (fun e => hnG2 e)⟩)
    have HR8 := hr8; have HR9 := hr9
    clear k8d k9d hFe t8m odd hfew t9 k9 s9 hfmb ob hbmb o8 ob8 hfm2 hbm2 o9 ob9 t8 k8 s8 tn kn nF hmF sF on
    go_region
    go_upto_region 20 with fail
    go_region
    go_wp2
    go_ret2
    exact ⟨by rw [HNx.out]; rfl, HAll.out⟩
  · have hk6' : (v.kind == 6) = false := by simpa using hk6
    go_upto_region 19 with fail
    obtain ⟨wn, hwn⟩ : ∃ wn, wn = w6.alloc (.cells (ndC (freshN v cl dir) none none 0).toArray 63) := ⟨_, rfl⟩
    have hwn' : wn = w6.alloc (.cells #[.int .i64 v.kind, .int .i64 v.mode, .int .i64 v.user, .int .i64 v.group, .int .i64 v.time, .string v.tgt, .int .i64 v.major, .int .i64 v.minor, .int .i64 v.size, .int .i64 1, .int .i64 cl, .map none, .int .i64 0, .slice none 0 0] 63) := by
      rw [hwn]; unfold freshN ndC nvC; rw [if_neg hk6]; rfl
    rw [← hwn']
    have kn : Kept NoB w6 wn := by rw [hwn]; exact (Kept.refl NoB w6).alloc _
    have nF : wn.heap[w6.heap.size]? = some (.cells (ndC (freshN v cl dir) none none 0).toArray 63 (0, 0)) := by
      rw [hwn]; exact heap_alloc_new _ _
    have hmF : (v.kind = 6 → (none : Option Nat) = some (w6.heap.size + 1) ∧ w6.heap.size + 1 < wn.heap.size ∧ NamesAt wn (w6.heap.size + 1) []) ∧ (v.kind ≠ 6 → (none : Option Nat) = none) := ⟨fun e => absurd e hk6, fun _ => rfl⟩
    have sF : w6.heap.size < wn.heap.size := by rw [hwn]; simp
    clear hwn hwn'
    obtain ⟨F, hFe⟩ : ∃ F, F = w6.heap.size := ⟨_, rfl⟩
    rw [← hFe] at nF hmF sF ⊢
    have HFe := Lib.hid hFe
    have tn : NodesAt wn mb B T.cnt := MapF.kept (MapF.kept (MapF.kept HB0.out HKw.out id) HK46.out (by have h1 := HN.out.obj; have h2 := H.out.obj; rintro (e | e); exact MapF.ne_cells HB0.out h2 e; exact MapF.ne_cells HB0.out h1 e)) kn id
    have hcm : T.cnt < maxLen := by have := HD.out.2.2.2.2.2.1; unfold maxLen; omega
    obtain ⟨w8, hr8, t8, k8d, s8⟩ := nodes_put (w := wn.drew) (MapF.heap tn rfl : NodesAt wn.drew mb B T.cnt) (nx + 1) (by omega) F hcm
    have k8 : Kept (OneB mb) wn w8 := ((Kept.refl (OneB mb) wn).drew).trans k8d
    have on := kn.obj HO6.out id
    have f0 : wn.cell? ⟨f, 0, none⟩ = some (.map (some mb)) := by rw [obj_cell on]; rfl
    have f1n : wn.cell? ⟨f, 1, none⟩ = some (.int .i64 (nx + 1)) := by rw [obj_cell on, HNx.out]; rfl
    have t8m : NamesAt w8 mb2 d.names := by
      have q1 : NamesAt w3 mb2 d.names := MapF.kept HM.out HK3.out id
      have q2 : NamesAt w6 mb2 d.names := MapF.kept q1 HK46.out (by have h1 := HN.out.obj; have h2 := H.out.obj; obtain ⟨z, z1, _, z2⟩ := HN.out.dir HD.out.2.1; cases z1; rintro (e | e); exact MapF.ne_cells z2 h2 e; exact MapF.ne_cells z2 h1 e)
      have q3 : NamesAt wn mb2 d.names := MapF.kept q2 kn id
      refine MapF.kept q3 k8 (fun e => ?_)
      have l1 := HD.out.2.2.2.2.2.2.2
      have l2 := H.out.labm
      rw [e, l2] at l1; cases l1
    have odd := H.out.ok.node dir d HD.out.1
    have hfew := odd.few
    obtain ⟨w9, hr9, t9, k9d, s9⟩ := names_put (w := w8.drew) (MapF.heap t8m rfl : NamesAt w8.drew mb2 d.names) odd.sorted part hs2 (nx + 1) (by omega) HG.out (by unfold maxLen; omega)
    have k9 : Kept (OneB mb2) w8 w9 := ((Kept.refl (OneB mb2) w8).drew).trans k9d
    have hfmb : f ≠ mb := fun e => MapF.ne_cells tn on e.symm
    have ob := kn.obj HNb6.out id
    have hbmb : b ≠ mb := fun e => MapF.ne_cells tn ob e.symm
    have o8 := k8.obj (R := f) on (fun e => hfmb e)
    have ob8 := k8.obj (R := b) ob (fun e => hbmb e)
    have m0 : w8.cell? ⟨b, 11, none⟩ = some (.map (some mb2)) := by rw [obj_cell ob8]; rfl
    have m1 : w8.cell? ⟨f, 1, none⟩ = some (.int .i64 (nx + 1)) := by rw [obj_cell o8, HNx.out]; rfl
    have hfm2 : f ≠ mb2 := fun e => MapF.ne_cells t8m o8 e.symm
    have hbm2 : b ≠ mb2 := fun e => MapF.ne_cells t8m ob8 e.symm
    have o9 := k9.obj (R := f) o8 (fun e => hfm2 e)
    have ob9 := k9.obj (R := b) ob8 (fun e => hbm2 e)
    have m9 : w9.cell? ⟨f, 1, none⟩ = some (.int .i64 (nx + 1)) := by rw [obj_cell o9, HNx.out]; rfl
    have HAll : Hid (FsSt (Grow S w w9) w9 f (makeT T dir d part v) ∧ Kept S w w9) := Lib.hid (by
      obtain ⟨q1, q2, q3, q4, q5, q6, q7, q8⟩ := HD.out
      have hwn : Kept (fun k => k = f ∨ k = b) w wn := ((HKw.out.mono (fun k _ e => e.elim)).trans HK46.out).trans (kn.mono (fun k _ e => e.elim))
      have hFw : w.heap.size ≤ F := by rw [HFe.out, HSz.out]; have := HKw.out.size; omega
      have hnF : F ≠ mb := by have := (H.out.low H.out.labm (by simp)).2; omega
      have hnF2 : F ≠ mb2 := by have := (H.out.low q8 (by simp)).2; omega
      have hnG : F + 1 ≠ mb := by have := (H.out.low H.out.labm (by simp)).2; omega
      have hnG2 : F + 1 ≠ mb2 := by have := (H.out.low q8 (by simp)).2; omega
      have nF9 := k9.obj (R := F) (k8.obj (R := F) nF (fun e => hnF e)) (fun e => hnF2 e)
      refine make_done H.out q1 q2 q3 q4 q5 q6 ht hclk q7 q8 HN.out (F := F) (mF := none) ((hwn.mono (fun k _ e => ?_)).trans ((k8.mono (fun k _ e => ?_)).trans (k9.mono (fun k _ e => ?_)))) hFw ?_ ?_ ?_ ?_ ?_ ?_ ?_
      · rcases e with e | e
        · exact .inl e
        · exact .inr (.inl e)
      · exact .inr (.inr (.inl e))
      · exact .inr (.inr (.inr e))
      · rw [s9]; show F < w8.heap.size; rw [s8]; exact sF
      · exact o9
      · exact ob9
      · have e0 : (B (T.next + 1)).isSome = false := by
          rw [H.out.dom]
          cases e : T.nd (T.next + 1) with
          | none => rfl
          | some x => have := (H.out.ok.node _ x e).high; omega
        have := t8
        rw [HNx.out, e0] at this
        exact MapF.kept this k9 (fun e => by have l1 := q8; have l2 := H.out.labm; rw [← e, l2] at l1; cases l1)
      · rw [HNx.out] at t9; exact t9
      · rw [HCl.out] at nF9; exact nF9
      · refine ⟨fun e => ?_, hmF.2⟩
        obtain ⟨z1, z2, z3⟩ := hmF.1 e
        exact ⟨z1, by rw [s9]; show F + 1 < w8.heap.size; rw [s8]; exact z2, MapF.kept (MapF.kept z3 k8 (fun e => hnG e)) k9 (fun e => hnG2 e)⟩)
    have HR8 := hr8; have HR9 := hr9
    clear k8d k9d hFe t8m odd hfew t9 k9 s9 hfmb ob hbmb o8 ob8 hfm2 hbm2 o9 ob9 t8 k8 s8 tn kn nF hmF sF on
    go_region
    go_upto_region 20 with fail
    go_region
    go_wp2
    go_ret2
    exact ⟨by rw [HNx.out]; rfl, HAll.out⟩
end Go.Proofs.YtgbakogihkdddaaGreatDoor
