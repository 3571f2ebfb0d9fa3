/-
  A tree of files in memory: a new one; stores into the map of nodes and into a map of names.
  A tree of files in memory: tick marks nodes.
-/
import Derived.Test.YtjjgadanobeamaaGreatDoorMt11
namespace Go.Proofs.YtjjgadanobeamaaGreatDoor
open Go.RowKit
open Go.Maps (Keyed)
set_option linter.unusedVariables false
set_option linter.unusedSimpArgs false
set_option maxRecDepth 20000

def updB (B : Int → Option Nat) (k : Int) (o : Option Nat) : Int → Option Nat := fun j => if j = k then o else B j
theorem updB_same (B : Int → Option Nat) (k : Int) (o : Option Nat) : updB B k o k = o := by simp [updB]
theorem updB_other (B : Int → Option Nat) {k j : Int} (o : Option Nat) (h : j ≠ k) : updB B k o j = B j := by simp [updB, h]
theorem nodes_put {w : World} {mb : Nat} {B : Int → Option Nat} {c : Nat} (h : NodesAt w mb B c) (k : Int) (hk : -9223372036854775808 ≤ k ∧ k ≤ 9223372036854775807) (b : Nat) (hc : c < maxLen) :
    ∃ w', (Instr.mapUpdate 49 (.map (some mb)) (.int .i64 k) (.pointer (some ⟨b, 0, none⟩))).run Tryz.prog w = .ok () w' ∧ NodesAt w' mb (updB B k (some b)) (if (B k).isSome then c else c + 1) ∧ Kept (OneB mb) w w' ∧ w'.heap.size = w.heap.size := by
  obtain ⟨w', hr, h1, h2⟩ := MapF.store h law_int Tryz.underlying49 hc (Maps.keyOf_int_mk Tryz.underlying3 (i64_wf hk)) (ptrR_mk b)
  refine ⟨w', hr, ?_, turned_kept h2, turned_size h2⟩
  rw [ndF_upd] at h1
  have e : (ndF B (.int .i64 k)).isSome = (B k).isSome := by cases hB : B k <;> simp [ndF, hB]
  rw [e] at h1
  exact h1
theorem names_put {w : World} {mb : Nat} {l : Nms} (h : NamesAt w mb l) (hl : OkK l) (s : List UInt8) (hs : s.length ≤ maxLen) (i : Int) (hi : -9223372036854775808 ≤ i ∧ i ≤ 9223372036854775807) (hn : getK l s = none) (hc : l.length < maxLen) :
    ∃ w', (Instr.mapUpdate 44 (.map (some mb)) (.string (strB s)) (.int .i64 i)).run Tryz.prog w = .ok () w' ∧ NamesAt w' mb (putK l s i) ∧ Kept (OneB mb) w w' ∧ w'.heap.size = w.heap.size := by
  have hkey := WideMaps.keyOf_string_mk (s := strB s) Tryz.underlying9 (by rw [strB_size]; exact hs)
  rw [strB_data] at hkey
  obtain ⟨w', hr, h1, h2⟩ := MapF.store h law_str Tryz.underlying44 hc hkey (plainElem_int Tryz.underlying3 (i64_wf hi))
  refine ⟨w', hr, ?_, turned_kept h2, turned_size h2⟩
  rw [nmF_put hl s i hn] at h1
  have e : (nmF l (.string s)).isSome = false := by simp [nmF, hn]
  rw [e] at h1
  unfold NamesAt
  rw [putK_len]
  exact h1
section
variable {ops : Array Oper} {rest : List Oper} {o : Oper} {a : Act} {w : World} {Q : Exit → Act → World → Prop}
theorem wpList_nodes_insert (hgd : o.guard = none) (m x v : Operand) (hop : o.op = Op.insert 49 m x v) {mb : Nat} {B : Int → Option Nat} {c : Nat} (hM : NodesAt w mb B c) (hm : a.eval m = .map (some mb)) {k : Int} (hx : a.eval x = .int .i64 k) (hk : -9223372036854775808 ≤ k ∧ k ≤ 9223372036854775807) {b : Nat} (hv : a.eval v = .pointer (some ⟨b, 0, none⟩)) (hc : c < maxLen)
    (h : ∀ w', NodesAt w' mb (updB B k (some b)) (if (B k).isSome then c else c + 1) → Kept (OneB mb) w w' → w'.heap.size = w.heap.size → wpList Tryz.prog ops Q rest (a.put o.dst undef) w') : wpList Tryz.prog ops Q (o :: rest) a w := by
  refine wpList_plain hgd fun K' hK' => ?_
  obtain ⟨w', hr, h1, h2, h3⟩ := nodes_put hM k hk b hc
  unfold Oper.wp
  simp [execOp, hop, hm, hx, hv, hr, Result.andThen]
  exact hK' _ _ (h w' h1 h2 h3)
end

def rootV : NodeV := { kind := 6, mode := 493, user := 0, group := 0, time := 0, tgt := ⟨#[]⟩, major := 0, minor := 0, size := 0, links := 1, change := 0 }
def rootN : NdP := { v := rootV, names := [], par := 1, data := [] }
def newT (q : Int) : FsP := { nd := fun i => if i = 1 then some rootN else none, cnt := 1, next := 1, quota := max q 0, used := 0, clock := 0 }
theorem newT_ok (q : Int) (hq : q ≤ 9223372036854775807) : OkT (newT q) := by
  have h1 : (newT q).nd 1 = some rootN := rfl
  have hother : ∀ i n, (newT q).nd i = some n → i = 1 ∧ n = rootN := by
    intro i n h
    unfold newT at h
    simp only at h
    split at h
    · rename_i hi; cases h; exact ⟨hi, rfl⟩
    · cases h
  refine ⟨⟨rootN, h1, rfl, rfl⟩, ?_, ?_, ?_, ?_, ?_, ?_, ?_, ?_, ?_⟩
  · intro i n h
    obtain ⟨rfl, rfl⟩ := hother i n h
    refine ⟨by decide, Int.le_refl 1, List.Pairwise.nil, (fun p hp => by cases hp), (fun e => absurd rfl e), OkD.nil, (fun _ => rfl), (fun p hp => by cases hp), by decide, (fun _ e => absurd rfl e), ?_, (show (1 : Int) ≤ 0 + 1 by decide), (show (0 : Int) ≤ 0 ∧ (0 : Int) ≤ 0 by decide), by decide, by decide, by decide, by decide, by decide, by decide, by decide, fun _ => rfl, Int.le_refl 0⟩
    have : sumN (newT q).nd (gLink 1) ((newT q).next + 1).toNat = 0 := rfl
    rw [this]; rfl
  · exact ⟨Int.le_refl 1, (show (1 : Int) ≤ 0 + 1 by decide)⟩
  · exact Int.le_refl 0
  · show 0 ≤ max q 0 ∧ max q 0 ≤ _; omega
  · rfl
  · show (0 : Int) ≤ max q 0; omega
  · rfl
  · show 1 ≤ 1000; omega
  · exact ⟨fun _ => 0, fun i n h _ h1 => absurd (hother i n h).1 h1⟩

set_option maxHeartbeats 1000000 in
theorem new_any (q : Int) (w : World) (hq : -9223372036854775808 ≤ q ∧ q ≤ 9223372036854775807) : Calls Tryz.prog 5 #[.int .i64 q] w fun e w' =>
    ∃ f, e = .returned (.pointer (some ⟨f, 0, none⟩)) ∧ FsSt (Grow NoB w w') w' f (newT q) ∧ Kept NoB w w' := by
  go_enter Tryz.func5, Tryz.ntmps5
  have hmm := @run_makeMap Tryz.prog
  go_upto_region 2 with fail
  have hwm : (w.alloc (Obj.map #[] 0)).heap.size = w.heap.size + 1 := by simp
  obtain ⟨wb, hwb⟩ : ∃ wb, wb = (w.alloc (Obj.map #[] 0)).alloc (.cells (ndC rootN (some w.heap.size) none 0).toArray 48) := ⟨_, rfl⟩
  have hkb : Kept NoB w wb := by rw [hwb]; exact ((Kept.refl NoB w).alloc _).alloc _
  have hsb : wb.heap.size = w.heap.size + 2 := by rw [hwb]; simp
  have hob : wb.heap[w.heap.size + 1]? = some (.cells (ndC rootN (some w.heap.size) none 0).toArray 48 (0, 0)) := by
    rw [hwb]; have := heap_alloc_new (w.alloc (Obj.map #[] 0)) (.cells (ndC rootN (some w.heap.size) none 0).toArray 48 (0, 0)); rw [hwm] at this; exact this
  have hmb : NamesAt wb w.heap.size [] := by
    have h0 : MapF (w.alloc (Obj.map #[] 0)) Tryz.prog 9 (plainElem Tryz.prog 3) w.heap.size (nmF []) 0 := by rw [nmF_nil]; exact MapF.made w _ _ _
    refine MapF.kept (S := NoB) h0 ?_ id
    rw [hwb]; exact (Kept.refl NoB _).alloc _
  show Code.wp _ _ _ _ ((w.alloc (Obj.map #[] 0)).alloc (.cells (ndC rootN (some w.heap.size) none 0).toArray 48))
  rw [← hwb]
  have HKb := Lib.hid hkb; have HOb := Lib.hid hob; have HMb := Lib.hid hmb; have HSb := Lib.hid hsb
  clear hkb hob hmb hsb hwb hwm
  have hN0 : Hid (NodesAt (wb.alloc (Obj.map #[] 0)) wb.heap.size (fun _ => none) 0) := Lib.hid (by
    have h0 := MapF.made wb Tryz.prog 3 ptrR
    have e : ndF (fun _ => none) = fun _ => none := by
      funext l
      cases l with
      | int q n => cases q <;> rfl
      | _ => rfl
    unfold NodesAt
    rw [e]; exact h0)
  go_wp2_with (refine wpList_nodes_insert rfl (.tmp 8) (.const (.int .i64 1)) (.tmp 9) rfl hN0.out rfl rfl (by decide) rfl (by decide) ?_; intro w1 hn1 hk1 hs1)
  go_ret
  have hkb := HKb.out; have hob := HOb.out; have hmb := HMb.out; have hsb := HSb.out
  have hs1' : w1.heap.size = wb.heap.size + 1 := by rw [hs1]; simp
  obtain ⟨w2, hw2⟩ : ∃ w2, w2 = w1.alloc (.cells (fsC wb.heap.size (newT q)).toArray 51) := ⟨_, rfl⟩
  have hk12 : Kept NoB w1 w2 := by rw [hw2]; exact (Kept.refl NoB w1).alloc _
  have hk01 : Kept NoB wb w1 := ((((Kept.refl NoB wb).alloc (Obj.map #[] 0)).mono (T := OneB wb.heap.size) (fun k hk e => e.elim)).trans hk1).mono (fun k hk e => by cases e; omega)
  have hk02 : Kept NoB w w2 := (hkb.trans hk01).trans hk12
  have hs2 : w2.heap.size = wb.heap.size + 2 := by rw [hw2]; simp; omega
  have hof : w2.heap[wb.heap.size + 1]? = some (.cells (fsC wb.heap.size (newT q)).toArray 51 (0, 0)) := by
    rw [hw2]; have := heap_alloc_new w1 (.cells (fsC wb.heap.size (newT q)).toArray 51 (0, 0)); rw [hs1'] at this; exact this
  refine ⟨wb.heap.size + 1, rfl, ?_, ?_⟩
  rotate_left
  · show Kept NoB w (w1.alloc (.cells (fsC wb.heap.size (newT q)).toArray 51))
    rw [← hw2]; exact hk02
  show FsSt _ (w1.alloc (.cells (fsC wb.heap.size (newT q)).toArray 51)) _ _
  show FsSt (Grow NoB w (w1.alloc (.cells (fsC wb.heap.size (newT q)).toArray 51))) _ _ _
  rw [← hw2]
  refine ⟨fun k => if k = wb.heap.size + 1 then .fs else if k = wb.heap.size then .tab else if k = w.heap.size + 1 then .nd 1 else if k = w.heap.size then .nm 1 else .no, updB (fun _ => none) 1 (some (w.heap.size + 1)), wb.heap.size, newT_ok q hq.2, hof, by simp, by simp, ?_, ?_, ?_, ?_⟩
  · have := hk12
    exact MapF.kept hn1 hk12 id
  · intro i
    unfold updB newT
    simp only
    split <;> rfl
  · intro i n b hn hb
    have hi : i = 1 ∧ n = rootN := by
      unfold newT at hn
      simp only at hn
      split at hn
      · rename_i hi; cases hn; exact ⟨hi, rfl⟩
      · cases hn
    obtain ⟨rfl, rfl⟩ := hi
    rw [updB_same] at hb
    cases hb
    refine ⟨some w.heap.size, none, 0, [], (hk01.trans hk12).obj hob id, ?_, fun _ => ⟨w.heap.size, rfl, ?_, ?_⟩, fun e => absurd rfl e, ⟨rfl, World.ownsRow_nil _ _ _ _, (fun k e => by simp [Value.ownBlock] at e), (fun q hq => by cases hq), (fun q hq => by cases hq), List.Pairwise.nil⟩, rfl⟩
    · rw [hsb]; simp; try omega
    · rw [hsb]; simp; try omega
    · exact MapF.kept (S := NoB) hmb (hk01.trans hk12) id
  · intro k hk
    have hk' : k = wb.heap.size + 1 ∨ k = wb.heap.size ∨ k = w.heap.size + 1 ∨ k = w.heap.size := by
      by_cases e1 : k = wb.heap.size + 1
      · exact .inl e1
      · by_cases e2 : k = wb.heap.size
        · exact .inr (.inl e2)
        · by_cases e3 : k = w.heap.size + 1
          · exact .inr (.inr (.inl e3))
          · by_cases e4 : k = w.heap.size
            · exact .inr (.inr (.inr e4))
            · exact absurd rfl (hk .no (by simp [e1, e2, e3, e4]))
    refine ⟨.inr ?_, ?_⟩ <;> omega
end Go.Proofs.YtjjgadanobeamaaGreatDoor

namespace Go.Proofs.YtjjgadanobeamaaGreatDoor
open Go.RowKit
set_option linter.unusedVariables false
set_option linter.unusedSimpArgs false
set_option maxRecDepth 20000

theorem cell_same {w w' : World} {b : Nat} (h : w'.heap[b]? = w.heap[b]?) (o : Nat) : w'.cell? ⟨b, o, none⟩ = w.cell? ⟨b, o, none⟩ := by simp [World.cell?, h]
def tchA (A : Array Value) (c : Int) : Array Value := (A.setIfInBounds 4 (.int .i64 c)).setIfInBounds 10 (.int .i64 c)
theorem tchA_twice (A : Array Value) (c : Int) : tchA (tchA A c) c = tchA A c := by
  apply Array.ext_getElem?
  intro i
  unfold tchA
  simp only [Array.getElem?_setIfInBounds, Array.size_setIfInBounds]
  by_cases h4 : 4 = i <;> by_cases h10 : 10 = i <;> simp [h4, h10]
theorem tchA_nd (n : NdP) (m : Option Nat) (a : Option Addr) (k : Nat) (c : Int) : tchA (ndC n m a k).toArray c = (ndC (touch c n) m a k).toArray := rfl
theorem tchA_size (A : Array Value) (c : Int) : (tchA A c).size = A.size := by simp [tchA]

set_option maxHeartbeats 2000000 in
theorem tick_any {w : World} {f : Nat} {fc : Array Value} {c : Int} (bs : List Nat) (A : Nat → Array Value) (ao : Option Addr) (cap : Nat)
    (hf : w.heap[f]? = some (.cells fc 51 (0, 0))) (hc : fc[4]? = some (.int .i64 c)) (hcb : 0 ≤ c ∧ c + 1 ≤ 9223372036854775807)
    (hrow : ∀ i (hi : i < bs.length), ∃ rb off, ao = some ⟨rb, off, none⟩ ∧ rb ≠ f ∧ (∀ b ∈ bs, rb ≠ b) ∧ w.cell? ⟨rb, off + i, none⟩ = some (.pointer (some ⟨bs[i], 0, none⟩)))
    (hn : ∀ b ∈ bs, w.heap[b]? = some (.cells (A b) 48 (0, 0)) ∧ 11 ≤ (A b).size) (hl : bs.length ≤ 100) :
    Calls Tryz.prog 18 #[.pointer (some ⟨f, 0, none⟩), .slice ao bs.length cap] w fun e w' =>
      e = .returned (.tuple #[]) ∧ w'.heap[f]? = some (.cells (fc.setIfInBounds 4 (.int .i64 (c + 1))) 51 (0, 0)) ∧ (∀ b ∈ bs, w'.heap[b]? = some (.cells (tchA (A b) (c + 1)) 48 (0, 0))) ∧ Kept (fun k => k = f ∨ k ∈ bs) w w' ∧ w'.heap.size = w.heap.size := by
  have c4 : w.cell? ⟨f, 4, none⟩ = some (.int .i64 c) := by rw [obj_cell hf]; exact hc
  have f4 := obj_free hf 4
  have hfc : 4 < fc.size := (Array.getElem?_eq_some_iff.1 hc).1
  have hfn : ∀ b ∈ bs, b ≠ f := fun b hb e => by
    have := (hn b hb).1
    rw [e, hf] at this
    have h2 := Option.some.inj this
    injection h2 with _ h3
    exact absurd h3 (by decide)
  have HRow := Lib.hid hrow; have HN := Lib.hid hn; have HF := Lib.hid hf; have HFn := Lib.hid hfn
  obtain ⟨N, hN⟩ : ∃ N, N = bs.length := ⟨_, rfl⟩
  have HNl := Lib.hid hN
  rw [← hN] at hl ⊢
  clear hrow hn hf hfn hN
  obtain ⟨w1, hw1⟩ : ∃ w1, w1 = w.setCell ⟨f, 4, none⟩ (.int .i64 (c + 1)) := ⟨_, rfl⟩
  have hk1 : Kept (fun k => k = f ∨ k ∈ bs) w w1 := by rw [hw1]; exact (Kept.refl _ w).setCell (.inl (.inl rfl)) _
  have hof : w1.heap[f]? = some (.cells (fc.setIfInBounds 4 (.int .i64 (c + 1))) 51 (0, 0)) := by rw [hw1]; exact obj_set HF.out 4 _
  have hs1 : w1.heap.size = w.heap.size := by rw [hw1]; simp
  have HK1 := Lib.hid hk1; have HOf := Lib.hid hof; have HS1 := Lib.hid hs1; have HW1 := Lib.hid hw1
  clear hk1 hof hs1 hw1
  go_enter Tryz.func18, Tryz.ntmps18
  go_wp2
  rw [← HW1.out]
  go_loopw [5, 15, 16] (fun _v5 v15 _v16 wr => ∃ k : Nat, v15 = .int .i64 (k : Int) ∧ k ≤ N ∧ Hid (wr.heap[f]? = some (.cells (fc.setIfInBounds 4 (.int .i64 (c + 1))) 51 (0, 0)) ∧ (∀ b ∈ bs, wr.heap[b]? = some (.cells (if b ∈ bs.take k then tchA (A b) (c + 1) else A b) 48 (0, 0))) ∧ Kept (fun k => k = f ∨ k ∈ bs) w wr ∧ wr.heap.size = w.heap.size)) (fun _ v15 _ _ => N - (intOf v15).toNat)
  case atStart =>
    exact ⟨0, rfl, by omega, Lib.hid ⟨HOf.out, fun b hb => by rw [List.take_zero, if_neg (by simp)]; rw [HW1.out]; exact (Below.heap_setCell _ _ _ _ (fun e => HFn.out b hb e)).trans (HN.out b hb).1, HK1.out, HS1.out⟩⟩
  case round =>
    obtain ⟨k, rfl, hk, HS⟩ := hrel
    by_cases hlt : (k : Int) < (N : Int)
    · have hkN : k < N := by omega
      have hkb : k < bs.length := by have := HNl.out; omega
      obtain ⟨rb, off, rfl, hrf, hrb, r0⟩ := HRow.out k hkb
      obtain ⟨b, hb⟩ : ∃ b, b = bs[k] := ⟨_, rfl⟩
      have hbm : b ∈ bs := by rw [hb]; exact List.getElem_mem hkb
      rw [← hb] at r0
      have hfb : b ≠ f := HFn.out b hbm
      obtain ⟨s1, s2, s3, s4⟩ := HS.out
      have d0 : wr.cell? ⟨rb, off + k, none⟩ = some (.pointer (some ⟨b, 0, none⟩)) := by
        rw [cell_same (s3.block rb (World.block_lt_of_cell? w _ r0) (by rintro (e | e); exact hrf e; exact hrb rb e rfl))]; exact r0
      obtain ⟨X, hX⟩ : ∃ X, X = (if b ∈ bs.take k then tchA (A b) (c + 1) else A b) := ⟨_, rfl⟩
      have ob := s2 b hbm
      rw [← hX] at ob
      have hXs : 11 ≤ X.size := by rw [hX]; have := (HN.out b hbm).2; split; rw [tchA_size]; exact this; exact this
      have x4 : wr.cell? ⟨b, 4, none⟩ = some (X.getD 4 undef) := by rw [obj_cell ob]; simp [Array.getD, show 4 < X.size by omega]
      have y4 := obj_free ob 4
      have e4 : wr.cell? ⟨f, 4, none⟩ = some (.int .i64 (c + 1)) := by rw [obj_cell s1]; simp [hfc]
      obtain ⟨wp, hwp⟩ : ∃ wp, wp = wr.setCell ⟨b, 4, none⟩ (.int .i64 (c + 1)) := ⟨_, rfl⟩
      have op := obj_set ob 4 (.int .i64 (c + 1))
      rw [← hwp] at op
      have of2 : wp.heap[f]? = some (.cells (fc.setIfInBounds 4 (.int .i64 (c + 1))) 51 (0, 0)) := by
        rw [hwp]; exact (Below.heap_setCell _ _ _ _ (fun e => hfb e.symm)).trans s1
      have g4 : wp.cell? ⟨f, 4, none⟩ = some (.int .i64 (c + 1)) := by rw [obj_cell of2]; simp [hfc]
      have x10 : wp.cell? ⟨b, 10, none⟩ = some (X.getD 10 undef) := by rw [obj_cell op]; simp [Array.getD, show 10 < X.size by omega]
      have y10 := obj_free op 10
      have oq := obj_set op 10 (.int .i64 (c + 1))
      have HOq := Lib.hid oq; have HX := Lib.hid hX; have HB := Lib.hid hb; have HWp := Lib.hid hwp
      have HSt := Lib.hid (⟨s1, s2, s3, s4⟩ : _ ∧ _ ∧ _ ∧ _)
      rw [hwp] at g4 x10 y10
      clear s1 s2 s3 s4 ob op oq of2 hX hb hwp r0 HS
      go_wp2
      rw [← HWp.out]
      refine ⟨⟨k + 1, by go_num, by omega, Lib.hid ⟨?_, ?_, ?_, ?_⟩⟩, by simp [intOf]; omega⟩
      · rw [Below.heap_setCell _ _ _ _ (fun e => hfb e.symm), HWp.out, Below.heap_setCell _ _ _ _ (fun e => hfb e.symm)]
        exact HSt.out.1
      · intro b1 hb1
        have hmk : b1 ∈ bs.take (k + 1) ↔ b1 ∈ bs.take k ∨ b1 = b := by
          rw [HB.out, List.take_succ_eq_append_getElem hkb, List.mem_append, List.mem_singleton]
        by_cases e : b1 = b
        · subst e
          rw [HOq.out, if_pos (hmk.2 (.inr rfl))]
          have : tchA X (c + 1) = tchA (A b1) (c + 1) := by rw [HX.out]; split; rw [tchA_twice]; rfl
          rw [← this]; rfl
        · rw [Below.heap_setCell _ _ _ _ (fun e' => e e'), HWp.out, Below.heap_setCell _ _ _ _ (fun e' => e e'), HSt.out.2.1 b1 hb1]
          by_cases e2 : b1 ∈ bs.take k
          · rw [if_pos e2, if_pos (hmk.2 (.inl e2))]
          · rw [if_neg e2, if_neg (fun h => by rcases hmk.1 h with h | h; exact e2 h; exact e h)]
      · rw [HWp.out]; exact (HSt.out.2.2.1.setCell (.inl (.inr hbm)) _).setCell (.inl (.inr hbm)) _
      · rw [HWp.out]; simp; exact HSt.out.2.2.2
    · have hkN : k = N := by omega
      go_wp2
      refine bodyPost_end (results_none rfl _ _ _) rfl ?_
      obtain ⟨s1, s2, s3, s4⟩ := HS.out
      refine ⟨rfl, s1, fun b hb => ?_, s3, s4⟩
      have := s2 b hb
      rw [hkN, HNl.out, List.take_length, if_pos hb] at this
      exact this
end Go.Proofs.YtjjgadanobeamaaGreatDoor
