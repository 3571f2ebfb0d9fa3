/-
  One file with some names, on paper: the six names; a row of texts beside a tree.
-/
import Derived.Test.YtilndmmjdbhmgaaLnP
import Derived.Test.YtilndmmjdbhmgaaRwS
import Derived.Test.YtilndmmjdbhmgaaApp0
import Derived.Test.YtilndmmjdbhmgaaMask
namespace Go.Proofs.Ytilndmmjdbhmgaa
open Go.RowKit
set_option linter.unusedVariables false
set_option linter.unusedSimpArgs false
set_option maxRecDepth 20000

def nmI (i : Nat) : List UInt8 := [110, UInt8.ofNat (48 + i)]
def nmsI (k : Nat) : List (List UInt8) := (List.range k).map nmI
theorem nmsI_succ (k : Nat) : nmsI (k + 1) = nmsI k ++ [nmI k] := by simp [nmsI, List.range_succ]
theorem nmsI_len (k : Nat) : (nmsI k).length = k := by simp [nmsI]
theorem six {i : Nat} (h : i < 6) : i = 0 ∨ i = 1 ∨ i = 2 ∨ i = 3 ∨ i = 4 ∨ i = 5 := by omega
theorem nmI_ok {i : Nat} (h : i < 6) : okN (strB (nmI i)) = true := by
  rcases six h with rfl | rfl | rfl | rfl | rfl | rfl <;> kernel_rfl
theorem nmI_inj {i j : Nat} (hi : i < 6) (hj : j < 6) (h : nmI i = nmI j) : i = j := by
  rcases six hi with rfl | rfl | rfl | rfl | rfl | rfl <;> rcases six hj with rfl | rfl | rfl | rfl | rfl | rfl <;> first | rfl | (exact absurd h (by decide))
theorem nmI_not {k : Nat} (h : k < 6) : nmI k ∉ nmsI k := fun e => by
  obtain ⟨i, hi, he⟩ := List.mem_map.1 e
  have hi := List.mem_range.1 hi
  have := nmI_inj (by omega) h he
  omega
theorem nmsI_nodup : ∀ k, k ≤ 6 → (nmsI k).Nodup
  | 0, _ => List.nodup_nil
  | k + 1, h => by
    rw [nmsI_succ, List.nodup_append]
    refine ⟨nmsI_nodup k (by omega), by simp, fun a ha b hb e => ?_⟩
    simp at hb
    subst hb
    exact nmI_not (by omega) (e ▸ ha)
theorem nmsI_ok {k : Nat} (h : k ≤ 6) : ∀ s ∈ nmsI k, s.length = 2 ∧ okN (strB s) = true := fun s hs => by
  obtain ⟨i, hi, rfl⟩ := List.mem_map.1 hs
  have hi := List.mem_range.1 hi
  exact ⟨rfl, nmI_ok (by omega)⟩
theorem nm_cat (k : Nat) : (⟨#[110]⟩ : ByteArray) ++ (⟨#[UInt8.ofNat (48 + k)]⟩ : ByteArray) = strB (nmI k) := ByteArray.mk_append_mk [110] [UInt8.ofNat (48 + k)]
theorem nm_conv (k : Nat) (hk : k < 200) : ∀ W : World, (convert 29 9 (.slice (some ⟨W.heap.size, 0, none⟩) 1 1)).run Try.prog (W.alloc (.cells #[.int .u8 (48 + (k : Int))] 5)) = .ok (.string ⟨#[UInt8.ofNat (48 + k)]⟩) (W.alloc (.cells #[.int .u8 (48 + (k : Int))] 5)) := fun W => by
  have h : Reads (W.alloc (.cells #[.int .u8 (48 + (k : Int))] 5)) (some ⟨W.heap.size, 0, none⟩) [48 + (k : Int)] := lit_reads _ (heap_alloc_new W (.cells #[.int .u8 (48 + (k : Int))] 5 (0, 0))) rfl
  have := conv_reads (cap := 1) h rfl (fun e => by cases e)
  refine this.trans (congrArg (fun s => Result.ok (Value.string s) _) ?_)
  apply ByteArray.ext
  apply Array.ext'
  rw [strOfNums_data]
  have e : (48 + (k : Int)).toNat = 48 + k := by omega
  simp [e]

theorem cell_oneS (W : World) (s : ByteArray) : ∀ j u, [Value.string s][j]? = some u → (W.alloc (.cells #[.string s] 9)).cell? ((⟨W.heap.size, 0, none⟩ : Addr).add j) = some u := fun j u hu => by
  rw [addr_add, Nat.zero_add, cell_of_row _ _ _ _ _ (0, 0) (heap_alloc_new W (.cells #[.string s] 9 (0, 0)))]
  rw [← hu]
  cases j <;> simp
/-- What holds while names are taken away. -/
structure LnS (T : FsP) (left : List (List UInt8)) (len : Nat) : Prop where
  ln : Ln T left len
  nodup : left.Nodup
  ok : ∀ s ∈ left, s.length = 2 ∧ okN (strB s) = true
  clock : T.clock + (left.length : Int) ≤ 20
theorem LnS.out {T : FsP} {left : List (List UInt8)} {len : Nat} (h : LnS T left len) (i : Nat) (hi : i < left.length) : ∃ T', removeP T 1 left[i] = (T', 0) ∧ LnS T' (left.take i ++ left.drop (i + 1)) len := by
  have e : left = left.take i ++ left[i] :: left.drop (i + 1) := by rw [List.getElem_cons_drop, List.take_append_drop]
  have h1 := h.ln
  have h2 := h.nodup
  rw [e] at h1 h2
  obtain ⟨T', q1, q2, q3⟩ := ln_remove h1 h2 (h.ok _ (List.getElem_mem hi)).2
  refine ⟨T', q1, ⟨q2, ?_, fun s hs => h.ok s ?_, ?_⟩⟩
  · rw [List.nodup_append] at h2
    obtain ⟨a1, a2, a3⟩ := h2
    rw [List.nodup_append]
    exact ⟨a1, (List.nodup_cons.1 a2).2, fun a ha b hb => a3 a ha b (List.mem_cons_of_mem _ hb)⟩
  · rcases List.mem_append.1 hs with q | q
    · exact List.mem_of_mem_take q
    · exact List.mem_of_mem_drop q
  · rw [q3]
    have := h.clock
    have : (left.take i ++ left.drop (i + 1)).length = left.length - 1 := by simp; omega
    rw [this]; omega
theorem ln_end {T : FsP} {len : Nat} (h : LnS T [] len) : statP T 2 = (zeroNV, 10) ∧ (makeP T 1 [110, 48] fileV).2 = (3, 0) ∧ (makeP T 1 [110, 48] fileV).1.used = 0 := by
  obtain ⟨d, d1, d2, d3, d4⟩ := h.ln.root
  have hg := h.ln.gone rfl
  have hn : getK d.names [110, 48] = none := by rw [d4]; rfl
  have he : makeP T 1 [110, 48] fileV = (makeT T 1 d [110, 48] fileV, T.next + 1, 0) := by
    rw [makeP_yes fileV d1 d2 (show okN (strB [110, 48]) = true from nmI_ok (i := 0) (by decide)), if_pos (by kernel_rfl), if_neg (by rw [hn]; decide), if_neg (by have := h.ln.cnt; omega)]
  refine ⟨by unfold statP; rw [hg], by rw [he, h.ln.next]; rfl, ?_⟩
  rw [he]
  show T.used = 0
  rw [h.ln.used, if_pos rfl]
theorem index_int (oo : Option Addr) (ol co go off i : Nat) (h : oo = some ⟨go, off, none⟩) (hi : i < ol) : ∀ W, (Instr.indexAt 63 (.slice oo ol co) (.int .i64 (i : Int))).run Try.prog W = .ok (.pointer (some ⟨go, off + i, none⟩)) W := fun W => by
  subst h
  rw [run_indexAt_slice (h := by kernel_rfl), if_pos (by omega)]
  have hs : (sizeOf (Try.prog.elem 63)).run Try.prog W = .ok 1 W := by kernel_rfl
  rw [hs]
  simp only [Result.andThen, Int.toNat_natCast, Nat.mul_one]
  rw [Addr.add_lit]
theorem kept_on2 {S S' : Nat → Prop} {a b c : World} (h : Kept S a b) (k : Kept S' b c) (hs : ∀ i, i < a.heap.size → S' i → S i) : Kept S a c :=
  ⟨k.os.trans h.os, k.tape.trans h.tape, k.output.trans h.output, Nat.le_trans h.size k.size, fun i hi hne => (k.block i (Nat.lt_of_lt_of_le hi h.size) (fun e => hne (hs i hi e))).trans (h.block i hi hne)⟩
/-- One text taken out of a row, in two appends onto an empty row. -/
theorem takeOut_any (g n c i : Nat) (xs : List (List UInt8)) (hn : n = xs.length) (hi : i < n) (hc : n ≤ c) (hm : n ≤ 1000) :
    ∃ v1 v2, (∀ W, (Instr.slice 50 (.slice (some ⟨g, 0, none⟩) n c) none (some (.int .i64 (i : Int))) none).run Try.prog W = .ok v1 W) ∧ (∀ W, (Instr.slice 50 (.slice (some ⟨g, 0, none⟩) n c) (some (.int .i64 ((i : Int) + 1))) none none).run Try.prog W = .ok v2 W) ∧
    ∀ (w2 : World) (B : Nat), w2.ownsRow 0 9 1 (.slice (some ⟨g, 0, none⟩) n c) n (xs.map (fun s => .string (strB s))) → w2.heap[B]? = some (.cells #[] 9 (0, 0)) → B ≠ g → ∃ v3 w3 a4 c4 w4, (Builtin.append_ #[50, 50] 50 #[.slice (some ⟨B, 0, none⟩) 0 0, v1]).run Try.prog w2 = .ok v3 w3 ∧
      (Builtin.append_ #[50, 50] 50 #[v3, v2]).run Try.prog w3 = .ok (.slice a4 (n - 1) c4) w4 ∧
      w4.ownsRow 0 9 1 (.slice a4 (n - 1) c4) (n - 1) ((xs.take i ++ xs.drop (i + 1)).map (fun s => .string (strB s))) ∧ Kept (OneB B) w2 w4 ∧ (∀ k, (Value.slice a4 (n - 1) c4).ownBlock = some k → k = B ∨ w2.heap.size ≤ k) := by
  obtain ⟨i0, hi0, hz0, hz1, hz2⟩ := info_parts infoStr
  have hsz : ∀ W : World, (sizeOf (Try.prog.elem 50)).run Try.prog W = .ok 1 W := fun W => by kernel_rfl
  obtain ⟨q1, s1, s2⟩ := slice_upto (P := Try.prog) (t := 50) (s := 1) (by kernel_rfl) hsz g n c i (by omega) hc
  obtain ⟨q2, c2, s3, s4⟩ := slice_from (P := Try.prog) (t := 50) (s := 1) (by kernel_rfl) hsz g n c (i + 1) (by omega) hc
  refine ⟨_, _, s1, fun W => by have := s3 W; push_cast at this; exact this, fun w2 B ho hB hBg => ?_⟩
  obtain ⟨ys, hys⟩ : ∃ ys, ys = xs.map (fun s => Value.string (strB s)) := ⟨_, rfl⟩
  have hyl : ys.length = n := by rw [hys, List.length_map, hn]
  have hone : ∀ u ∈ ys, u.oneCell' = true := fun u hu => by
    rw [hys] at hu
    obtain ⟨s, _, rfl⟩ := List.mem_map.1 hu; rfl
  rw [← hys] at ho
  have hBl : B < w2.heap.size := obj_lt hB
  have hnew : w2.ownsRow 0 9 1 (.slice (some ⟨B, 0, none⟩) 0 0) 0 [] := ⟨rfl, .inr ⟨B, 0, #[], rfl, Nat.zero_le _, hB, Nat.le_refl _, Nat.zero_le _, rfl, rfl⟩⟩
  have ho2 := ho
  have hcell : ∀ W : World, W.ownsRow 0 9 1 (.slice (some ⟨g, 0, none⟩) n c) n ys → ∀ j u, ys[j]? = some u → W.cell? ⟨g, j, none⟩ = some u := fun W hW j u hu => by
    have := hW.cells (g := g) rfl j u hu
    rw [Addr.add_lit, Nat.zero_add] at this
    exact this
  have hsrc1 := slice_src (P := Try.prog) 50 9 1 Try.underlying50 g n c 0 i ys (by omega) hone (Nat.zero_le _) (by omega) w2 (hcell w2 ho2) q1 c (by rw [Nat.zero_mul]; exact s2)
  rw [Nat.sub_zero, Nat.zero_mul, List.drop_zero, Nat.mul_one] at hsrc1
  obtain ⟨v3, w3, r1, o3, g3, gg, cg, rfl, hg3⟩ := run_app_src0 (P := Try.prog) w2 50 50 50 9 i0 (.string ⟨#[]⟩) 1 16 Try.underlying50 hi0 hz0 hz1 hz2 rfl (by decide) B 0 0 [] hnew _ i _ hsrc1 (by rw [List.length_take]; omega) (fun u hu => hone u (List.mem_of_mem_take hu)) (by unfold maxLen; omega) (by omega)
  have hk3 : Kept (OneB B) w2 w3 := (Kept.refl _ w2).grown g3 (fun k _ e => by cases e; rfl)
  have ho3 := hk3.row ho2 (fun k hk e => by
    have e : k = B := e
    have : g = k := by injection hk
    omega)
  have hsrc2 := slice_src (P := Try.prog) 50 9 1 Try.underlying50 g n c (i + 1) n ys (by omega) hone (by omega) (Nat.le_refl _) w3 (hcell w3 ho3) q2 c2 s4
  rw [Nat.mul_one, Nat.mul_one] at hsrc2
  rw [Nat.zero_add] at o3
  obtain ⟨v4, w4, r2, o4, g4, gh, ch, rfl, hg4⟩ := run_app_src0 (P := Try.prog) w3 50 50 50 9 i0 (.string ⟨#[]⟩) 1 16 Try.underlying50 hi0 hz0 hz1 hz2 rfl (by decide) gg i cg _ (by rw [Nat.zero_add] at *; exact o3) _ (n - (i + 1)) _ hsrc2 (by rw [List.length_take, List.length_drop]; omega) (fun u hu => hone u (List.mem_of_mem_drop (List.mem_of_mem_take hu))) (by unfold maxLen; omega) (by omega)
  have hk4 : Kept (OneB gg) w3 w4 := (Kept.refl _ w3).grown g4 (fun k _ e => by cases e; rfl)
  have hsz3 := hk3.size
  have hsz4 := hk4.size
  have e1 : i + (n - (i + 1)) = n - 1 := by omega
  rw [e1] at r2 o4
  rw [Nat.zero_add] at r1
  refine ⟨_, w3, some ⟨gh, 0, none⟩, ch, w4, r1, r2, ?_, kept_on2 hk3 hk4 (fun j hj e => by
    have e : j = gg := e
    show j = B
    omega), fun k hk => ?_⟩
  · have e2 : [] ++ ys.take i ++ (ys.drop (i + 1)).take (n - (i + 1)) = (xs.take i ++ xs.drop (i + 1)).map (fun s => Value.string (strB s)) := by
      rw [List.nil_append, List.take_of_length_le (l := ys.drop (i + 1)) (by rw [List.length_drop]; omega), hys, List.map_append, List.map_take, List.map_drop]
    rw [← e2]; exact o4
  · have : gh = k := by injection hk
    omega
end Go.Proofs.Ytilndmmjdbhmgaa
