/-
  Rows of pieces: slices.Replace of some by one; slices.Delete of the last ones.
  Pieces that a write touches, on paper, beside where their bytes lie.
-/
import Derived.Test.YtjjgadanobeamaaMh13
namespace Go.Proofs.Ytjjgadanobeamaa
open Go.RowKit
set_option linter.unusedVariables false
set_option linter.unusedSimpArgs false
set_option maxRecDepth 20000

theorem run_app_room {P : Program} {ty : TypeId} (w : World) (t tx e : TypeId) (i : TypeInfo) (size : Nat) (ht : P.underlying t = some (.slice e)) (hi : P.info? e = some i) (hsize : i.size = size) (g n c : Nat) (cur : Array Value) (te : TypeId)
    (hg : w.heap[g]? = some (.cells cur te (0, 0))) (x : Value) (m : Nat) (news : List Value) (hsrc : Src P size tx x m news w) (hl : news.length = m * size) (h1 : ∀ u ∈ news, u.oneCell' = true) (hroom : n + m ≤ c) (hfit : n * size + news.length ≤ cur.size) :
    (Builtin.append_ #[t, tx] ty #[.slice (some ⟨g, 0, none⟩) n c, x]).run P w = .ok (.slice (some ⟨g, 0, none⟩) (n + m) c) (w.setRow g (cur.toList.take (n * size) ++ news ++ cur.toList.drop (n * size + news.length)).toArray) := by
  have hst := run_storeCells_at P g (n * size) te news 0 cur w hg (by simpa using hfit) h1
  simp only [Nat.add_zero] at hst
  have h2 := hsrc.cells
  have h3 := hsrc.len
  rcases hsrc.kind with ⟨e', hk⟩ | hk <;> simp [Builtin.append_, run_underlying ht, run_underlying hk, sizeOf, typeInfo, hi, h3, hroom, hsize, h2, Addr.add_lit, hst]
theorem zeroFp (w : World) : (zeroValue 43).run Try.prog w = .ok (.agg #[.int .i64 0, .slice none 0 0]) w := by kernel_rfl
theorem zc_one (n : Nat) : ∀ v ∈ (Builtin.zeroCells (Value.agg #[.int .i64 0, .slice none 0 0]).cells n).toList, v.oneCell' = true := by
  intro v hv
  simp only [Builtin.zeroCells, Array.toList_map, List.mem_map] at hv
  obtain ⟨i, _, rfl⟩ := hv
  have : i % 2 = 0 ∨ i % 2 = 1 := by omega
  rcases this with e | e <;> simp [Value.cells, e] <;> rfl
theorem run_clear2 (w : World) (g o m c : Nat) (cur : Array Value) (hg : w.heap[g]? = some (.cells cur 43 (0, 0))) (hfit : (o + m) * 2 ≤ cur.size) (q : Addr) (hq : q = ⟨g, o * 2, none⟩ ∨ m = 0) :
    ∃ (cur' : Array Value) (w' : World), (∀ ty, (Builtin.clear_ #[48] ty #[.slice (some q) m c]).run Try.prog w = .ok (.tuple #[]) w') ∧ w'.heap[g]? = some (.cells cur' 43 (0, 0)) ∧ cur'.size = cur.size ∧ cur'.toList.take (o * 2) = cur.toList.take (o * 2) ∧ Kept (OneB g) w w' := by
  rcases Nat.eq_zero_or_pos m with hm | hm
  · subst hm
    refine ⟨cur, w, fun ty => ?_, hg, rfl, rfl, Kept.refl _ _⟩
    simp [Builtin.clear_, run_underlying Try.underlying48]
  · rcases hq with rfl | h0
    · have hzs : (Builtin.zeroCells (Value.agg #[.int .i64 0, .slice none 0 0]).cells m).toList.length = m * 2 := by
        rw [Array.length_toList, size_zeroCells]; rfl
      have hst := run_storeCells_at Try.prog g (o * 2) 43 (Builtin.zeroCells (Value.agg #[.int .i64 0, .slice none 0 0]).cells m).toList 0 cur w hg (by rw [hzs]; omega) (zc_one m)
      simp only [Nat.add_zero] at hst
      obtain ⟨r, hr⟩ : ∃ r, r = (cur.toList.take (o * 2) ++ (Builtin.zeroCells (Value.agg #[.int .i64 0, .slice none 0 0]).cells m).toList ++ cur.toList.drop (o * 2 + (Builtin.zeroCells (Value.agg #[.int .i64 0, .slice none 0 0]).cells m).toList.length)).toArray := ⟨_, rfl⟩
      rw [← hr] at hst
      have hol : (cur.toList.take (o * 2)).length = o * 2 := by rw [List.length_take, Array.length_toList]; omega
      refine ⟨r, w.setRow g r, fun ty => ?_, setRow_heap _ _ _ _ _ _ hg, ?_, ?_, Kept.setRow (S := OneB g) (Kept.refl _ w) (.inl rfl) _⟩
      · obtain ⟨k, rfl⟩ : ∃ k, m = k + 1 := ⟨m - 1, by omega⟩
        simp [Builtin.clear_, run_underlying Try.underlying48, zeroFp, hst]
      · rw [hr]
        simp only [List.size_toArray, List.length_append, hzs, List.length_take, List.length_drop, Array.length_toList]
        omega
      · rw [hr, List.toList_toArray, List.append_assoc]
        exact List.take_left' hol
    · omega
def RepP (w : World) (g n c : Nat) (xs : List Value) (e : Ending) (w' : World) : Prop :=
  e = .returned (.slice (some ⟨g, 0, none⟩) n c) ∧ w'.ownsRow 0 43 2 (.slice (some ⟨g, 0, none⟩) n c) n xs ∧ Kept (OneB g) w w'
theorem repP_of {w w' : World} {g n c : Nat} {xs : List Value} {cur : Array Value} (hg : w'.heap[g]? = some (.cells cur 43 (0, 0))) (hs : cur.size = c * 2) (hnc : n ≤ c) (hcm : c ≤ maxLen) (hx : cur.toList.take (n * 2) = xs) (hk : Kept (OneB g) w w') : RepP w g n c xs (.returned (.slice (some ⟨g, 0, none⟩) n c)) w' := by
  refine ⟨rfl, ⟨?_, .inr ⟨g, c, cur, rfl, Nat.zero_le _, hg, hnc, hcm, hs, hx⟩⟩, hk⟩
  rw [← hx, List.length_take, Array.length_toList, hs]; omega

set_option maxHeartbeats 4000000 in
/-- The last ones replaced by one. -/
theorem replace_end (g n c i : Nat) (xs : List Value) (w : World) (cu : Array Value) (hi : i < n) (hnc : n ≤ c) (hcm : c ≤ maxLen) (hg : w.heap[g]? = some (.cells cu 43 (0, 0))) (hcs : cu.size = c * 2) (hxs : cu.toList.take (n * 2) = xs) (vb : Nat) (z : Int) (bo : Option Addr) (m bc : Nat)
    (hv : w.heap[vb]? = some (.cells #[.int .i64 z, .slice bo m bc] 43 (0, 0))) (hvg : vb ≠ g) (hn : n ≤ 1099511627776) :
    Calls Try.prog 36 #[.slice (some ⟨g, 0, none⟩) n c, .int .i64 (i : Int), .int .i64 (n : Int), .slice (some ⟨vb, 0, none⟩) 1 1] w (RepP w g (i + 1) c (xs.take (i * 2) ++ [.int .i64 z, .slice bo m bc])) := by
  obtain ⟨i0, hi0, hz0, hz1, hz2⟩ := info_parts infoFp
  have hsrc : Src Try.prog 2 40 (.slice (some ⟨vb, 0, none⟩) 1 1) 1 [.int .i64 z, .slice bo m bc] w := Src.ofSlice w Try.underlying40 ⟨vb, 0, none⟩ 1 1 _ rfl (fun j u hj => by rw [Addr.add_lit, Nat.zero_add, obj_cell hv]; simpa using hj) (two_one z bo m bc)
  have hr5 := run_app_room (P := Try.prog) (ty := 48) w 48 40 43 i0 2 Try.underlying48 hi0 hz1 g i c cu 43 hg _ 1 _ hsrc rfl (two_one z bo m bc) (by omega) (by rw [hcs]; simp; omega)
  obtain ⟨r3, hr3⟩ : ∃ r3, r3 = (cu.toList.take (i * 2) ++ [Value.int .i64 z, Value.slice bo m bc] ++ cu.toList.drop (i * 2 + 2)).toArray := ⟨_, rfl⟩
  obtain ⟨w3, hw3⟩ : ∃ w3, w3 = w.setRow g r3 := ⟨_, rfl⟩
  have hr5' : (Builtin.append_ #[48, 40] 48 #[.slice (some ⟨g, 0, none⟩) i c, .slice (some ⟨vb, 0, none⟩) 1 1]).run Try.prog w = .ok (.slice (some ⟨g, 0, none⟩) (i + 1) c) w3 := by rw [hw3, hr3]; exact hr5
  have o3 : w3.heap[g]? = some (.cells r3 43 (0, 0)) := by rw [hw3]; exact setRow_heap _ _ _ _ _ _ hg
  have k3 : Kept (OneB g) w w3 := by rw [hw3]; exact Kept.setRow (S := OneB g) (Kept.refl _ w) (.inl rfl) _
  have hil : (cu.toList.take (i * 2)).length = i * 2 := by rw [List.length_take, Array.length_toList, hcs]; omega
  have r3s : r3.size = c * 2 := by rw [hr3]; simp only [List.size_toArray, List.length_append, hil, List.length_drop, Array.length_toList, hcs, List.length_cons, List.length_nil]; omega
  have ht3 : r3.toList.take ((i + 1) * 2) = xs.take (i * 2) ++ [.int .i64 z, .slice bo m bc] := by
    have e1 : cu.toList.take (i * 2) = xs.take (i * 2) := by rw [← hxs, List.take_take]; congr 1; omega
    rw [hr3, List.toList_toArray, e1]
    have el : (xs.take (i * 2) ++ [Value.int .i64 z, Value.slice bo m bc]).length = (i + 1) * 2 := by rw [← e1]; simp only [List.length_append, hil, List.length_cons, List.length_nil]; omega
    rw [← el, List.take_left]
  have hc63 : (c : Int) ≤ 9223372036854775807 := by unfold maxLen at hcm; omega
  have hne : ¬ (i : Int) = (n : Int) := by omega
  have hne2 : ((i : Int) == (n : Int)) = false := by simpa using hne
  have HR5 := Lib.hid hr5'
  have hin : (i : Int) ≤ (n : Int) := by omega
  have hnc2 : (n : Int) ≤ (c : Int) := by omega
  by_cases hlt : i + 1 < n
  · obtain ⟨q, hsl, hq⟩ : ∃ q : Addr, (∀ W, (Instr.slice 48 (.slice (some ⟨g, 0, none⟩) n c) (some (.int .i64 ((i : Int) + 1))) none none).run Try.prog W = .ok (.slice (some q) (n - (i + 1)) (c - (i + 1))) W) ∧ (q = ⟨g, (i + 1) * 2, none⟩ ∨ n - (i + 1) = 0) := by
      obtain ⟨q, h1, h2, _⟩ := sliced_some g c (i + 1) n 2 (by omega) hnc
      refine ⟨q, fun W => ?_, by rcases h2 with e | e; exact .inl e; exact .inr (by omega)⟩
      rw [run_slice_l (P := Try.prog) (w := W) 48 (some ⟨g, 0, none⟩) n c (by kernel_rfl) .i64 ((i : Int) + 1) (by omega) (by omega)]
      have hs : (sizeOf (Try.prog.elem 48)).run Try.prog W = .ok 2 W := by kernel_rfl
      rw [hs]
      simp only [Result.andThen]
      rw [show ((i : Int) + 1).toNat = i + 1 by omega, h1]
    obtain ⟨r4, w4, hcl, o4, s4, t4, k4⟩ := run_clear2 w3 g (i + 1) (n - (i + 1)) (c - (i + 1)) r3 o3 (by rw [r3s]; omega) q hq
    have HDone : Hid (RepP w g (i + 1) c (xs.take (i * 2) ++ [.int .i64 z, .slice bo m bc]) (.returned (.slice (some ⟨g, 0, none⟩) (i + 1) c)) w4) := Lib.hid (repP_of o4 (by rw [s4, r3s]) (by omega) hcm (by rw [t4, ht3]) (k3.trans k4))
    have hlt2 : (i : Int) + 1 < (n : Int) := by omega
    clear hr5 hr5' hr3 hw3 o3 k3 hil r3s ht3 o4 s4 t4 k4 hq hg hv hcs hxs hsrc hne
    go_enter Try.func36, Try.ntmps36
    go_upto_region 7 with (first | (at_builtin; refine Lib.wpList_append_run _ rfl (.tmp 32) (.tmp 33) 48 40 rfl _ _ rfl rfl _ _ HR5.out ?_) | fail)
    go_wp2
    go_ret
    exact HDone.out
  · have he : i + 1 = n := by omega
    have HDone : Hid (RepP w g (i + 1) c (xs.take (i * 2) ++ [.int .i64 z, .slice bo m bc]) (.returned (.slice (some ⟨g, 0, none⟩) (i + 1) c)) w3) := Lib.hid (repP_of o3 r3s (by omega) hcm ht3 k3)
    have hlt2 : ¬ (i : Int) + 1 < (n : Int) := by omega
    clear hr5 hr5' hr3 hw3 o3 k3 hil r3s ht3 hg hv hcs hxs hsrc hne he
    go_enter Try.func36, Try.ntmps36
    go_wp2_with (at_builtin; refine Lib.wpList_append_run _ rfl (.tmp 32) (.tmp 33) 48 40 rfl _ _ rfl rfl _ _ HR5.out ?_)
    go_ret
    exact HDone.out
theorem slice_l2 (g n c l : Nat) (hl : l ≤ n) (hnc : n ≤ c) : ∃ q : Addr, (∀ W, (Instr.slice 48 (.slice (some ⟨g, 0, none⟩) n c) (some (.int .i64 (l : Int))) none none).run Try.prog W = .ok (.slice (some q) (n - l) (c - l)) W) ∧ (q = ⟨g, l * 2, none⟩ ∨ n - l = 0) := by
  obtain ⟨q, h1, h2, _⟩ := sliced_some g c l n 2 hl hnc
  refine ⟨q, fun W => ?_, by rcases h2 with e | e; exact .inl e; exact .inr (by omega)⟩
  rw [run_slice_l (P := Try.prog) (w := W) 48 (some ⟨g, 0, none⟩) n c (by kernel_rfl) .i64 (l : Int) (by omega) (by omega)]
  have hs : (sizeOf (Try.prog.elem 48)).run Try.prog W = .ok 2 W := by kernel_rfl
  rw [hs]
  simp only [Result.andThen, Int.toNat_natCast]
  rw [h1]

set_option maxHeartbeats 4000000 in
/-- Some in the middle replaced by one. -/
theorem replace_mid (g n c i j : Nat) (xs : List Value) (w : World) (cu : Array Value) (hi : i < j) (hj : j < n) (hnc : n ≤ c) (hcm : c ≤ maxLen) (hg : w.heap[g]? = some (.cells cu 43 (0, 0))) (hcs : cu.size = c * 2) (hxs : cu.toList.take (n * 2) = xs) (h1x : ∀ v ∈ xs, v.oneCell' = true) (vb : Nat) (z : Int) (bo : Option Addr) (m bc : Nat)
    (hv : w.heap[vb]? = some (.cells #[.int .i64 z, .slice bo m bc] 43 (0, 0))) (hvg : vb ≠ g) (hn : n ≤ 1099511627776) (tot : Nat) (htot : tot = i + 1 + (n - j)) :
    Calls Try.prog 36 #[.slice (some ⟨g, 0, none⟩) n c, .int .i64 (i : Int), .int .i64 (j : Int), .slice (some ⟨vb, 0, none⟩) 1 1] w (RepP w g tot c (xs.take (i * 2) ++ [.int .i64 z, .slice bo m bc] ++ xs.drop (j * 2))) := by
  obtain ⟨ys, hys⟩ : ∃ ys, ys = xs.take (i * 2) ++ [Value.int .i64 z, Value.slice bo m bc] ++ xs.drop (j * 2) := ⟨_, rfl⟩
  rw [← hys]
  have hxl : xs.length = n * 2 := by rw [← hxs, List.length_take, Array.length_toList, hcs]; omega
  have hdl : (xs.drop (j * 2)).length = (n - j) * 2 := by rw [List.length_drop, hxl]; omega
  have htn : tot ≤ n := by omega
  obtain ⟨r3, hr3⟩ : ∃ r3, r3 = (cu.toList.take (i * 2) ++ [Value.int .i64 z, Value.slice bo m bc] ++ cu.toList.drop (i * 2 + 2)).toArray := ⟨_, rfl⟩
  obtain ⟨wd, hwd⟩ : ∃ wd : World, wd = w.drew := ⟨_, rfl⟩
  have kd : Kept NoB w wd := by rw [hwd]; exact (Kept.refl _ _).drew
  have hgd := kd.obj hg id
  have hvd := kd.obj hv id
  obtain ⟨w3, hw3⟩ : ∃ w3, w3 = wd.setRow g r3 := ⟨_, rfl⟩
  have hmin : Nat.min 1 (tot - i) = 1 := Nat.min_eq_left (by omega)
  have hrA : (Builtin.copy_ #[48, 40] 3 #[.slice (some ⟨g, i * 2, none⟩) (tot - i) (c - i), .slice (some ⟨vb, 0, none⟩) 1 1]).run Try.prog wd = .ok (goInt 1) w3 := by
    have := run_copy_row2 wd 48 40 3 43 g (i * 2) (tot - i) (c - i) ⟨vb, 0, none⟩ 1 1 cu _ [Value.int .i64 z, Value.slice bo m bc] Try.underlying48 infoFp2 hgd (by rw [hmin]; rfl) (fun k v hk => by rw [Addr.add_lit, Nat.zero_add, obj_cell hvd]; simpa using hk) (by simp; omega) (two_one z bo m bc)
    rw [hmin] at this
    rw [hw3, hr3]; exact this
  have o3 : w3.heap[g]? = some (.cells r3 43 (0, 0)) := by rw [hw3]; exact setRow_heap _ _ _ _ _ _ hgd
  have k3 : Kept (OneB g) w w3 := by rw [hw3, hwd]; exact Kept.setRow (S := OneB g) ((Kept.refl _ w).drew) (.inl rfl) _
  have hil : (cu.toList.take (i * 2)).length = i * 2 := by rw [List.length_take, Array.length_toList, hcs]; omega
  have r3s : r3.size = c * 2 := by rw [hr3]; simp only [List.size_toArray, List.length_append, hil, List.length_drop, Array.length_toList, hcs, List.length_cons, List.length_nil]; omega
  have e1 : cu.toList.take (i * 2) = xs.take (i * 2) := by rw [← hxs, List.take_take]; congr 1; omega
  have hal : (xs.take (i * 2) ++ [Value.int .i64 z, Value.slice bo m bc]).length = (i + 1) * 2 := by rw [← e1]; simp only [List.length_append, hil, List.length_cons, List.length_nil]; omega
  have ht3 : r3.toList.take ((i + 1) * 2) = xs.take (i * 2) ++ [.int .i64 z, .slice bo m bc] := by
    rw [hr3, List.toList_toArray, e1, ← hal, List.take_left]
  have hd3 : ∀ k v, (xs.drop (j * 2))[k]? = some v → r3.toList[j * 2 + k]? = some v := fun k v hk => by
    rw [List.getElem?_drop, ← hxs, List.getElem?_take] at hk
    split at hk
    · rw [hr3, List.toList_toArray, List.getElem?_append_right (by simp only [List.length_append, hil, List.length_cons, List.length_nil]; omega), List.getElem?_drop]
      simp only [List.length_append, hil, List.length_cons, List.length_nil]
      rw [show i * 2 + 2 + (j * 2 + k - (i * 2 + (0 + 1 + 1))) = j * 2 + k by omega]
      exact hk
    · cases hk
  have hm2 : Nat.min (n - j) (n - j) = n - j := Nat.min_self _
  obtain ⟨r4, hr4⟩ : ∃ r4, r4 = (r3.toList.take ((i + 1) * 2) ++ xs.drop (j * 2) ++ r3.toList.drop ((i + 1) * 2 + (xs.drop (j * 2)).length)).toArray := ⟨_, rfl⟩
  obtain ⟨w4, hw4⟩ : ∃ w4, w4 = w3.drew.setRow g r4 := ⟨_, rfl⟩
  have hrB : (Builtin.copy_ #[48, 48] 3 #[.slice (some ⟨g, (i + 1) * 2, none⟩) (n - j) (c - (i + 1)), .slice (some ⟨g, j * 2, none⟩) (n - j) (c - j)]).run Try.prog w3.drew = .ok (goInt ((n - j : Nat) : Int)) w4 := by
    have hcc : ∀ (k : Nat) (v : Value), (xs.drop (j * 2))[k]? = some v → w3.drew.cell? ((⟨g, j * 2, none⟩ : Addr).add k) = some v := fun k v hk => by
      rw [Addr.add_lit]
      show w3.cell? ⟨g, j * 2 + k, none⟩ = some v
      rw [obj_cell o3, ← Array.getElem?_toList]
      exact hd3 k v hk
    have := run_copy_row2 w3.drew 48 48 3 43 g ((i + 1) * 2) (n - j) (c - (i + 1)) ⟨g, j * 2, none⟩ (n - j) (c - j) r3 _ (xs.drop (j * 2)) Try.underlying48 infoFp2 o3 (by rw [hm2]; exact hdl) hcc (by rw [hdl, r3s]; omega) (fun v hv => h1x v (List.mem_of_mem_drop hv))
    rw [hm2] at this
    rw [hw4, hr4]; exact this
  have o4 : w4.heap[g]? = some (.cells r4 43 (0, 0)) := by rw [hw4]; exact setRow_heap _ _ _ _ _ _ o3
  have k4 : Kept (OneB g) w3 w4 := by rw [hw4]; exact Kept.setRow (S := OneB g) ((Kept.refl _ w3).drew) (.inl rfl) _
  have r4s : r4.size = c * 2 := by rw [hr4]; simp only [List.size_toArray, List.length_append, List.length_take, List.length_drop, Array.length_toList, r3s, hdl]; omega
  have ht4 : r4.toList.take (tot * 2) = xs.take (i * 2) ++ [.int .i64 z, .slice bo m bc] ++ xs.drop (j * 2) := by
    rw [hr4, List.toList_toArray, ht3]
    have el : (xs.take (i * 2) ++ [Value.int .i64 z, Value.slice bo m bc] ++ xs.drop (j * 2)).length = tot * 2 := by rw [List.length_append, hal, hdl]; omega
    rw [← el, List.take_left]
  obtain ⟨q, hsl, hq⟩ := slice_l2 g n c tot htn hnc
  obtain ⟨r5, w5, hcl, o5, s5, t5, k5⟩ := run_clear2 w4 g tot (n - tot) (c - tot) r4 o4 (by rw [r4s]; omega) q hq
  have HDone : Hid (RepP w g tot c ys (.returned (.slice (some ⟨g, 0, none⟩) tot c)) w5) := Lib.hid (repP_of o5 (by rw [s5, r4s]) (by omega) hcm (by rw [t5, ht4, hys]) ((k3.trans k4).trans k5))
  have hc63 : (c : Int) ≤ 9223372036854775807 := by unfold maxLen at hcm; omega
  have hne : ¬ (i : Int) = (j : Int) := by omega
  have hne2 : ((i : Int) == (j : Int)) = false := by simpa using hne
  have hne3 : ((j : Int) == (n : Int)) = false := by simp; omega
  have hjn : ¬ (j : Int) = (n : Int) := by omega
  have hsum : (i : Int) + 1 + ((n - j : Nat) : Int) = (tot : Int) := by omega
  have hb1 : ¬ (c : Int) < (tot : Int) := by omega
  have hb2 : (i : Int) + 1 ≤ (j : Int) := by omega
  have hb3 : ¬ c = i := by omega
  have hb4 : ¬ c = j := by omega
  have hb5 : ¬ c = i + 1 := by omega
  have hb6 : tot - (i + 1) = n - j := by omega
  have hb7 : (i : Int) + 1 ≤ (tot : Int) := by omega
  have hb8 : (i : Int) ≤ (tot : Int) := by omega
  have hb9 : ((i : Int) + 1).toNat = i + 1 := by omega
  have hw1 : IntKind.i64.wrap ((i : Int) + 1) = (i : Int) + 1 := by rw [IntKind.wrap_i64]; omega
  have HSum := Lib.hid hsum
  have HWd := Lib.hid hwd
  have hin : (i : Int) ≤ (j : Int) := by omega
  have hjn2 : (j : Int) ≤ (n : Int) := by omega
  have htc : (tot : Int) ≤ (c : Int) := by omega
  have htn2 : (tot : Int) ≤ (n : Int) := by omega
  clear hys hxl hdl hr3 hgd hvd hw3 hmin o3 k3 hil r3s e1 hal ht3 hd3 hm2 hr4 hw4 o4 k4 r4s ht4 hq o5 s5 t5 k5 hg hv hcs hxs h1x hsum hwd kd hne hjn htot
  go_enter Try.func36, Try.ntmps36
  go_upto_region 9 with fail
  go_region
  rw [HSum.out, ← HWd.out]
  go_upto_region 18 with fail
  go_region
  go_wp2
  go_ret
  exact HDone.out
theorem replace_any (a : Option Addr) (n c i j : Nat) (qs : List FpQ) (q : FpQ) (w : World) (hn : n = qs.length) (hown : w.ownsRow 0 43 2 (.slice a n c) n (fcells qs)) (hi : i < j) (hj : j ≤ n) (vb : Nat)
    (hv : w.heap[vb]? = some (.cells #[.int .i64 q.1.1, .slice q.2.1 q.1.2.length q.2.2] 43 (0, 0))) (hvg : (Value.slice a n c).ownBlock ≠ some vb) (hnm : n ≤ 1099511627776) :
    ∃ g, a = some ⟨g, 0, none⟩ ∧ Calls Try.prog 36 #[.slice a n c, .int .i64 (i : Int), .int .i64 (j : Int), .slice (some ⟨vb, 0, none⟩) 1 1] w (RepP w g (i + 1 + (n - j)) c (fcells (qs.take i ++ q :: qs.drop j))) := by
  rcases hown.2 with ⟨h1, h2⟩ | ⟨g, cc, cu, h1, _, hg, hnc, hcm, hcs, htk⟩
  · omega
  · simp only [Value.slice.injEq, true_and] at h1
    obtain ⟨rfl, rfl⟩ := h1
    refine ⟨g, rfl, ?_⟩
    have hvg' : vb ≠ g := fun e => hvg (by rw [e]; rfl)
    have e2 : fcells (qs.take i ++ q :: qs.drop j) = (fcells qs).take (i * 2) ++ [.int .i64 q.1.1, .slice q.2.1 q.1.2.length q.2.2] ++ (fcells qs).drop (j * 2) := by
      rw [fcells_take, fcells_drop, fcells_app, fcells_cons]; simp
    rw [e2]
    rcases Nat.lt_or_ge j n with hlt | hge
    · exact replace_mid g n c i j (fcells qs) w cu hi hlt hnc hcm hg hcs htk (fcells_one qs) vb _ _ _ _ hv hvg' hnm _ rfl
    · obtain rfl : j = n := by omega
      have hl := fcells_len qs
      have e3 : (fcells qs).drop (j * 2) = [] := List.drop_eq_nil_of_le (by omega)
      rw [e3, List.append_nil, Nat.sub_self, Nat.add_zero]
      exact replace_end g j c i (fcells qs) w cu hi hnc hcm hg hcs htk vb _ _ _ _ hv hvg' hnm

set_option maxHeartbeats 4000000 in
/-- The last pieces taken away. -/
theorem delete_any (a : Option Addr) (n c i : Nat) (qs : List FpQ) (w : World) (hn : n = qs.length) (hown : w.ownsRow 0 43 2 (.slice a n c) n (fcells qs)) (hi : i ≤ n) (hnm : n ≤ 1099511627776) :
    Calls Try.prog 31 #[.slice a n c, .int .i64 (i : Int), .int .i64 (n : Int)] w fun e w' => e = .returned (.slice a i c) ∧ w'.ownsRow 0 43 2 (.slice a i c) i (fcells (qs.take i)) ∧ Kept (OwnB (.slice a n c)) w w' := by
  have hc : n ≤ c ∧ c ≤ maxLen ∧ (a = none → c = 0) := by
    rcases hown.2 with ⟨h1, h2⟩ | ⟨g, cc, cur, h1, _, _, h2, h3, _⟩
    · simp at h1; exact ⟨by omega, by unfold maxLen; omega, fun _ => h1.2.2⟩
    · simp at h1; obtain ⟨rfl, rfl⟩ := h1; exact ⟨h2, h3, fun e => by cases e⟩
  have hc63 : (c : Int) ≤ 9223372036854775807 := by have := hc.2.1; unfold maxLen at this; omega
  have hnc2 : (n : Int) ≤ (c : Int) := by omega
  have hin : (i : Int) ≤ (n : Int) := by omega
  rcases Nat.lt_or_ge i n with hlt | hge
  · rcases hown.2 with ⟨h1, h2⟩ | ⟨g, cc, cu, h1, _, hg, hnc, hcm, hcs, htk⟩
    · omega
    · simp only [Value.slice.injEq, true_and] at h1
      obtain ⟨rfl, rfl⟩ := h1
      have hne2 : ((i : Int) == (n : Int)) = false := by simp; omega
      obtain ⟨i0, hi0, hz0, hz1, hz2⟩ := info_parts infoFp
      obtain ⟨q, hsl, hq⟩ := slice_l2 g n c n (Nat.le_refl _) hnc
      rw [Nat.sub_self] at hsl
      obtain ⟨wd, hwd⟩ : ∃ wd : World, wd = w.drew := ⟨_, rfl⟩
      have kd : Kept NoB w wd := by rw [hwd]; exact (Kept.refl _ _).drew
      have hgd := kd.obj hg id
      have hsrc : Src Try.prog 2 48 (.slice (some q) 0 (c - n)) 0 [] wd := Src.ofSlice wd Try.underlying48 q 0 (c - n) [] rfl (fun j u hj => by simp at hj) (fun u hu => by cases hu)
      have hr5 := run_app_room (P := Try.prog) (ty := 48) wd 48 48 43 i0 2 Try.underlying48 hi0 hz1 g i c cu 43 hgd _ 0 [] hsrc rfl (fun u hu => by cases hu) (by omega) (by rw [hcs]; simp; omega)
      obtain ⟨r3, hr3⟩ : ∃ r3, r3 = (cu.toList.take (i * 2) ++ [] ++ cu.toList.drop (i * 2 + ([] : List Value).length)).toArray := ⟨_, rfl⟩
      have hr3c : r3 = cu := by rw [hr3]; simp
      obtain ⟨w3, hw3⟩ : ∃ w3, w3 = wd.setRow g r3 := ⟨_, rfl⟩
      rw [← hr3, ← hw3, Nat.add_zero] at hr5
      have o3 : w3.heap[g]? = some (.cells r3 43 (0, 0)) := by rw [hw3]; exact setRow_heap _ _ _ _ _ _ hgd
      have k3 : Kept (OneB g) w w3 := by rw [hw3, hwd]; exact Kept.setRow (S := OneB g) ((Kept.refl _ w).drew) (.inl rfl) _
      obtain ⟨q2, hsl2, hq2⟩ : ∃ q : Addr, (∀ W, (Instr.slice 48 (.slice (some ⟨g, 0, none⟩) i c) (some (.int .i64 (i : Int))) (some (.int .i64 (n : Int))) none).run Try.prog W = .ok (.slice (some q) (n - i) (c - i)) W) ∧ (q = ⟨g, i * 2, none⟩ ∨ n - i = 0) := by
        obtain ⟨q, h1, h2, _⟩ := sliced_some g c i n 2 (by omega) hnc
        refine ⟨q, fun W => ?_, by rcases h2 with e | e; exact .inl e; exact .inr (by omega)⟩
        rw [run_slice_lh (P := Try.prog) (w := W) 48 (some ⟨g, 0, none⟩) i c (by kernel_rfl) .i64 .i64 (i : Int) (n : Int) (by omega) (by omega) (by omega)]
        have hs : (sizeOf (Try.prog.elem 48)).run Try.prog W = .ok 2 W := by kernel_rfl
        rw [hs]
        simp only [Result.andThen, Int.toNat_natCast]
        rw [h1]
      obtain ⟨r4, w4, hcl, o4, s4, t4, k4⟩ := run_clear2 w3 g i (n - i) (c - i) r3 o3 (by rw [hr3c, hcs]; omega) q2 hq2
      have HDone : Hid (w4.ownsRow 0 43 2 (.slice (some ⟨g, 0, none⟩) i c) i (fcells (qs.take i)) ∧ Kept (OwnB (.slice (some ⟨g, 0, none⟩) n c)) w w4) := Lib.hid (by
        refine ⟨⟨?_, .inr ⟨g, c, r4, rfl, Nat.zero_le _, o4, by omega, hcm, by rw [s4, hr3c]; exact hcs, ?_⟩⟩, (k3.trans k4).mono (fun k hk e => by unfold OneB at e; rw [e]; rfl)⟩
        · have := fcells_len (qs.take i); rw [this, List.length_take]; rw [← hn]; congr 1; omega
        · rw [t4, hr3c, ← fcells_take, ← htk, List.take_take]; congr 1; omega)
      have HR5 := Lib.hid hr5
      have HWd := Lib.hid hwd
      have HN := Lib.hid hn
      have hic : (i : Int) ≤ (c : Int) := by omega
      have hi0' : (0 : Int) ≤ (i : Int) := by omega
      have hn0' : (0 : Int) ≤ (n : Int) := by omega
      clear hn hown hg hcs htk hgd kd hsrc hr5 hr3 hr3c hw3 o3 k3 o4 s4 t4 k4 hq hq2 hwd hc
      go_enter Try.func31, Try.ntmps31
      go_upto_region 5 with fail
      rw [HWd.out] at HR5
      go_region_law (refine step_app_known rfl (.tmp 22) (.tmp 25) 48 48 rfl _ _ rfl rfl _ _ HR5.out ?_)
      go_simp
      go_wp2
      go_ret
      exact ⟨rfl, HDone.out⟩
  · obtain rfl : i = n := by omega
    have HDone : Hid (w.ownsRow 0 43 2 (.slice a i c) i (fcells (qs.take i))) := Lib.hid (by rw [List.take_of_length_le (by omega)]; exact hown)
    clear hown hn
    go_enter Try.func31, Try.ntmps31
    go_wp2
    go_ret
    exact ⟨rfl, HDone.out, Kept.refl _ _⟩
end Go.Proofs.Ytjjgadanobeamaa

namespace Go.Proofs.Ytjjgadanobeamaa
set_option linter.unusedVariables false
set_option linter.unusedSimpArgs false

theorem fcells_at2 (qs : List FpQ) (i : Nat) (q : FpQ) (h : qs[i]? = some q) : (fcells qs)[i * 2]? = some (.int .i64 q.1.1) ∧ (fcells qs)[i * 2 + 1]? = some (.slice q.2.1 q.1.2.length q.2.2) := by
  obtain ⟨hi, rfl⟩ := List.getElem?_eq_some_iff.1 h
  exact fcells_at qs i hi
structure Tch (qs : List FpQ) (k : Int) (bs : List UInt8) (QA : List FpQ) (qf : FpQ) (QR QB QY : List FpQ) (ql : FpQ) : Prop where
  all : qs = QA ++ (qf :: QR) ++ QB
  last : qf :: QR = QY ++ [ql]
  ahead : aheadP (qs.map Prod.fst) k = QA.map Prod.fst
  touch : touchP (qs.map Prod.fst) k (k + bs.length) = (qf :: QR).map Prod.fst
  behind : behindP (qs.map Prod.fst) k (k + bs.length) = QB.map Prod.fst
  join : joinP ((qf :: QR).map Prod.fst) k bs = (min qf.1.1 k, qf.1.2.take (k - qf.1.1).toNat ++ bs ++ ql.1.2.drop (k + bs.length - ql.1.1).toNat)
  first : k ≤ endP qf.1 ∧ qf.1.1 ≤ k + bs.length ∧ 0 ≤ qf.1.1 ∧ endP qf.1 ≤ 1099511627776
  lasts : k ≤ endP ql.1 ∧ ql.1.1 ≤ k + bs.length ∧ 0 ≤ ql.1.1 ∧ endP ql.1 ≤ 1099511627776
  rise : QR.Pairwise (fun _ _ => True) ∧ ∀ p ∈ QR, endP qf.1 < p.1.1
theorem map_split {l : List FpQ} {a b : List Fp} (h : l.map Prod.fst = a ++ b) : ∃ x y, l = x ++ y ∧ x.map Prod.fst = a ∧ y.map Prod.fst = b := List.map_eq_append_iff.1 h
theorem tch_of {qs : List FpQ} {k : Int} {bs : List UInt8} (hl : OkD (qs.map Prod.fst)) (ht : touchP (qs.map Prod.fst) k (k + bs.length) ≠ []) : ∃ QA qf QR QB QY ql, Tch qs k bs QA qf QR QB QY ql := by
  have hs := split3 (qs.map Prod.fst) k (k + bs.length)
  obtain ⟨QA, Q2, e1, e2, e3⟩ := map_split hs
  obtain ⟨QM, QB, e4, e5, e6⟩ := map_split e3
  subst e4
  obtain ⟨f, z, r, y, j1, j2, j3⟩ := join_some ht k bs
  have hte := touch_end hl k (k + bs.length)
  cases QM with
  | nil => rw [List.map_nil] at e5; exact absurd e5.symm ht
  | cons qf QR =>
    have hne : qf :: QR ≠ [] := by simp
    have hlast := (List.dropLast_concat_getLast hne).symm
    obtain ⟨QY, ql, hq⟩ : ∃ QY ql, qf :: QR = QY ++ [ql] := ⟨_, _, hlast⟩
    have hf : qf.1 = f := by
      rw [← e5, List.map_cons] at j1
      exact (List.cons.inj j1).1
    have hz : ql.1 = z := by
      rw [← e5, hq, List.map_append, List.map_cons, List.map_nil] at j2
      have := List.append_inj_right' j2 rfl
      exact (List.cons.inj this).1
    have hmem : ∀ p ∈ qf :: QR, p.1 ∈ touchP (qs.map Prod.fst) k (k + bs.length) := fun p hp => by rw [← e5]; exact List.mem_map.2 ⟨p, hp, rfl⟩
    have hql : ql ∈ qf :: QR := by rw [hq]; simp
    have hin : ∀ p ∈ qf :: QR, p.1 ∈ qs.map Prod.fst := fun p hp => List.mem_map.2 ⟨p, by rw [e1]; simp only [List.mem_append]; exact .inr (.inl hp), rfl⟩
    have hok : ∀ p ∈ qf :: QR, 0 ≤ p.1.1 ∧ endP p.1 ≤ 1099511627776 := fun p hp => by
      have := hl.each _ (hin p hp)
      exact ⟨this.1, this.2.2⟩
    refine ⟨QA, qf, QR, QB, QY, ql, ⟨by rw [e1, List.append_assoc], hq, e2.symm, e5.symm, e6.symm, ?_, ?_, ?_, List.pairwise_of_forall (fun _ _ => trivial), ?_⟩⟩
    · rw [e5, j3, hf, hz]
    · have h1 := hte _ (hmem qf (by simp))
      have h2 := hok qf (by simp)
      exact ⟨h1.1, h1.2, h2.1, h2.2⟩
    · have h1 := hte _ (hmem ql hql)
      have h2 := hok ql hql
      exact ⟨h1.1, h1.2, h2.1, h2.2⟩
    · intro p hp
      have h1 := hl.apart
      rw [e1, List.map_append, List.map_append, List.pairwise_append] at h1
      have h2 := h1.2.1
      rw [List.pairwise_append] at h2
      have h3 := h2.1
      rw [List.map_cons, List.pairwise_cons] at h3
      exact h3.1 _ (List.mem_map.2 ⟨p, hp, rfl⟩)
theorem Tch.one {qs : List FpQ} {k : Int} {bs : List UInt8} {QA : List FpQ} {qf : FpQ} {QR QB QY : List FpQ} {ql : FpQ} (h : Tch qs k bs QA qf QR QB QY ql) (hl : OkD (qs.map Prod.fst)) (hs : k + bs.length ≤ endP qf.1) : QR = [] ∧ ql = qf := by
  have hR : QR = [] := by
    cases QR with
    | nil => rfl
    | cons p t =>
      exfalso
      have h1 := h.rise.2 p (by simp)
      have h2 := touch_end hl k (k + bs.length) p.1 (by rw [h.touch]; simp)
      omega
  refine ⟨hR, ?_⟩
  have := h.last
  rw [hR] at this
  have e : QY = [] ∧ [qf] = [ql] := by
    cases QY with
    | nil => exact ⟨rfl, this⟩
    | cons x t =>
      have := congrArg List.length this
      simp at this
  exact (List.cons.inj e.2).1.symm
theorem Tch.far {qs : List FpQ} {k : Int} {bs : List UInt8} {QA : List FpQ} {qf : FpQ} {QR QB QY : List FpQ} {ql : FpQ} (h : Tch qs k bs QA qf QR QB QY ql) (hs : endP qf.1 < endP ql.1) : ql ∈ QR := by
  have hm : ql ∈ qf :: QR := by rw [h.last]; simp
  rcases List.mem_cons.1 hm with e | e
  · subst e; omega
  · exact e
theorem Tch.put {qs : List FpQ} {k : Int} {bs : List UInt8} {QA : List FpQ} {qf : FpQ} {QR QB QY : List FpQ} {ql : FpQ} (h : Tch qs k bs QA qf QR QB QY ql) :
    putP (qs.map Prod.fst) k bs = QA.map Prod.fst ++ (min qf.1.1 k, qf.1.2.take (k - qf.1.1).toNat ++ bs ++ ql.1.2.drop (k + bs.length - ql.1.1).toNat) :: QB.map Prod.fst := by
  unfold putP
  rw [h.ahead, h.touch, h.behind, h.join]
theorem Tch.at {qs : List FpQ} {k : Int} {bs : List UInt8} {QA : List FpQ} {qf : FpQ} {QR QB QY : List FpQ} {ql : FpQ} (h : Tch qs k bs QA qf QR QB QY ql) :
    qs[QA.length]? = some qf ∧ qs[QA.length + QR.length]? = some ql ∧ qs.take QA.length = QA ∧ qs.drop (QA.length + (QR.length + 1)) = QB ∧ QA.length + (QR.length + 1) ≤ qs.length := by
  refine ⟨?_, ?_, ?_, ?_, ?_⟩
  · rw [h.all, List.append_assoc, List.getElem?_append_right (Nat.le_refl _), Nat.sub_self]; rfl
  · have hy : QY.length = QR.length := by have := congrArg List.length h.last; simp at this; omega
    rw [h.all, h.last, List.append_assoc, List.getElem?_append_right (by omega), List.append_assoc, List.getElem?_append_right (by omega)]
    rw [show QA.length + QR.length - QA.length - QY.length = 0 by omega]; rfl
  · rw [h.all, List.append_assoc, List.take_left]
  · have e : QA.length + (QR.length + 1) = (QA ++ qf :: QR).length := by simp
    rw [e, h.all, List.drop_left]
  · rw [h.all]; simp
end Go.Proofs.Ytjjgadanobeamaa
