/-
  A tree of files that a call has made for itself; what the document fixes (awake).
-/
import Derived.Test.YtilndmmjdbhmgaaAwP
import Derived.Lib.SlBytesConst
namespace Go.Proofs.Ytilndmmjdbhmgaa
open Go.RowKit
set_option linter.unusedVariables false
set_option linter.unusedSimpArgs false
set_option maxRecDepth 20000

theorem keep_on {S : Nat → Prop} {a b c : World} (h : Kept NoB a b) (k : Kept S b c) (hs : ∀ i, i < a.heap.size → S i → False) : Kept NoB a c :=
  ⟨k.os.trans h.os, k.tape.trans h.tape, k.output.trans h.output, Nat.le_trans h.size k.size, fun i hi _ => (k.block i (Nat.lt_of_lt_of_le hi h.size) (hs i hi)).trans (h.block i hi id)⟩
/-- The blocks of W that w lacks. -/
def NewB (w W : World) : Nat → Prop := fun k => w.heap.size ≤ k ∧ k < W.heap.size
/-- A tree that was made since w. -/
structure FsOwn (w W : World) (f : Nat) (T : FsP) : Prop where
  st : FsSt (NewB w W) W f T
  keep : Kept NoB w W
theorem FsOwn.made {w W : World} {f : Nat} {T : FsP} (h : FsSt (Grow NoB w W) W f T) (hk : Kept NoB w W) : FsOwn w W f T :=
  ⟨h.mono (fun k e => by rcases e with e | e; exact e.elim; exact e), hk⟩
theorem FsOwn.kept {w W W' : World} {f : Nat} {T : FsP} (h : FsOwn w W f T) (hk : Kept NoB W W') : FsOwn w W' f T :=
  ⟨(h.st.keptNo hk).mono (fun k e => ⟨e.1, Nat.lt_of_lt_of_le e.2 hk.size⟩), h.keep.trans hk⟩
theorem FsOwn.step {w W W' : World} {f : Nat} {T T' : FsP} (h : FsOwn w W f T) (hs : FsSt (Grow (NewB w W) W W') W' f T') (hk : Kept (NewB w W) W W') : FsOwn w W' f T' :=
  ⟨hs.mono (fun k e => by
    have h1 := hk.size
    have h2 := h.keep.size
    rcases e with e | e
    · exact ⟨e.1, Nat.lt_of_lt_of_le e.2 h1⟩
    · exact ⟨by omega, e.2⟩), keep_on h.keep hk (fun i hi e => by have := e.1; omega)⟩
theorem FsOwn.lt {w W : World} {f : Nat} {T : FsP} (h : FsOwn w W f T) : f < W.heap.size := by
  obtain ⟨L, B, mb, h1⟩ := h.st
  exact obj_lt h1.obj
theorem reads_made (W : World) (bs : List UInt8) (cs : Array Value) (fr : Nat × Nat) (hcs : cs = (bc bs).toArray) : Reads (W.alloc (.cells cs 5 fr)) (some ⟨W.heap.size, 0, none⟩) (nb bs) :=
  lit_reads (nb bs) (heap_alloc_new W (.cells cs 5 fr)) (by rw [hcs, bc_nb])
/-- 'make([]byte, n)'. -/
theorem wpList_make_bytes (w : World) {ops : Array Oper} {rest : List Oper} {o : Oper} {a : Act} {Q : Exit → Act → World → Prop}
    (hg : o.guard = none) (l c : Operand) (hop : o.op = Op.makeSlice 29 l c) (n : Nat) (hl : a.eval l = .int .i64 (n : Int)) (hc : a.eval c = .int .i64 (n : Int)) (hm : n ≤ 1048576)
    (hK : ∀ w', w'.heap[w.heap.size]? = some (.cells (bc (List.replicate n 0)).toArray 5 (0, 0)) → Kept NoB w w' → wpList Try.prog ops Q rest (a.put o.dst (.slice (some ⟨w.heap.size, 0, none⟩) n n)) w') :
    wpList Try.prog ops Q (o :: rest) a w := by
  obtain ⟨i0, hi, hz0, hz1, hz2⟩ := info_parts info5
  refine wpList_plain hg fun K hK' => ?_
  have hr := run_make (P := Try.prog) w 29 5 i0 (.int .u8 0) Try.underlying29 hi hz0 .i64 .i64 n n (by omega) (by omega) (by rw [hz2]; omega) (by omega)
  simp only [Int.toNat_natCast] at hr
  unfold Oper.wp
  simp only [execOp, hop, hl, hc, hr, Sem.run_bind, Sem.run_pure, Result.andThen_ok]
  refine hK' _ _ (hK _ ?_ ((Kept.refl _ _).alloc _))
  refine (heap_alloc_new _ _).trans (congrArg (fun c => some (Obj.cells c 5 (0, 0))) ?_)
  apply Array.ext'
  rw [hz1, bc, List.map_replicate, List.toArray_replicate]
  have e : (madeCells #[Value.int .u8 0] (n * 1)).toList = List.replicate n (.int .u8 0) := by
    rw [List.eq_replicate_iff]
    refine ⟨by simp [madeCells], ?_⟩
    intro x hx
    simp only [madeCells, Array.toList_map, List.mem_map] at hx
    obtain ⟨i, _, rfl⟩ := hx
    rw [show i % (#[Value.int .u8 0] : Array Value).size = 0 from Nat.mod_one i]
    rfl
  exact e
set_option maxHeartbeats 2000000 in
theorem awake_any (w : World) : Calls Try.prog 9 #[] w fun e w' => e = .returned (.bool true) ∧ Kept NoB w w' := by
  have kc := fun (w : World) (C : Array Value) (n c : Nat) => Lib.run_convert_bytes_const (P := Try.prog) w 29 5 C n c Try.underlying29 Try.underlying5
  have HNew := Lib.hid (fun W => new_any 10 W (by decide))
  go_enter Try.func9, Try.ntmps9
  go_wp2_with fail
  refine (HNew.out w).mono ?_
  rintro e w1 ⟨f, rfl, hf1, hk1⟩
  have F1 := Lib.hid (FsOwn.made hf1 hk1)
  clear hf1 hk1 HNew
  have HMk : Hid (Calls Try.prog 14 #[.pointer (some ⟨f, 0, none⟩), .int .i64 1, .string { data := #[102] }, .agg #[.int .i64 1, .int .i64 0, .int .i64 0, .int .i64 0, .int .i64 0, .string { data := #[] }, .int .i64 0, .int .i64 0, .int .i64 0, .int .i64 0, .int .i64 0]] w1 fun e w' =>
      e = .returned (.tuple #[.int .i64 2, .int .i64 0]) ∧ Hid (FsOwn w w' f aw1)) := Lib.hid (by
    have := make_any F1.out.st 1 (by decide) [102] (by decide) fileV (by decide) (by rw [aw_clock.1]; decide)
    refine Calls.mono this ?_
    rintro e w' ⟨rfl, h1, h2⟩
    refine ⟨by rw [aw_make], Lib.hid (F1.out.step h1 h2)⟩)
  go_wp2_with fail
  refine HMk.out.mono ?_
  rintro e w2 ⟨rfl, F2⟩
  clear HMk
  have HW1 : Hid (∀ W, W = w2.alloc (.cells #[.int .u8 97, .int .u8 98, .int .u8 99] 5 (3, 4)) → Calls Try.prog 19 #[.pointer (some ⟨f, 0, none⟩), .int .i64 2, .int .i64 10, .slice (some ⟨w2.heap.size, 0, none⟩) 3 3] W fun e w' =>
      e = .returned (.int .i64 0) ∧ Hid (FsOwn w w' f aw2)) := Lib.hid (fun W hW => by
    have F := F2.out.kept (W' := W) (by rw [hW]; exact (Kept.refl _ _).alloc _)
    have G : FsSt (NewB w w2) W f aw1 := F2.out.st.keptNo (by rw [hW]; exact (Kept.refl _ _).alloc _)
    have := write_any G 2 (by decide) 10 (by decide) [97, 98, 99] (some ⟨w2.heap.size, 0, none⟩) 3 (by rw [hW]; exact reads_made w2 [97, 98, 99] _ _ rfl) (by decide) (by decide) (by decide) (fun _ x hx e => by cases hx; have := e.2; dsimp only at this; omega) (by rw [aw_clock.2.1]; decide) (by rw [aw_quota.1]; decide) aw_put1
    refine Calls.mono this ?_
    rintro e w' ⟨rfl, h1, h2⟩
    refine ⟨by rw [aw_write1], Lib.hid (F.step (h1.mono (fun k e => ?_)) (h2.mono (fun k _ e => ?_)))⟩
    · rcases e with e | e
      · exact .inl ⟨e.1, by rw [hW]; simp; have := e.2; omega⟩
      · exact .inr e
    · exact ⟨e.1, by rw [hW]; simp; have := e.2; omega⟩)
  go_wp2_with fail
  refine (HW1.out _ rfl).mono ?_
  rintro e w3 ⟨rfl, F3⟩
  clear HW1
  have HW2 : Hid (∀ W, W.heap[w3.heap.size]? = some (.cells (bc (List.replicate 9 0)).toArray 5 (0, 0)) → Kept NoB w3 W → Calls Try.prog 19 #[.pointer (some ⟨f, 0, none⟩), .int .i64 2, .int .i64 0, .slice (some ⟨w3.heap.size, 0, none⟩) 9 9] W fun e w' =>
      e = .returned (.int .i64 5) ∧ Hid (FsOwn w w' f aw3)) := Lib.hid (fun W hW hkW => by
    have F := F3.out.kept hkW
    have G : FsSt (NewB w w3) W f aw2 := F3.out.st.keptNo hkW
    have hsz := hkW.size
    have := write_any G 2 (by decide) 0 (by decide) (List.replicate 9 0) (some ⟨w3.heap.size, 0, none⟩) 9 (lit_reads _ hW (by rw [bc_nb])) (by decide) (by decide) (by decide) (fun _ x hx e => by cases hx; have := e.2; dsimp only at this; omega) (by rw [aw_clock.2.2]; decide) (by rw [aw_quota.2]; decide) aw_put2
    refine Calls.mono this ?_
    rintro e w' ⟨rfl, h1, h2⟩
    refine ⟨by rw [aw_write2], Lib.hid (F.step (h1.mono (fun k e => ?_)) (h2.mono (fun k _ e => ?_)))⟩
    · rcases e with e | e
      · exact .inl ⟨e.1, by have := e.2; omega⟩
      · exact .inr e
    · exact ⟨e.1, by have := e.2; omega⟩)
  go_wp2_with (refine wpList_make_bytes _ rfl (.const (.int .i64 9)) (.const (.int .i64 9)) rfl 9 rfl rfl (by omega) ?_; intro w4 hz4 hk4)
  refine (HW2.out _ hz4 hk4).mono ?_
  rintro e w5 ⟨rfl, F5⟩
  clear HW2 hz4 hk4
  have HFd : Hid (Calls Try.prog 23 #[.pointer (some ⟨f, 0, none⟩), .int .i64 2, .string { data := #[120] }] w5 fun e w' => e = .returned (.tuple #[.int .i64 0, .int .i64 12]) ∧ Kept NoB w5 w') := Lib.hid (by
    have := find_any F5.out.st 2 (by decide) [120] (by decide)
    rw [aw_find] at this
    exact this)
  go_wp2_with fail
  refine HFd.out.mono ?_
  rintro e w6 ⟨rfl, hk6⟩
  have F6 := Lib.hid (F5.out.kept hk6)
  clear hk6 HFd
  obtain ⟨v, hv⟩ : ∃ v, v = (statP aw3 2).1 := ⟨_, rfl⟩
  have hv13 : v.size = 13 := by rw [hv]; exact aw_stat.2
  have HSt : Hid (Calls Try.prog 13 #[.pointer (some ⟨f, 0, none⟩), .int .i64 2] w6 fun e w' => e = .returned (.tuple #[.agg (nvC v).toArray, .int .i64 0]) ∧ Kept NoB w6 w') := Lib.hid (by
    have := stat_any F6.out.st 2 (by decide)
    rw [aw_stat.1, ← hv] at this
    exact this)
  clear hv
  go_wp2_with fail
  refine HSt.out.mono ?_
  rintro e w7 ⟨rfl, hk7⟩
  have F7 := Lib.hid (F6.out.kept hk7)
  clear hk7 HSt
  have HOne := Lib.hid (nv_one v)
  have HRt : Hid (∀ W, Calls Try.prog 24 #[.pointer (some ⟨f, 0, none⟩)] W fun e w' => e = .returned (.int .i64 1) ∧ w' = W) := Lib.hid (fun W => root_any f W)
  have HUs : Hid (∀ W, Kept NoB w7 W → Calls Try.prog 11 #[.pointer (some ⟨f, 0, none⟩)] W fun e w' => e = .returned (.int .i64 10) ∧ w' = W) := Lib.hid (fun W hW => by
    have := used_any (F7.out.kept hW).st
    rw [aw_used] at this
    exact this)
  have C8 : ∀ o : Obj, o = .cells (nvC zeroNV).toArray 28 (0, 0) → ((w7.alloc o).setRow w7.heap.size (nvC v).toArray).cell? ⟨w7.heap.size, 8, none⟩ = some (.int .i64 13) := fun o ho => by
    rw [ho, cell_of_row _ _ _ _ _ (0, 0) (setRow_heap _ _ _ _ _ _ (heap_alloc_new _ _))]
    rw [← hv13]; rfl
  have C8' : ((w7.alloc (.cells #[.int .i64 0, .int .i64 0, .int .i64 0, .int .i64 0, .int .i64 0, .string { data := #[] }, .int .i64 0, .int .i64 0, .int .i64 0, .int .i64 0, .int .i64 0] 28)).setRow w7.heap.size (nvC v).toArray).cell? ⟨w7.heap.size, 8, none⟩ = some (.int .i64 13) := C8 _ rfl
  clear C8
  go_wp2_with (first | (refine wpList_store_row rfl 28 (.tmp 8) (.tmp 38) rfl w7.heap.size (nvC v).toArray rfl rfl _ _ (heap_alloc_new _ _) infoNd rfl HOne.out ?_) | (go_at_call 24; refine (HRt.out _).mono ?_; rintro e w8 ⟨rfl, rfl⟩) | (go_at_call 11; refine (HUs.out _ (((Kept.refl NoB w7).alloc _).setRow (.inr (Nat.le_refl _)) _)).mono ?_; rintro e w8 ⟨rfl, rfl⟩))
  go_ret
  exact ⟨rfl, F7.out.keep.trans (((Kept.refl NoB w7).alloc _).setRow (.inr (Nat.le_refl _)) _)⟩
end Go.Proofs.Ytilndmmjdbhmgaa
