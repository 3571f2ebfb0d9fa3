/-
  append onto an own row that is there already, of as many elements as one likes, also of none; one element taken out of a row.
  A text's bytes, two digits each.
  Rows of pieces: slices.Replace of some by one; slices.Delete of the last ones.
-/
import Derived.Test.YtjjgadanobeamaaGreatDoorMt17
namespace Go.Proofs.YtjjgadanobeamaaGreatDoor
open Go.RowKit
set_option linter.unusedVariables false
set_option linter.unusedSimpArgs false
set_option maxRecDepth 20000

theorem run_app_src0 {P : Program} (w : World) (t tx ty e : TypeId) (i : TypeInfo) (z : Value) (size bytes : Nat) (ht : P.underlying t = some (.slice e)) (hi : P.info? e = some i) (hz : i.zero = some z)
    (hsize : i.size = size) (hby : i.bytes = bytes) (hzs : z.cells.size = size) (hsz : 0 < size) (g n c : Nat) (xs : List Value) (hown : w.ownsRow 0 e size (.slice (some ⟨g, 0, none⟩) n c) n xs)
    (x : Value) (m : Nat) (news : List Value) (hsrc : Src P size tx x m news w) (hl : news.length = m * size) (h1 : ∀ u ∈ news, u.oneCell' = true)
    (h63 : n + m ≤ maxLen) (hbytes : (n + m) * bytes ≤ 140737488355328) :
    ∃ v' w', (Builtin.append_ #[t, tx] ty #[.slice (some ⟨g, 0, none⟩) n c, x]).run P w = .ok v' w' ∧ w'.ownsRow 0 e size v' (n + m) (xs ++ news) ∧ w.grownBy w' (some g) ∧
      ∃ g' c', v' = .slice (some ⟨g', 0, none⟩) (n + m) c' ∧ (g' = g ∨ w.heap.size ≤ g') := by
  rcases Nat.eq_zero_or_pos m with hm | hm
  · subst hm
    have hnews : news = [] := List.eq_nil_of_length_eq_zero (by omega)
    subst hnews
    rcases hown.2 with ⟨h, _⟩ | ⟨g', c', cur, hv, hbg, hg, hnc, hcm, hcs, htake⟩
    · cases h
    · simp only [Value.slice.injEq, Option.some.injEq, Addr.mk.injEq, and_true, true_and] at hv
      obtain ⟨rfl, rfl⟩ := hv
      have hroom : n + 0 ≤ c := by omega
      have hlen : (xs ++ []).length = (n + 0) * size := by rw [List.append_nil, hown.1]; simp
      have hst := run_storeCells_at P g (n * size) e [] 0 cur w hg (by simp [hcs]; exact Nat.mul_le_mul_right _ hnc) (fun u hu => by cases hu)
      simp only [Nat.add_zero] at hst
      obtain ⟨row, hrow⟩ : ∃ row, row = (cur.toList.take (n * size) ++ [] ++ cur.toList.drop (n * size + ([] : List Value).length)).toArray := ⟨_, rfl⟩
      have hrun : (Builtin.append_ #[t, tx] ty #[.slice (some ⟨g, 0, none⟩) n c, x]).run P w = .ok (.slice (some ⟨g, 0, none⟩) (n + 0) c) (w.setRow g row) := by
        rw [← hrow] at hst
        have h2 := hsrc.cells
        have h3 := hsrc.len
        rcases hsrc.kind with ⟨e', hk⟩ | hk <;> simp [Builtin.append_, run_underlying ht, run_underlying hk, sizeOf, typeInfo, hi, h3, hnc, hsize, h2, Addr.add_lit, hst]
      have hrs : row.size = c * size := by
        rw [hrow]
        simp only [List.size_toArray, List.length_append, List.length_take, List.length_drop, Array.length_toList, List.length_nil]
        have := Nat.mul_le_mul_right size hnc
        omega
      have hrt : row.toList.take ((n + 0) * size) = xs ++ [] := by
        rw [hrow, List.toList_toArray, htake, ← hlen, List.append_assoc]
        simp
      exact ⟨_, _, hrun, ⟨hlen, .inr ⟨g, c, row, rfl, hbg, setRow_heap w g cur _ _ _ hg, hroom, hcm, hrs, hrt⟩⟩, ⟨rfl, rfl, rfl, by simp, fun k hk hne => setRow_other w g k _ (fun e => by subst e; exact hne rfl)⟩, g, c, rfl, .inl rfl⟩
  · obtain ⟨v', w', a1, a2, a3, a4⟩ := run_app_src w t tx ty e i z size bytes ht hi hz hsize hby hzs hsz _ n xs hown x m news hsrc hl h1 hm h63 hbytes
    rcases a2.2 with ⟨rfl, h0⟩ | ⟨g', c', cur, rfl, _⟩
    · omega
    · refine ⟨_, w', a1, a2, a3, g', c', rfl, ?_⟩
      rcases a4 g' rfl with e | e
      · exact .inl (by simpa [Value.ownBlock] using e.symm)
      · exact .inr e
theorem sliced_some (g c l h s : Nat) (hl : l ≤ h) (hc : h ≤ c) : ∃ q, sliced (some ⟨g, 0, none⟩) l h c s = .slice (some q) (h - l) (c - l) ∧ (q = ⟨g, l * s, none⟩ ∨ h = l) ∧ q.block = g := by
  by_cases hcl : c = l
  · refine ⟨⟨g, 0, none⟩, ?_, .inr (by omega), rfl⟩
    unfold sliced
    rw [if_pos hcl]
  · refine ⟨⟨g, l * s, none⟩, ?_, .inl rfl, rfl⟩
    unfold sliced
    rw [if_neg hcl]
    rw [Option.map_some, Addr.add_lit, Nat.zero_add]
theorem kept_on2 {S S' : Nat → Prop} {a b c : World} (h : Kept S a b) (k : Kept S' b c) (hs : ∀ i, i < a.heap.size → S' i → S i) : Kept S a c :=
  ⟨k.os.trans h.os, k.tape.trans h.tape, k.output.trans h.output, Nat.le_trans h.size k.size, fun i hi hne => (k.block i (Nat.lt_of_lt_of_le hi h.size) (fun e => hne (hs i hi e))).trans (h.block i hi hne)⟩
theorem step_app_known {ops : Array Oper} {o : Oper} {a : Act} {w : World} {K : Act → World → Prop} {Q : Exit → Act → World → Prop} {E : Prop} (hg : o.guard = none) (s x : Operand) (t t' : TypeId) (hop : o.op = Op.call { callee := Callee.builtin Builtin.append, args := #[s, x], argTypes := #[t, t'] })
    (vx vy : Value) (hs : a.eval s = vx) (hx : a.eval x = vy) (v : Value) (w' : World) (hr : (Builtin.append_ #[t, t'] o.type #[vx, vy]).run Tryz.prog w = .ok v w') (hK : K (a.put o.dst v) w') :
    if Region.wanted o (yielded ops a.tmps) = true then Oper.wp Tryz.prog o a w K Q else E := by
  have hw : Region.wanted o (yielded ops a.tmps) = true := by simp [Region.wanted, hg]
  rw [if_pos hw]
  unfold Oper.wp execOp
  simp only [hop, resolve, invoke, builtin, Sem.run_bind, Sem.run_pure, Result.andThen_ok, List.map_toArray, List.map_cons, List.map_nil, hs, hx, hr]
  exact hK
end Go.Proofs.YtjjgadanobeamaaGreatDoor

namespace Go.Proofs.YtjjgadanobeamaaGreatDoor
open Go.RowKit Go.Shelf
set_option linter.unusedVariables false
set_option linter.unusedSimpArgs false
set_option maxRecDepth 20000

structure HxSt (w0 w : World) (a : Option Addr) (l c : Nat) (L : List UInt8) : Prop where
  len : l = L.length
  own : w.ownsRow 0 5 1 (.slice a l c) l (bc L)
  kept : Kept NoB w0 w
  fresh : ∀ k, (Value.slice a l c).ownBlock = some k → w0.heap.size ≤ k
theorem HxSt.on {w0 w w' : World} {a : Option Addr} {l c : Nat} {L : List UInt8} (h : HxSt w0 w a l c L) (hk : Kept NoB w w') : HxSt w0 w' a l c L := ⟨h.len, hk.row h.own (fun _ _ h => h), h.kept.trans hk, h.fresh⟩
theorem HxSt.of {w0 w w' : World} {a a2 : Option Addr} {l c l2 c2 : Nat} {L M : List UInt8} (h : HxSt w0 w a l c L) (ho : w'.ownsRow 0 5 1 (.slice a2 l2 c2) l2 (bc M)) (hl : l2 = M.length) (hk : Kept (OwnB (Value.slice a l c)) w w') (hn : ∀ k, (Value.slice a2 l2 c2).ownBlock = some k → (Value.slice a l c).ownBlock = some k ∨ w.heap.size ≤ k) : HxSt w0 w' a2 l2 c2 M := by
  have hk0 := h.kept
  refine ⟨hl, ho, ⟨hk.os.trans hk0.os, hk.tape.trans hk0.tape, hk.output.trans hk0.output, Nat.le_trans hk0.size hk.size, fun i hi _ => (hk.block i (Nat.lt_of_lt_of_le hi hk0.size) (fun q => by have := h.fresh i q; omega)).trans (hk0.block i hi id)⟩, fun k e => ?_⟩
  rcases hn k e with q | q
  · exact h.fresh k q
  · have := hk0.size; omega
theorem HxSt.reads {w0 w : World} {a : Option Addr} {l c : Nat} {L : List UInt8} (h : HxSt w0 w a l c L) : Reads w a (nb L) := by
  have ho := h.own
  have hl := h.len
  subst hl
  refine own_reads (n := L.length) (cap := c) ?_ (nb_len L).symm
  rw [nb_len]
  have e : (nb L).map (Value.int .u8) = bc L := (bc_nb L).symm
  rw [e]; exact ho
theorem wpList_make_byc (w : World) {ops : Array Oper} {rest : List Oper} {o : Oper} {a : Act} {Q : Exit → Act → World → Prop}
    (hg : o.guard = none) (l c : Operand) (hop : o.op = Op.makeSlice 26 l c) (m : Nat) (hl : a.eval l = .int .i64 0) (hc : a.eval c = .int .i64 (m : Int)) (hm : m ≤ 4000000)
    (hK : ∀ w', HxSt w w' (some ⟨w.heap.size, 0, none⟩) 0 m [] → wpList Tryz.prog ops Q rest (a.put o.dst (.slice (some ⟨w.heap.size, 0, none⟩) 0 m)) w') :
    wpList Tryz.prog ops Q (o :: rest) a w := by
  obtain ⟨i0, hi, hz0, hz1, hz2⟩ := info_parts info5
  refine wpList_plain hg fun K hK' => ?_
  have hr := run_make (P := Tryz.prog) w 26 5 i0 (.int .u8 0) Tryz.underlying26 hi hz0 .i64 .i64 0 m (by omega) (by omega) (by rw [hz2]; omega) (by omega)
  simp only [Int.toNat_natCast] at hr
  unfold Oper.wp
  simp only [execOp, hop, hl, hc, hr, Sem.run_bind, Sem.run_pure, Result.andThen_ok]
  refine hK' _ _ (hK _ ⟨rfl, ⟨rfl, .inr ⟨w.heap.size, m, _, rfl, Nat.zero_le _, heap_alloc_new w _, Nat.zero_le _, by unfold maxLen; omega, ?_, rfl⟩⟩, (Kept.refl _ _).alloc _, fun k hk => by simp [Value.ownBlock] at hk; omega⟩)
  rw [size_madeCells, hz1]
theorem nbs_str (L : List UInt8) : strOfNums (nb L) = strB L := by
  unfold strOfNums strB nb
  rw [List.map_map]
  have : ((fun n : Int => UInt8.ofNat n.toNat) ∘ fun b : UInt8 => (b.toNat : Int)) = id := by funext b; simp
  rw [this, List.map_id]
theorem hex_at (y : Nat) (hy : y < 16) (W : World) : (Instr.index 9 (.string { data := #[48, 49, 50, 51, 52, 53, 54, 55, 56, 57, 97, 98, 99, 100, 101, 102] }) (.int .u8 (y : Int))).run Tryz.prog W = .ok (.int .u8 ((hexD y).toNat : Int)) W := by
  rcases (show y = 0 ∨ y = 1 ∨ y = 2 ∨ y = 3 ∨ y = 4 ∨ y = 5 ∨ y = 6 ∨ y = 7 ∨ y = 8 ∨ y = 9 ∨ y = 10 ∨ y = 11 ∨ y = 12 ∨ y = 13 ∨ y = 14 ∨ y = 15 by omega) with h | h | h | h | h | h | h | h | h | h | h | h | h | h | h | h <;> subst h <;> kernel_rfl
theorem and15 (x : Nat) (hx : x < 256) : bits .and .u8 (x : Int) 15 = ((x % 16 : Nat) : Int) := by
  have h : ∀ x : Fin 256, bits .and .u8 ((x.val : Nat) : Int) 15 = ((x.val % 16 : Nat) : Int) := by decide +kernel
  exact h ⟨x, hx⟩
set_option maxHeartbeats 4000000 in
theorem hexed_any (s : List UInt8) (w : World) (hs : s.length ≤ 1000000) :
    Calls Tryz.prog 42 #[.string (strB s)] w fun e w' => e = .returned (.string (strB (hexB s))) ∧ Kept NoB w w' := by
  obtain ⟨S, hS⟩ : ∃ S, S = strB s := ⟨_, rfl⟩
  rw [← hS]
  have hsz : S.size = s.length := by rw [hS, strB_size]
  have hnb : S.size ≤ 1000000 := by omega
  have HS := Lib.hid hS; have HSz := Lib.hid hsz
  clear hS hsz hs
  obtain ⟨m, hm⟩ : ∃ m, m = 2 * S.size := ⟨_, rfl⟩
  have HMw : Hid (2 * (S.size : Int) = (m : Int)) := Lib.hid (by omega)
  have hmb : m ≤ 4000000 := by omega
  clear hm
  go_enter Tryz.func42, Tryz.ntmps42
  go_upto_region 2 with (first | (refine wpList_make_byc _ rfl _ _ rfl m rfl (congrArg (Value.int .i64) HMw.out) hmb ?_; intro w1 h1) | fail)
  have H1 := Lib.hid h1
  clear h1 HMw hmb
  obtain ⟨X, hX⟩ : ∃ X, X = w.heap.size := ⟨_, rfl⟩
  rw [← hX] at H1 ⊢
  clear hX
  go_upto_region 3 with fail
  go_loopw [3, 4, 11] (fun v3 v4 v11 wr => ∃ (i : Nat) (a' : Option Addr) (l' c' : Nat), v3 = .slice a' l' c' ∧ v11 = .int .i64 (i : Int) ∧ i ≤ S.size ∧ Hid (HxSt w wr a' l' c' (hexB (s.take i)))) (fun _ _ v11 _ => S.size - (intOf v11).toNat)
  case atStart => exact ⟨0, _, 0, m, rfl, rfl, by omega, H1⟩
  case round =>
    obtain ⟨i, a', l', c', rfl, rfl, hi, HR⟩ := hrel
    clear H1
    by_cases hlt : (i : Int) < (S.size : Int)
    · have hin : i < s.length := by have := HSz.out; omega
      obtain ⟨b, hb⟩ : ∃ b, b = s[i] := ⟨_, rfl⟩
      have HSn : Hid (hexB (s.take (i + 1)) = hexB (s.take i) ++ [hexD (b.toNat / 16), hexD (b.toNat % 16)]) := Lib.hid (by rw [hb]; exact hexB_snoc s i hin)
      have hbx : b.toNat < 256 := UInt8.toNat_lt b
      obtain ⟨x, hx⟩ : ∃ x, x = b.toNat := ⟨_, rfl⟩
      rw [← hx] at HSn hbx
      have hSi : ∀ W, (Instr.index 9 (.string S) (.int .i64 (i : Int))).run Tryz.prog W = .ok (.int .u8 (x : Int)) W := fun W => by
        have hsat : ((S[i]'(by omega)).toNat : Int) = (x : Int) := by
          have hs := HS.out
          subst hs
          show (((⟨s.toArray⟩ : ByteArray).data[i]'(by simpa using hin)).toNat : Int) = _
          rw [hx, hb]; simp
        rw [run_index_string W _ _ _ _ Tryz.underlying9, dif_pos ⟨by omega, by omega⟩, ← hsat]
        rfl
      have hA := and15 x hbx
      obtain ⟨y, hy⟩ : ∃ y, y = x % 16 := ⟨_, rfl⟩
      obtain ⟨z, hz⟩ : ∃ z, z = x / 16 := ⟨_, rfl⟩
      have hsh : (x : Int) / 16 = (z : Int) := by omega
      rw [← hy, ← hz] at HSn
      rw [← hy] at hA
      have h2 := hex_at y (by omega)
      have h1 := hex_at z (by omega)
      obtain ⟨d1, hd1⟩ : ∃ d, d = hexD z := ⟨_, rfl⟩
      obtain ⟨d2, hd2⟩ : ∃ d, d = hexD y := ⟨_, rfl⟩
      rw [← hd1] at h1 HSn
      rw [← hd2] at h2 HSn
      clear hd1 hd2
      obtain ⟨wA, hwA⟩ : ∃ wA, wA = (wr.drew).alloc (.cells #[.int .u8 (d1.toNat : Int), .int .u8 (d2.toNat : Int)] 5) := ⟨_, rfl⟩
      have HA := Lib.hid (HR.out.on (show Kept NoB wr wA by rw [hwA]; exact ((Kept.refl NoB wr).drew).alloc _))
      have hlb : l' ≤ 3000000 := by
        have q1 := HR.out.len
        have q2 := hexB_len (s.take i)
        have q3 := List.length_take_le i s
        omega
      obtain ⟨i0, hi0, hz0, hz1, hz2⟩ := info_parts info5
      obtain ⟨v', w', hr, ho, hg, hn⟩ := run_app (P := Tryz.prog) wA 5 26 26 i0 (.int .u8 0) 1 1 Tryz.underlying26 hi0 hz0 hz1 hz2 rfl (by decide) _ l' (bc (hexB (s.take i))) HA.out.own ⟨wr.heap.size, 0, none⟩ 2 2 [.int .u8 (d1.toNat : Int), .int .u8 (d2.toNat : Int)] rfl (by
        intro j u hu
        rw [addr_add, Nat.zero_add, hwA, cell_new (w := wr.drew) (k := wr.heap.size) j rfl]
        match j with
        | 0 => simpa using hu
        | 1 => simpa using hu
        | j + 2 => simp at hu) (by intro u hu; simp at hu; rcases hu with rfl | rfl <;> rfl) (by unfold maxLen; omega) (by omega)
      obtain ⟨a2, c2, rfl⟩ := row_shape ho
      rw [hwA] at hr
      have HS2 : Hid (HxSt w w' a2 (l' + 2) c2 (hexB (s.take (i + 1)))) := Lib.hid (by
        rw [HSn.out]
        refine HA.out.of (by unfold bc at ho ⊢; rw [List.map_append]; exact ho) ?_ ((Kept.refl _ wA).grown hg (fun k _ e => e)) hn
        have := HA.out.len
        simp; omega)
      clear hy hz hx hb hin hwA HA ho hg hn HR HSn hlb hi0 hz0 hz1 hz2
      go_upto_region 5 with fail
      go_region_law (refine step_app_known rfl (.tmp 14) (.tmp 25) 26 26 rfl _ _ rfl rfl _ _ hr ?_)
      all_goals go_simp
      all_goals go_wp2
      all_goals go_roundw
      all_goals first
        | exact ⟨i + 1, a2, l' + 2, c2, rfl, by go_num, by omega, HS2⟩
        | (simp only [intOf]; omega)
    · have he : s.take i = s := List.take_of_length_le (by have := HSz.out; omega)
      rw [he] at HR
      have HCv : Hid (∀ W, Kept NoB wr W → (convert 26 9 (.slice a' l' c')).run Tryz.prog W = .ok (.string (strOfNums (nb (hexB s)))) W) := Lib.hid (fun W hW => conv_reads (HR.out.on hW).reads (by rw [nb_len]; exact HR.out.len) (own_nil HR.out.own))
      have hcv := HCv.out wr (Kept.refl _ _)
      clear he
      go_wp2
      go_ret
      refine ⟨?_, HR.out.kept⟩
      show Ending.returned (Value.string (strOfNums (nb (hexB s)))) = _
      rw [nbs_str]
end Go.Proofs.YtjjgadanobeamaaGreatDoor

namespace Go.Proofs.YtjjgadanobeamaaGreatDoor
open Go.RowKit
set_option linter.unusedVariables false
set_option linter.unusedSimpArgs false
set_option maxRecDepth 20000

theorem run_app_room {P : Program} {ty : TypeId} (w : World) (t tx e : TypeId) (i : TypeInfo) (size : Nat) (ht : P.underlying t = some (.slice e)) (hi : P.info? e = some i) (hsize : i.size = size) (g n c : Nat) (cur : Array Value) (te : TypeId)
    (hg : w.heap[g]? = some (.cells cur te (0, 0))) (x : Value) (m : Nat) (news : List Value) (hsrc : Src P size tx x m news w) (hl : news.length = m * size) (h1 : ∀ u ∈ news, u.oneCell' = true) (hroom : n + m ≤ c) (hfit : n * size + news.length ≤ cur.size) :
    (Builtin.append_ #[t, tx] ty #[.slice (some ⟨g, 0, none⟩) n c, x]).run P w = .ok (.slice (some ⟨g, 0, none⟩) (n + m) c) (w.setRow g (cur.toList.take (n * size) ++ news ++ cur.toList.drop (n * size + news.length)).toArray) := by
  have hst := run_storeCells_at P g (n * size) te news 0 cur w hg (by simpa using hfit) h1
  simp only [Nat.add_zero] at hst
  have h2 := hsrc.cells
  have h3 := hsrc.len
  rcases hsrc.kind with ⟨e', hk⟩ | hk <;> simp [Builtin.append_, run_underlying ht, run_underlying hk, sizeOf, typeInfo, hi, h3, hroom, hsize, h2, Addr.add_lit, hst]
theorem zeroFp (w : World) : (zeroValue 69).run Tryz.prog w = .ok (.agg #[.int .i64 0, .slice none 0 0]) w := by kernel_rfl
theorem zc_one (n : Nat) : ∀ v ∈ (Builtin.zeroCells (Value.agg #[.int .i64 0, .slice none 0 0]).cells n).toList, v.oneCell' = true := by
  intro v hv
  simp only [Builtin.zeroCells, Array.toList_map, List.mem_map] at hv
  obtain ⟨i, _, rfl⟩ := hv
  have : i % 2 = 0 ∨ i % 2 = 1 := by omega
  rcases this with e | e <;> simp [Value.cells, e] <;> rfl
theorem run_clear2 (w : World) (g o m c : Nat) (cur : Array Value) (hg : w.heap[g]? = some (.cells cur 69 (0, 0))) (hfit : (o + m) * 2 ≤ cur.size) (q : Addr) (hq : q = ⟨g, o * 2, none⟩ ∨ m = 0) :
    ∃ (cur' : Array Value) (w' : World), (∀ ty, (Builtin.clear_ #[46] ty #[.slice (some q) m c]).run Tryz.prog w = .ok (.tuple #[]) w') ∧ w'.heap[g]? = some (.cells cur' 69 (0, 0)) ∧ cur'.size = cur.size ∧ cur'.toList.take (o * 2) = cur.toList.take (o * 2) ∧ Kept (OneB g) w w' := by
  rcases Nat.eq_zero_or_pos m with hm | hm
  · subst hm
    refine ⟨cur, w, fun ty => ?_, hg, rfl, rfl, Kept.refl _ _⟩
    simp [Builtin.clear_, run_underlying Tryz.underlying46]
  · rcases hq with rfl | h0
    · have hzs : (Builtin.zeroCells (Value.agg #[.int .i64 0, .slice none 0 0]).cells m).toList.length = m * 2 := by
        rw [Array.length_toList, size_zeroCells]; rfl
      have hst := run_storeCells_at Tryz.prog g (o * 2) 69 (Builtin.zeroCells (Value.agg #[.int .i64 0, .slice none 0 0]).cells m).toList 0 cur w hg (by rw [hzs]; omega) (zc_one m)
      simp only [Nat.add_zero] at hst
      obtain ⟨r, hr⟩ : ∃ r, r = (cur.toList.take (o * 2) ++ (Builtin.zeroCells (Value.agg #[.int .i64 0, .slice none 0 0]).cells m).toList ++ cur.toList.drop (o * 2 + (Builtin.zeroCells (Value.agg #[.int .i64 0, .slice none 0 0]).cells m).toList.length)).toArray := ⟨_, rfl⟩
      rw [← hr] at hst
      have hol : (cur.toList.take (o * 2)).length = o * 2 := by rw [List.length_take, Array.length_toList]; omega
      refine ⟨r, w.setRow g r, fun ty => ?_, setRow_heap _ _ _ _ _ _ hg, ?_, ?_, Kept.setRow (S := OneB g) (Kept.refl _ w) (.inl rfl) _⟩
      · obtain ⟨k, rfl⟩ : ∃ k, m = k + 1 := ⟨m - 1, by omega⟩
        simp [Builtin.clear_, run_underlying Tryz.underlying46, zeroFp, hst]
      · rw [hr]
        simp only [List.size_toArray, List.length_append, hzs, List.length_take, List.length_drop, Array.length_toList]
        omega
      · rw [hr, List.toList_toArray, List.append_assoc]
        exact List.take_left' hol
    · omega
def RepP (w : World) (g n c : Nat) (xs : List Value) (e : Ending) (w' : World) : Prop :=
  e = .returned (.slice (some ⟨g, 0, none⟩) n c) ∧ w'.ownsRow 0 69 2 (.slice (some ⟨g, 0, none⟩) n c) n xs ∧ Kept (OneB g) w w'
theorem repP_of {w w' : World} {g n c : Nat} {xs : List Value} {cur : Array Value} (hg : w'.heap[g]? = some (.cells cur 69 (0, 0))) (hs : cur.size = c * 2) (hnc : n ≤ c) (hcm : c ≤ maxLen) (hx : cur.toList.take (n * 2) = xs) (hk : Kept (OneB g) w w') : RepP w g n c xs (.returned (.slice (some ⟨g, 0, none⟩) n c)) w' := by
  refine ⟨rfl, ⟨?_, .inr ⟨g, c, cur, rfl, Nat.zero_le _, hg, hnc, hcm, hs, hx⟩⟩, hk⟩
  rw [← hx, List.length_take, Array.length_toList, hs]; omega

set_option maxHeartbeats 4000000 in
/-- The last ones replaced by one. -/
theorem replace_end (g n c i : Nat) (xs : List Value) (w : World) (cu : Array Value) (hi : i < n) (hnc : n ≤ c) (hcm : c ≤ maxLen) (hg : w.heap[g]? = some (.cells cu 69 (0, 0))) (hcs : cu.size = c * 2) (hxs : cu.toList.take (n * 2) = xs) (vb : Nat) (z : Int) (bo : Option Addr) (m bc : Nat)
    (hv : w.heap[vb]? = some (.cells #[.int .i64 z, .slice bo m bc] 69 (0, 0))) (hvg : vb ≠ g) (hn : n ≤ 1099511627776) :
    Calls Tryz.prog 38 #[.slice (some ⟨g, 0, none⟩) n c, .int .i64 (i : Int), .int .i64 (n : Int), .slice (some ⟨vb, 0, none⟩) 1 1] w (RepP w g (i + 1) c (xs.take (i * 2) ++ [.int .i64 z, .slice bo m bc])) := by
  obtain ⟨i0, hi0, hz0, hz1, hz2⟩ := info_parts infoFp
  have hsrc : Src Tryz.prog 2 45 (.slice (some ⟨vb, 0, none⟩) 1 1) 1 [.int .i64 z, .slice bo m bc] w := Src.ofSlice w Tryz.underlying45 ⟨vb, 0, none⟩ 1 1 _ rfl (fun j u hj => by rw [Addr.add_lit, Nat.zero_add, obj_cell hv]; simpa using hj) (two_one z bo m bc)
  have hr5 := run_app_room (P := Tryz.prog) (ty := 46) w 46 45 69 i0 2 Tryz.underlying46 hi0 hz1 g i c cu 69 hg _ 1 _ hsrc rfl (two_one z bo m bc) (by omega) (by rw [hcs]; simp; omega)
  obtain ⟨r3, hr3⟩ : ∃ r3, r3 = (cu.toList.take (i * 2) ++ [Value.int .i64 z, Value.slice bo m bc] ++ cu.toList.drop (i * 2 + 2)).toArray := ⟨_, rfl⟩
  obtain ⟨w3, hw3⟩ : ∃ w3, w3 = w.setRow g r3 := ⟨_, rfl⟩
  have hr5' : (Builtin.append_ #[46, 45] 46 #[.slice (some ⟨g, 0, none⟩) i c, .slice (some ⟨vb, 0, none⟩) 1 1]).run Tryz.prog w = .ok (.slice (some ⟨g, 0, none⟩) (i + 1) c) w3 := by rw [hw3, hr3]; exact hr5
  have o3 : w3.heap[g]? = some (.cells r3 69 (0, 0)) := by rw [hw3]; exact setRow_heap _ _ _ _ _ _ hg
  have k3 : Kept (OneB g) w w3 := by rw [hw3]; exact Kept.setRow (S := OneB g) (Kept.refl _ w) (.inl rfl) _
  have hil : (cu.toList.take (i * 2)).length = i * 2 := by rw [List.length_take, Array.length_toList, hcs]; omega
  have r3s : r3.size = c * 2 := by rw [hr3]; simp only [List.size_toArray, List.length_append, hil, List.length_drop, Array.length_toList, hcs, List.length_cons, List.length_nil]; omega
  have ht3 : r3.toList.take ((i + 1) * 2) = xs.take (i * 2) ++ [.int .i64 z, .slice bo m bc] := by
    have e1 : cu.toList.take (i * 2) = xs.take (i * 2) := by rw [← hxs, List.take_take]; congr 1; omega
    rw [hr3, List.toList_toArray, e1]
    have el : (xs.take (i * 2) ++ [Value.int .i64 z, Value.slice bo m bc]).length = (i + 1) * 2 := by rw [← e1]; simp only [List.length_append, hil, List.length_cons, List.length_nil]; omega
    rw [← el, List.take_left]
  have hc63 : (c : Int) ≤ 9223372036854775807 := by unfold maxLen at hcm; omega
  have hne : ¬ (i : Int) = (n : Int) := by omega
  have hne2 : ((i : Int) == (n : Int)) = false := by simpa using hne
  have HR5 := Lib.hid hr5'
  have hin : (i : Int) ≤ (n : Int) := by omega
  have hnc2 : (n : Int) ≤ (c : Int) := by omega
  by_cases hlt : i + 1 < n
  · obtain ⟨q, hsl, hq⟩ : ∃ q : Addr, (∀ W, (Instr.slice 46 (.slice (some ⟨g, 0, none⟩) n c) (some (.int .i64 ((i : Int) + 1))) none none).run Tryz.prog W = .ok (.slice (some q) (n - (i + 1)) (c - (i + 1))) W) ∧ (q = ⟨g, (i + 1) * 2, none⟩ ∨ n - (i + 1) = 0) := by
      obtain ⟨q, h1, h2, _⟩ := sliced_some g c (i + 1) n 2 (by omega) hnc
      refine ⟨q, fun W => ?_, by rcases h2 with e | e; exact .inl e; exact .inr (by omega)⟩
      rw [run_slice_l (P := Tryz.prog) (w := W) 46 (some ⟨g, 0, none⟩) n c (by kernel_rfl) .i64 ((i : Int) + 1) (by omega) (by omega)]
      have hs : (sizeOf (Tryz.prog.elem 46)).run Tryz.prog W = .ok 2 W := by kernel_rfl
      rw [hs]
      simp only [Result.andThen]
      rw [show ((i : Int) + 1).toNat = i + 1 by omega, h1]
    obtain ⟨r4, w4, hcl, o4, s4, t4, k4⟩ := run_clear2 w3 g (i + 1) (n - (i + 1)) (c - (i + 1)) r3 o3 (by rw [r3s]; omega) q hq
    have HDone : Hid (RepP w g (i + 1) c (xs.take (i * 2) ++ [.int .i64 z, .slice bo m bc]) (.returned (.slice (some ⟨g, 0, none⟩) (i + 1) c)) w4) := Lib.hid (repP_of o4 (by rw [s4, r3s]) (by omega) hcm (by rw [t4, ht3]) (k3.trans k4))
    have hlt2 : (i : Int) + 1 < (n : Int) := by omega
    clear hr5 hr5' hr3 hw3 o3 k3 hil r3s ht3 o4 s4 t4 k4 hq hg hv hcs hxs hsrc hne
    go_enter Tryz.func38, Tryz.ntmps38
    go_upto_region 7 with (first | (at_builtin; refine Lib.wpList_append_run _ rfl (.tmp 32) (.tmp 33) 46 45 rfl _ _ rfl rfl _ _ HR5.out ?_) | fail)
    go_wp2
    go_ret
    exact HDone.out
  · have he : i + 1 = n := by omega
    have HDone : Hid (RepP w g (i + 1) c (xs.take (i * 2) ++ [.int .i64 z, .slice bo m bc]) (.returned (.slice (some ⟨g, 0, none⟩) (i + 1) c)) w3) := Lib.hid (repP_of o3 r3s (by omega) hcm ht3 k3)
    have hlt2 : ¬ (i : Int) + 1 < (n : Int) := by omega
    clear hr5 hr5' hr3 hw3 o3 k3 hil r3s ht3 hg hv hcs hxs hsrc hne he
    go_enter Tryz.func38, Tryz.ntmps38
    go_wp2_with (at_builtin; refine Lib.wpList_append_run _ rfl (.tmp 32) (.tmp 33) 46 45 rfl _ _ rfl rfl _ _ HR5.out ?_)
    go_ret
    exact HDone.out
theorem slice_l2 (g n c l : Nat) (hl : l ≤ n) (hnc : n ≤ c) : ∃ q : Addr, (∀ W, (Instr.slice 46 (.slice (some ⟨g, 0, none⟩) n c) (some (.int .i64 (l : Int))) none none).run Tryz.prog W = .ok (.slice (some q) (n - l) (c - l)) W) ∧ (q = ⟨g, l * 2, none⟩ ∨ n - l = 0) := by
  obtain ⟨q, h1, h2, _⟩ := sliced_some g c l n 2 hl hnc
  refine ⟨q, fun W => ?_, by rcases h2 with e | e; exact .inl e; exact .inr (by omega)⟩
  rw [run_slice_l (P := Tryz.prog) (w := W) 46 (some ⟨g, 0, none⟩) n c (by kernel_rfl) .i64 (l : Int) (by omega) (by omega)]
  have hs : (sizeOf (Tryz.prog.elem 46)).run Tryz.prog W = .ok 2 W := by kernel_rfl
  rw [hs]
  simp only [Result.andThen, Int.toNat_natCast]
  rw [h1]

set_option maxHeartbeats 4000000 in
/-- Some in the middle replaced by one. -/
theorem replace_mid (g n c i j : Nat) (xs : List Value) (w : World) (cu : Array Value) (hi : i < j) (hj : j < n) (hnc : n ≤ c) (hcm : c ≤ maxLen) (hg : w.heap[g]? = some (.cells cu 69 (0, 0))) (hcs : cu.size = c * 2) (hxs : cu.toList.take (n * 2) = xs) (h1x : ∀ v ∈ xs, v.oneCell' = true) (vb : Nat) (z : Int) (bo : Option Addr) (m bc : Nat)
    (hv : w.heap[vb]? = some (.cells #[.int .i64 z, .slice bo m bc] 69 (0, 0))) (hvg : vb ≠ g) (hn : n ≤ 1099511627776) (tot : Nat) (htot : tot = i + 1 + (n - j)) :
    Calls Tryz.prog 38 #[.slice (some ⟨g, 0, none⟩) n c, .int .i64 (i : Int), .int .i64 (j : Int), .slice (some ⟨vb, 0, none⟩) 1 1] w (RepP w g tot c (xs.take (i * 2) ++ [.int .i64 z, .slice bo m bc] ++ xs.drop (j * 2))) := by
  obtain ⟨ys, hys⟩ : ∃ ys, ys = xs.take (i * 2) ++ [Value.int .i64 z, Value.slice bo m bc] ++ xs.drop (j * 2) := ⟨_, rfl⟩
  rw [← hys]
  have hxl : xs.length = n * 2 := by rw [← hxs, List.length_take, Array.length_toList, hcs]; omega
  have hdl : (xs.drop (j * 2)).length = (n - j) * 2 := by rw [List.length_drop, hxl]; omega
  have htn : tot ≤ n := by omega
  obtain ⟨r3, hr3⟩ : ∃ r3, r3 = (cu.toList.take (i * 2) ++ [Value.int .i64 z, Value.slice bo m bc] ++ cu.toList.drop (i * 2 + 2)).toArray := ⟨_, rfl⟩
  obtain ⟨wd, hwd⟩ : ∃ wd : World, wd = w.drew := ⟨_, rfl⟩
  have kd : Kept NoB w wd := by rw [hwd]; exact (Kept.refl _ _).drew
  have hgd := kd.obj hg id
  have hvd := kd.obj hv id
  obtain ⟨w3, hw3⟩ : ∃ w3, w3 = wd.setRow g r3 := ⟨_, rfl⟩
  have hmin : Nat.min 1 (tot - i) = 1 := Nat.min_eq_left (by omega)
  have hrA : (Builtin.copy_ #[46, 45] 3 #[.slice (some ⟨g, i * 2, none⟩) (tot - i) (c - i), .slice (some ⟨vb, 0, none⟩) 1 1]).run Tryz.prog wd = .ok (goInt 1) w3 := by
    have := run_copy_row2 wd 46 45 3 69 g (i * 2) (tot - i) (c - i) ⟨vb, 0, none⟩ 1 1 cu _ [Value.int .i64 z, Value.slice bo m bc] Tryz.underlying46 infoFp2 hgd (by rw [hmin]; rfl) (fun k v hk => by rw [Addr.add_lit, Nat.zero_add, obj_cell hvd]; simpa using hk) (by simp; omega) (two_one z bo m bc)
    rw [hmin] at this
    rw [hw3, hr3]; exact this
  have o3 : w3.heap[g]? = some (.cells r3 69 (0, 0)) := by rw [hw3]; exact setRow_heap _ _ _ _ _ _ hgd
  have k3 : Kept (OneB g) w w3 := by rw [hw3, hwd]; exact Kept.setRow (S := OneB g) ((Kept.refl _ w).drew) (.inl rfl) _
  have hil : (cu.toList.take (i * 2)).length = i * 2 := by rw [List.length_take, Array.length_toList, hcs]; omega
  have r3s : r3.size = c * 2 := by rw [hr3]; simp only [List.size_toArray, List.length_append, hil, List.length_drop, Array.length_toList, hcs, List.length_cons, List.length_nil]; omega
  have e1 : cu.toList.take (i * 2) = xs.take (i * 2) := by rw [← hxs, List.take_take]; congr 1; omega
  have hal : (xs.take (i * 2) ++ [Value.int .i64 z, Value.slice bo m bc]).length = (i + 1) * 2 := by rw [← e1]; simp only [List.length_append, hil, List.length_cons, List.length_nil]; omega
  have ht3 : r3.toList.take ((i + 1) * 2) = xs.take (i * 2) ++ [.int .i64 z, .slice bo m bc] := by
    rw [hr3, List.toList_toArray, e1, ← hal, List.take_left]
  have hd3 : ∀ k v, (xs.drop (j * 2))[k]? = some v → r3.toList[j * 2 + k]? = some v := fun k v hk => by
    rw [List.getElem?_drop, ← hxs, List.getElem?_take] at hk
    split at hk
    · rw [hr3, List.toList_toArray, List.getElem?_append_right (by simp only [List.length_append, hil, List.length_cons, List.length_nil]; omega), List.getElem?_drop]
      simp only [List.length_append, hil, List.length_cons, List.length_nil]
      rw [show i * 2 + 2 + (j * 2 + k - (i * 2 + (0 + 1 + 1))) = j * 2 + k by omega]
      exact hk
    · cases hk
  have hm2 : Nat.min (n - j) (n - j) = n - j := Nat.min_self _
  obtain ⟨r4, hr4⟩ : ∃ r4, r4 = (r3.toList.take ((i + 1) * 2) ++ xs.drop (j * 2) ++ r3.toList.drop ((i + 1) * 2 + (xs.drop (j * 2)).length)).toArray := ⟨_, rfl⟩
  obtain ⟨w4, hw4⟩ : ∃ w4, w4 = w3.drew.setRow g r4 := ⟨_, rfl⟩
  have hrB : (Builtin.copy_ #[46, 46] 3 #[.slice (some ⟨g, (i + 1) * 2, none⟩) (n - j) (c - (i + 1)), .slice (some ⟨g, j * 2, none⟩) (n - j) (c - j)]).run Tryz.prog w3.drew = .ok (goInt ((n - j : Nat) : Int)) w4 := by
    have hcc : ∀ (k : Nat) (v : Value), (xs.drop (j * 2))[k]? = some v → w3.drew.cell? ((⟨g, j * 2, none⟩ : Addr).add k) = some v := fun k v hk => by
      rw [Addr.add_lit]
      show w3.cell? ⟨g, j * 2 + k, none⟩ = some v
      rw [obj_cell o3, ← Array.getElem?_toList]
      exact hd3 k v hk
    have := run_copy_row2 w3.drew 46 46 3 69 g ((i + 1) * 2) (n - j) (c - (i + 1)) ⟨g, j * 2, none⟩ (n - j) (c - j) r3 _ (xs.drop (j * 2)) Tryz.underlying46 infoFp2 o3 (by rw [hm2]; exact hdl) hcc (by rw [hdl, r3s]; omega) (fun v hv => h1x v (List.mem_of_mem_drop hv))
    rw [hm2] at this
    rw [hw4, hr4]; exact this
  have o4 : w4.heap[g]? = some (.cells r4 69 (0, 0)) := by rw [hw4]; exact setRow_heap _ _ _ _ _ _ o3
  have k4 : Kept (OneB g) w3 w4 := by rw [hw4]; exact Kept.setRow (S := OneB g) ((Kept.refl _ w3).drew) (.inl rfl) _
  have r4s : r4.size = c * 2 := by rw [hr4]; simp only [List.size_toArray, List.length_append, List.length_take, List.length_drop, Array.length_toList, r3s, hdl]; omega
  have ht4 : r4.toList.take (tot * 2) = xs.take (i * 2) ++ [.int .i64 z, .slice bo m bc] ++ xs.drop (j * 2) := by
    rw [hr4, List.toList_toArray, ht3]
    have el : (xs.take (i * 2) ++ [Value.int .i64 z, Value.slice bo m bc] ++ xs.drop (j * 2)).length = tot * 2 := by rw [List.length_append, hal, hdl]; omega
    rw [← el, List.take_left]
  obtain ⟨q, hsl, hq⟩ := slice_l2 g n c tot htn hnc
  obtain ⟨r5, w5, hcl, o5, s5, t5, k5⟩ := run_clear2 w4 g tot (n - tot) (c - tot) r4 o4 (by rw [r4s]; omega) q hq
  have HDone : Hid (RepP w g tot c ys (.returned (.slice (some ⟨g, 0, none⟩) tot c)) w5) := Lib.hid (repP_of o5 (by rw [s5, r4s]) (by omega) hcm (by rw [t5, ht4, hys]) ((k3.trans k4).trans k5))
  have hc63 : (c : Int) ≤ 9223372036854775807 := by unfold maxLen at hcm; omega
  have hne : ¬ (i : Int) = (j : Int) := by omega
  have hne2 : ((i : Int) == (j : Int)) = false := by simpa using hne
  have hne3 : ((j : Int) == (n : Int)) = false := by simp; omega
  have hjn : ¬ (j : Int) = (n : Int) := by omega
  have hsum : (i : Int) + 1 + ((n - j : Nat) : Int) = (tot : Int) := by omega
  have hb1 : ¬ (c : Int) < (tot : Int) := by omega
  have hb2 : (i : Int) + 1 ≤ (j : Int) := by omega
  have hb3 : ¬ c = i := by omega
  have hb4 : ¬ c = j := by omega
  have hb5 : ¬ c = i + 1 := by omega
  have hb6 : tot - (i + 1) = n - j := by omega
  have hb7 : (i : Int) + 1 ≤ (tot : Int) := by omega
  have hb8 : (i : Int) ≤ (tot : Int) := by omega
  have hb9 : ((i : Int) + 1).toNat = i + 1 := by omega
  have hw1 : IntKind.i64.wrap ((i : Int) + 1) = (i : Int) + 1 := by rw [IntKind.wrap_i64]; omega
  have HSum := Lib.hid hsum
  have HWd := Lib.hid hwd
  have hin : (i : Int) ≤ (j : Int) := by omega
  have hjn2 : (j : Int) ≤ (n : Int) := by omega
  have htc : (tot : Int) ≤ (c : Int) := by omega
  have htn2 : (tot : Int) ≤ (n : Int) := by omega
  clear hys hxl hdl hr3 hgd hvd hw3 hmin o3 k3 hil r3s e1 hal ht3 hd3 hm2 hr4 hw4 o4 k4 r4s ht4 hq o5 s5 t5 k5 hg hv hcs hxs h1x hsum hwd kd hne hjn htot
  go_enter Tryz.func38, Tryz.ntmps38
  go_upto_region 9 with fail
  go_region
  rw [HSum.out, ← HWd.out]
  go_upto_region 18 with fail
  go_region
  go_wp2
  go_ret
  exact HDone.out
theorem replace_any (a : Option Addr) (n c i j : Nat) (qs : List FpQ) (q : FpQ) (w : World) (hn : n = qs.length) (hown : w.ownsRow 0 69 2 (.slice a n c) n (fcells qs)) (hi : i < j) (hj : j ≤ n) (vb : Nat)
    (hv : w.heap[vb]? = some (.cells #[.int .i64 q.1.1, .slice q.2.1 q.1.2.length q.2.2] 69 (0, 0))) (hvg : (Value.slice a n c).ownBlock ≠ some vb) (hnm : n ≤ 1099511627776) :
    ∃ g, a = some ⟨g, 0, none⟩ ∧ Calls Tryz.prog 38 #[.slice a n c, .int .i64 (i : Int), .int .i64 (j : Int), .slice (some ⟨vb, 0, none⟩) 1 1] w (RepP w g (i + 1 + (n - j)) c (fcells (qs.take i ++ q :: qs.drop j))) := by
  rcases hown.2 with ⟨h1, h2⟩ | ⟨g, cc, cu, h1, _, hg, hnc, hcm, hcs, htk⟩
  · omega
  · simp only [Value.slice.injEq, true_and] at h1
    obtain ⟨rfl, rfl⟩ := h1
    refine ⟨g, rfl, ?_⟩
    have hvg' : vb ≠ g := fun e => hvg (by rw [e]; rfl)
    have e2 : fcells (qs.take i ++ q :: qs.drop j) = (fcells qs).take (i * 2) ++ [.int .i64 q.1.1, .slice q.2.1 q.1.2.length q.2.2] ++ (fcells qs).drop (j * 2) := by
      rw [fcells_take, fcells_drop, fcells_app, fcells_cons]; simp
    rw [e2]
    rcases Nat.lt_or_ge j n with hlt | hge
    · exact replace_mid g n c i j (fcells qs) w cu hi hlt hnc hcm hg hcs htk (fcells_one qs) vb _ _ _ _ hv hvg' hnm _ rfl
    · obtain rfl : j = n := by omega
      have hl := fcells_len qs
      have e3 : (fcells qs).drop (j * 2) = [] := List.drop_eq_nil_of_le (by omega)
      rw [e3, List.append_nil, Nat.sub_self, Nat.add_zero]
      exact replace_end g j c i (fcells qs) w cu hi hnc hcm hg hcs htk vb _ _ _ _ hv hvg' hnm

set_option maxHeartbeats 4000000 in
/-- The last pieces taken away. -/
theorem delete_any (a : Option Addr) (n c i : Nat) (qs : List FpQ) (w : World) (hn : n = qs.length) (hown : w.ownsRow 0 69 2 (.slice a n c) n (fcells qs)) (hi : i ≤ n) (hnm : n ≤ 1099511627776) :
    Calls Tryz.prog 33 #[.slice a n c, .int .i64 (i : Int), .int .i64 (n : Int)] w fun e w' => e = .returned (.slice a i c) ∧ w'.ownsRow 0 69 2 (.slice a i c) i (fcells (qs.take i)) ∧ Kept (OwnB (.slice a n c)) w w' := by
  have hc : n ≤ c ∧ c ≤ maxLen ∧ (a = none → c = 0) := by
    rcases hown.2 with ⟨h1, h2⟩ | ⟨g, cc, cur, h1, _, _, h2, h3, _⟩
    · simp at h1; exact ⟨by omega, by unfold maxLen; omega, fun _ => h1.2.2⟩
    · simp at h1; obtain ⟨rfl, rfl⟩ := h1; exact ⟨h2, h3, fun e => by cases e⟩
  have hc63 : (c : Int) ≤ 9223372036854775807 := by have := hc.2.1; unfold maxLen at this; omega
  have hnc2 : (n : Int) ≤ (c : Int) := by omega
  have hin : (i : Int) ≤ (n : Int) := by omega
  rcases Nat.lt_or_ge i n with hlt | hge
  · rcases hown.2 with ⟨h1, h2⟩ | ⟨g, cc, cu, h1, _, hg, hnc, hcm, hcs, htk⟩
    · omega
    · simp only [Value.slice.injEq, true_and] at h1
      obtain ⟨rfl, rfl⟩ := h1
      have hne2 : ((i : Int) == (n : Int)) = false := by simp; omega
      obtain ⟨i0, hi0, hz0, hz1, hz2⟩ := info_parts infoFp
      obtain ⟨q, hsl, hq⟩ := slice_l2 g n c n (Nat.le_refl _) hnc
      rw [Nat.sub_self] at hsl
      obtain ⟨wd, hwd⟩ : ∃ wd : World, wd = w.drew := ⟨_, rfl⟩
      have kd : Kept NoB w wd := by rw [hwd]; exact (Kept.refl _ _).drew
      have hgd := kd.obj hg id
      have hsrc : Src Tryz.prog 2 46 (.slice (some q) 0 (c - n)) 0 [] wd := Src.ofSlice wd Tryz.underlying46 q 0 (c - n) [] rfl (fun j u hj => by simp at hj) (fun u hu => by cases hu)
      have hr5 := run_app_room (P := Tryz.prog) (ty := 46) wd 46 46 69 i0 2 Tryz.underlying46 hi0 hz1 g i c cu 69 hgd _ 0 [] hsrc rfl (fun u hu => by cases hu) (by omega) (by rw [hcs]; simp; omega)
      obtain ⟨r3, hr3⟩ : ∃ r3, r3 = (cu.toList.take (i * 2) ++ [] ++ cu.toList.drop (i * 2 + ([] : List Value).length)).toArray := ⟨_, rfl⟩
      have hr3c : r3 = cu := by rw [hr3]; simp
      obtain ⟨w3, hw3⟩ : ∃ w3, w3 = wd.setRow g r3 := ⟨_, rfl⟩
      rw [← hr3, ← hw3, Nat.add_zero] at hr5
      have o3 : w3.heap[g]? = some (.cells r3 69 (0, 0)) := by rw [hw3]; exact setRow_heap _ _ _ _ _ _ hgd
      have k3 : Kept (OneB g) w w3 := by rw [hw3, hwd]; exact Kept.setRow (S := OneB g) ((Kept.refl _ w).drew) (.inl rfl) _
      obtain ⟨q2, hsl2, hq2⟩ : ∃ q : Addr, (∀ W, (Instr.slice 46 (.slice (some ⟨g, 0, none⟩) i c) (some (.int .i64 (i : Int))) (some (.int .i64 (n : Int))) none).run Tryz.prog W = .ok (.slice (some q) (n - i) (c - i)) W) ∧ (q = ⟨g, i * 2, none⟩ ∨ n - i = 0) := by
        obtain ⟨q, h1, h2, _⟩ := sliced_some g c i n 2 (by omega) hnc
        refine ⟨q, fun W => ?_, by rcases h2 with e | e; exact .inl e; exact .inr (by omega)⟩
        rw [run_slice_lh (P := Tryz.prog) (w := W) 46 (some ⟨g, 0, none⟩) i c (by kernel_rfl) .i64 .i64 (i : Int) (n : Int) (by omega) (by omega) (by omega)]
        have hs : (sizeOf (Tryz.prog.elem 46)).run Tryz.prog W = .ok 2 W := by kernel_rfl
        rw [hs]
        simp only [Result.andThen, Int.toNat_natCast]
        rw [h1]
      obtain ⟨r4, w4, hcl, o4, s4, t4, k4⟩ := run_clear2 w3 g i (n - i) (c - i) r3 o3 (by rw [hr3c, hcs]; omega) q2 hq2
      have HDone : Hid (w4.ownsRow 0 69 2 (.slice (some ⟨g, 0, none⟩) i c) i (fcells (qs.take i)) ∧ Kept (OwnB (.slice (some ⟨g, 0, none⟩) n c)) w w4) := Lib.hid (by
        refine ⟨⟨?_, .inr ⟨g, c, r4, rfl, Nat.zero_le _, o4, by omega, hcm, by rw [s4, hr3c]; exact hcs, ?_⟩⟩, (k3.trans k4).mono (fun k hk e => by unfold OneB at e; rw [e]; rfl)⟩
        · have := fcells_len (qs.take i); rw [this, List.length_take]; rw [← hn]; congr 1; omega
        · rw [t4, hr3c, ← fcells_take, ← htk, List.take_take]; congr 1; omega)
      have HR5 := Lib.hid hr5
      have HWd := Lib.hid hwd
      have HN := Lib.hid hn
      have hic : (i : Int) ≤ (c : Int) := by omega
      have hi0' : (0 : Int) ≤ (i : Int) := by omega
      have hn0' : (0 : Int) ≤ (n : Int) := by omega
      clear hn hown hg hcs htk hgd kd hsrc hr5 hr3 hr3c hw3 o3 k3 o4 s4 t4 k4 hq hq2 hwd hc
      go_enter Tryz.func33, Tryz.ntmps33
      go_upto_region 5 with fail
      rw [HWd.out] at HR5
      go_region_law (refine step_app_known rfl (.tmp 22) (.tmp 25) 46 46 rfl _ _ rfl rfl _ _ HR5.out ?_)
      go_simp
      go_wp2
      go_ret
      exact ⟨rfl, HDone.out⟩
  · obtain rfl : i = n := by omega
    have HDone : Hid (w.ownsRow 0 69 2 (.slice a i c) i (fcells (qs.take i))) := Lib.hid (by rw [List.take_of_length_le (by omega)]; exact hown)
    clear hown hn
    go_enter Tryz.func33, Tryz.ntmps33
    go_wp2
    go_ret
    exact ⟨rfl, HDone.out, Kept.refl _ _⟩
end Go.Proofs.YtjjgadanobeamaaGreatDoor
