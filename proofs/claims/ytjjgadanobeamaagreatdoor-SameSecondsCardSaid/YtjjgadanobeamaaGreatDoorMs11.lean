/-
  A text's bytes, two digits each.
  Rows of pieces: slices.Replace of some by one; slices.Delete of the last ones.
  Pieces that a write touches, on paper, beside where their bytes lie.
  What was written of a file, in memory: what a touching write leaves.
  What was written of a file, in memory: put, where pieces are touched.
  What was written of a file, in memory: put, wherever; written into a file.
  What was written of a file, in memory: cut.
  What was written of a file, in memory: cut.
  A tree of files in memory: a file's size.
  What was written of a file, in memory: copied; a file's pieces.
  What was written of a file: read, on paper; copy onto an own row.
  A tree of files on paper: what the document fixes.
  A tree of files that a call has made for itself; what the document fixes (awake).
-/
import Derived.Test.YtjjgadanobeamaaGreatDoorMs10
import Derived.Lib.SlBytesConst
namespace Go.Proofs.YtjjgadanobeamaaGreatDoor
open Go.RowKit Go.Shelf
set_option linter.unusedVariables false
set_option linter.unusedSimpArgs false
set_option maxRecDepth 20000

structure HxSt (w0 w : World) (a : Option Addr) (l c : Nat) (L : List UInt8) : Prop where
  len : l = L.length
  own : w.ownsRow 0 5 1 (.slice a l c) l (bc L)
  kept : Kept NoB w0 w
  fresh : ∀ k, (Value.slice a l c).ownBlock = some k → w0.heap.size ≤ k
theorem HxSt.on {w0 w w' : World} {a : Option Addr} {l c : Nat} {L : List UInt8} (h : HxSt w0 w a l c L) (hk : Kept NoB w w') : HxSt w0 w' a l c L := ⟨h.len, hk.row h.own (fun _ _ h => h), h.kept.trans hk, h.fresh⟩
theorem HxSt.of {w0 w w' : World} {a a2 : Option Addr} {l c l2 c2 : Nat} {L M : List UInt8} (h : HxSt w0 w a l c L) (ho : w'.ownsRow 0 5 1 (.slice a2 l2 c2) l2 (bc M)) (hl : l2 = M.length) (hk : Kept (OwnB (Value.slice a l c)) w w') (hn : ∀ k, (Value.slice a2 l2 c2).ownBlock = some k → (Value.slice a l c).ownBlock = some k ∨ w.heap.size ≤ k) : HxSt w0 w' a2 l2 c2 M := by
  have hk0 := h.kept
  refine ⟨hl, ho, ⟨hk.os.trans hk0.os, hk.tape.trans hk0.tape, hk.output.trans hk0.output, Nat.le_trans hk0.size hk.size, fun i hi _ => (hk.block i (Nat.lt_of_lt_of_le hi hk0.size) (fun q => by have := h.fresh i q; omega)).trans (hk0.block i hi id)⟩, fun k e => ?_⟩
  rcases hn k e with q | q
  · exact h.fresh k q
  · have := hk0.size; omega
theorem HxSt.reads {w0 w : World} {a : Option Addr} {l c : Nat} {L : List UInt8} (h : HxSt w0 w a l c L) : Reads w a (nb L) := by
  have ho := h.own
  have hl := h.len
  subst hl
  refine own_reads (n := L.length) (cap := c) ?_ (nb_len L).symm
  rw [nb_len]
  have e : (nb L).map (Value.int .u8) = bc L := (bc_nb L).symm
  rw [e]; exact ho
theorem wpList_make_byc (w : World) {ops : Array Oper} {rest : List Oper} {o : Oper} {a : Act} {Q : Exit → Act → World → Prop}
    (hg : o.guard = none) (l c : Operand) (hop : o.op = Op.makeSlice 26 l c) (m : Nat) (hl : a.eval l = .int .i64 0) (hc : a.eval c = .int .i64 (m : Int)) (hm : m ≤ 4000000)
    (hK : ∀ w', HxSt w w' (some ⟨w.heap.size, 0, none⟩) 0 m [] → wpList Tryz.prog ops Q rest (a.put o.dst (.slice (some ⟨w.heap.size, 0, none⟩) 0 m)) w') :
    wpList Tryz.prog ops Q (o :: rest) a w := by
  obtain ⟨i0, hi, hz0, hz1, hz2⟩ := info_parts info5
  refine wpList_plain hg fun K hK' => ?_
  have hr := run_make (P := Tryz.prog) w 26 5 i0 (.int .u8 0) Tryz.underlying26 hi hz0 .i64 .i64 0 m (by omega) (by omega) (by rw [hz2]; omega) (by omega)
  simp only [Int.toNat_natCast] at hr
  unfold Oper.wp
  simp only [execOp, hop, hl, hc, hr, Sem.run_bind, Sem.run_pure, Result.andThen_ok]
  refine hK' _ _ (hK _ ⟨rfl, ⟨rfl, .inr ⟨w.heap.size, m, _, rfl, Nat.zero_le _, heap_alloc_new w _, Nat.zero_le _, by unfold maxLen; omega, ?_, rfl⟩⟩, (Kept.refl _ _).alloc _, fun k hk => by simp [Value.ownBlock] at hk; omega⟩)
  rw [size_madeCells, hz1]
theorem nbs_str (L : List UInt8) : strOfNums (nb L) = strB L := by
  unfold strOfNums strB nb
  rw [List.map_map]
  have : ((fun n : Int => UInt8.ofNat n.toNat) ∘ fun b : UInt8 => (b.toNat : Int)) = id := by funext b; simp
  rw [this, List.map_id]
theorem hex_at (y : Nat) (hy : y < 16) (W : World) : (Instr.index 9 (.string { data := #[48, 49, 50, 51, 52, 53, 54, 55, 56, 57, 97, 98, 99, 100, 101, 102] }) (.int .u8 (y : Int))).run Tryz.prog W = .ok (.int .u8 ((hexD y).toNat : Int)) W := by
  rcases (show y = 0 ∨ y = 1 ∨ y = 2 ∨ y = 3 ∨ y = 4 ∨ y = 5 ∨ y = 6 ∨ y = 7 ∨ y = 8 ∨ y = 9 ∨ y = 10 ∨ y = 11 ∨ y = 12 ∨ y = 13 ∨ y = 14 ∨ y = 15 by omega) with h | h | h | h | h | h | h | h | h | h | h | h | h | h | h | h <;> subst h <;> kernel_rfl
theorem and15 (x : Nat) (hx : x < 256) : bits .and .u8 (x : Int) 15 = ((x % 16 : Nat) : Int) := by
  have h : ∀ x : Fin 256, bits .and .u8 ((x.val : Nat) : Int) 15 = ((x.val % 16 : Nat) : Int) := by decide +kernel
  exact h ⟨x, hx⟩
set_option maxHeartbeats 4000000 in
theorem hexed_any (s : List UInt8) (w : World) (hs : s.length ≤ 1000000) :
    Calls Tryz.prog 42 #[.string (strB s)] w fun e w' => e = .returned (.string (strB (hexB s))) ∧ Kept NoB w w' := by
  obtain ⟨S, hS⟩ : ∃ S, S = strB s := ⟨_, rfl⟩
  rw [← hS]
  have hsz : S.size = s.length := by rw [hS, strB_size]
  have hnb : S.size ≤ 1000000 := by omega
  have HS := Lib.hid hS; have HSz := Lib.hid hsz
  clear hS hsz hs
  obtain ⟨m, hm⟩ : ∃ m, m = 2 * S.size := ⟨_, rfl⟩
  have HMw : Hid (2 * (S.size : Int) = (m : Int)) := Lib.hid (by omega)
  have hmb : m ≤ 4000000 := by omega
  clear hm
  go_enter Tryz.func42, Tryz.ntmps42
  go_upto_region 2 with (first | (refine wpList_make_byc _ rfl _ _ rfl m rfl (congrArg (Value.int .i64) HMw.out) hmb ?_; intro w1 h1) | fail)
  have H1 := Lib.hid h1
  clear h1 HMw hmb
  obtain ⟨X, hX⟩ : ∃ X, X = w.heap.size := ⟨_, rfl⟩
  rw [← hX] at H1 ⊢
  clear hX
  go_upto_region 3 with fail
  go_loopw [3, 4, 11] (fun v3 v4 v11 wr => ∃ (i : Nat) (a' : Option Addr) (l' c' : Nat), v3 = .slice a' l' c' ∧ v11 = .int .i64 (i : Int) ∧ i ≤ S.size ∧ Hid (HxSt w wr a' l' c' (hexB (s.take i)))) (fun _ _ v11 _ => S.size - (intOf v11).toNat)
  case atStart => exact ⟨0, _, 0, m, rfl, rfl, by omega, H1⟩
  case round =>
    obtain ⟨i, a', l', c', rfl, rfl, hi, HR⟩ := hrel
    clear H1
    by_cases hlt : (i : Int) < (S.size : Int)
    · have hin : i < s.length := by have := HSz.out; omega
      obtain ⟨b, hb⟩ : ∃ b, b = s[i] := ⟨_, rfl⟩
      have HSn : Hid (hexB (s.take (i + 1)) = hexB (s.take i) ++ [hexD (b.toNat / 16), hexD (b.toNat % 16)]) := Lib.hid (by rw [hb]; exact hexB_snoc s i hin)
      have hbx : b.toNat < 256 := UInt8.toNat_lt b
      obtain ⟨x, hx⟩ : ∃ x, x = b.toNat := ⟨_, rfl⟩
      rw [← hx] at HSn hbx
      have hSi : ∀ W, (Instr.index 9 (.string S) (.int .i64 (i : Int))).run Tryz.prog W = .ok (.int .u8 (x : Int)) W := fun W => by
        have hsat : ((S[i]'(by omega)).toNat : Int) = (x : Int) := by
          have hs := HS.out
          subst hs
          show (((⟨s.toArray⟩ : ByteArray).data[i]'(by simpa using hin)).toNat : Int) = _
          rw [hx, hb]; simp
        rw [run_index_string W _ _ _ _ Tryz.underlying9, dif_pos ⟨by omega, by omega⟩, ← hsat]
        rfl
      have hA := and15 x hbx
      obtain ⟨y, hy⟩ : ∃ y, y = x % 16 := ⟨_, rfl⟩
      obtain ⟨z, hz⟩ : ∃ z, z = x / 16 := ⟨_, rfl⟩
      have hsh : (x : Int) / 16 = (z : Int) := by omega
      rw [← hy, ← hz] at HSn
      rw [← hy] at hA
      have h2 := hex_at y (by omega)
      have h1 := hex_at z (by omega)
      obtain ⟨d1, hd1⟩ : ∃ d, d = hexD z := ⟨_, rfl⟩
      obtain ⟨d2, hd2⟩ : ∃ d, d = hexD y := ⟨_, rfl⟩
      rw [← hd1] at h1 HSn
      rw [← hd2] at h2 HSn
      clear hd1 hd2
      obtain ⟨wA, hwA⟩ : ∃ wA, wA = (wr.drew).alloc (.cells #[.int .u8 (d1.toNat : Int), .int .u8 (d2.toNat : Int)] 5) := ⟨_, rfl⟩
      have HA := Lib.hid (HR.out.on (show Kept NoB wr wA by rw [hwA]; exact ((Kept.refl NoB wr).drew).alloc _))
      have hlb : l' ≤ 3000000 := by
        have q1 := HR.out.len
        have q2 := hexB_len (s.take i)
        have q3 := List.length_take_le i s
        omega
      obtain ⟨i0, hi0, hz0, hz1, hz2⟩ := info_parts info5
      obtain ⟨v', w', hr, ho, hg, hn⟩ := run_app (P := Tryz.prog) wA 5 26 26 i0 (.int .u8 0) 1 1 Tryz.underlying26 hi0 hz0 hz1 hz2 rfl (by decide) _ l' (bc (hexB (s.take i))) HA.out.own ⟨wr.heap.size, 0, none⟩ 2 2 [.int .u8 (d1.toNat : Int), .int .u8 (d2.toNat : Int)] rfl (by
        intro j u hu
        rw [addr_add, Nat.zero_add, hwA, cell_new (w := wr.drew) (k := wr.heap.size) j rfl]
        match j with
        | 0 => simpa using hu
        | 1 => simpa using hu
        | j + 2 => simp at hu) (by intro u hu; simp at hu; rcases hu with rfl | rfl <;> rfl) (by unfold maxLen; omega) (by omega)
      obtain ⟨a2, c2, rfl⟩ := row_shape ho
      rw [hwA] at hr
      have HS2 : Hid (HxSt w w' a2 (l' + 2) c2 (hexB (s.take (i + 1)))) := Lib.hid (by
        rw [HSn.out]
        refine HA.out.of (by unfold bc at ho ⊢; rw [List.map_append]; exact ho) ?_ ((Kept.refl _ wA).grown hg (fun k _ e => e)) hn
        have := HA.out.len
        simp; omega)
      clear hy hz hx hb hin hwA HA ho hg hn HR HSn hlb hi0 hz0 hz1 hz2
      go_upto_region 5 with fail
      go_region_law (refine step_app_known rfl (.tmp 14) (.tmp 25) 26 26 rfl _ _ rfl rfl _ _ hr ?_)
      all_goals go_simp
      all_goals go_wp2
      all_goals go_roundw
      all_goals first
        | exact ⟨i + 1, a2, l' + 2, c2, rfl, by go_num, by omega, HS2⟩
        | (simp only [intOf]; omega)
    · have he : s.take i = s := List.take_of_length_le (by have := HSz.out; omega)
      rw [he] at HR
      have HCv : Hid (∀ W, Kept NoB wr W → (convert 26 9 (.slice a' l' c')).run Tryz.prog W = .ok (.string (strOfNums (nb (hexB s)))) W) := Lib.hid (fun W hW => conv_reads (HR.out.on hW).reads (by rw [nb_len]; exact HR.out.len) (own_nil HR.out.own))
      have hcv := HCv.out wr (Kept.refl _ _)
      clear he
      go_wp2
      go_ret
      refine ⟨?_, HR.out.kept⟩
      show Ending.returned (Value.string (strOfNums (nb (hexB s)))) = _
      rw [nbs_str]
end Go.Proofs.YtjjgadanobeamaaGreatDoor

namespace Go.Proofs.YtjjgadanobeamaaGreatDoor
open Go.RowKit
set_option linter.unusedVariables false
set_option linter.unusedSimpArgs false
set_option maxRecDepth 20000

theorem slice_l2 (g n c l : Nat) (hl : l ≤ n) (hnc : n ≤ c) : ∃ q : Addr, (∀ W, (Instr.slice 46 (.slice (some ⟨g, 0, none⟩) n c) (some (.int .i64 (l : Int))) none none).run Tryz.prog W = .ok (.slice (some q) (n - l) (c - l)) W) ∧ (q = ⟨g, l * 2, none⟩ ∨ n - l = 0) := by
  obtain ⟨q, h1, h2, _⟩ := sliced_some g c l n 2 hl hnc
  refine ⟨q, fun W => ?_, by rcases h2 with e | e; exact .inl e; exact .inr (by omega)⟩
  rw [run_slice_l (P := Tryz.prog) (w := W) 46 (some ⟨g, 0, none⟩) n c (by kernel_rfl) .i64 (l : Int) (by omega) (by omega)]
  have hs : (sizeOf (Tryz.prog.elem 46)).run Tryz.prog W = .ok 2 W := by kernel_rfl
  rw [hs]
  simp only [Result.andThen, Int.toNat_natCast]
  rw [h1]

end Go.Proofs.YtjjgadanobeamaaGreatDoor

namespace Go.Proofs.YtjjgadanobeamaaGreatDoor
set_option linter.unusedVariables false
set_option linter.unusedSimpArgs false

theorem fcells_at2 (qs : List FpQ) (i : Nat) (q : FpQ) (h : qs[i]? = some q) : (fcells qs)[i * 2]? = some (.int .i64 q.1.1) ∧ (fcells qs)[i * 2 + 1]? = some (.slice q.2.1 q.1.2.length q.2.2) := by
  obtain ⟨hi, rfl⟩ := List.getElem?_eq_some_iff.1 h
  exact fcells_at qs i hi
structure Tch (qs : List FpQ) (k : Int) (bs : List UInt8) (QA : List FpQ) (qf : FpQ) (QR QB QY : List FpQ) (ql : FpQ) : Prop where
  all : qs = QA ++ (qf :: QR) ++ QB
  last : qf :: QR = QY ++ [ql]
  ahead : aheadP (qs.map Prod.fst) k = QA.map Prod.fst
  touch : touchP (qs.map Prod.fst) k (k + bs.length) = (qf :: QR).map Prod.fst
  behind : behindP (qs.map Prod.fst) k (k + bs.length) = QB.map Prod.fst
  join : joinP ((qf :: QR).map Prod.fst) k bs = (min qf.1.1 k, qf.1.2.take (k - qf.1.1).toNat ++ bs ++ ql.1.2.drop (k + bs.length - ql.1.1).toNat)
  first : k ≤ endP qf.1 ∧ qf.1.1 ≤ k + bs.length ∧ 0 ≤ qf.1.1 ∧ endP qf.1 ≤ 1099511627776
  lasts : k ≤ endP ql.1 ∧ ql.1.1 ≤ k + bs.length ∧ 0 ≤ ql.1.1 ∧ endP ql.1 ≤ 1099511627776
  rise : QR.Pairwise (fun _ _ => True) ∧ ∀ p ∈ QR, endP qf.1 < p.1.1
theorem Tch.one {qs : List FpQ} {k : Int} {bs : List UInt8} {QA : List FpQ} {qf : FpQ} {QR QB QY : List FpQ} {ql : FpQ} (h : Tch qs k bs QA qf QR QB QY ql) (hl : OkD (qs.map Prod.fst)) (hs : k + bs.length ≤ endP qf.1) : QR = [] ∧ ql = qf := by
  have hR : QR = [] := by
    cases QR with
    | nil => rfl
    | cons p t =>
      exfalso
      have h1 := h.rise.2 p (by simp)
      have h2 := touch_end hl k (k + bs.length) p.1 (by rw [h.touch]; simp)
      omega
  refine ⟨hR, ?_⟩
  have := h.last
  rw [hR] at this
  have e : QY = [] ∧ [qf] = [ql] := by
    cases QY with
    | nil => exact ⟨rfl, this⟩
    | cons x t =>
      have := congrArg List.length this
      simp at this
  exact (List.cons.inj e.2).1.symm
theorem Tch.put {qs : List FpQ} {k : Int} {bs : List UInt8} {QA : List FpQ} {qf : FpQ} {QR QB QY : List FpQ} {ql : FpQ} (h : Tch qs k bs QA qf QR QB QY ql) :
    putP (qs.map Prod.fst) k bs = QA.map Prod.fst ++ (min qf.1.1 k, qf.1.2.take (k - qf.1.1).toNat ++ bs ++ ql.1.2.drop (k + bs.length - ql.1.1).toNat) :: QB.map Prod.fst := by
  unfold putP
  rw [h.ahead, h.touch, h.behind, h.join]
theorem Tch.at {qs : List FpQ} {k : Int} {bs : List UInt8} {QA : List FpQ} {qf : FpQ} {QR QB QY : List FpQ} {ql : FpQ} (h : Tch qs k bs QA qf QR QB QY ql) :
    qs[QA.length]? = some qf ∧ qs[QA.length + QR.length]? = some ql ∧ qs.take QA.length = QA ∧ qs.drop (QA.length + (QR.length + 1)) = QB ∧ QA.length + (QR.length + 1) ≤ qs.length := by
  refine ⟨?_, ?_, ?_, ?_, ?_⟩
  · rw [h.all, List.append_assoc, List.getElem?_append_right (Nat.le_refl _), Nat.sub_self]; rfl
  · have hy : QY.length = QR.length := by have := congrArg List.length h.last; simp at this; omega
    rw [h.all, h.last, List.append_assoc, List.getElem?_append_right (by omega), List.append_assoc, List.getElem?_append_right (by omega)]
    rw [show QA.length + QR.length - QA.length - QY.length = 0 by omega]; rfl
  · rw [h.all, List.append_assoc, List.take_left]
  · have e : QA.length + (QR.length + 1) = (QA ++ qf :: QR).length := by simp
    rw [e, h.all, List.drop_left]
  · rw [h.all]; simp
end Go.Proofs.YtjjgadanobeamaaGreatDoor

namespace Go.Proofs.YtjjgadanobeamaaGreatDoor
open Go.RowKit
set_option linter.unusedVariables false
set_option linter.unusedSimpArgs false
set_option maxRecDepth 20000

def pcB (q : FpQ) : Option Nat := (Value.slice q.2.1 q.1.2.length q.2.2).ownBlock
theorem bc_len (x : List UInt8) : (bc x).length = x.length := by simp [bc]
theorem bc_app (x y : List UInt8) : bc (x ++ y) = bc x ++ bc y := by simp [bc]
theorem bc_one (x : List UInt8) : ∀ v ∈ bc x, v.oneCell' = true := fun v hv => by
  obtain ⟨b, _, rfl⟩ := List.mem_map.1 hv; rfl
end Go.Proofs.YtjjgadanobeamaaGreatDoor

namespace Go.Proofs.YtjjgadanobeamaaGreatDoor
open Go.RowKit
set_option linter.unusedVariables false
set_option linter.unusedSimpArgs false
set_option maxRecDepth 20000

end Go.Proofs.YtjjgadanobeamaaGreatDoor

namespace Go.Proofs.YtjjgadanobeamaaGreatDoor
open Go.RowKit
set_option linter.unusedVariables false

end Go.Proofs.YtjjgadanobeamaaGreatDoor

namespace Go.Proofs.YtjjgadanobeamaaGreatDoor
open Go.RowKit
set_option linter.unusedVariables false
set_option linter.unusedSimpArgs false
set_option maxRecDepth 20000

end Go.Proofs.YtjjgadanobeamaaGreatDoor

namespace Go.Proofs.YtjjgadanobeamaaGreatDoor
open Go.RowKit
set_option linter.unusedVariables false
set_option linter.unusedSimpArgs false
set_option maxRecDepth 20000

end Go.Proofs.YtjjgadanobeamaaGreatDoor

namespace Go.Proofs.YtjjgadanobeamaaGreatDoor
open Go.RowKit
set_option linter.unusedVariables false
set_option linter.unusedSimpArgs false
set_option maxRecDepth 20000

end Go.Proofs.YtjjgadanobeamaaGreatDoor

namespace Go.Proofs.YtjjgadanobeamaaGreatDoor
open Go.RowKit
set_option linter.unusedVariables false
set_option linter.unusedSimpArgs false
set_option maxRecDepth 20000

structure CpS (w0 w : World) (a : Option Addr) (l c : Nat) (qs : List FpQ) : Prop where
  len : l = qs.length
  own : w.ownsRow 0 69 2 (.slice a l c) l (fcells qs)
  fresh : ∀ k, (Value.slice a l c).ownBlock = some k → w0.heap.size ≤ k
  each : ∀ q ∈ qs, w.ownsRow 0 5 1 (.slice q.2.1 q.1.2.length q.2.2) q.1.2.length (bc q.1.2)
  bfresh : ∀ q ∈ qs, ∀ j, pcB q = some j → w0.heap.size ≤ j
  kept : Kept NoB w0 w
theorem CpS.start {w0 w : World} (hk : Kept NoB w0 w) : CpS w0 w none 0 0 [] := ⟨rfl, World.ownsRow_nil _ _ _ _, (fun k hk => by simp [Value.ownBlock] at hk), (fun q hq => by cases hq), (fun q hq => by cases hq), hk⟩
theorem CpS.on {w0 w w' : World} {a : Option Addr} {l c : Nat} {qs : List FpQ} (h : CpS w0 w a l c qs) (hk : Kept NoB w w') : CpS w0 w' a l c qs :=
  ⟨h.len, hk.row h.own (fun _ _ e => e), h.fresh, fun q hq => hk.row (h.each q hq) (fun _ _ e => e), h.bfresh, h.kept.trans hk⟩
theorem CpS.apart {w0 w : World} {a : Option Addr} {l c : Nat} {qs : List FpQ} (h : CpS w0 w a l c qs) : ∀ q ∈ qs, ∀ j, pcB q = some j → (Value.slice a l c).ownBlock ≠ some j := fun q hq j hj e => by
  rcases h.own.2 with ⟨q1, q2⟩ | ⟨g, cc, cur, q1, _, q2, _⟩
  · rw [q1] at e; cases e
  · rw [q1] at e
    have e2 : g = j := by injection e
    exact row2_ne (h.each q hq) (by rw [e2] at q2; exact q2) (by decide) j hj rfl
end Go.Proofs.YtjjgadanobeamaaGreatDoor

namespace Go.Proofs.YtjjgadanobeamaaGreatDoor
open Go.RowKit
set_option linter.unusedVariables false
set_option linter.unusedSimpArgs false
set_option maxRecDepth 20000

def byteAt (l : List Fp) (x : Int) : UInt8 := match l.find? (fun p => decide (p.1 ≤ x) && decide (x < endP p)) with
  | some p => p.2.getD (x - p.1).toNat 0
  | none => 0
def readD (l : List Fp) (k : Int) (n : Nat) : List UInt8 := (List.range n).map (fun t : Nat => byteAt l (k + t))
theorem readD_len (l : List Fp) (k : Int) (n : Nat) : (readD l k n).length = n := by simp [readD]
theorem readD_at (l : List Fp) (k : Int) (n t : Nat) (h : t < n) : (readD l k n)[t]? = some (byteAt l (k + t)) := by simp [readD, h]
theorem byteAt_append (a b : List Fp) (x : Int) (h : ∀ p ∈ a, ¬ (p.1 ≤ x ∧ x < endP p)) : byteAt (a ++ b) x = byteAt b x := by
  unfold byteAt
  rw [List.find?_append]
  have : a.find? (fun p => decide (p.1 ≤ x) && decide (x < endP p)) = none := by
    rw [List.find?_eq_none]
    intro p hp
    have := h p hp
    simp
    intro h1
    omega
  rw [this]; rfl
theorem byteAt_prefix (a b : List Fp) (x : Int) (h : ∀ p ∈ b, ¬ (p.1 ≤ x ∧ x < endP p)) : byteAt (a ++ b) x = byteAt a x := by
  unfold byteAt
  rw [List.find?_append]
  have : b.find? (fun p => decide (p.1 ≤ x) && decide (x < endP p)) = none := by
    rw [List.find?_eq_none]
    intro p hp
    have := h p hp
    simp
    intro h1
    omega
  rw [this]
  cases a.find? (fun p => decide (p.1 ≤ x) && decide (x < endP p)) <;> rfl
theorem byteAt_one (p : Fp) (x : Int) (h : p.1 ≤ x ∧ x < endP p) : byteAt [p] x = p.2.getD (x - p.1).toNat 0 := by
  unfold byteAt
  rw [List.find?_cons]
  simp [h.1, h.2]
theorem read_step {a : List Fp} {p : Fp} (hok : OkD (a ++ [p])) (k : Int) (n P m d : Nat) (hP : k + (P : Int) = max k p.1) (hd : (d : Int) = max k p.1 - p.1) (hm : m = min (p.2.length - d) (n - P)) (hPn : P ≤ n) (he : k < endP p) :
    readD (a ++ [p]) k n = (readD a k n).take P ++ (p.2.drop d).take m ++ (readD a k n).drop (P + m) := by
  have hel : endP p = p.1 + p.2.length := rfl
  have hap : ∀ q ∈ a, endP q < p.1 := fun q hq => by
    have := hok.apart
    rw [List.pairwise_append] at this
    exact this.2.2 q hq p (by simp)
  have hsl : ((p.2.drop d).take m).length = m := by rw [List.length_take, List.length_drop]; omega
  apply List.ext_getElem?
  intro t
  rcases Nat.lt_or_ge t n with ht | ht
  · rw [readD_at _ _ _ _ ht]
    rcases Nat.lt_or_ge t P with h1 | h1
    · rw [List.append_assoc, List.getElem?_append_left (by rw [List.length_take, readD_len]; omega), List.getElem?_take, if_pos h1, readD_at _ _ _ _ ht]
      rw [byteAt_prefix _ _ _ (fun q hq => by rw [List.mem_singleton] at hq; subst hq; omega)]
    · rcases Nat.lt_or_ge t (P + m) with h2 | h2
      · rw [List.append_assoc, List.getElem?_append_right (by rw [List.length_take, readD_len]; omega), List.getElem?_append_left (by rw [hsl, List.length_take, readD_len]; omega), List.length_take, readD_len, Nat.min_eq_left hPn, List.getElem?_take, if_pos (by omega), List.getElem?_drop]
        have hin : p.1 ≤ k + (t : Int) ∧ k + (t : Int) < endP p := by rw [hel]; omega
        rw [byteAt_append _ _ _ (fun q hq => by have := hap q hq; omega), byteAt_one p _ hin]
        have e1 : (k + (t : Int) - p.1).toNat = d + (t - P) := by omega
        rw [e1, List.getD_eq_getElem?_getD]
        have hlt : d + (t - P) < p.2.length := by omega
        rw [List.getElem?_eq_getElem hlt]; rfl
      · have hnin : ¬ (p.1 ≤ k + (t : Int) ∧ k + (t : Int) < endP p) := by rw [hel]; omega
        rw [byteAt_prefix _ _ _ (fun q hq => by rw [List.mem_singleton] at hq; subst hq; exact hnin)]
        rw [List.getElem?_append_right (by simp only [List.length_append, hsl, List.length_take, readD_len]; omega), List.getElem?_drop]
        simp only [List.length_append, hsl, List.length_take, readD_len]
        rw [Nat.min_eq_left hPn, show P + m + (t - (P + m)) = t by omega, readD_at _ _ _ _ ht]
  · rw [List.getElem?_eq_none (by rw [readD_len]; exact ht), List.getElem?_eq_none]
    simp only [List.length_append, hsl, List.length_take, List.length_drop, readD_len]
    omega
theorem run_copy_by2 (w : World) (gf fn fc P : Nat) (x : List UInt8) (hx : fn = x.length) (hown : w.ownsRow 0 5 1 (.slice (some ⟨gf, 0, none⟩) fn fc) fn (bc x)) (y : Addr) (bs : List UInt8) (cb dc : Nat) (hc : ∀ j v, (bc bs)[j]? = some v → w.cell? (y.add j) = some v) (hP : P ≤ fn) (m : Nat) (hm : m = min bs.length (fn - P)) :
    ∃ w', (Builtin.copy_ #[26, 26] 3 #[.slice (some ⟨gf, P, none⟩) (fn - P) dc, .slice (some y) bs.length cb]).run Tryz.prog w = .ok (goInt m) w' ∧ w'.ownsRow 0 5 1 (.slice (some ⟨gf, 0, none⟩) fn fc) fn (bc (x.take P ++ bs.take m ++ x.drop (P + m))) ∧ Kept (OneB gf) w w' := by
  rcases hown.2 with ⟨h1, h2⟩ | ⟨g', cc, cur, h1, hb0, hg, hnc, hcm, hcs, htk⟩
  · cases h1
  · simp only [Value.slice.injEq, Option.some.injEq, Addr.mk.injEq, and_true, true_and] at h1
    obtain ⟨rfl, rfl⟩ := h1
    have htl : (bs.take m).length = m := by rw [List.length_take]; omega
    have hc' : ∀ j v, (bc (bs.take m))[j]? = some v → w.cell? (y.add j) = some v := fun j v hj => by
      refine hc j v ?_
      have e : bc (bs.take m) = (bc bs).take m := by simp [bc, List.map_take]
      rw [e, List.getElem?_take] at hj
      split at hj
      · exact hj
      · cases hj
    have := run_copy_row (P := Tryz.prog) w 26 26 3 5 gf P (fn - P) dc y bs.length cb cur 5 (bc (bs.take m)) Tryz.underlying26 (by kernel_rfl) hg (by rw [bc_len, htl, hm]) hc' (by rw [bc_len, hcs, htl]; omega) (bc_one _)
    rw [bc_len, htl] at this
    have hxl : (x.take P ++ bs.take m ++ x.drop (P + m)).length = fn := by simp only [List.length_append, List.length_take, List.length_drop]; omega
    refine ⟨_, this, ⟨by rw [bc_len, hxl]; omega, .inr ⟨gf, fc, _, rfl, Nat.zero_le _, setRow_heap _ _ _ _ _ _ hg, hnc, hcm, ?_, ?_⟩⟩, Kept.setRow (S := OneB gf) (Kept.refl _ w) (.inl rfl) _⟩
    · simp only [List.size_toArray, List.length_append, List.length_take, List.length_drop, Array.length_toList, bc_len, hcs, htl]; omega
    · have htk' : cur.toList.take fn = bc x := by rw [Nat.mul_one] at htk; exact htk
      have e1 : cur.toList.take P = bc (x.take P) := by
        have := congrArg (List.take P) htk'
        rw [List.take_take, Nat.min_eq_left (by omega)] at this
        rw [this]; simp [bc, List.map_take]
      have e2 : (cur.toList.drop (P + m)).take (fn - (P + m)) = bc (x.drop (P + m)) := by
        have := congrArg (List.drop (P + m)) htk'
        rw [List.drop_take] at this
        rw [this]; simp [bc, List.map_drop]
      rw [List.toList_toArray, Nat.mul_one, bc_app, bc_app, ← e1, ← e2]
      have hl : (cur.toList.take P ++ bc (bs.take m)).length = P + m := by rw [List.length_append, List.length_take, bc_len, Array.length_toList, hcs, htl]; omega
      rw [List.take_append, List.take_of_length_le (by omega), hl]
end Go.Proofs.YtjjgadanobeamaaGreatDoor

namespace Go.Proofs.YtjjgadanobeamaaGreatDoor
set_option linter.unusedVariables false
set_option linter.unusedSimpArgs false
set_option maxRecDepth 20000

end Go.Proofs.YtjjgadanobeamaaGreatDoor

namespace Go.Proofs.YtjjgadanobeamaaGreatDoor
open Go.RowKit
set_option linter.unusedVariables false
set_option linter.unusedSimpArgs false
set_option maxRecDepth 20000

theorem keep_on {S : Nat → Prop} {a b c : World} (h : Kept NoB a b) (k : Kept S b c) (hs : ∀ i, i < a.heap.size → S i → False) : Kept NoB a c :=
  ⟨k.os.trans h.os, k.tape.trans h.tape, k.output.trans h.output, Nat.le_trans h.size k.size, fun i hi _ => (k.block i (Nat.lt_of_lt_of_le hi h.size) (hs i hi)).trans (h.block i hi id)⟩
def NewB (w W : World) : Nat → Prop := fun k => w.heap.size ≤ k ∧ k < W.heap.size
structure FsOwn (w W : World) (f : Nat) (T : FsP) : Prop where
  st : FsSt (NewB w W) W f T
  keep : Kept NoB w W
theorem FsOwn.made {w W : World} {f : Nat} {T : FsP} (h : FsSt (Grow NoB w W) W f T) (hk : Kept NoB w W) : FsOwn w W f T :=
  ⟨h.mono (fun k e => by rcases e with e | e; exact e.elim; exact e), hk⟩
theorem FsOwn.kept {w W W' : World} {f : Nat} {T : FsP} (h : FsOwn w W f T) (hk : Kept NoB W W') : FsOwn w W' f T :=
  ⟨(h.st.keptNo hk).mono (fun k e => ⟨e.1, Nat.lt_of_lt_of_le e.2 hk.size⟩), h.keep.trans hk⟩
theorem FsOwn.step {w W W' : World} {f : Nat} {T T' : FsP} (h : FsOwn w W f T) (hs : FsSt (Grow (NewB w W) W W') W' f T') (hk : Kept (NewB w W) W W') : FsOwn w W' f T' :=
  ⟨hs.mono (fun k e => by
    have h1 := hk.size
    have h2 := h.keep.size
    rcases e with e | e
    · exact ⟨e.1, Nat.lt_of_lt_of_le e.2 h1⟩
    · exact ⟨by omega, e.2⟩), keep_on h.keep hk (fun i hi e => by have := e.1; omega)⟩
theorem FsOwn.lt {w W : World} {f : Nat} {T : FsP} (h : FsOwn w W f T) : f < W.heap.size := by
  obtain ⟨L, B, mb, h1⟩ := h.st
  exact obj_lt h1.obj
theorem wpList_make_bytes (w : World) {ops : Array Oper} {rest : List Oper} {o : Oper} {a : Act} {Q : Exit → Act → World → Prop}
    (hg : o.guard = none) (l c : Operand) (hop : o.op = Op.makeSlice 26 l c) (n : Nat) (hl : a.eval l = .int .i64 (n : Int)) (hc : a.eval c = .int .i64 (n : Int)) (hm : n ≤ 1048576)
    (hK : ∀ w', w'.heap[w.heap.size]? = some (.cells (bc (List.replicate n 0)).toArray 5 (0, 0)) → Kept NoB w w' → wpList Tryz.prog ops Q rest (a.put o.dst (.slice (some ⟨w.heap.size, 0, none⟩) n n)) w') :
    wpList Tryz.prog ops Q (o :: rest) a w := by
  obtain ⟨i0, hi, hz0, hz1, hz2⟩ := info_parts info5
  refine wpList_plain hg fun K hK' => ?_
  have hr := run_make (P := Tryz.prog) w 26 5 i0 (.int .u8 0) Tryz.underlying26 hi hz0 .i64 .i64 n n (by omega) (by omega) (by rw [hz2]; omega) (by omega)
  simp only [Int.toNat_natCast] at hr
  unfold Oper.wp
  simp only [execOp, hop, hl, hc, hr, Sem.run_bind, Sem.run_pure, Result.andThen_ok]
  refine hK' _ _ (hK _ ?_ ((Kept.refl _ _).alloc _))
  refine (heap_alloc_new _ _).trans (congrArg (fun c => some (Obj.cells c 5 (0, 0))) ?_)
  apply Array.ext'
  rw [hz1, bc, List.map_replicate, List.toArray_replicate]
  have e : (madeCells #[Value.int .u8 0] (n * 1)).toList = List.replicate n (.int .u8 0) := by
    rw [List.eq_replicate_iff]
    refine ⟨by simp [madeCells], ?_⟩
    intro x hx
    simp only [madeCells, Array.toList_map, List.mem_map] at hx
    obtain ⟨i, _, rfl⟩ := hx
    rw [show i % (#[Value.int .u8 0] : Array Value).size = 0 from Nat.mod_one i]
    rfl
  exact e
end Go.Proofs.YtjjgadanobeamaaGreatDoor
