/-
  The table of the check, and a row of bytes through it.
  'n & (1 << k - 1)' on an int.
  A row of numbers that came in.
  law7.Rows: bytes that come again.
  gzip: isByte, okText, appendNumber, number, lowSum.
  gzip: Ok, flags.
  Symbols of lengths and of distances, in numbers. No Go in sight.
  Tokens: which may be, and which are refused.
  What a token makes: put, Put.
-/
import Derived.Test.YtfmjfgmbjdhogaaGreatDoorMg3
import Derived.Test.YtfmjfgmbjdhogaaGreatDoorRows
import Derived.BigRegion
import Derived.Deep.DeepCutAuto
import Derived.Deep.RegionWith
import Derived.Lib.SlBytesConst
import Derived.Laws.StructEq
import Derived.ChangeKeysEq
import Derived.WalkKit
namespace Go.Proofs.YtfmjfgmbjdhogaaGreatDoor
open Go.RowKit
set_option linter.unusedVariables false

theorem xorP_u32 (r : Nat) (h : r < 4294967296) : bits .xor .u32 (r : Int) 3988292384 = ((r ^^^ poly : Nat) : Int) := u32_xor_nat r poly h poly_lt
theorem half_int (r : Nat) : (r : Int) / 2 = ((r / 2 : Nat) : Int) := by push_cast; rfl

set_option maxHeartbeats 1000000 in
theorem shifted_any (x : Nat) (w : World) (h : x < 4294967296) : Calls Tryz.prog 76 #[.int .u32 x] w fun e w' => e = .returned (.int .u32 (steps 8 x : Nat)) ∧ w = w' := by
  go_enter Tryz.func76, Tryz.ntmps76
  go_wp2
  go_loop [0, 4] (fun r i => ∃ k : Nat, k ≤ 8 ∧ i = .int .i64 k ∧ r = .int .u32 (steps k x : Nat)) (fun _ i => 8 - (intOf i).toNat)
  case atStart => exact ⟨0, by omega, rfl, rfl⟩
  case round =>
    obtain ⟨k, hk, rfl, rfl⟩ := hrel
    by_cases hlt : k < 8
    · have hl := steps_lt k x h
      have HS : Hid (steps (k + 1) x = step1 (steps k x)) := rfl
      generalize steps k x = r at hl HS ⊢
      have e3 : bits .xor .u32 ((r : Int) / 2) 3988292384 = ((r / 2 ^^^ poly : Nat) : Int) := by rw [half_int]; exact xorP_u32 (r / 2) (by omega)
      by_cases ho : r % 2 = 1
      · have E : Hid (step1 r = r / 2 ^^^ poly) := by show step1 r = _; unfold step1; rw [if_pos ho]
        have e1 : bits .and .u32 (r : Int) 1 = 1 := by rw [and1_u32 r hl, ho]; rfl
        clear ho hl
        go_wp2
        go_round
        case rel => exact ⟨k + 1, by omega, by go_num, by rw [HS.out, E.out]⟩
        case measure => simp [intOf]; omega
      · have E : Hid (step1 r = r / 2) := by show step1 r = _; unfold step1; rw [if_neg ho]
        have h0 : r % 2 = 0 := by omega
        have e1 : bits .and .u32 (r : Int) 1 = 0 := by rw [and1_u32 r hl, h0]; rfl
        clear ho h0 hl
        go_wp2
        go_round
        case rel => exact ⟨k + 1, by omega, by go_num, by rw [HS.out, E.out]; go_num⟩
        case measure => simp [intOf]; omega
    · go_wp2
      go_ret
      exact ⟨by rw [show k = 8 from by omega]; rfl, rfl⟩

def tblTo (i : Nat) : Array Value := ((List.range 256).map fun j => Value.int .u32 (if j < i then steps 8 j else 0 : Nat)).toArray
def Tbl (w : World) (T : Nat) : Prop := w.heap[T]? = some (.cells (tblTo 256) 137 (0, 0))

theorem tblTo_set (i : Nat) (hi : i < 256) : (tblTo i).setIfInBounds i (.int .u32 (steps 8 i : Nat)) = tblTo (i + 1) := by
  apply Array.ext
  · simp [tblTo]
  · intro j h1 h2
    simp [tblTo] at h1 h2
    simp only [tblTo, List.getElem_toArray, List.getElem_map, List.getElem_range]
    by_cases hj : i = j
    · subst hj; simp
    · have : (j < i) = (j < i + 1) := by apply propext; omega
      simp [hj, this]
theorem tblTo_get (i j : Nat) (hj : j < 256) : (tblTo i)[j]? = some (.int .u32 (if j < i then steps 8 j else 0 : Nat)) := by
  simp [tblTo, hj]

theorem zeroTbl (w : World) : (zeroValue 137).run Tryz.prog w = .ok (.agg (tblTo 0)) w := by kernel_rfl
def NewT (w : World) (e : Ending) (w' : World) : Prop := ∃ T, e = .returned (.pointer (some ⟨T, 0, none⟩)) ∧ Tbl w' T ∧ w.heap.size ≤ T ∧ Kept NoB w w'
set_option maxRecDepth 100000 in
set_option maxHeartbeats 2000000 in
theorem newt_any (w : World) : Calls Tryz.prog 43 #[] w (NewT w) := by
  have hz := fun w => zeroTbl w
  obtain ⟨t0, ht0⟩ : ∃ t, t = tblTo 0 := ⟨_, rfl⟩
  rw [← ht0] at hz
  have HT0 := Lib.hid ht0; clear ht0
  go_enter Tryz.func43, Tryz.ntmps43
  go_wp2
  go_loopw [5] (fun i wr => ∃ k : Nat, k ≤ 256 ∧ i = .int .i64 k ∧ wr.heap[w.heap.size]? = some (.cells (tblTo k) 137 (0, 0)) ∧ Kept NoB w wr) (fun i _ => 256 - (intOf i).toNat)
  case atStart => exact ⟨0, by omega, rfl, by rw [← HT0.out]; exact heap_alloc_new _ _, (Kept.refl _ _).alloc _⟩
  case round =>
    obtain ⟨k, hk, rfl, ho, hK⟩ := hrel
    by_cases hlt : k < 256
    · have c0 : wr.cell? ⟨w.heap.size, k, none⟩ = some (.int .u32 (0 : Nat)) := by rw [obj_cell ho, tblTo_get k k hlt]; simp
      have f0 : wr.frozen? ⟨w.heap.size, k, none⟩ = false := obj_free ho k
      have HO := Lib.hid ho; clear ho
      go_wp2
      have q0 : IntKind.u32.wrap (k : Int) = k := by rw [IntKind.wrap_u32']; omega
      have HS := fun w => shifted_any k w (by omega)
      have HSh := Lib.hid HS; clear HS
      go_region_with (go_at_call 76; ((with_reducible refine (HSh.out _).mono ?_); rintro e w' ⟨rfl, rfl⟩))
      go_wp2
      go_roundw
      case rel =>
        refine ⟨k + 1, by omega, by go_num, ?_, Kept.drew (Kept.setCell (p := ⟨w.heap.size, k, none⟩) hK (.inr (Nat.le_refl _)) _)⟩
        have := obj_set HO.out k (.int .u32 (steps 8 k : Nat))
        rw [tblTo_set k hlt] at this
        exact this
      case measure => simp [intOf]; omega
    · go_wp2
      go_ret
      have : k = 256 := by omega
      subst this
      exact ⟨w.heap.size, rfl, ho, Nat.le_refl _, hK⟩


theorem nats_lt {bs : List Int} (h : AllB bs) : ∀ x ∈ nats bs, x < 256 := by
  intro x hx
  obtain ⟨b, hb, rfl⟩ := List.mem_map.1 hx
  have := h b hb
  omega
theorem regOf_succ (r : Nat) (bs : List Int) (j : Nat) (hj : j < bs.length) : regOf r ((nats bs).take (j + 1)) = upd (regOf r ((nats bs).take j)) (bs.getD j 0).toNat := by
  have hl : j < (nats bs).length := by simpa [nats] using hj
  rw [List.take_succ_eq_append_getElem hl, regOf_append]
  simp [regOf, nats, List.getD, hj]
theorem flip_u32 (c : Nat) (h : c < 4294967296) : bits .xor .u32 IntKind.u32.max (c : Int) = ((flip c : Nat) : Int) := by
  show IntKind.u32.wrap ((BitVec.ofInt 32 IntKind.u32.max ^^^ BitVec.ofInt 32 (c : Int)).toNat : Int) = _
  have e : BitVec.ofInt 32 IntKind.u32.max = BitVec.allOnes 32 := by decide
  rw [e, ← BitVec.not_def, BitVec.toNat_not, ofInt_u32 c h, IntKind.wrap_u32']
  unfold flip
  omega

theorem upd_u32 (r z : Nat) (hr : r < 4294967296) (hz : z < 256) : bits .xor .u32 ((r : Int) / 256) ((steps 8 (r % 256 ^^^ z) : Nat) : Int) = ((upd r z : Nat) : Int) := by
  have h1 : ((r : Int) / 256) = ((r / 256 : Nat) : Int) := (Int.natCast_ediv r 256).symm
  have h2 : r % 256 ^^^ z < 256 := Nat.xor_lt_two_pow (n := 8) (Nat.mod_lt _ (by decide)) hz
  rw [h1, u32_xor_nat _ _ (by omega) (steps_lt 8 _ (by omega))]
  rfl

set_option maxHeartbeats 2000000 in
theorem update_any (w : World) (T : Nat) (ao : Option Addr) (cap len c : Nat) (bs : List Int) (hT : Tbl w T) (hr : Reads w ao bs) (hb : AllB bs) (hlen : bs.length = len) (hc : c < 4294967296) (hm : len ≤ 9223372036854775807) :
    Calls Tryz.prog 77 #[.pointer (some ⟨T, 0, none⟩), .int .u32 c, .slice ao len cap] w fun e w' => e = .returned (.int .u32 (crcOf c (nats bs) : Nat)) ∧ Kept NoB w w' := by
  have HLen := Lib.hid hlen; clear hlen
  have HB := Lib.hid hb; clear hb
  have HR := Lib.hid hr; clear hr
  have HT := Lib.hid hT; clear hT
  have e1 := flip_u32 c hc
  clear hc
  go_enter Tryz.func77, Tryz.ntmps77
  go_wp2
  clear e1
  go_loop [7, 14] (fun r i => ∃ j : Nat, j ≤ len ∧ i = .int .i64 j ∧ r = .int .u32 (regOf (flip c) ((nats bs).take j) : Nat)) (fun _ i => len - (intOf i).toNat)
  case atStart => exact ⟨0, by omega, rfl, by simp [regOf]⟩
  case round =>
    obtain ⟨j, hj, rfl, rfl⟩ := hrel
    by_cases hlt : j < len
    · obtain ⟨b, off, rfl, hbl, hcell⟩ := HR.out.at (by have := HLen.out; omega)
      have hz := hcell j (by have := HLen.out; omega)
      have hs := regOf_succ (flip c) bs j (by have := HLen.out; omega)
      have hzb := AllB.getD HB.out j
      have hrl : regOf (flip c) ((nats bs).take j) < 4294967296 := regOf_lt _ _ (flip_lt c) (fun x hx => nats_lt HB.out x (List.mem_of_mem_take hx))
      obtain ⟨z, hzz⟩ : ∃ z : Nat, bs.getD j 0 = (z : Int) := ⟨_, (Int.toNat_of_nonneg hzb.1).symm⟩
      rw [hzz] at hz hs hzb
      rw [Int.toNat_natCast] at hs
      have HS := Lib.hid hs; clear hs hzz hcell
      generalize regOf (flip c) ((nats bs).take j) = r at hrl HS ⊢
      have hz256 : z < 256 := by omega
      have hx : r % 256 ^^^ z < 256 := Nat.xor_lt_two_pow (n := 8) (Nat.mod_lt _ (by decide)) hz256
      have ex : bits .xor .u8 ((r : Int) % 256) (z : Int) = ((r % 256 ^^^ z : Nat) : Int) := u8_xor_nat (r % 256) z (Nat.mod_lt _ (by decide)) hz256
      have eu := upd_u32 r z hrl hz256
      have hcT : w.cell? ⟨T, r % 256 ^^^ z, none⟩ = some (.int .u32 (steps 8 (r % 256 ^^^ z) : Nat)) := by
        rw [obj_cell HT.out, tblTo_get 256 _ hx, if_pos hx]
      generalize r % 256 ^^^ z = q at hx ex eu hcT
      generalize steps 8 q = sq at eu hcT
      clear hrl hzb
      go_wp2
      go_round
      case rel => exact ⟨j + 1, by omega, by go_num, by rw [HS.out]⟩
      case measure => simp [intOf]; omega
    · have hjl : j = len := by omega
      have hlt2 : regOf (flip c) ((nats bs).take j) < 4294967296 := regOf_lt _ _ (flip_lt c) (fun x hx => nats_lt HB.out x (List.mem_of_mem_take hx))
      have e2 := flip_u32 _ hlt2
      have hfin : crcOf c (nats bs) = flip (regOf (flip c) ((nats bs).take j)) := by
        unfold crcOf
        rw [List.take_of_length_le (by have := HLen.out; simp [nats]; omega)]
      have HF := Lib.hid hfin; clear hfin hjl
      generalize regOf (flip c) ((nats bs).take j) = r at e2 HF hlt2 ⊢
      clear hlt2
      go_wp2
      go_ret
      exact ⟨by rw [HF.out]; rfl, Kept.refl _ _⟩

def Parts (w : World) (po : Option Addr) (ps : List (List Int)) : Prop :=
  ps = [] ∨ ∃ b off, po = some ⟨b, off, none⟩ ∧ b < w.heap.size ∧ ∀ i, i < ps.length → ∃ ao cap, w.cell? ⟨b, off + i, none⟩ = some (.slice ao (ps.getD i []).length cap) ∧ Reads w ao (ps.getD i []) ∧ (ps.getD i []).length ≤ cap ∧ cap ≤ maxLen ∧ (ao = none → cap = 0)
def AllP (ps : List (List Int)) : Prop := ∀ p ∈ ps, AllB p
theorem Parts.keptNo {w w' : World} {po : Option Addr} {ps : List (List Int)} (h : Parts w po ps) (hk : Kept NoB w w') : Parts w' po ps := by
  rcases h with h | ⟨b, off, h1, h2, h3⟩
  · exact .inl h
  · refine .inr ⟨b, off, h1, Nat.lt_of_lt_of_le h2 hk.size, fun i hi => ?_⟩
    obtain ⟨ao, cap, c, r, m⟩ := h3 i hi
    exact ⟨ao, cap, hk.cell c, r.keptNo hk, m⟩
theorem Tbl.keptNo {w w' : World} {T : Nat} (h : Tbl w T) (hk : Kept NoB w w') : Tbl w' T := hk.obj h (fun h => h)
theorem AllP.getD {ps : List (List Int)} (h : AllP ps) (i : Nat) : AllB (ps.getD i []) := by
  by_cases hi : i < ps.length
  · have : ps.getD i [] = ps[i] := by simp [List.getD, hi]
    rw [this]; exact h _ (List.getElem_mem hi)
  · have : ps.getD i [] = [] := by simp [List.getD, List.getElem?_eq_none (Nat.le_of_not_lt hi)]
    rw [this]; intro b hb; cases hb
theorem AllP.flat {ps : List (List Int)} (h : AllP ps) : AllB ps.flatten := by
  intro b hb
  obtain ⟨p, hp, hbp⟩ := List.mem_flatten.1 hb
  exact h p hp b hbp
theorem nats_append (a b : List Int) : nats (a ++ b) = nats a ++ nats b := List.map_append
theorem flat_succ (ps : List (List Int)) (j : Nat) (hj : j < ps.length) : (ps.take (j + 1)).flatten = (ps.take j).flatten ++ ps.getD j [] := by
  have e : ps.getD j [] = ps[j] := by simp [List.getD, hj]
  rw [e, List.take_succ_eq_append_getElem hj, List.flatten_append, List.flatten_cons, List.flatten_nil, List.append_nil]
theorem crc_start : crcOf 0 (nats ([] : List (List Int)).flatten) = 0 := crcOf_nil 0 (by decide)

set_option maxHeartbeats 2000000 in
theorem sum_any (w : World) (T : Nat) (po : Option Addr) (cap len : Nat) (ps : List (List Int)) (hT : Tbl w T) (hr : Parts w po ps) (hb : AllP ps) (hlen : ps.length = len) (hm : len ≤ 9223372036854775807) :
    Calls Tryz.prog 44 #[.pointer (some ⟨T, 0, none⟩), .slice po len cap] w fun e w' => e = .returned (.int .u32 (crcOf 0 (nats ps.flatten) : Nat)) ∧ Kept NoB w w' := by
  have HLen := Lib.hid hlen; clear hlen
  have HB := Lib.hid hb; clear hb
  have HR := Lib.hid hr; clear hr
  have HT := Lib.hid hT; clear hT
  go_enter Tryz.func44, Tryz.ntmps44
  go_wp2
  go_loopw [5, 10] (fun r i wr => ∃ j : Nat, j ≤ len ∧ i = .int .i64 j ∧ r = .int .u32 (crcOf 0 (nats (ps.take j).flatten) : Nat) ∧ Kept NoB w wr) (fun _ i _ => len - (intOf i).toNat)
  case atStart => exact ⟨0, by omega, rfl, by rw [List.take_zero, crc_start]; rfl, Kept.refl _ _⟩
  case round =>
    obtain ⟨j, hj, rfl, rfl, hk⟩ := hrel
    by_cases hlt : j < len
    · have hjp : j < ps.length := by have := HLen.out; omega
      rcases HR.out.keptNo hk with h0 | ⟨b, off, rfl, hbl, hc⟩
      · rw [h0] at hjp; simp at hjp
      · obtain ⟨ao, cp, c0, hrd, hlc, hcm, _⟩ := hc j hjp
        have hAll := AllP.getD HB.out j
        have hstep : crcOf 0 (nats (ps.take (j + 1)).flatten) = crcOf (crcOf 0 (nats (ps.take j).flatten)) (nats (ps.getD j [])) := by
          rw [flat_succ ps j hjp, nats_append, crcOf_append]
          exact nats_lt (AllP.flat (fun p hp => HB.out p (List.mem_of_mem_take hp)))
        have hcl := crcOf_lt 0 (nats (ps.take j).flatten)
        have HS := Lib.hid hstep; clear hstep
        generalize crcOf 0 (nats (ps.take j).flatten) = cr at HS hcl ⊢
        generalize ps.getD j [] = part at c0 hrd hlc hAll HS
        have HRd := Lib.hid hrd; have HAll := Lib.hid hAll; have HCl := Lib.hid hcl
        have HTk := Lib.hid (HT.out.keptNo hk)
        clear hrd hAll hcl hc hjp
        go_wp2_with fail
        refine (update_any _ T _ _ _ _ part HTk.out HRd.out HAll.out rfl HCl.out (by unfold maxLen at hcm; omega)).mono ?_
        rintro e w2 ⟨rfl, hk2⟩
        go_wp2
        go_roundw
        case rel => exact ⟨j + 1, by omega, by go_num, by rw [HS.out], hk.trans hk2⟩
        case measure => simp [intOf]; omega
    · go_wp2
      go_ret
      exact ⟨by rw [List.take_of_length_le (by have := HLen.out; omega)]; rfl, hk⟩
end Go.Proofs.YtfmjfgmbjdhogaaGreatDoor

namespace Go.Proofs.YtfmjfgmbjdhogaaGreatDoor
open Go.RowKit
set_option linter.unusedVariables false

end Go.Proofs.YtfmjfgmbjdhogaaGreatDoor

namespace Go.Proofs.YtfmjfgmbjdhogaaGreatDoor
open Go.RowKit
set_option linter.unusedVariables false

def RdI (w : World) (B : Nat) (ao : Option Addr) (zs : List Int) : Prop :=
  ∀ i, i < zs.length → ∃ g off, ao = some ⟨g, off, none⟩ ∧ g < B ∧ w.cell? ⟨g, off + i, none⟩ = some (.int .i64 (zs.getD i 0))
theorem RdI.kept {S : Nat → Prop} {w w' : World} {B : Nat} {ao : Option Addr} {zs : List Int} (h : RdI w B ao zs) (hk : Kept S w w') (hs : ∀ k, k < B → ¬ S k) : RdI w' B ao zs := by
  intro i hi
  obtain ⟨g, off, h1, h2, h3⟩ := h i hi
  exact ⟨g, off, h1, h2, (World.cell?_of_block (hk.block _ (World.block_lt_of_cell? w _ h3) (hs g h2))).trans h3⟩
def AllI (zs : List Int) : Prop := ∀ z ∈ zs, -9223372036854775808 ≤ z ∧ z ≤ 9223372036854775807
end Go.Proofs.YtfmjfgmbjdhogaaGreatDoor

namespace Go.Proofs.YtfmjfgmbjdhogaaGreatDoor
open Go.RowKit
set_option linter.unusedVariables false
set_option linter.unusedSimpArgs false

theorem wpList_by_none {w : World} {ops : Array Oper} {rest : List Oper} {o : Oper} {act : Act} {Q : Exit → Act → World → Prop} (hgd : o.guard = none) (s x : Operand)
    (ho : o.op = .call { callee := .builtin .append, args := #[s, x], argTypes := #[22, 22] })
    {w0 : World} {a : Option Addr} {l c : Nat} {L : List UInt8} (hS : BySt w0 w a l c L) (hs : act.eval s = .slice a l c) (hx : act.eval x = .slice none 0 0)
    (h : wpList Tryz.prog ops Q rest (act.put o.dst (.slice a l c)) w) : wpList Tryz.prog ops Q (o :: rest) act w := by
  obtain ⟨i, hi, hz, hsz, hby⟩ := info_parts info5
  refine wpList_plain hgd fun _ hK => ?_
  have hr := run_append_owned_none (P := Tryz.prog) (w := w) 0 22 o.type 5 i 1 Tryz.underlying22 hi (.slice a l c) l (bc L) hS.own
  unfold Oper.wp execOp
  simp only [ho, resolve, invoke, builtin, Sem.run_bind, Sem.run_pure, Result.andThen_ok, List.map_toArray, List.map_cons, List.map_nil, hs, hx, hr]
  exact hK _ _ h
theorem wpList_by_one {w : World} {ops : Array Oper} {rest : List Oper} {o : Oper} {act : Act} {Q : Exit → Act → World → Prop} (hgd : o.guard = none) (s x : Operand)
    (ho : o.op = .call { callee := .builtin .append, args := #[s, x], argTypes := #[22, 22] })
    {w0 : World} {a : Option Addr} {l c : Nat} {L : List UInt8} (hS : BySt w0 w a l c L) (hs : act.eval s = .slice a l c) (b : UInt8) (z : Int) (hz : z = (b.toNat : Int)) (hx : act.eval x = .slice (some ⟨w.heap.size, 0, none⟩) 1 1) (hn : l + 1 ≤ 100000000)
    (h : ∀ a2 c2 w', BySt w0 w' a2 (l + 1) c2 (L ++ [b]) → wpList Tryz.prog ops Q rest (act.put o.dst (.slice a2 (l + 1) c2)) w') : wpList Tryz.prog ops Q (o :: rest) act (w.alloc (.cells #[.int .u8 z] 5)) :=
  wpList_by_row hgd s x ho (hS.on ((Kept.refl _ w).alloc _)) hs ⟨w.heap.size, 0, none⟩ 1 1 [b] rfl hx (lit_reads (t := 5) (fr := (0, 0)) (cs := #[.int .u8 z]) _ (heap_alloc_new _ _) (by rw [hz]; rfl)) hn h

end Go.Proofs.YtfmjfgmbjdhogaaGreatDoor

namespace Go.Proofs.YtfmjfgmbjdhogaaGreatDoor
open Go.RowKit
set_option linter.unusedVariables false
set_option linter.unusedSimpArgs false
set_option maxRecDepth 20000

set_option maxHeartbeats 1000000 in
theorem isbyte_yes (n : Nat) (w : World) (h : n < 256) : Calls Tryz.prog 111 #[.int .i64 n] w fun e w' => e = .returned (.bool true) ∧ w' = w := by
  have h2 : decide ((n : Int) ≤ 255) = true := decide_eq_true (by omega)
  have h3 : decide (0 ≤ (n : Int)) = true := decide_eq_true (by omega)
  go_enter Tryz.func111, Tryz.ntmps111
  go_wp2
  go_ret
  exact ⟨rfl, rfl⟩
set_option maxHeartbeats 1000000 in
theorem oktext_yes (L : List UInt8) (w : World) (h0 : 0 ∉ L) (hl : L.length ≤ 1000) : Calls Tryz.prog 110 #[.string (strB L)] w fun e w' => e = .returned (.bool true) ∧ Kept NoB w w' := by
  obtain ⟨cap, w1, hc, ho, hk⟩ := conv_mark w (nb L) (by rw [nb_len]; omega) (nb_all L)
  have hi := ixb_any _ _ cap (nb L) w1 rfl (nb_all L) ho.reads
  rw [ixZ_none h0] at hi
  rw [nb_len] at hi hc
  rw [nb_strG] at hc
  have hs := strB_size L
  obtain ⟨s, hse⟩ : ∃ s, s = strB L := ⟨_, rfl⟩
  rw [← hse] at hc hs ⊢
  obtain ⟨n, hn⟩ : ∃ n, n = L.length := ⟨_, rfl⟩
  rw [← hn] at hc hs hi hl
  have HI := Lib.hid hi; have HK := Lib.hid hk
  clear hi hk ho hse hn
  go_enter Tryz.func110, Tryz.ntmps110
  go_wp2_with fail
  refine HI.out.mono ?_
  rintro e w2 ⟨rfl, rfl⟩
  go_wp2
  go_ret
  exact ⟨rfl, HK.out⟩
theorem leB_take (k n : Nat) : (leB (k + 1) n) = leB k n ++ [UInt8.ofNat (n / 256 ^ k % 256)] := leB_snoc k n
set_option maxHeartbeats 2000000 in
theorem appnum_any (w0 w : World) (a : Option Addr) (l c : Nat) (L : List UInt8) (n k : Nat) (z : Int) (hz : z = (k : Int)) (hS : BySt w0 w a l c L) (hn : n ≤ 9223372036854775807) (hk : k ≤ 8) (hl : l ≤ 10000000) :
    Calls Tryz.prog 42 #[.slice a l c, .int .i64 n, .int .i64 z] w fun e w' => ∃ a2 c2, e = .returned (.slice a2 (l + k) c2) ∧ BySt w0 w' a2 (l + k) c2 (L ++ leB k n) := by
  have HS0 := Lib.hid hS
  clear hS
  subst hz
  go_enter Tryz.func42, Tryz.ntmps42
  go_wp2_with fail
  go_loopw [0, 1, 8] (fun v0 v1 v8 wr => ∃ (a2 : Option Addr) (c2 i z : Nat), v0 = .slice a2 (l + i) c2 ∧ v1 = .int .i64 (z : Int) ∧ v8 = .int .i64 (i : Int) ∧ i ≤ k ∧ z ≤ 9223372036854775807 ∧ Hid (z = n / 256 ^ i) ∧ Hid (BySt w0 wr a2 (l + i) c2 (L ++ leB i n))) (fun _ _ v8 _ => k - (intOf v8).toNat)
  case atStart => exact ⟨a, c, 0, n, rfl, rfl, rfl, Nat.zero_le _, hn, Lib.hid (by simp), Lib.hid (by simpa [leB] using HS0.out)⟩
  case round =>
    obtain ⟨a2, c2, i, z, rfl, rfl, rfl, hi, hz, HZ, HS⟩ := hrel
    by_cases hik : i < k
    · have hcv : IntKind.u8.wrap (z : Int) = ((UInt8.ofNat (z % 256)).toNat : Int) := by rw [UInt8.toNat_ofNat', IntKind.wrap_u8]; omega
      have hdv : (z : Int) / 256 = ((z / 256 : Nat) : Int) := by omega
      obtain ⟨y, hy⟩ : ∃ y, y = z / 256 := ⟨_, rfl⟩
      rw [← hy] at hdv
      obtain ⟨b, hb⟩ : ∃ b, b = UInt8.ofNat (z % 256) := ⟨_, rfl⟩
      rw [← hb] at hcv
      have HB := Lib.hid hb; have HY := Lib.hid hy
      clear hb hy
      go_wp2_with (at_builtin; refine wpList_by_one rfl (.tmp 10) (.tmp 13) rfl HS.out rfl b _ rfl rfl (by omega) ?_; intro a3 c3 w3 hS3; have HS3 := Lib.hid hS3; clear hS3 HS)
      go_wp2
      go_roundw
      case rel =>
        refine ⟨a3, c3, i + 1, y, by rw [Nat.add_assoc], rfl, by go_num, by omega, by have := HY.out; omega, Lib.hid ?_, Lib.hid ?_⟩
        · rw [HY.out, HZ.out, Nat.div_div_eq_div_mul, ← Nat.pow_succ]
        · rw [leB_take, ← HZ.out, ← HB.out, ← List.append_assoc, ← Nat.add_assoc]
          exact HS3.out
      case measure => simp [intOf]; omega
    · go_wp2
      go_ret
      have : i = k := by omega
      subst this
      exact ⟨a2, c2, rfl, HS.out⟩
theorem i64_orG (a b : Nat) (ha : a < 9223372036854775808) (hb : b < 9223372036854775808) : bits .or .i64 (a : Int) (b : Int) = ((a ||| b : Nat) : Int) := by
  show IntKind.i64.wrap ((BitVec.ofInt 64 (a : Int) ||| BitVec.ofInt 64 (b : Int)).toNat : Int) = _
  have h1 : (BitVec.ofInt 64 (a : Int) ||| BitVec.ofInt 64 (b : Int)).toNat = a ||| b := by
    rw [BitVec.ofInt_natCast, BitVec.ofInt_natCast, BitVec.toNat_or, BitVec.toNat_ofNat, BitVec.toNat_ofNat, Nat.mod_eq_of_lt (show a < 2 ^ 64 by omega), Nat.mod_eq_of_lt (show b < 2 ^ 64 by omega)]
  have h2 : a ||| b < 2 ^ 63 := Nat.or_lt_two_pow (n := 63) ha hb
  rw [h1]
  exact IntWalk.i64_in _ (by omega)
theorem shlorG (p q : Nat) (i : Nat) (hp : p < 256 ^ i) (hi : i ≤ 6) (hq : q < 256) : ∃ m : Nat, ((q : Int) * 2 ^ (8 * i)) = (m : Int) ∧ m ≤ 72057594037927936 ∧ bits .or .i64 (p : Int) (m : Int) = ((p + 256 ^ i * q : Nat) : Int) := by
  have e0 : (256 : Nat) ^ i = 2 ^ (8 * i) := by rw [Nat.pow_mul]
  have e1 : ((q : Int) * 2 ^ (8 * i)) = ((q * 2 ^ (8 * i) : Nat) : Int) := by push_cast; rfl
  have h6 : 2 ^ (8 * i) ≤ 2 ^ 48 := Nat.pow_le_pow_right (by decide) (by omega)
  have hb : q * 2 ^ (8 * i) ≤ 255 * 2 ^ 48 := Nat.mul_le_mul (by omega) h6
  rw [e0] at hp ⊢
  refine ⟨_, e1, by omega, ?_⟩
  rw [i64_orG _ _ (by omega) (by omega), or_shift _ _ _ hp, Nat.mul_comm q]
theorem num_take (bs : List Int) (j : Nat) (h : j < bs.length) : num (bs.take (j + 1)) = num (bs.take j) + 256 ^ j * (bs.getD j 0).toNat := by
  rw [List.take_succ_eq_append_getElem h, num_append, List.length_take, Nat.min_eq_left (by omega)]
  simp [num, List.getD, h]
set_option maxHeartbeats 2000000 in
theorem numG_any (w : World) (a : Option Addr) (n c : Nat) (bs : List Int) (hr : Reads w a bs) (hb : AllB bs) (hn : n = bs.length) (h6 : n ≤ 6) :
    Calls Tryz.prog 78 #[.slice a n c] w fun e w' => e = .returned (.int .i64 (num bs : Nat)) ∧ w' = w := by
  have HR := Lib.hid hr; have HB := Lib.hid hb; have HN := Lib.hid hn
  clear hr hb hn
  go_enter Tryz.func78, Tryz.ntmps78
  go_wp2_with fail
  go_loopw [3, 4, 5, 8] (fun v3 _ _ v8 wr => ∃ (i p : Nat), v3 = .int .i64 (p : Int) ∧ v8 = .int .i64 (i : Int) ∧ i ≤ n ∧ wr = w ∧ Hid (p = num (bs.take i))) (fun _ _ _ v8 _ => n - (intOf v8).toNat)
  case atStart => exact ⟨0, 0, rfl, rfl, Nat.zero_le _, rfl, Lib.hid rfl⟩
  case round =>
    obtain ⟨i, p, rfl, rfl, hi, rfl, HP⟩ := hrel
    by_cases hik : i < n
    · have hil : i < bs.length := by have := HN.out; omega
      obtain ⟨g, o, rfl, _, hc⟩ := HR.out.at (by omega)
      have hci := hc i hil
      have hbi := HB.out.getD i
      have hnt := num_take bs i hil
      obtain ⟨z, hz⟩ : ∃ z, z = bs.getD i 0 := ⟨_, rfl⟩
      rw [← hz] at hci hbi hnt
      obtain ⟨q, rfl⟩ : ∃ q : Nat, z = (q : Int) := ⟨z.toNat, by omega⟩
      rw [Int.toNat_natCast] at hnt
      have hp : p < 256 ^ i := by
        rw [HP.out]
        have := num_lt (bs.take i) (fun x hx => HB.out x (List.mem_of_mem_take hx))
        rwa [List.length_take, Nat.min_eq_left (by omega)] at this
      obtain ⟨m, hm, hmb, hor⟩ := shlorG p q i hp (by omega) (by omega)
      have h8 : IntKind.i64.wrap (8 * (i : Int)) = ((8 * i : Nat) : Int) := by rw [IntWalk.i64_in _ (by omega)]; push_cast; rfl
      obtain ⟨j, hj⟩ : ∃ j, j = 8 * i := ⟨_, rfl⟩
      rw [← hj] at hm h8
      have HNt := Lib.hid hnt; have HOr := Lib.hid hor
      have hj48 : j ≤ 40 := by omega
      clear hp hc hz hj hnt hor
      go_wp2
      go_roundw
      case rel => exact ⟨i + 1, p + 256 ^ i * q, congrArg (Value.int .i64) HOr.out, by go_num, by omega, by trivial, Lib.hid (by rw [HNt.out, HP.out])⟩
      case measure => simp [intOf]; omega
    · go_wp2
      go_ret
      have : i = n := by omega
      subst this
      exact ⟨by rw [HP.out, List.take_of_length_le (by have := HN.out; omega)]; rfl, rfl⟩

theorem crc16_nat (bs : List Int) : crcOf 0 (nats bs) < 4294967296 := crcOf_lt 0 (nats bs)
theorem mask16 (n : Nat) (h : n < 4294967296) : bits .and .u32 (n : Int) 65535 = ((n % 65536 : Nat) : Int) := by
  have := u32_and_nat n 65535 h (by decide)
  rw [show n &&& 65535 = n % 65536 from Nat.and_two_pow_sub_one_eq_mod n 16] at this
  exact this
set_option maxHeartbeats 2000000 in
theorem lowsum_any (w : World) (a : Option Addr) (n c : Nat) (bs : List Int) (hr : Reads w a bs) (hb : AllB bs) (hn : n = bs.length) (hc : n ≤ c) (hm : c ≤ maxLen) (h0 : a = none → c = 0) :
    Calls Tryz.prog 75 #[.slice a n c] w fun e w' => e = .returned (.int .i64 (crc16 bs : Nat)) ∧ Kept NoB w w' := by
  have hms := mask16 _ (crc16_nat bs)
  have HR := Lib.hid hr; have HB := Lib.hid hb; have HN := Lib.hid hn; have HC := Lib.hid hc; have HM := Lib.hid hm; have H0 := Lib.hid h0
  clear hr hb hn hc hm h0
  have hsum : ∀ (w1 : World) (T : Nat), Tbl w1 T → Kept NoB w w1 → Calls Tryz.prog 44 #[.pointer (some ⟨T, 0, none⟩), .slice (some ⟨w1.heap.size, 0, none⟩) 1 1] (w1.alloc (.cells #[.slice a n c] 22)) fun e w' => e = .returned (.int .u32 (crcOf 0 (nats bs) : Nat)) ∧ Kept NoB w w' := by
    intro w1 T hT hk
    have hk2 : Kept NoB w (w1.alloc (.cells #[.slice a n c] 22)) := hk.alloc _
    have := sum_any (w1.alloc (.cells #[.slice a n c] 22)) T (some ⟨w1.heap.size, 0, none⟩) 1 1 [bs] (hT.keptNo ((Kept.refl _ _).alloc _)) (.inr ⟨w1.heap.size, 0, rfl, by simp, fun i hi => by
      have : i = 0 := by simpa using hi
      subst this
      exact ⟨a, c, by rw [cell_new 0 rfl]; simp [HN.out], by simpa using HR.out.keptNo hk2, by simpa [← HN.out] using HC.out, HM.out, H0.out⟩⟩) (by intro p hp; simp at hp; subst hp; exact HB.out) rfl (by decide)
    refine this.mono ?_
    rintro e w' ⟨rfl, h⟩
    exact ⟨by simp, hk2.trans h⟩
  have HS := Lib.hid hsum
  have HNt := Lib.hid (newt_any w)
  have hlt := crc16_nat bs
  have HQ : Hid (crc16 bs = crcOf 0 (nats bs) % 65536) := Lib.hid rfl
  generalize crcOf 0 (nats bs) = q at hms HS hlt HQ
  clear hsum
  go_enter Tryz.func75, Tryz.ntmps75
  go_wp2_with fail
  refine HNt.out.mono ?_
  rintro e w1 ⟨T, rfl, hT, hTl, hk1⟩
  have HS1 := Lib.hid (HS.out w1 T hT hk1)
  clear hT hTl hk1 HNt
  go_wp2_with fail
  refine HS1.out.mono ?_
  rintro e w2 ⟨rfl, hk2⟩
  have HK2 := Lib.hid hk2
  clear hk2
  go_wp2
  go_ret
  exact ⟨by rw [HQ.out]; rfl, HK2.out⟩
end Go.Proofs.YtfmjfgmbjdhogaaGreatDoor

namespace Go.Proofs.YtfmjfgmbjdhogaaGreatDoor
open Go.RowKit
set_option linter.unusedVariables false
set_option linter.unusedSimpArgs false
set_option maxRecDepth 20000

def gzV (a : Option Addr) (c : Nat) (g : GzP) : Array Value := #[.bool g.text, .bool g.hasx, .bool g.sum, .slice a g.extra.length c, .string (strB g.name), .string (strB g.comm), .int .i64 g.time, .int .i64 g.xfl, .int .i64 g.os]
set_option maxHeartbeats 2000000 in
theorem gzok_yes (w : World) (a : Option Addr) (c : Nat) (g : GzP) (h : g.Ok) : Calls Tryz.prog 73 #[.agg (gzV a c g)] w fun e w' => e = .returned (.bool true) ∧ Kept NoB w w' := by
  obtain ⟨t, x, s, E, N, C, tm, xf, os⟩ := g
  obtain ⟨h1, h2, h3, h4, h5, h6, h7, h8, h9⟩ := h
  dsimp only at h1 h2 h3 h4 h5 h6 h7 h8 h9
  have HN := Lib.hid (fun W => oktext_yes N W h8 h6)
  have HC := Lib.hid (fun W => oktext_yes C W h9 h7)
  have HX := Lib.hid (fun W => isbyte_yes xf W h2)
  have HO := Lib.hid (fun W => isbyte_yes os W h3)
  unfold gzV
  dsimp only
  have hx : x = true ∨ (x = false ∧ E.length = 0) := by
    cases x with
    | true => exact .inl rfl
    | false => exact .inr ⟨rfl, by rw [h5 rfl]; rfl⟩
  obtain ⟨n, hn⟩ : ∃ n, n = E.length := ⟨_, rfl⟩
  rw [← hn] at h4 hx ⊢
  generalize strB N = S1 at HN ⊢
  generalize strB C = S2 at HC ⊢
  have d1 : decide ((n : Int) ≤ 65535) = true := decide_eq_true (by omega)
  have d2 : decide ((tm : Int) < 4294967296) = true := decide_eq_true (by omega)
  have d3 : decide (0 ≤ (tm : Int)) = true := decide_eq_true (by omega)
  clear h1 h2 h3 h5 h6 h7 h8 h9 hn
  rcases hx with rfl | ⟨rfl, rfl⟩
  all_goals
    go_enter Tryz.func73, Tryz.ntmps73
    go_wp2_with fail
    refine (HN.out _).mono ?_
    rintro e w1 ⟨rfl, hk1⟩
    have c5 := hk1.cell (show _ = some (Value.string S2) from cell_new (w := w) 5 rfl)
    have c6 := hk1.cell (show _ = some (Value.int .i64 tm) from cell_new (w := w) 6 rfl)
    have c7 := hk1.cell (show _ = some (Value.int .i64 xf) from cell_new (w := w) 7 rfl)
    have c8 := hk1.cell (show _ = some (Value.int .i64 os) from cell_new (w := w) 8 rfl)
    have HK1 := Lib.hid (((Kept.refl NoB w).alloc _).trans hk1)
    clear hk1
    go_wp2_with fail
    refine (HC.out _).mono ?_
    rintro e w2 ⟨rfl, hk2⟩
    have c6 := hk2.cell c6
    have c7 := hk2.cell c7
    have c8 := hk2.cell c8
    have HK2 := Lib.hid (HK1.out.trans hk2)
    clear hk2
    go_wp2_with fail
    refine (HX.out _).mono ?_
    rintro e w3 ⟨rfl, rfl⟩
    go_wp2_with fail
    refine (HO.out _).mono ?_
    rintro e w3 ⟨rfl, rfl⟩
    go_wp2
    go_ret
    exact ⟨rfl, HK2.out⟩
def flB (g : GzP) : List Bool := [g.text, g.sum, g.hasx, !g.name.isEmpty, !g.comm.isEmpty]
def accN (l : List Bool) : Nat → Nat
  | 0 => 0
  | i + 1 => accN l i + bitN (l.getD i false) (2 ^ i)
theorem accN_lt (l : List Bool) : ∀ i, accN l i < 2 ^ i
  | 0 => by simp [accN]
  | i + 1 => by
    have := accN_lt l i
    rw [accN, Nat.pow_succ]
    unfold bitN
    split <;> omega
theorem accN_flag (g : GzP) : accN (flB g) 5 = flagN g := by
  unfold flB flagN
  simp [accN]
def flRow (l : List Bool) : Array Value := #[.bool (l.getD 0 false), .int .u8 1, .bool (l.getD 1 false), .int .u8 2, .bool (l.getD 2 false), .int .u8 4, .bool (l.getD 3 false), .int .u8 8, .bool (l.getD 4 false), .int .u8 16]
theorem flRow_at (l : List Bool) (i : Nat) (hi : i < 5) : (flRow l)[i * 2]? = some (.bool (l.getD i false)) ∧ (flRow l)[i * 2 + 1]? = some (.int .u8 ((2 ^ i : Nat) : Int)) := by
  match i, hi with
  | 0, _ => exact ⟨rfl, rfl⟩
  | 1, _ => exact ⟨rfl, rfl⟩
  | 2, _ => exact ⟨rfl, rfl⟩
  | 3, _ => exact ⟨rfl, rfl⟩
  | 4, _ => exact ⟨rfl, rfl⟩
theorem or_u8 (p i : Nat) (hp : p < 2 ^ i) (hi : i < 5) : bits .or .u8 (p : Int) ((2 ^ i : Nat) : Int) = ((p + 2 ^ i : Nat) : Int) := by
  have h5 : 2 ^ i ≤ 2 ^ 4 := Nat.pow_le_pow_right (by decide) (by omega)
  rw [u8_or_nat p (2 ^ i) (by omega) (by omega)]
  have := or_shift p 1 i hp
  rw [Nat.one_mul] at this
  rw [this]
set_option maxHeartbeats 2000000 in
theorem flags_any (w : World) (a : Option Addr) (c : Nat) (g : GzP) : Calls Tryz.prog 74 #[.agg (gzV a c g)] w fun e w' => e = .returned (.int .u8 (flagN g : Nat)) ∧ Kept NoB w w' := by
  have hfl := accN_flag g
  have hN := strB_list g.name
  have hC := strB_list g.comm
  obtain ⟨l, hl⟩ : ∃ l, l = flB g := ⟨_, rfl⟩
  have hr : flRow l = #[.bool g.text, .int .u8 1, .bool g.sum, .int .u8 2, .bool g.hasx, .int .u8 4, .bool (!g.name.isEmpty), .int .u8 8, .bool (!g.comm.isEmpty), .int .u8 16] := by rw [hl]; rfl
  rw [← hl] at hfl
  rw [← hfl]
  have e1 : (strB g.name).toList.isEmpty = g.name.isEmpty := by rw [hN]
  have e2 : (strB g.comm).toList.isEmpty = g.comm.isEmpty := by rw [hC]
  have e1p : ((strB g.name).toList = []) = (g.name.isEmpty = true) := by rw [hN]; simp
  have e2p : ((strB g.comm).toList = []) = (g.comm.isEmpty = true) := by rw [hC]; simp
  obtain ⟨t, x, s, E, N, C, tm, xf, os⟩ := g
  unfold gzV
  dsimp only at *
  generalize strB N = S1 at *
  generalize strB C = S2 at *
  generalize N.isEmpty = b1 at *
  generalize C.isEmpty = b2 at *
  have HR := Lib.hid hr
  clear hr hfl hl hN hC
  go_enter Tryz.func74, Tryz.ntmps74
  go_wp2_with fail
  go_loopw [3, 5, 25] (fun v3 _ v25 wr => ∃ i p : Nat, v3 = .int .u8 (p : Int) ∧ v25 = .int .i64 (i : Int) ∧ i ≤ 5 ∧ Hid (p = accN l i) ∧ Hid (wr.heap[w.heap.size + 1]? = some (.cells (flRow l) 168 (0, 0))) ∧ Hid (Kept NoB w wr)) (fun _ _ v25 _ => 5 - (intOf v25).toNat)
  case atStart => exact ⟨0, 0, rfl, rfl, by omega, Lib.hid rfl, Lib.hid (by rw [HR.out]; have := heap_alloc_new (w.alloc (.cells #[.bool t, .bool x, .bool s, .slice a E.length c, .string S1, .string S2, .int .i64 tm, .int .i64 xf, .int .i64 os] 42)) (.cells #[.bool t, .int .u8 1, .bool s, .int .u8 2, .bool x, .int .u8 4, .bool (!b1), .int .u8 8, .bool (!b2), .int .u8 16] 168); simpa using this), Lib.hid (((Kept.refl NoB w).alloc _).alloc _)⟩
  case round =>
    obtain ⟨i, p, rfl, rfl, hi, HP, HW, HK⟩ := hrel
    by_cases hi5 : i < 5
    · obtain ⟨f1, f2⟩ := flRow_at l i hi5
      have c1 := (obj_cell HW.out (i * 2)).trans f1
      have c2 := (obj_cell HW.out (i * 2 + 1)).trans f2
      have hp : p < 2 ^ i := by rw [HP.out]; exact accN_lt l i
      have hor := or_u8 p i hp hi5
      have HAc : Hid (accN l (i + 1) = p + bitN (l.getD i false) (2 ^ i)) := Lib.hid (by rw [accN, HP.out])
      obtain ⟨q, hq⟩ : ∃ q, q = 2 ^ i := ⟨_, rfl⟩
      rw [← hq] at c2 hor HAc
      generalize l.getD i false = b at c1 HAc
      clear f1 f2 hp hq
      cases b with
      | true =>
        go_wp2
        go_roundw
        case rel => exact ⟨i + 1, p + q, rfl, by go_num, by omega, Lib.hid (by rw [HAc.out]; rfl), Lib.hid ((Kept.alloc (Kept.refl NoB wr) _).obj HW.out (fun h => h)), Lib.hid (HK.out.alloc _)⟩
        case measure => simp [intOf]; omega
      | false =>
        go_wp2
        go_roundw
        case rel => exact ⟨i + 1, p, rfl, by go_num, by omega, Lib.hid (by rw [HAc.out]; rfl), Lib.hid ((Kept.alloc (Kept.refl NoB wr) _).obj HW.out (fun h => h)), Lib.hid (HK.out.alloc _)⟩
        case measure => simp [intOf]; omega
    · go_wp2
      go_ret
      have : i = 5 := by omega
      subst this
      exact ⟨by rw [← HP.out]; rfl, HK.out⟩
end Go.Proofs.YtfmjfgmbjdhogaaGreatDoor

namespace Go.Proofs.YtfmjfgmbjdhogaaGreatDoor
set_option linter.unusedVariables false

def ge (s i : Nat) : Nat := i / s - 1
def gb (s i : Nat) : Nat := if i / s - 1 = 0 then i else (s + i % s) * 2 ^ (i / s - 1)
def lb (i : Nat) : Nat := 3 + gb 4 i
def le4 (i : Nat) : Nat := ge 4 i
def db (i : Nat) : Nat := 1 + gb 2 i
def de (i : Nat) : Nat := ge 2 i

theorem lb_top : ∀ i, i < 28 → lb i + 2 ^ le4 i ≤ 259 ∧ (i < 27 → lb i + 2 ^ le4 i ≤ 227) ∧ 3 ≤ lb i ∧ le4 i ≤ 5 := by decide
theorem db_top : ∀ i, i < 30 → db i + 2 ^ de i ≤ 32769 ∧ 1 ≤ db i ∧ de i ≤ 13 := by decide
end Go.Proofs.YtfmjfgmbjdhogaaGreatDoor

namespace Go.Proofs.YtfmjfgmbjdhogaaGreatDoor
open Go.RowKit
set_option linter.unusedVariables false
set_option linter.unusedSimpArgs false

structure Tk where
  l : Int
  d : Int
  c : Int
def Tk.wf (t : Tk) : Prop := (-9223372036854775808 ≤ t.l ∧ t.l ≤ 9223372036854775807) ∧ (-9223372036854775808 ≤ t.d ∧ t.d ≤ 9223372036854775807) ∧ 0 ≤ t.c ∧ t.c < 256
def Tk.ok (t : Tk) : Bool := if t.l = 0 then decide (t.d = 0) else decide (3 ≤ t.l ∧ t.l ≤ 258 ∧ 1 ≤ t.d ∧ t.d ≤ 32768 ∧ t.c = 0)
def Tk.no (t : Tk) (n : Nat) (most : Int) : Int := if t.ok = false then 1 else if (n : Int) < t.d then 4 else if most < n + (if t.l < 1 then 1 else t.l) then 5 else 0

end Go.Proofs.YtfmjfgmbjdhogaaGreatDoor

namespace Go.Proofs.YtfmjfgmbjdhogaaGreatDoor
open Go.RowKit
set_option linter.unusedVariables false
set_option linter.unusedSimpArgs false

def copyN (D : Nat) : Nat → List Int → List Int
  | 0, bs => bs
  | k + 1, bs => copyN D k bs ++ [(copyN D k bs).getD ((copyN D k bs).length - D) 0]
theorem copyN_len (D k : Nat) (bs : List Int) : (copyN D k bs).length = bs.length + k := by
  induction k with
  | zero => rfl
  | succ k ih => simp only [copyN, List.length_append, ih, List.length_cons, List.length_nil]; omega
theorem copyN_all (D k : Nat) (bs : List Int) (h : AllB bs) : AllB (copyN D k bs) := by
  induction k with
  | zero => exact h
  | succ k ih =>
    intro b hb
    simp only [copyN, List.mem_append, List.mem_singleton] at hb
    rcases hb with hb | rfl
    · exact ih b hb
    · exact ih.getD _
def Tk.put (t : Tk) (bs : List Int) : List Int := if t.l = 0 then bs ++ [t.c] else copyN t.d.toNat t.l.toNat bs
theorem put_len (t : Tk) (bs : List Int) : (t.put bs).length = bs.length + (if t.l = 0 then 1 else t.l.toNat) := by
  unfold Tk.put
  split
  · simp
  · exact copyN_len _ _ _

end Go.Proofs.YtfmjfgmbjdhogaaGreatDoor
