/-
  The table of the check, and a row of bytes through it.
  The check of a file's bytes.
  Whole seconds of a time.
-/
import Derived.Test.YtjjgadanobeamaaGreatDoorMt23
import Derived.Test.YtjjgadanobeamaaGreatDoorRows
import Derived.BigRegion
import Derived.Deep.DeepCutAuto
import Derived.Deep.RegionWith
import Derived.OwnWalk
namespace Go.Proofs.YtjjgadanobeamaaGreatDoor
open Go.RowKit
set_option linter.unusedVariables false

theorem xorP_u32 (r : Nat) (h : r < 4294967296) : bits .xor .u32 (r : Int) 3988292384 = ((r ^^^ poly : Nat) : Int) := u32_xor_nat r poly h poly_lt
theorem half_int (r : Nat) : (r : Int) / 2 = ((r / 2 : Nat) : Int) := by push_cast; rfl

set_option maxHeartbeats 1000000 in
theorem shifted_any (x : Nat) (w : World) (h : x < 4294967296) : Calls Tryz.prog 52 #[.int .u32 x] w fun e w' => e = .returned (.int .u32 (steps 8 x : Nat)) ∧ w = w' := by
  go_enter Tryz.func52, Tryz.ntmps52
  go_wp2
  go_loop [0, 4] (fun r i => ∃ k : Nat, k ≤ 8 ∧ i = .int .i64 k ∧ r = .int .u32 (steps k x : Nat)) (fun _ i => 8 - (intOf i).toNat)
  case atStart => exact ⟨0, by omega, rfl, rfl⟩
  case round =>
    obtain ⟨k, hk, rfl, rfl⟩ := hrel
    by_cases hlt : k < 8
    · have hl := steps_lt k x h
      have HS : Hid (steps (k + 1) x = step1 (steps k x)) := rfl
      generalize steps k x = r at hl HS ⊢
      have e3 : bits .xor .u32 ((r : Int) / 2) 3988292384 = ((r / 2 ^^^ poly : Nat) : Int) := by rw [half_int]; exact xorP_u32 (r / 2) (by omega)
      by_cases ho : r % 2 = 1
      · have E : Hid (step1 r = r / 2 ^^^ poly) := by show step1 r = _; unfold step1; rw [if_pos ho]
        have e1 : bits .and .u32 (r : Int) 1 = 1 := by rw [and1_u32 r hl, ho]; rfl
        clear ho hl
        go_wp2
        go_round
        case rel => exact ⟨k + 1, by omega, by go_num, by rw [HS.out, E.out]⟩
        case measure => simp [intOf]; omega
      · have E : Hid (step1 r = r / 2) := by show step1 r = _; unfold step1; rw [if_neg ho]
        have h0 : r % 2 = 0 := by omega
        have e1 : bits .and .u32 (r : Int) 1 = 0 := by rw [and1_u32 r hl, h0]; rfl
        clear ho h0 hl
        go_wp2
        go_round
        case rel => exact ⟨k + 1, by omega, by go_num, by rw [HS.out, E.out]; go_num⟩
        case measure => simp [intOf]; omega
    · go_wp2
      go_ret
      exact ⟨by rw [show k = 8 from by omega]; rfl, rfl⟩

def tblTo (i : Nat) : Array Value := ((List.range 256).map fun j => Value.int .u32 (if j < i then steps 8 j else 0 : Nat)).toArray
def Tbl (w : World) (T : Nat) : Prop := w.heap[T]? = some (.cells (tblTo 256) 96 (0, 0))

theorem tblTo_set (i : Nat) (hi : i < 256) : (tblTo i).setIfInBounds i (.int .u32 (steps 8 i : Nat)) = tblTo (i + 1) := by
  apply Array.ext
  · simp [tblTo]
  · intro j h1 h2
    simp [tblTo] at h1 h2
    simp only [tblTo, List.getElem_toArray, List.getElem_map, List.getElem_range]
    by_cases hj : i = j
    · subst hj; simp
    · have : (j < i) = (j < i + 1) := by apply propext; omega
      simp [hj, this]
theorem tblTo_get (i j : Nat) (hj : j < 256) : (tblTo i)[j]? = some (.int .u32 (if j < i then steps 8 j else 0 : Nat)) := by
  simp [tblTo, hj]

theorem zeroTbl (w : World) : (zeroValue 96).run Tryz.prog w = .ok (.agg (tblTo 0)) w := by kernel_rfl
def NewT (w : World) (e : Ending) (w' : World) : Prop := ∃ T, e = .returned (.pointer (some ⟨T, 0, none⟩)) ∧ Tbl w' T ∧ w.heap.size ≤ T ∧ Kept NoB w w'
set_option maxRecDepth 100000 in
set_option maxHeartbeats 2000000 in
theorem newt_any (w : World) : Calls Tryz.prog 39 #[] w (NewT w) := by
  have hz := fun w => zeroTbl w
  obtain ⟨t0, ht0⟩ : ∃ t, t = tblTo 0 := ⟨_, rfl⟩
  rw [← ht0] at hz
  have HT0 := Lib.hid ht0; clear ht0
  go_enter Tryz.func39, Tryz.ntmps39
  go_wp2
  go_loopw [5] (fun i wr => ∃ k : Nat, k ≤ 256 ∧ i = .int .i64 k ∧ wr.heap[w.heap.size]? = some (.cells (tblTo k) 96 (0, 0)) ∧ Kept NoB w wr) (fun i _ => 256 - (intOf i).toNat)
  case atStart => exact ⟨0, by omega, rfl, by rw [← HT0.out]; exact heap_alloc_new _ _, (Kept.refl _ _).alloc _⟩
  case round =>
    obtain ⟨k, hk, rfl, ho, hK⟩ := hrel
    by_cases hlt : k < 256
    · have c0 : wr.cell? ⟨w.heap.size, k, none⟩ = some (.int .u32 (0 : Nat)) := by rw [obj_cell ho, tblTo_get k k hlt]; simp
      have f0 : wr.frozen? ⟨w.heap.size, k, none⟩ = false := obj_free ho k
      have HO := Lib.hid ho; clear ho
      go_wp2
      have q0 : IntKind.u32.wrap (k : Int) = k := by rw [IntKind.wrap_u32']; omega
      have HS := fun w => shifted_any k w (by omega)
      have HSh := Lib.hid HS; clear HS
      go_region_with (go_at_call 52; ((with_reducible refine (HSh.out _).mono ?_); rintro e w' ⟨rfl, rfl⟩))
      go_wp2
      go_roundw
      case rel =>
        refine ⟨k + 1, by omega, by go_num, ?_, Kept.drew (Kept.setCell (p := ⟨w.heap.size, k, none⟩) hK (.inr (Nat.le_refl _)) _)⟩
        have := obj_set HO.out k (.int .u32 (steps 8 k : Nat))
        rw [tblTo_set k hlt] at this
        exact this
      case measure => simp [intOf]; omega
    · go_wp2
      go_ret
      have : k = 256 := by omega
      subst this
      exact ⟨w.heap.size, rfl, ho, Nat.le_refl _, hK⟩


theorem nats_lt {bs : List Int} (h : AllB bs) : ∀ x ∈ nats bs, x < 256 := by
  intro x hx
  obtain ⟨b, hb, rfl⟩ := List.mem_map.1 hx
  have := h b hb
  omega
theorem regOf_succ (r : Nat) (bs : List Int) (j : Nat) (hj : j < bs.length) : regOf r ((nats bs).take (j + 1)) = upd (regOf r ((nats bs).take j)) (bs.getD j 0).toNat := by
  have hl : j < (nats bs).length := by simpa [nats] using hj
  rw [List.take_succ_eq_append_getElem hl, regOf_append]
  simp [regOf, nats, List.getD, hj]
theorem flip_u32 (c : Nat) (h : c < 4294967296) : bits .xor .u32 IntKind.u32.max (c : Int) = ((flip c : Nat) : Int) := by
  show IntKind.u32.wrap ((BitVec.ofInt 32 IntKind.u32.max ^^^ BitVec.ofInt 32 (c : Int)).toNat : Int) = _
  have e : BitVec.ofInt 32 IntKind.u32.max = BitVec.allOnes 32 := by decide
  rw [e, ← BitVec.not_def, BitVec.toNat_not, ofInt_u32 c h, IntKind.wrap_u32']
  unfold flip
  omega

theorem upd_u32 (r z : Nat) (hr : r < 4294967296) (hz : z < 256) : bits .xor .u32 ((r : Int) / 256) ((steps 8 (r % 256 ^^^ z) : Nat) : Int) = ((upd r z : Nat) : Int) := by
  have h1 : ((r : Int) / 256) = ((r / 256 : Nat) : Int) := (Int.natCast_ediv r 256).symm
  have h2 : r % 256 ^^^ z < 256 := Nat.xor_lt_two_pow (n := 8) (Nat.mod_lt _ (by decide)) hz
  rw [h1, u32_xor_nat _ _ (by omega) (steps_lt 8 _ (by omega))]
  rfl

set_option maxHeartbeats 2000000 in
theorem update_any (w : World) (T : Nat) (ao : Option Addr) (cap len c : Nat) (bs : List Int) (hT : Tbl w T) (hr : Reads w ao bs) (hb : AllB bs) (hlen : bs.length = len) (hc : c < 4294967296) (hm : len ≤ 9223372036854775807) :
    Calls Tryz.prog 58 #[.pointer (some ⟨T, 0, none⟩), .int .u32 c, .slice ao len cap] w fun e w' => e = .returned (.int .u32 (crcOf c (nats bs) : Nat)) ∧ Kept NoB w w' := by
  have HLen := Lib.hid hlen; clear hlen
  have HB := Lib.hid hb; clear hb
  have HR := Lib.hid hr; clear hr
  have HT := Lib.hid hT; clear hT
  have e1 := flip_u32 c hc
  clear hc
  go_enter Tryz.func58, Tryz.ntmps58
  go_wp2
  clear e1
  go_loop [7, 14] (fun r i => ∃ j : Nat, j ≤ len ∧ i = .int .i64 j ∧ r = .int .u32 (regOf (flip c) ((nats bs).take j) : Nat)) (fun _ i => len - (intOf i).toNat)
  case atStart => exact ⟨0, by omega, rfl, by simp [regOf]⟩
  case round =>
    obtain ⟨j, hj, rfl, rfl⟩ := hrel
    by_cases hlt : j < len
    · obtain ⟨b, off, rfl, hbl, hcell⟩ := HR.out.at (by have := HLen.out; omega)
      have hz := hcell j (by have := HLen.out; omega)
      have hs := regOf_succ (flip c) bs j (by have := HLen.out; omega)
      have hzb := AllB.getD HB.out j
      have hrl : regOf (flip c) ((nats bs).take j) < 4294967296 := regOf_lt _ _ (flip_lt c) (fun x hx => nats_lt HB.out x (List.mem_of_mem_take hx))
      obtain ⟨z, hzz⟩ : ∃ z : Nat, bs.getD j 0 = (z : Int) := ⟨_, (Int.toNat_of_nonneg hzb.1).symm⟩
      rw [hzz] at hz hs hzb
      rw [Int.toNat_natCast] at hs
      have HS := Lib.hid hs; clear hs hzz hcell
      generalize regOf (flip c) ((nats bs).take j) = r at hrl HS ⊢
      have hz256 : z < 256 := by omega
      have hx : r % 256 ^^^ z < 256 := Nat.xor_lt_two_pow (n := 8) (Nat.mod_lt _ (by decide)) hz256
      have ex : bits .xor .u8 ((r : Int) % 256) (z : Int) = ((r % 256 ^^^ z : Nat) : Int) := u8_xor_nat (r % 256) z (Nat.mod_lt _ (by decide)) hz256
      have eu := upd_u32 r z hrl hz256
      have hcT : w.cell? ⟨T, r % 256 ^^^ z, none⟩ = some (.int .u32 (steps 8 (r % 256 ^^^ z) : Nat)) := by
        rw [obj_cell HT.out, tblTo_get 256 _ hx, if_pos hx]
      generalize r % 256 ^^^ z = q at hx ex eu hcT
      generalize steps 8 q = sq at eu hcT
      clear hrl hzb
      go_wp2
      go_round
      case rel => exact ⟨j + 1, by omega, by go_num, by rw [HS.out]⟩
      case measure => simp [intOf]; omega
    · have hjl : j = len := by omega
      have hlt2 : regOf (flip c) ((nats bs).take j) < 4294967296 := regOf_lt _ _ (flip_lt c) (fun x hx => nats_lt HB.out x (List.mem_of_mem_take hx))
      have e2 := flip_u32 _ hlt2
      have hfin : crcOf c (nats bs) = flip (regOf (flip c) ((nats bs).take j)) := by
        unfold crcOf
        rw [List.take_of_length_le (by have := HLen.out; simp [nats]; omega)]
      have HF := Lib.hid hfin; clear hfin hjl
      generalize regOf (flip c) ((nats bs).take j) = r at e2 HF hlt2 ⊢
      clear hlt2
      go_wp2
      go_ret
      exact ⟨by rw [HF.out]; rfl, Kept.refl _ _⟩

def Parts (w : World) (po : Option Addr) (ps : List (List Int)) : Prop :=
  ps = [] ∨ ∃ b off, po = some ⟨b, off, none⟩ ∧ b < w.heap.size ∧ ∀ i, i < ps.length → ∃ ao cap, w.cell? ⟨b, off + i, none⟩ = some (.slice ao (ps.getD i []).length cap) ∧ Reads w ao (ps.getD i []) ∧ (ps.getD i []).length ≤ cap ∧ cap ≤ maxLen ∧ (ao = none → cap = 0)
def AllP (ps : List (List Int)) : Prop := ∀ p ∈ ps, AllB p
theorem Parts.keptNo {w w' : World} {po : Option Addr} {ps : List (List Int)} (h : Parts w po ps) (hk : Kept NoB w w') : Parts w' po ps := by
  rcases h with h | ⟨b, off, h1, h2, h3⟩
  · exact .inl h
  · refine .inr ⟨b, off, h1, Nat.lt_of_lt_of_le h2 hk.size, fun i hi => ?_⟩
    obtain ⟨ao, cap, c, r, m⟩ := h3 i hi
    exact ⟨ao, cap, hk.cell c, r.keptNo hk, m⟩
theorem Tbl.keptNo {w w' : World} {T : Nat} (h : Tbl w T) (hk : Kept NoB w w') : Tbl w' T := hk.obj h (fun h => h)
theorem AllP.getD {ps : List (List Int)} (h : AllP ps) (i : Nat) : AllB (ps.getD i []) := by
  by_cases hi : i < ps.length
  · have : ps.getD i [] = ps[i] := by simp [List.getD, hi]
    rw [this]; exact h _ (List.getElem_mem hi)
  · have : ps.getD i [] = [] := by simp [List.getD, List.getElem?_eq_none (Nat.le_of_not_lt hi)]
    rw [this]; intro b hb; cases hb
theorem AllP.flat {ps : List (List Int)} (h : AllP ps) : AllB ps.flatten := by
  intro b hb
  obtain ⟨p, hp, hbp⟩ := List.mem_flatten.1 hb
  exact h p hp b hbp
theorem nats_append (a b : List Int) : nats (a ++ b) = nats a ++ nats b := List.map_append
theorem flat_succ (ps : List (List Int)) (j : Nat) (hj : j < ps.length) : (ps.take (j + 1)).flatten = (ps.take j).flatten ++ ps.getD j [] := by
  have e : ps.getD j [] = ps[j] := by simp [List.getD, hj]
  rw [e, List.take_succ_eq_append_getElem hj, List.flatten_append, List.flatten_cons, List.flatten_nil, List.append_nil]
theorem crc_start : crcOf 0 (nats ([] : List (List Int)).flatten) = 0 := crcOf_nil 0 (by decide)

set_option maxHeartbeats 2000000 in
theorem sum_any (w : World) (T : Nat) (po : Option Addr) (cap len : Nat) (ps : List (List Int)) (hT : Tbl w T) (hr : Parts w po ps) (hb : AllP ps) (hlen : ps.length = len) (hm : len ≤ 9223372036854775807) :
    Calls Tryz.prog 56 #[.pointer (some ⟨T, 0, none⟩), .slice po len cap] w fun e w' => e = .returned (.int .u32 (crcOf 0 (nats ps.flatten) : Nat)) ∧ Kept NoB w w' := by
  have HLen := Lib.hid hlen; clear hlen
  have HB := Lib.hid hb; clear hb
  have HR := Lib.hid hr; clear hr
  have HT := Lib.hid hT; clear hT
  go_enter Tryz.func56, Tryz.ntmps56
  go_wp2
  go_loopw [5, 10] (fun r i wr => ∃ j : Nat, j ≤ len ∧ i = .int .i64 j ∧ r = .int .u32 (crcOf 0 (nats (ps.take j).flatten) : Nat) ∧ Kept NoB w wr) (fun _ i _ => len - (intOf i).toNat)
  case atStart => exact ⟨0, by omega, rfl, by rw [List.take_zero, crc_start]; rfl, Kept.refl _ _⟩
  case round =>
    obtain ⟨j, hj, rfl, rfl, hk⟩ := hrel
    by_cases hlt : j < len
    · have hjp : j < ps.length := by have := HLen.out; omega
      rcases HR.out.keptNo hk with h0 | ⟨b, off, rfl, hbl, hc⟩
      · rw [h0] at hjp; simp at hjp
      · obtain ⟨ao, cp, c0, hrd, hlc, hcm, _⟩ := hc j hjp
        have hAll := AllP.getD HB.out j
        have hstep : crcOf 0 (nats (ps.take (j + 1)).flatten) = crcOf (crcOf 0 (nats (ps.take j).flatten)) (nats (ps.getD j [])) := by
          rw [flat_succ ps j hjp, nats_append, crcOf_append]
          exact nats_lt (AllP.flat (fun p hp => HB.out p (List.mem_of_mem_take hp)))
        have hcl := crcOf_lt 0 (nats (ps.take j).flatten)
        have HS := Lib.hid hstep; clear hstep
        generalize crcOf 0 (nats (ps.take j).flatten) = cr at HS hcl ⊢
        generalize ps.getD j [] = part at c0 hrd hlc hAll HS
        have HRd := Lib.hid hrd; have HAll := Lib.hid hAll; have HCl := Lib.hid hcl
        have HTk := Lib.hid (HT.out.keptNo hk)
        clear hrd hAll hcl hc hjp
        go_wp2_with fail
        refine (update_any _ T _ _ _ _ part HTk.out HRd.out HAll.out rfl HCl.out (by unfold maxLen at hcm; omega)).mono ?_
        rintro e w2 ⟨rfl, hk2⟩
        go_wp2
        go_roundw
        case rel => exact ⟨j + 1, by omega, by go_num, by rw [HS.out], hk.trans hk2⟩
        case measure => simp [intOf]; omega
    · go_wp2
      go_ret
      exact ⟨by rw [List.take_of_length_le (by have := HLen.out; omega)]; rfl, hk⟩
end Go.Proofs.YtjjgadanobeamaaGreatDoor

namespace Go.Proofs.YtjjgadanobeamaaGreatDoor
open Go.RowKit
set_option linter.unusedVariables false
set_option linter.unusedSimpArgs false
set_option maxRecDepth 20000

theorem nats_nb (L : List UInt8) : nats (nb L) = byN L := by
  unfold nats nb byN
  rw [List.map_map]
  exact List.map_congr_left (fun b _ => by simp)
theorem allB_nb (L : List UInt8) : AllB (nb L) := by
  intro b hb
  obtain ⟨c, _, rfl⟩ := List.mem_map.1 hb
  have := UInt8.toNat_lt c
  omega
set_option maxHeartbeats 4000000 in
theorem content_any {S : Nat → Prop} {w : World} {f Tb : Nat} {T : FsP} (h : FsSt S w f T) (hT : Tbl w Tb) (ino : Int) (hi : -9223372036854775808 ≤ ino ∧ ino ≤ 9223372036854775807) (size : Int) (hs : 0 ≤ size ∧ size ≤ 1048576) :
    Calls Tryz.prog 44 #[.pointer (some ⟨f, 0, none⟩), .pointer (some ⟨Tb, 0, none⟩), .int .i64 ino, .int .i64 size] w fun e w' => e = .returned (.int .u32 (contentP T ino size : Nat)) ∧ Kept NoB w w' := by
  have HR := Lib.hid (read_any h ino hi 0 (by decide) size (by omega))
  have HT := Lib.hid hT
  have hc : contentP T ino size = crcOf 0 (byN (readP T ino 0 size).1) := by unfold contentP; rw [if_pos hs.2]
  rw [hc]
  obtain ⟨L, hL⟩ : ∃ L, L = (readP T ino 0 size).1 := ⟨_, rfl⟩
  rw [← hL] at HR ⊢
  obtain ⟨x, hx⟩ : ∃ x, x = (readP T ino 0 size).2 := ⟨_, rfl⟩
  rw [← hx] at HR
  obtain ⟨n, hn⟩ : ∃ n, n = L.length := ⟨_, rfl⟩
  rw [← hn] at HR
  have HN := Lib.hid hn
  have hle := hs.2
  clear h hT hc hL hx hn hs
  go_enter Tryz.func44, Tryz.ntmps44
  go_upto_region 3 with (first | (go_at_call 55; refine HR.out.mono ?_; rintro e w1 ⟨a, c, rfl, HQ⟩) | fail)
  have HSm : Hid (∀ W, W = w1.alloc (.cells #[.slice a n c] 26) → Calls Tryz.prog 56 #[.pointer (some ⟨Tb, 0, none⟩), .slice (some ⟨w1.heap.size, 0, none⟩) 1 1] W fun e w' => e = .returned (.int .u32 (crcOf 0 (byN L) : Nat)) ∧ Kept NoB W w') := Lib.hid (fun W hW => by
    obtain ⟨q1, q2, q3⟩ := HQ.out
    have hkW : Kept NoB w1 W := by rw [hW]; exact (Kept.refl NoB w1).alloc _
    have hRd : Reads w1 a (nb L) := by
      refine own_reads (n := L.length) (cap := c) ?_ (nb_len L).symm
      rw [nb_len]
      have e : (nb L).map (Value.int .u8) = bc L := (bc_nb L).symm
      rw [e]; exact q1
    have hcap := own_cap q1
    have := sum_any W Tb (some ⟨w1.heap.size, 0, none⟩) 1 1 [nb L] ((HT.out.keptNo q3).keptNo hkW) (.inr ⟨w1.heap.size, 0, rfl, by rw [hW]; simp, fun i hi => by
      obtain rfl : i = 0 := by simpa using hi
      refine ⟨a, c, ?_, hRd.keptNo hkW, by rw [List.getD_cons_zero, nb_len]; exact hcap.1, hcap.2, own_nil q1⟩
      rw [hW, cell_new (k := w1.heap.size) _ rfl, List.getD_cons_zero, nb_len, ← HN.out]; rfl⟩) (fun p hp => by simp at hp; subst hp; exact allB_nb L) rfl (by omega)
    have e : nats [nb L].flatten = byN L := by rw [List.flatten_cons, List.flatten_nil, List.append_nil]; exact nats_nb L
    rw [e] at this
    exact this)
  have HK := Lib.hid HQ.out.2.2
  clear HR HQ HT
  go_wp2_with (go_at_call 56; refine (HSm.out _ rfl).mono ?_; rintro e w3 ⟨rfl, hk3⟩)
  go_ret
  exact ⟨rfl, (HK.out.alloc _).trans hk3⟩
end Go.Proofs.YtjjgadanobeamaaGreatDoor

namespace Go.Proofs.YtjjgadanobeamaaGreatDoor
open Go.RowKit
set_option linter.unusedVariables false
set_option linter.unusedSimpArgs false
set_option maxRecDepth 20000

theorem sec_facts (n : Int) : (n.tmod 1000000000 < 0 → n.tdiv 1000000000 - 1 = n / 1000000000) ∧ (¬ n.tmod 1000000000 < 0 → n.tdiv 1000000000 = n / 1000000000) := by
  rcases Int.lt_or_le n 0 with h | h
  · obtain ⟨m, rfl⟩ : ∃ m : Int, n = -m := ⟨-n, by omega⟩
    have hm : 0 ≤ m := by omega
    rw [Int.neg_tdiv, Int.neg_tmod, Int.tdiv_eq_ediv_of_nonneg hm, Int.tmod_eq_emod_of_nonneg hm]
    constructor <;> intro _ <;> omega
  · rw [Int.tdiv_eq_ediv_of_nonneg h, Int.tmod_eq_emod_of_nonneg h]
    constructor <;> intro _ <;> omega
theorem secs_any (n : Int) (w : World) (hn : -9223372036854775808 ≤ n ∧ n ≤ 9223372036854775807) :
    Calls Tryz.prog 15 #[.int .i64 n] w fun e w' => e = .returned (.int .i64 (n / 1000000000)) ∧ w = w' := by
  have HF := Lib.hid (sec_facts n)
  by_cases h : n.tmod 1000000000 < 0
  · have hd : decide (n.tmod 1000000000 < 0) = true := decide_eq_true h
    have hv : wrap64 (n.tdiv 1000000000 - 1) = n / 1000000000 := by
      rw [HF.out.1 h]; unfold wrap64; omega
    have HV := Lib.hid hv
    clear hv
    go_enter Tryz.func15, Tryz.ntmps15
    go_wp2
    go_ret
    exact ⟨by rw [← HV.out]; rfl, rfl⟩
  · have hd : decide (n.tmod 1000000000 < 0) = false := decide_eq_false h
    have HV : Hid (n.tdiv 1000000000 = n / 1000000000) := Lib.hid (HF.out.2 h)
    go_enter Tryz.func15, Tryz.ntmps15
    go_wp2
    go_ret
    exact ⟨by rw [← HV.out]; rfl, rfl⟩
end Go.Proofs.YtjjgadanobeamaaGreatDoor
