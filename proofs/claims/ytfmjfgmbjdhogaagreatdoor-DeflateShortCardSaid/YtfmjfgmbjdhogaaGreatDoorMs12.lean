/-
  NewReader; the writer of bits: NewWriter, Bytes, Len, Align.
  Decoder.Read: the place whose code comes next.
  Bits turned round. No Go in sight.
-/
import Derived.Test.YtfmjfgmbjdhogaaGreatDoorMs11
namespace Go.Proofs.YtfmjfgmbjdhogaaGreatDoor
open Go.RowKit
set_option linter.unusedVariables false

def NewR (w : World) (bs : List Int) (e : Ending) (w' : World) : Prop :=
  ∃ R ao cap, e = .returned (.pointer (some ⟨R, 0, none⟩)) ∧ Rdr w' R ao cap bs 0 ∧ w.heap.size ≤ R ∧ (∀ k, (Value.slice ao bs.length cap).ownBlock = some k → w.heap.size ≤ k) ∧ Kept NoB w w'

set_option maxHeartbeats 1000000 in
theorem newr_any (ao : Option Addr) (cap : Nat) (bs : List Int) (w : World) (hr : Reads w ao bs) (hl : bs.length ≤ 140737488355328) (hb : AllB bs) :
    Calls Tryz.prog 95 #[.slice ao bs.length cap] w (NewR w bs) := by
  have HR := Lib.hid hr; clear hr
  have HB := Lib.hid hb; clear hb
  go_enter Tryz.func95, Tryz.ntmps95
  go_wp2_with (go_at_call 54; refine (clone_any _ _ _ _ HR.out hl).mono ?_; rintro e w1 ⟨ao', cap', rfl, ho, hf, hn, hk⟩)
  go_ret
  refine ⟨w1.heap.size, ao', cap', rfl, ⟨?_, ?_, by omega, by omega, HB.out⟩, hk.size, hf, hk.alloc _⟩
  · exact heap_alloc_new _ _
  · exact ho.alloc _

/-- A writer: its bytes, in a row of its own, and how many bits were put. -/
def WtrT (T : TypeId) (w : World) (R : Nat) (ao : Option Addr) (cap : Nat) (bs : List Int) (s : Nat) : Prop :=
  w.heap[R]? = some (.cells #[.slice ao bs.length cap, .int .i64 s] T (0, 0)) ∧ w.ownsRow 0 5 1 (.slice ao bs.length cap) bs.length (bs.map (.int .u8)) ∧
  AllB bs ∧ bs.length = (s + 7) / 8 ∧ num bs < 2 ^ s ∧ s ≤ 1000000000000

def Wtr (w : World) (R : Nat) (ao : Option Addr) (cap : Nat) (bs : List Int) (s : Nat) : Prop := WtrT 96 w R ao cap bs s

theorem WtrT.kept {T : TypeId} {S : Nat → Prop} {w w' : World} {R : Nat} {ao : Option Addr} {cap : Nat} {bs : List Int} {p : Nat} (h : WtrT T w R ao cap bs p) (hk : Kept S w w') (h1 : ¬ S R) (h2 : ∀ k, (Value.slice ao bs.length cap).ownBlock = some k → ¬ S k) : WtrT T w' R ao cap bs p :=
  ⟨hk.obj h.1 h1, hk.row h.2.1 h2, h.2.2⟩
theorem Wtr.kept {S : Nat → Prop} {w w' : World} {R : Nat} {ao : Option Addr} {cap : Nat} {bs : List Int} {p : Nat} (h : Wtr w R ao cap bs p) (hk : Kept S w w') (h1 : ¬ S R) (h2 : ∀ k, (Value.slice ao bs.length cap).ownBlock = some k → ¬ S k) : Wtr w' R ao cap bs p :=
  ⟨hk.obj h.1 h1, hk.row h.2.1 h2, h.2.2⟩
theorem Wtr.keptNo {w w' : World} {R : Nat} {ao : Option Addr} {cap : Nat} {bs : List Int} {p : Nat} (h : Wtr w R ao cap bs p) (hk : Kept NoB w w') : Wtr w' R ao cap bs p :=
  h.kept hk (fun h => h) (fun _ _ h => h)

def NewW (w : World) (e : Ending) (w' : World) : Prop :=
  ∃ R, e = .returned (.pointer (some ⟨R, 0, none⟩)) ∧ Wtr w' R none 0 [] 0 ∧ w.heap.size ≤ R ∧ Kept NoB w w'
set_option maxHeartbeats 1000000 in
theorem neww_any (w : World) : Calls Tryz.prog 25 #[] w (NewW w) := by
  go_enter Tryz.func25, Tryz.ntmps25
  go_wp2
  go_ret
  refine ⟨w.heap.size, rfl, ⟨heap_alloc_new _ _, World.ownsRow_nil _ _ _ _, (by intro b hb; cases hb), by simp, by simp [num], by omega⟩, Nat.le_refl _, (Kept.refl _ _).alloc _⟩

set_option maxHeartbeats 1000000 in
theorem wlen_any (w : World) (R : Nat) (ao : Option Addr) (cap : Nat) (bs : List Int) (s : Nat) (h : Wtr w R ao cap bs s) :
    Calls Tryz.prog 89 #[.pointer (some ⟨R, 0, none⟩)] w fun e w' => e = .returned (.int .i64 s) ∧ Kept NoB w w' := by
  have c1 : w.cell? ⟨R, 1, none⟩ = some (.int .i64 s) := by simpa using obj_cell h.1 1
  clear h
  go_enter Tryz.func89, Tryz.ntmps89
  go_wp2
  go_ret
  exact ⟨rfl, Kept.refl _ _⟩

set_option maxHeartbeats 1000000 in
theorem wbytes_any (w : World) (R : Nat) (ao : Option Addr) (cap : Nat) (bs : List Int) (s : Nat) (h : Wtr w R ao cap bs s) :
    Calls Tryz.prog 28 #[.pointer (some ⟨R, 0, none⟩)] w (Copied w ao bs) := by
  have c0 : w.cell? ⟨R, 0, none⟩ = some (.slice ao bs.length cap) := by simpa using obj_cell h.1 0
  have hr := own_reads h.2.1 rfl
  have hl : bs.length ≤ 140737488355328 := by have := h.2.2.2.1; have := h.2.2.2.2.2; omega
  clear h
  have HR := Lib.hid hr; clear hr
  go_enter Tryz.func28, Tryz.ntmps28
  go_wp2_with (go_at_call 54; refine (clone_any _ _ _ _ HR.out hl).mono ?_; rintro e w1 ⟨ao', cap', rfl, ho, hf, hn, hk⟩)
  go_ret
  exact ⟨ao', cap', rfl, ho, hf, hn, hk⟩

set_option maxHeartbeats 1000000 in
theorem walign_any (w : World) (R : Nat) (ao : Option Addr) (cap : Nat) (bs : List Int) (s : Nat) (h : Wtr w R ao cap bs s) (hs : s ≤ 900000000000) :
    Calls Tryz.prog 83 #[.pointer (some ⟨R, 0, none⟩)] w fun e w' => e = .returned (.tuple #[]) ∧ Wtr w' R ao cap bs (up8 s) ∧ Kept (OneB R) w w' := by
  have c0 : w.cell? ⟨R, 0, none⟩ = some (.slice ao bs.length cap) := by simpa using obj_cell h.1 0
  have c1 : w.cell? ⟨R, 1, none⟩ = some (.int .i64 s) := by simpa using obj_cell h.1 1
  have f1 : w.frozen? ⟨R, 1, none⟩ = false := obj_free h.1 1
  have hl := h.2.2.2.1
  have hlm : bs.length ≤ 1000000000000000 := by omega
  have HL := Lib.hid hl; clear hl
  have H := Lib.hid h; clear h
  go_enter Tryz.func83, Tryz.ntmps83
  go_wp2
  go_end0
  have e8 : 8 * (bs.length : Int) = ((up8 s : Nat) : Int) := by have := HL.out; unfold up8; omega
  rw [e8]
  obtain ⟨h1, h2, h3, h4, h5, h6⟩ := H.out
  have hne := row_ne h2 h1 (by decide)
  refine ⟨rfl, ⟨?_, ?_, h3, by unfold up8; omega, ?_, by unfold up8; omega⟩, Kept.setCell (S := OneB R) (p := ⟨R, 1, none⟩) (Kept.refl _ _) (.inl rfl) _⟩
  · simpa using obj_set h1 1 (.int .i64 (up8 s : Nat))
  · exact (Kept.setCell (S := OneB R) (p := ⟨R, 1, none⟩) (Kept.refl _ w) (.inl rfl) _).row h2 (fun k hk' e => hne k hk' e)
  · exact Nat.lt_of_lt_of_le h5 (pow_le_pow2 (by unfold up8; omega))
end Go.Proofs.YtfmjfgmbjdhogaaGreatDoor

namespace Go.Proofs.YtfmjfgmbjdhogaaGreatDoor
open Go.RowKit
set_option linter.unusedVariables false
set_option linter.unusedSimpArgs false

theorem and1_u32d (r : Nat) (h : r < 4294967296) : bits .and .u32 (r : Int) 1 = ((r % 2 : Nat) : Int) := by
  have := u32_and_nat r 1 h (by decide)
  rw [nat_mask1] at this
  exact this
theorem rank_at : ∀ (ls : List Int) (z : Int) (k : Nat), k < ls.count z → ∃ j, j < ls.length ∧ ls.getD j 0 = z ∧ (ls.take j).count z = k
  | [], z, k, h => by simp at h
  | y :: r, z, k, h => by
    rw [List.count_cons] at h
    by_cases e : y = z
    · subst e
      cases k with
      | zero => exact ⟨0, by simp, rfl, by simp⟩
      | succ k =>
        simp at h
        obtain ⟨j, h1, h2, h3⟩ := rank_at r y k h
        exact ⟨j + 1, by simpa using h1, by simpa using h2, by rw [List.take_succ_cons, List.count_cons, h3]; simp⟩
    · have e2 : (y == z) = false := by simpa using e
      rw [e2] at h
      simp at h
      obtain ⟨j, h1, h2, h3⟩ := rank_at r z k h
      exact ⟨j + 1, by simpa using h1, by simpa using h2, by rw [List.take_succ_cons, List.count_cons, h3, e2]; simp⟩
/-- The first n bits, the first one the highest. -/
def codeN (v : Nat) : Nat → Nat
  | 0 => 0
  | n + 1 => codeN v n * 2 + v / 2 ^ n % 2
theorem codeN_lt (v : Nat) : ∀ n, codeN v n < 2 ^ n
  | 0 => by simp [codeN]
  | n + 1 => by have := codeN_lt v n; simp only [codeN, Nat.pow_succ]; omega
/-- No place of length m has these bits for its code. -/
def NoAt (ls : List Int) (v m : Nat) : Prop := ∀ j, j < ls.length → ls.getD j 0 = (m : Int) → codeAt ls j ≠ (codeN v m : Int)
theorem codeAt_of (ls : List Int) (m j : Nat) (hm : 1 ≤ m) (hz : ls.getD j 0 = (m : Int)) : codeAt ls j = fC (cntsL ls) m + (((ls.take j).count (m : Int) : Nat) : Int) := by
  unfold codeAt
  rw [if_pos (by omega), hz, Int.toNat_natCast]
theorem hit_at (ls : List Int) (v m : Nat) (hm : 1 ≤ m) (h0 : 0 ≤ (codeN v m : Int) - fC (cntsL ls) m) (h1 : (codeN v m : Int) - fC (cntsL ls) m < ((ls.count (m : Int) : Nat) : Int)) :
    ∃ j, j < ls.length ∧ ls.getD j 0 = (m : Int) ∧ codeAt ls j = (codeN v m : Int) ∧ posAt ls j = sN (cnt0 ls) m + ((codeN v m : Int) - fC (cntsL ls) m) := by
  obtain ⟨k, hk⟩ : ∃ k : Nat, (codeN v m : Int) - fC (cntsL ls) m = (k : Int) := ⟨((codeN v m : Int) - fC (cntsL ls) m).toNat, by omega⟩
  obtain ⟨j, h2, h3, h4⟩ := rank_at ls (m : Int) k (by omega)
  refine ⟨j, h2, h3, ?_, ?_⟩
  · rw [codeAt_of ls m j hm h3, h4]; omega
  · unfold posAt; rw [h3, Int.toNat_natCast, h4, hk]
theorem no_at (ls : List Int) (v m : Nat) (hm : 1 ≤ m) (h : ¬ (0 ≤ (codeN v m : Int) - fC (cntsL ls) m ∧ (codeN v m : Int) - fC (cntsL ls) m < ((ls.count (m : Int) : Nat) : Int))) : NoAt ls v m := by
  intro j hj hz e
  rw [codeAt_of ls m j hm hz] at e
  have h1 := count_step ls j hj
  have h2 := count_all ls (m : Int) (j + 1)
  rw [hz] at h1
  omega
/-- What Read tells, and where the reader is then. -/
def ReadS (ls : List Int) (T v p : Nat) (s f : Int) (q : Nat) : Prop :=
  (∃ n i : Nat, 1 ≤ n ∧ n ≤ T ∧ i < ls.length ∧ ls.getD i 0 = (n : Int) ∧ codeAt ls i = (codeN v n : Int) ∧ (∀ m, 1 ≤ m → m < n → NoAt ls v m) ∧ s = (i : Int) ∧ f = 0 ∧ q = p + n) ∨
  ((∀ m, 1 ≤ m → m ≤ T → NoAt ls v m) ∧ s = 0 ∧ f = (if kindS ls = 3 ∨ (T = 0 ∧ 0 < sN (cnt0 ls) 16) then 2 else 3) ∧ q = p)
/-- A Decoder below block B. -/
structure DecB (ls : List Int) (D B : Nat) (w : World) : Prop where
  lt : D < B
  all : ∃ pa P pc, DecSt D w (cnt0 ls) (firstsP (cntsL ls) 16) (fromP (cnt0 ls) 16) (.slice pa P.length pc) (kindS ls == 3) ∧ RdI w B pa P ∧ ((P.length : Nat) : Int) = sN (cnt0 ls) 16 ∧
    ∀ i, i < ls.length → 0 < ls.getD i 0 → P.getD (posAt ls i).toNat 0 = (i : Int)
theorem DecB.kept {S : Nat → Prop} {ls : List Int} {D B : Nat} {w w' : World} (h : DecB ls D B w) (hk : Kept S w w') (hs : ∀ k, k < B → ¬ S k) : DecB ls D B w' := by
  obtain ⟨pa, P, pc, h1, h2, h3, h4⟩ := h.all
  exact ⟨h.lt, pa, P, pc, h1.kept hk (hs D h.lt), h2.kept hk hs, h3, h4⟩
/-- Numbers that lie in blocks of S. -/
def RdG (w : World) (S : Nat → Prop) (ao : Option Addr) (zs : List Int) : Prop :=
  ∀ i, i < zs.length → ∃ g off, ao = some ⟨g, off, none⟩ ∧ S g ∧ w.cell? ⟨g, off + i, none⟩ = some (.int .i64 (zs.getD i 0))
theorem RdG.kept {S T : Nat → Prop} {w w' : World} {ao : Option Addr} {zs : List Int} (h : RdG w S ao zs) (hk : Kept T w w') (hs : ∀ k, S k → ¬ T k) : RdG w' S ao zs := fun i hi => by
  obtain ⟨g, o, h1, h2, h3⟩ := h i hi
  exact ⟨g, o, h1, h2, (World.cell?_of_block (hk.block _ (World.block_lt_of_cell? w _ h3) (hs g h2))).trans h3⟩
theorem RdG.room {S : Nat → Prop} {w : World} {ao : Option Addr} {zs : List Int} (h : RdG w S ao zs) : RdI w w.heap.size ao zs := fun i hi => by
  obtain ⟨g, o, h1, h2, h3⟩ := h i hi
  exact ⟨g, o, h1, World.block_lt_of_cell? w _ h3, h3⟩
theorem RdI.toG {B : Nat} {w : World} {ao : Option Addr} {zs : List Int} (h : RdI w B ao zs) : RdG w (fun k => k < B) ao zs := h
/-- A Decoder that lies in blocks of S. -/
structure DecG (ls : List Int) (D : Nat) (S : Nat → Prop) (w : World) : Prop where
  lt : S D
  all : ∃ pa P pc, DecSt D w (cnt0 ls) (firstsP (cntsL ls) 16) (fromP (cnt0 ls) 16) (.slice pa P.length pc) (kindS ls == 3) ∧ RdG w S pa P ∧ ((P.length : Nat) : Int) = sN (cnt0 ls) 16 ∧
    ∀ i, i < ls.length → 0 < ls.getD i 0 → P.getD (posAt ls i).toNat 0 = (i : Int)
theorem DecB.toG {ls : List Int} {D B : Nat} {w : World} (h : DecB ls D B w) : DecG ls D (fun k => k < B) w := by
  obtain ⟨pa, P, pc, h1, h2, h3, h4⟩ := h.all
  exact ⟨h.lt, pa, P, pc, h1, h2, h3, h4⟩
theorem DecNew.toG {ls : List Int} {D lo : Nat} {w : World} (h : DecNew ls D lo w) : DecG ls D (fun k => lo ≤ k) w := by
  obtain ⟨Y, M, P, h0, h0', h1, h2, h3, h4⟩ := h
  exact ⟨h0', _, P, M, h1, fun t ht => ⟨Y, 0, rfl, h0, by rw [Nat.zero_add]; exact h2 t ht⟩, h3, h4⟩
theorem DecG.kept {S T : Nat → Prop} {ls : List Int} {D : Nat} {w w' : World} (h : DecG ls D S w) (hk : Kept T w w') (hs : ∀ k, S k → ¬ T k) : DecG ls D S w' := by
  obtain ⟨pa, P, pc, h1, h2, h3, h4⟩ := h.all
  exact ⟨h.lt, pa, P, pc, h1.kept hk (hs D h.lt), h2.kept hk hs, h3, h4⟩
theorem DecG.mono {S T : Nat → Prop} {ls : List Int} {D : Nat} {w : World} (h : DecG ls D S w) (hs : ∀ k, S k → T k) : DecG ls D T w := by
  obtain ⟨pa, P, pc, h1, h2, h3, h4⟩ := h.all
  exact ⟨hs D h.lt, pa, P, pc, h1, fun i hi => by obtain ⟨g, o, k1, k2, k3⟩ := h2 i hi; exact ⟨g, o, k1, hs g k2, k3⟩, h3, h4⟩

set_option maxRecDepth 20000 in
set_option maxHeartbeats 4000000 in
theorem read_callsG (ls : List Int) (D : Nat) (S : Nat → Prop) (R : Nat) (ao : Option Addr) (cap : Nat) (bs : List Int) (p T : Nat) (w : World) (hd : DecG ls D S w) (hr : Rdr w R ao cap bs p) (hBR : ¬ S R) (hs : Small 15 ls) (hl : ls.length ≤ 320) (hT : min3 15 (8 * bs.length - p) = T) :
    Calls Tryz.prog 159 #[.pointer (some ⟨D, 0, none⟩), .pointer (some ⟨R, 0, none⟩)] w fun e w' => ∃ (s f : Int) (q : Nat), e = .returned (.tuple #[.int .i64 s, .int .i64 f]) ∧ ReadS ls T (bitsAt bs p T) p s f q ∧ Rdr w' R ao cap bs q ∧ Kept (OneB R) w w' := by
  have hT15 : T ≤ 15 ∧ p + T ≤ 8 * bs.length := by
    have := hr.2.2.2.1
    unfold min3 at hT; omega
  have HPk := Lib.hid (peek_any w R ao cap bs p 15 hr T hT)
  have hvl := bitsAt_lt bs p T
  obtain ⟨v, hv⟩ : ∃ v, v = bitsAt bs p T := ⟨_, rfl⟩
  rw [← hv] at HPk hvl ⊢
  have hv2 : v < 32768 := Nat.lt_of_lt_of_le hvl (by have := Nat.pow_le_pow_right (n := 2) (by decide) hT15.1; simpa using this)
  obtain ⟨hDB, pa, P, pc, hD, hP, hM, hPos⟩ := hd
  have HD := Lib.hid hD; have HP := Lib.hid hP; have HMl := Lib.hid hM; have HPos := Lib.hid hPos; have HRd := Lib.hid hr; have HS := Lib.hid hs
  have hT1 := hT15.1
  have hT2 := hT15.2
  clear hv hvl hD hP hM hPos hr hT hT15 hs
  go_enter Tryz.func159, Tryz.ntmps159
  go_wp2_with fail
  refine HPk.out.mono ?_
  rintro e w1 ⟨rfl, hk⟩
  have HK1 := Lib.hid hk
  clear hk
  go_wp2
  go_loopw [9, 8, 6, 10] (fun v9 v8 v6 _v10 wr => ∃ m : Nat, v9 = .int .i64 ((m : Int) + 1) ∧ v8 = .int .i64 (codeN v m : Int) ∧ v6 = .int .u32 ((v / 2 ^ m : Nat) : Int) ∧ m ≤ T ∧ Hid (∀ k, 1 ≤ k → k ≤ m → NoAt ls v k) ∧ Hid (Kept NoB w wr)) (fun v9 _ _ _ _ => T + 1 - (intOf v9).toNat)
  case atStart => exact ⟨0, rfl, rfl, by simp, by omega, Lib.hid (fun k h1 h2 => by omega), HK1⟩
  case round =>
    obtain ⟨m, rfl, rfl, rfl, hm, HNo, HK⟩ := hrel
    by_cases hlt : (m : Int) + 1 ≤ T
    · obtain ⟨q, hq⟩ : ∃ q : Nat, q = m + 1 := ⟨_, rfl⟩
      have hq2 : (m : Int) + 1 = (q : Int) := by omega
      have hq15 : q < 16 := by omega
      have hcl := codeN_lt v m
      have hpw : 2 ^ m ≤ 2 ^ 14 := Nat.pow_le_pow_right (by decide) (by omega)
      have hcs : codeN v q = codeN v m * 2 + v / 2 ^ m % 2 := by rw [hq]; rfl
      have hsh : v / 2 ^ q = v / 2 ^ m / 2 := by rw [hq, Nat.pow_succ, Nat.div_div_eq_div_mul]
      have hxl : v / 2 ^ m ≤ v := Nat.div_le_self _ _
      obtain ⟨X, hX⟩ : ∃ X, X = v / 2 ^ m := ⟨_, rfl⟩
      rw [← hX] at hcs hsh hxl ⊢
      obtain ⟨cm, hcm⟩ : ∃ cm, cm = codeN v m := ⟨_, rfl⟩
      rw [← hcm] at hcs hcl ⊢
      have e1 : bits .and .u32 (X : Int) 1 = ((X % 2 : Nat) : Int) := and1_u32d X (by omega)
      obtain ⟨b, hb⟩ : ∃ b, b = X % 2 := ⟨_, rfl⟩
      have hb2 : b < 2 := by omega
      rw [← hb] at e1 hcs
      have e2 : IntKind.i64.wrap (b : Int) = (b : Int) := IntWalk.i64_in _ (by omega)
      obtain ⟨cq, hcq⟩ : ∃ cq, cq = codeN v q := ⟨_, rfl⟩
      rw [← hcq] at hcs
      have e3 : (cm : Int) * 2 + (b : Int) = (cq : Int) := by omega
      obtain ⟨Y, hY⟩ : ∃ Y, Y = X / 2 := ⟨_, rfl⟩
      have e4 : ((X : Nat) : Int) / 2 = (Y : Int) := by omega
      rw [← hY] at hsh
      have hcq2 : cq < 100000 := by omega
      have d1 := (HD.out.kept HK.out (fun h => h)).atF q hq15
      rw [firstsP_get _ _ hq15] at d1
      have d2 := (HD.out.kept HK.out (fun h => h)).atC q hq15
      rw [cnt0_get _ _ hq15, if_neg (by omega)] at d2
      have hfb := fC_bd (cntsL ls) (cnts_bd ls hl) q (by omega)
      have hcb := List.count_le_length (l := ls) (a := (q : Int))
      have hhit := hit_at ls v q (by omega)
      have hno := no_at ls v q (by omega)
      rw [← hcq] at hhit hno
      obtain ⟨fq, hfq⟩ : ∃ fq, fq = fC (cntsL ls) q := ⟨_, rfl⟩
      obtain ⟨nq', hnq⟩ : ∃ c, c = ls.count (q : Int) := ⟨_, rfl⟩
      rw [← hfq] at d1 hfb hhit hno
      rw [← hnq] at d2 hcb hhit hno
      have e5 : IntKind.i64.wrap ((cq : Int) - fq) = (cq : Int) - fq := IntWalk.i64_in _ (by omega)
      have HHit := Lib.hid hhit; have HNoq := Lib.hid hno; have HQ := Lib.hid hq; have HSh := Lib.hid hsh; have HCq := Lib.hid hcq
      have b1 : (q : Int) < 16 := by omega
      have HX := Lib.hid hX
      rw [hq2] at hlt ⊢
      clear hhit hno hq hsh hX hY hcm hb hcs hcq hfq hnq hpw hq2 hcl
      by_cases h0 : 0 ≤ (cq : Int) - fq
      · by_cases h1 : (cq : Int) - fq < (nq' : Int)
        · obtain ⟨j, hj, hz, hca, hpo⟩ := HHit.out h0 h1
          have HJ := Lib.hid (show ReadS ls T v p (j : Int) 0 (p + q) from .inl ⟨q, j, by have := HQ.out; omega, by omega, hj, hz, by rw [← HCq.out]; exact hca, fun k h1 h2 => HNo.out k h1 (by have := HQ.out; omega), rfl, rfl, rfl⟩)
          have hTk := take_yes wr R ao cap bs p q (HRd.out.keptNo HK.out) (by omega) (by omega)
          have hg0 : decide (0 ≤ (cq : Int) - fq) = true := decide_eq_true h0
          have hg1 : decide ((cq : Int) - fq < (nq' : Int)) = true := decide_eq_true h1
          have HTk := Lib.hid hTk
          have HPo := Lib.hid hpo; have HZj := Lib.hid hz; have HJl := Lib.hid hj
          clear hTk hj hz hca hpo
          go_wp2_with fail
          refine HTk.out.mono ?_
          rintro e w3 ⟨rfl, hr3, hk3⟩
          have hko : Kept (OneB R) w w3 := (HK.out.mono (fun _ _ h => h.elim)).trans hk3
          have hsb : ∀ k, S k → ¬ OneB R k := fun k h e => by unfold OneB at e; exact hBR (e ▸ h)
          have hD3 := HD.out.kept hko (hsb D hDB)
          have hP3 := HP.out.kept hko hsb
          have x0 := hD3.atP
          have x1 := hD3.atM q hq15
          rw [fromP_get _ _ _ hq15 hq15] at x1
          have hjb := HS.out.getD j HJl.out
          have hpos := pos_in ls hl j q HJl.out HZj.out (by have := HQ.out; omega) hq15
          obtain ⟨pN, hpN⟩ : ∃ pN : Nat, (pN : Int) = posAt ls j := ⟨(posAt ls j).toNat, by have := sN_bd ls hl q; omega⟩
          have hpl : pN < P.length := by have := HMl.out; omega
          have hpv : P.getD pN 0 = (j : Int) := by
            have := HPos.out j HJl.out (by rw [HZj.out]; have := HQ.out; omega)
            rw [← hpN, Int.toNat_natCast] at this
            exact this
          obtain ⟨g, off, rfl, _, x2⟩ := hP3 pN hpl
          rw [hpv] at x2
          have hsb2 := sN_bd ls hl q
          have hpo := HPo.out
          rw [← hpN] at hpo
          obtain ⟨sq, hsq⟩ : ∃ sq, sq = sN (cnt0 ls) q := ⟨_, rfl⟩
          rw [← hsq] at hpo x1 hsb2
          have e6 : IntKind.i64.wrap (sq + ((cq : Int) - fq)) = (pN : Int) := by rw [IntWalk.i64_in _ (by omega)]; omega
          have b2 : (pN : Int) < (P.length : Int) := by omega
          obtain ⟨Pl, hPl⟩ : ∃ Pl, Pl = P.length := ⟨_, rfl⟩
          rw [← hPl] at x0 b2 hpl
          have HR3 := Lib.hid hr3; have HKo := Lib.hid hko
          clear hko hsb hD3 hP3 hjb hpos hpN hpv hsb2 hpo hsq hPl hk3 hr3 d1 d2
          go_upto_region 11 with fail
          go_quiet (fail)
          have hkd : Kept NoB w3 (w3.drewN nq) := (Kept.refl NoB w3).drewN nq
          have HR4 := Lib.hid (HR3.out.keptNo hkd); have HK4 := Lib.hid (HKo.out.trans (hkd.mono (fun _ _ h => h.elim)))
          clear hkd
          go_wp2
          go_ret2
          exact ⟨_, _, _, rfl, HJ.out, HR4.out, HK4.out⟩
        · have hg0 : decide (0 ≤ (cq : Int) - fq) = true := decide_eq_true h0
          have hg1 : decide ((cq : Int) - fq < (nq' : Int)) = false := decide_eq_false h1
          have hn2 := HNoq.out (by omega)
          have hall : ∀ k, 1 ≤ k → k ≤ q → NoAt ls v k := fun k h1 h2 => by
            by_cases e : k = q
            · subst e; exact hn2
            · exact HNo.out k h1 (by have := HQ.out; omega)
          have HAll := Lib.hid hall
          clear hn2 hall
          go_wp2
          go_roundw
          case rel => exact ⟨q, by go_num, by rw [HCq.out], by rw [HSh.out], by omega, HAll, HK⟩
          case measure => have := HQ.out; simp [intOf]; omega
      · have hg0 : decide (0 ≤ (cq : Int) - fq) = false := decide_eq_false h0
        have hn2 := HNoq.out (by omega)
        have hall : ∀ k, 1 ≤ k → k ≤ q → NoAt ls v k := fun k h1 h2 => by
          by_cases e : k = q
          · subst e; exact hn2
          · exact HNo.out k h1 (by have := HQ.out; omega)
        have HAll := Lib.hid hall
        clear hn2 hall
        go_wp2
        go_roundw
        case rel => exact ⟨q, by go_num, by rw [HCq.out], by rw [HSh.out], by omega, HAll, HK⟩
        case measure => have := HQ.out; simp [intOf]; omega
    · have hmT : m = T := by omega
      subst hmT
      have hD4 := HD.out.kept HK.out (fun h => h)
      have x0 := hD4.atP
      have x1 := hD4.atB
      have hml := HMl.out
      obtain ⟨Pl, hPl⟩ : ∃ Pl, Pl = P.length := ⟨_, rfl⟩
      rw [← hPl] at x0 hml
      have HNo2 := Lib.hid (show ∀ f : Int, f = (if kindS ls = 3 ∨ (m = 0 ∧ 0 < sN (cnt0 ls) 16) then 2 else 3) → ReadS ls m v p 0 f p from fun f hf => .inr ⟨HNo.out, rfl, hf, rfl⟩)
      have HPl := Lib.hid hml
      have HKd := Lib.hid (show (kindS ls == 3) = (kindS ls == 3) from rfl)
      by_cases hk3 : kindS ls = 3
      · have hb : (kindS ls == 3) = true := by simpa using hk3
        rw [hb] at x1
        have HF := Lib.hid (HNo2.out 2 (by rw [if_pos (.inl hk3)]))
        clear hk3 hb hml hPl hD4
        go_wp2
        go_ret2
        exact ⟨0, 2, rfl, _, HF.out, HRd.out.keptNo HK.out, HK.out.mono (fun _ _ h => h.elim)⟩
      · have hb : (kindS ls == 3) = false := by simpa using hk3
        rw [hb] at x1
        by_cases hm0 : m = 0
        · have g1 : ((m : Int) == 0) = true := by simp; omega
          by_cases hp0 : (0 : Int) < (Pl : Int)
          · have HF := Lib.hid (HNo2.out 2 (by rw [if_pos (.inr ⟨hm0, by omega⟩)]))
            have g2 : decide ((0 : Int) < (Pl : Int)) = true := decide_eq_true hp0
            clear hk3 hb hml hPl hD4 hm0
            go_wp2
            go_ret2
            exact ⟨0, 2, rfl, _, HF.out, HRd.out.keptNo HK.out, HK.out.mono (fun _ _ h => h.elim)⟩
          · have HF := Lib.hid (HNo2.out 3 (by rw [if_neg (fun h => by rcases h with h | h; exact hk3 h; omega)]))
            have g2 : decide ((0 : Int) < (Pl : Int)) = false := decide_eq_false hp0
            clear hk3 hb hml hPl hD4 hm0
            go_wp2
            go_ret2
            exact ⟨0, 3, rfl, _, HF.out, HRd.out.keptNo HK.out, HK.out.mono (fun _ _ h => h.elim)⟩
        · have g1 : ((m : Int) == 0) = false := by simp; omega
          have HF := Lib.hid (HNo2.out 3 (by rw [if_neg (fun h => by rcases h with h | h; exact hk3 h; omega)]))
          clear hk3 hb hml hPl hD4
          go_wp2
          go_ret2
          exact ⟨0, 3, rfl, _, HF.out, HRd.out.keptNo HK.out, HK.out.mono (fun _ _ h => h.elim)⟩
end Go.Proofs.YtfmjfgmbjdhogaaGreatDoor

namespace Go.Proofs.YtfmjfgmbjdhogaaGreatDoor

/-- The lowest n bits of v turned round, as the document tells them: one behind the other. -/
def revN : Nat → Nat → Nat
  | 0, _ => 0
  | n + 1, v => 2 * revN n v + v / 2 ^ n % 2

theorem revN_bit (n v i : Nat) : (revN n v).testBit i = (decide (i < n) && v.testBit (n - 1 - i)) := by
  induction n generalizing i with
  | zero => simp [revN]
  | succ n ih =>
    have hb : v / 2 ^ n % 2 < 2 := Nat.mod_lt _ (by decide)
    cases i with
    | zero =>
      have e : (v / 2 ^ n).testBit 0 = v.testBit n := by rw [Nat.testBit_div_two_pow]; simp
      rw [← show v.testBit n = v.testBit (n + 1 - 1 - 0) from by simp, ← e]
      simp only [revN, Nat.testBit_zero]
      have : (2 * revN n v + v / 2 ^ n % 2) % 2 = v / 2 ^ n % 2 := by omega
      rw [this]; simp
    | succ i =>
      have : (2 * revN n v + v / 2 ^ n % 2) / 2 = revN n v := by omega
      simp only [revN, Nat.testBit_succ, this, ih]
      have e : n - 1 - i = n + 1 - 1 - (i + 1) := by omega
      rw [e]; simp
theorem revN_lt (n v : Nat) : revN n v < 2 ^ n := by
  induction n with
  | zero => simp [revN]
  | succ n ih =>
    have hb : v / 2 ^ n % 2 < 2 := Nat.mod_lt _ (by decide)
    simp only [revN, Nat.pow_succ]; omega
theorem revN_revN (n v : Nat) (h : v < 2 ^ n) : revN n (revN n v) = v := by
  apply Nat.eq_of_testBit_eq
  intro i
  rw [revN_bit, revN_bit]
  by_cases hi : i < n
  · have e : n - 1 - (n - 1 - i) = i := by omega
    simp [hi, e]; omega
  · have : v.testBit i = false := Nat.testBit_lt_two_pow (Nat.lt_of_lt_of_le h (Nat.pow_le_pow_right (by decide) (by omega)))
    simp [hi, this]

/-- One step of the net: neighbours k bits apart change places. -/
def sw (k m v : Nat) : Nat := (v / 2 ^ k &&& m) ||| ((v &&& m) * 2 ^ k % 4294967296)
def swi (k m i : Nat) : Nat := if m.testBit i then i + k else i - k

theorem sw_bit (k m v i : Nat) (hi : i < 32) (hm : ∀ j, j < 32 → m.testBit j = false → k ≤ j ∧ m.testBit (j - k) = true) (hm2 : ∀ j, j < 32 → m.testBit j = true → j < k ∨ m.testBit (j - k) = false) :
    (sw k m v).testBit i = v.testBit (swi k m i) := by
  unfold sw swi
  rw [Nat.testBit_or, Nat.testBit_and, Nat.testBit_div_two_pow, show (4294967296 : Nat) = 2 ^ 32 from rfl, Nat.testBit_mod_two_pow, Nat.testBit_mul_two_pow, Nat.testBit_and]
  cases hb : m.testBit i with
  | true =>
    rcases hm2 i hi hb with h | h
    · have : ¬ k ≤ i := by omega
      simp [this, Nat.add_comm]
    · simp [h, Nat.add_comm]
  | false =>
    have h := hm i hi hb
    simp [h.1, h.2, hi]
theorem sw_lt (k m v : Nat) (hm : m < 4294967296) : sw k m v < 4294967296 := by
  unfold sw
  exact Nat.or_lt_two_pow (n := 32) (Nat.and_lt_two_pow _ hm) (Nat.mod_lt _ (by decide))

def net (v : Nat) : Nat :=
  let a := sw 8 16711935 (sw 4 252645135 (sw 2 858993459 (sw 1 1431655765 v)))
  a / 65536 ||| a * 65536 % 4294967296

theorem net_lt (v : Nat) : net v < 4294967296 := by
  have ha := sw_lt 8 16711935 (sw 4 252645135 (sw 2 858993459 (sw 1 1431655765 v))) (by decide)
  unfold net
  exact Nat.or_lt_two_pow (n := 32) (Nat.lt_of_le_of_lt (Nat.div_le_self _ _) ha) (Nat.mod_lt _ (by decide))

theorem mask_ok (k m : Nat) (h : ∀ j : Fin 32, (m.testBit j.val = false → k ≤ j.val ∧ m.testBit (j.val - k) = true) ∧ (m.testBit j.val = true → j.val < k ∨ m.testBit (j.val - k) = false)) :
    (∀ j, j < 32 → m.testBit j = false → k ≤ j ∧ m.testBit (j - k) = true) ∧ (∀ j, j < 32 → m.testBit j = true → j < k ∨ m.testBit (j - k) = false) :=
  ⟨fun j hj => (h ⟨j, hj⟩).1, fun j hj => (h ⟨j, hj⟩).2⟩

theorem net_bit (v i : Nat) (hi : i < 32) : (net v).testBit i = v.testBit (31 - i) := by
  have m1 := mask_ok 1 1431655765 (by decide +kernel)
  have m2 := mask_ok 2 858993459 (by decide +kernel)
  have m4 := mask_ok 4 252645135 (by decide +kernel)
  have m8 := mask_ok 8 16711935 (by decide +kernel)
  have ha := sw_lt 8 16711935 (sw 4 252645135 (sw 2 858993459 (sw 1 1431655765 v))) (by decide)
  have hs : ∀ j : Fin 32, swi 8 16711935 j.val < 32 ∧ swi 4 252645135 (swi 8 16711935 j.val) < 32 ∧ swi 2 858993459 (swi 4 252645135 (swi 8 16711935 j.val)) < 32 ∧
      swi 1 1431655765 (swi 2 858993459 (swi 4 252645135 (swi 8 16711935 j.val))) = (if j.val < 16 then 15 - j.val else 47 - j.val) := by decide +kernel
  have hbit : ∀ j, j < 32 → (sw 8 16711935 (sw 4 252645135 (sw 2 858993459 (sw 1 1431655765 v)))).testBit j = v.testBit (if j < 16 then 15 - j else 47 - j) := by
    intro j hj
    obtain ⟨s1, s2, s3, s4⟩ := hs ⟨j, hj⟩
    simp only at s1 s2 s3 s4
    rw [sw_bit 8 _ _ j hj m8.1 m8.2, sw_bit 4 _ _ _ s1 m4.1 m4.2, sw_bit 2 _ _ _ s2 m2.1 m2.2, sw_bit 1 _ _ _ s3 m1.1 m1.2, s4]
  unfold net
  simp only
  generalize sw 8 16711935 (sw 4 252645135 (sw 2 858993459 (sw 1 1431655765 v))) = a at ha hbit ⊢
  rw [Nat.testBit_or, show (65536 : Nat) = 2 ^ 16 from rfl, Nat.testBit_div_two_pow, show (4294967296 : Nat) = 2 ^ 32 from rfl, Nat.testBit_mod_two_pow, Nat.testBit_mul_two_pow]
  by_cases h16 : i < 16
  · have h1 := hbit (i + 16) (by omega)
    have hn : ¬ 16 ≤ i := by omega
    have e : (if i + 16 < 16 then 15 - (i + 16) else 47 - (i + 16)) = 31 - i := by split <;> omega
    rw [e] at h1
    simp [h1, hn]
  · have h1 : a.testBit (i + 16) = false := Nat.testBit_lt_two_pow (Nat.lt_of_lt_of_le ha (Nat.pow_le_pow_right (n := 2) (i := 32) (by decide) (by omega)))
    have h2 := hbit (i - 16) (by omega)
    have e : (if i - 16 < 16 then 15 - (i - 16) else 47 - (i - 16)) = 31 - i := by split <;> omega
    rw [e] at h2
    have hn : 16 ≤ i := by omega
    simp [h1, h2, hn, hi]

theorem net_rev (v n : Nat) (hn : n ≤ 32) : net v / 2 ^ (32 - n) = revN n v := by
  apply Nat.eq_of_testBit_eq
  intro i
  rw [revN_bit, Nat.testBit_div_two_pow]
  by_cases hi : i < n
  · have e1 : 32 - n + i = i + (32 - n) := Nat.add_comm _ _
    have e2 : 31 - (i + (32 - n)) = n - 1 - i := by omega
    first
      | rw [net_bit v (i + (32 - n)) (by omega), e2]; simp [hi]
      | rw [e1, net_bit v (i + (32 - n)) (by omega), e2]; simp [hi]
  · have h1 : (net v).testBit (i + (32 - n)) = false := Nat.testBit_lt_two_pow (Nat.lt_of_lt_of_le (net_lt v) (Nat.pow_le_pow_right (n := 2) (i := 32) (by decide) (by omega)))
    simp [hi, h1]

theorem sw_eq (k m v : Nat) (hv : v < 4294967296) (hm : m < 4294967296) :
    bits .or .u32 (bits .and .u32 ((v : Int) / ((2 ^ k : Nat) : Int)) (m : Int)) (bits .and .u32 (v : Int) (m : Int) * ((2 ^ k : Nat) : Int) % 4294967296) = ((sw k m v : Nat) : Int) := by
  have h1 : ((v : Int) / ((2 ^ k : Nat) : Int)) = ((v / 2 ^ k : Nat) : Int) := (Int.natCast_ediv v (2 ^ k)).symm
  have h2 : v / 2 ^ k < 4294967296 := Nat.lt_of_le_of_lt (Nat.div_le_self _ _) hv
  rw [h1, u32_and_nat _ _ h2 hm, u32_and_nat _ _ hv hm]
  have h3 : (((v &&& m : Nat) : Int) * ((2 ^ k : Nat) : Int) % 4294967296) = (((v &&& m) * 2 ^ k % 4294967296 : Nat) : Int) := by rw [Int.natCast_emod, Int.natCast_mul]; rfl
  rw [h3, u32_or_nat _ _ (Nat.and_lt_two_pow (n := 32) _ hm) (Nat.mod_lt _ (by decide))]
  rfl
end Go.Proofs.YtfmjfgmbjdhogaaGreatDoor
