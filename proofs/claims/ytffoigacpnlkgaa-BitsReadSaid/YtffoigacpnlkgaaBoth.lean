/-
  The writer and the document's own writer, side by side: what one call does to both.
-/
import Derived.Test.YtffoigacpnlkgaaOut
namespace Go.Proofs.Ytffoigacpnlkgaa
open Go.RowKit
set_option linter.unusedVariables false

def okN (n : Int) : Bool := decide (0 ≤ n ∧ n ≤ 32)
def cutN (n : Int) : Nat := if 0 ≤ n ∧ n ≤ 32 then n.toNat else 0
theorem cutN_le (n : Int) : cutN n ≤ 32 := by unfold cutN; split <;> omega
def rv (v : Nat) (n : Int) : Nat := if 0 ≤ n ∧ n ≤ 32 then revN n.toNat v else 0
theorem rv_lt (v : Nat) (n : Int) : rv v n < 4294967296 := by
  unfold rv; split
  · exact Nat.lt_of_lt_of_le (revN_lt _ v) (show 2 ^ n.toNat ≤ 2 ^ 32 from pow_le_pow2 (by omega))
  · decide

theorem put_no (w : World) (R : Nat) (v : Nat) (n : Int) (hn : n < 0 ∨ 32 < n) :
    Calls Try.prog 21 #[.pointer (some ⟨R, 0, none⟩), .int .u32 v, .int .i64 n] w fun e w' => e = .returned (.bool false) ∧ w = w' := by
  go_enter Try.func21, Try.ntmps21
  rcases hn with h | h
  · go_wp2
    go_ret
    exact ⟨rfl, rfl⟩
  · have h0 : ¬ n < 0 := by omega
    go_wp2
    go_ret
    exact ⟨rfl, rfl⟩

/-- What a Put of any width leaves. -/
def PutAll (T : TypeId) (w : World) (R : Nat) (ao : Option Addr) (cap : Nat) (bs : List Int) (s v : Nat) (n : Int) (e : Ending) (w' : World) : Prop :=
  e = .returned (.bool (okN n)) ∧ ∃ ao' cap' bs', WtrT T w' R ao' cap' bs' (s + cutN n) ∧ num bs' = num bs + v % 2 ^ cutN n * 2 ^ s ∧ Kept (OrB (OneB R) (OwnB (.slice ao bs.length cap))) w w' ∧
    (∀ k, (Value.slice ao' bs'.length cap').ownBlock = some k → (Value.slice ao bs.length cap).ownBlock = some k ∨ w.heap.size ≤ k)
theorem put_all (w : World) (R : Nat) (ao : Option Addr) (cap : Nat) (bs : List Int) (s v : Nat) (n : Int) (h : WtrT 84 w R ao cap bs s) (hv : v < 4294967296) (hs : s ≤ 900000000000) :
    Calls Try.prog 21 #[.pointer (some ⟨R, 0, none⟩), .int .u32 v, .int .i64 n] w (PutAll 84 w R ao cap bs s v n) := by
  by_cases hn : 0 ≤ n ∧ n ≤ 32
  · obtain ⟨m, rfl⟩ := Int.eq_ofNat_of_zero_le hn.1
    have e1 : okN m = true := by unfold okN; simp; omega
    have e2 : cutN m = m := by unfold cutN; rw [if_pos hn]; simp
    refine (put_any _ _ _ _ _ _ v m h hv (by omega) hs).mono ?_
    rintro e w' ⟨ao', cap', bs', rfl, h1, h2, h3, h4⟩
    exact ⟨by rw [e1], ao', cap', bs', by rw [e2]; exact h1, by rw [e2]; exact h2, h3, h4⟩
  · have e1 : okN n = false := by unfold okN; simp; omega
    have e2 : cutN n = 0 := by unfold cutN; rw [if_neg hn]
    refine (put_no _ _ v n (by omega)).mono ?_
    rintro e w' ⟨rfl, rfl⟩
    exact ⟨by rw [e1], ao, cap, bs, by rw [e2]; exact h, by rw [e2]; simp [Nat.mod_one], Kept.refl _ _, fun k hk => .inl hk⟩
theorem outPut_all (w : World) (R : Nat) (ao : Option Addr) (cap : Nat) (bs : List Int) (s v : Nat) (n : Int) (h : WtrT 52 w R ao cap bs s) (hv : v < 4294967296) (hs : s ≤ 900000000000) :
    Calls Try.prog 32 #[.pointer (some ⟨R, 0, none⟩), .int .u32 v, .int .i64 n] w (PutAll 52 w R ao cap bs s v n) := by
  by_cases hn : 0 ≤ n ∧ n ≤ 32
  · obtain ⟨m, rfl⟩ := Int.eq_ofNat_of_zero_le hn.1
    have e1 : okN m = true := by unfold okN; simp; omega
    have e2 : cutN m = m := by unfold cutN; rw [if_pos hn]; simp
    refine (outPut_any _ _ _ _ _ _ v m h hv (by omega) hs).mono ?_
    rintro e w' ⟨ao', cap', bs', rfl, h1, h2, h3, h4⟩
    exact ⟨by rw [e1], ao', cap', bs', by rw [e2]; exact h1, by rw [e2]; exact h2, h3, h4⟩
  · have e1 : okN n = false := by unfold okN; simp; omega
    have e2 : cutN n = 0 := by unfold cutN; rw [if_neg hn]
    refine (outPut_no _ _ v n (by omega)).mono ?_
    rintro e w' ⟨rfl, rfl⟩
    exact ⟨by rw [e1], ao, cap, bs, by rw [e2]; exact h, by rw [e2]; simp [Nat.mod_one], Kept.refl _ _, fun k hk => .inl hk⟩
theorem rev_both (v : Nat) (n : Int) (w : World) (hv : v < 4294967296) :
    Calls Try.prog 37 #[.int .u32 v, .int .i64 n] w fun e w' => e = .returned (.int .u32 (rv v n : Nat)) ∧ w = w' := by
  unfold rv
  by_cases hn : 0 ≤ n ∧ n ≤ 32
  · rw [if_pos hn]
    obtain ⟨m, rfl⟩ := Int.eq_ofNat_of_zero_le hn.1
    exact rev_all v m w hv (by omega)
  · rw [if_neg hn]
    exact rev_no v n w (by omega)
theorem refRev_both (v : Nat) (n : Int) (w : World) (hv : v < 4294967296) :
    Calls Try.prog 34 #[.int .u32 v, .int .i64 n] w fun e w' => e = .returned (.int .u32 (rv v n : Nat)) ∧ w = w' := by
  unfold rv
  by_cases hn : 0 ≤ n ∧ n ≤ 32
  · rw [if_pos hn]
    obtain ⟨m, rfl⟩ := Int.eq_ofNat_of_zero_le hn.1
    exact refRev_any v m w hv (by omega)
  · rw [if_neg hn]
    exact refRev_no v n w (by omega)
set_option maxHeartbeats 1000000 in
theorem code_all (w : World) (R : Nat) (ao : Option Addr) (cap : Nat) (bs : List Int) (s v : Nat) (n : Int) (h : WtrT 84 w R ao cap bs s) (hv : v < 4294967296) (hs : s ≤ 900000000000) :
    Calls Try.prog 33 #[.pointer (some ⟨R, 0, none⟩), .int .u32 v, .int .i64 n] w (PutAll 84 w R ao cap bs s (rv v n) n) := by
  have H := Lib.hid h; clear h
  go_enter Try.func33, Try.ntmps33
  go_wp2_with fail
  refine (rev_both v n _ hv).mono ?_
  rintro e w1 ⟨rfl, rfl⟩
  go_wp2_with fail
  refine (put_all _ _ _ _ _ _ (rv v n) n H.out (rv_lt v n) hs).mono ?_
  rintro e w2 ⟨rfl, hp⟩
  have HP := Lib.hid hp; clear hp
  go_wp2
  go_ret
  exact ⟨rfl, HP.out⟩

variable {T1 T2 : TypeId} {w0 w w' : World} {A : Nat} {aoa : Option Addr} {capa : Nat} {ba : List Int} {sa : Nat} {B : Nat} {aob : Option Addr} {capb : Nat} {bb : List Int} {sb : Nat}
/-- A call of the script, in a block of its own. -/
def OpIn (W : World) (O : Nat) (D N : Int) (v : Nat) : Prop := W.heap[O]? = some (.cells #[.int .i64 D, .int .i64 N, .int .u32 v] 44 (0, 0))
/-- The first of two goes on by a Put. -/
def WentA (T1 T2 : TypeId) (w0 : World) (A : Nat) (ba : List Int) (sa : Nat) (B : Nat) (aob : Option Addr) (capb : Nat) (bb : List Int) (sb v : Nat) (n : Int) (W : World) (e : Ending) (W' : World) : Prop :=
  e = .returned (.bool (okN n)) ∧ ∃ ao' cap' ba', Hid (Two T1 T2 w0 W' A ao' cap' ba' (sa + cutN n) B aob capb bb sb) ∧ Hid (num ba' = num ba + v % 2 ^ cutN n * 2 ^ sa) ∧ Hid (∀ O D N v, OpIn W O D N v → OpIn W' O D N v)
theorem wentA_of {W : World} {v : Nat} {n : Int} {e : Ending} (h : Two T1 T2 w0 W A aoa capa ba sa B aob capb bb sb) (ht : 44 ≠ T1) (hp : PutAll T1 W A aoa capa ba sa v n e w') : WentA T1 T2 w0 A ba sa B aob capb bb sb v n W e w' := by
  obtain ⟨rfl, ao', cap', bs', h1, h2, h3, h4⟩ := hp
  refine ⟨rfl, ao', cap', bs', h.put h1 h3 h4, h2, fun O D N v hO => h3.obj hO ?_⟩
  intro e
  rcases e with e | e
  · have h5 := h.a.1
    subst e
    have h6 : some (Obj.cells #[.int .i64 D, .int .i64 N, .int .u32 v] 44 (0, 0)) = some (.cells #[.slice aoa ba.length capa, .int .i64 sa] T1 (0, 0)) := by rw [← hO, ← h5]
    simp at h6
  · exact row_ne h.a.2.1 hO (by decide) O e rfl
theorem Two.wentA (h : Two 84 T2 w0 w A aoa capa ba sa B aob capb bb sb) (v : Nat) (n : Int) (hv : v < 4294967296) (hs : sa ≤ 900000000000) (W : World) (hk : Kept NoB w W) :
    Calls Try.prog 21 #[.pointer (some ⟨A, 0, none⟩), .int .u32 v, .int .i64 n] W (WentA 84 T2 w0 A ba sa B aob capb bb sb v n W) :=
  (put_all _ _ _ _ _ _ v n (h.keptNo hk).a hv hs).mono fun _ _ hp => wentA_of (h.keptNo hk) (by decide) hp
theorem Two.codeA (h : Two 84 T2 w0 w A aoa capa ba sa B aob capb bb sb) (v : Nat) (n : Int) (hv : v < 4294967296) (hs : sa ≤ 900000000000) (W : World) (hk : Kept NoB w W) :
    Calls Try.prog 33 #[.pointer (some ⟨A, 0, none⟩), .int .u32 v, .int .i64 n] W (WentA 84 T2 w0 A ba sa B aob capb bb sb (rv v n) n W) :=
  (code_all _ _ _ _ _ _ v n (h.keptNo hk).a hv hs).mono fun _ _ hp => wentA_of (h.keptNo hk) (by decide) hp
/-- The second of two goes on by a Put. -/
def WentB (T1 T2 : TypeId) (w0 : World) (A : Nat) (aoa : Option Addr) (capa : Nat) (ba : List Int) (sa : Nat) (B : Nat) (bb : List Int) (sb v : Nat) (n : Int) (W : World) (e : Ending) (W' : World) : Prop :=
  e = .returned (.bool (okN n)) ∧ ∃ ao' cap' bb', Hid (Two T1 T2 w0 W' A aoa capa ba sa B ao' cap' bb' (sb + cutN n)) ∧ Hid (num bb' = num bb + v % 2 ^ cutN n * 2 ^ sb) ∧ Hid (∀ O D N v, OpIn W O D N v → OpIn W' O D N v)
theorem Two.wentB (h : Two T1 52 w0 w A aoa capa ba sa B aob capb bb sb) (v : Nat) (n : Int) (hv : v < 4294967296) (hs : sb ≤ 900000000000) (W : World) (hk : Kept NoB w W) :
    Calls Try.prog 32 #[.pointer (some ⟨B, 0, none⟩), .int .u32 v, .int .i64 n] W (WentB T1 52 w0 A aoa capa ba sa B bb sb v n W) := by
  refine (outPut_all _ _ _ _ _ _ v n (h.keptNo hk).b hv hs).mono ?_
  rintro e w' hp
  obtain ⟨rfl, ao', cap', ba', hT, hN, hO⟩ := wentA_of (h.keptNo hk).swap (by decide) hp
  exact ⟨rfl, ao', cap', ba', hT.out.swap, hN, hO⟩
theorem both_same {T1 T2 : TypeId} (h : Two T1 T2 w0 w A aoa capa ba sa B aob capb bb sb) (hs : sb = sa) (hn : num bb = num ba) : Two T1 T2 w0 w A aoa capa ba sa B aob capb ba sa := by
  have e : bb = ba := num_inj _ _ h.b.2.2.1 h.a.2.2.1 (by rw [h.b.2.2.2.1, h.a.2.2.2.1, hs]) hn
  subst hs e
  exact h
/-- Both are aligned. -/
theorem Two.alignA (h : Two 84 T2 w0 w A aoa capa ba sa B aob capb bb sb) (hs : sa ≤ 900000000000) (W : World) (hk : Kept NoB w W) :
    Calls Try.prog 35 #[.pointer (some ⟨A, 0, none⟩)] W fun e W' => e = .returned (.tuple #[]) ∧ Hid (Two 84 T2 w0 W' A aoa capa ba (up8 sa) B aob capb bb sb) := by
  have hT := h.keptNo hk
  refine (walign_any _ _ _ _ _ _ hT.a hs).mono ?_
  rintro e W' ⟨rfl, h1, h2⟩
  exact ⟨rfl, hT.put h1 (h2.mono fun k _ hk => .inl hk) (fun k hk => .inl hk)⟩
theorem Two.alignB (h : Two T1 52 w0 w A aoa capa ba sa B aob capb bb sb) (hs : sb ≤ 800000000000) (W : World) (hk : Kept NoB w W) :
    Calls Try.prog 36 #[.pointer (some ⟨B, 0, none⟩)] W fun e W' => e = .returned (.tuple #[]) ∧ ∃ ao' cap' bb', Hid (Two T1 52 w0 W' A aoa capa ba sa B ao' cap' bb' (up8 sb)) ∧ Hid (num bb' = num bb) := by
  have hT := (h.keptNo hk).swap
  refine (outAlign_any _ _ _ _ _ _ hT.a hs).mono ?_
  rintro e W' ⟨rfl, ao', cap', bs', hA⟩
  obtain ⟨_, _, h1, h2, h3, h4⟩ := hA.out
  exact ⟨rfl, ao', cap', bs', (hT.put h1 h3 h4).swap, h2⟩
end Go.Proofs.Ytffoigacpnlkgaa
