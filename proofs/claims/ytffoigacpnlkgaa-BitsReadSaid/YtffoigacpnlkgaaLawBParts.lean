/-
  BitsParts: as one number, or as two parts of it, bits are put and taken alike.
-/
import Derived.Test.YtffoigacpnlkgaaTwo
import Derived.Deep.RegionHeld3
namespace Go.Proofs.Ytffoigacpnlkgaa
open Go.RowKit
set_option linter.unusedVariables false
set_option linter.unusedSimpArgs false

theorem parts_same {T1 T2 : TypeId} {w0 w : World} {A : Nat} {aoa : Option Addr} {capa : Nat} {ba : List Int} {sa : Nat} {B : Nat} {aob : Option Addr} {capb : Nat} {bb : List Int} {sb : Nat}
    (h : Two T1 T2 w0 w A aoa capa ba sa B aob capb bb sb) (hs : sb = sa) (hn : num bb = num ba) : Two T1 T2 w0 w A aoa capa ba sa B aob capb ba sa := by
  have e : bb = ba := num_inj _ _ h.b.2.2.1 h.a.2.2.1 (by rw [h.b.2.2.2.1, h.a.2.2.2.1, hs]) hn
  subst hs e
  exact h
def PartsCut (w wx : World) (A B v N D : Nat) (s : Value) : Prop :=
  s = .bool false ∧ ∃ aoa capa ba aob capb, Two 84 84 w wx A aoa capa ba (0 + D + N) B aob capb ba (0 + D + N) ∧ num ba = v % 2 ^ N * 2 ^ D
theorem join_eq (p q M L N : Nat) (hp : p < 2 ^ M) (hq : q < 2 ^ L) (hN : N = M + L) (h32 : N ≤ 32) : bits .or .u64 (p : Int) (IntKind.u64.wrap ((q : Int) * 2 ^ M)) = ((p + q * 2 ^ M : Nat) : Int) := by
  have e : ((q : Int) * 2 ^ M) = ((q * 2 ^ M : Nat) : Int) := by push_cast; rfl
  have hM : M ≤ 32 := by omega
  have h1 : 2 ^ M ≤ 2 ^ 32 := pow_le_pow2 hM
  have h2 : q * 2 ^ M < 2 ^ 32 := by
    have h3 : q * 2 ^ M < 2 ^ L * 2 ^ M := Nat.mul_lt_mul_of_pos_right hq (Nat.pow_pos (by decide))
    rw [← Nat.pow_add] at h3
    exact Nat.lt_of_lt_of_le h3 (pow_le_pow2 (by omega))
  rw [e, IntKind.wrap_u64, show ((q * 2 ^ M : Nat) : Int) % 18446744073709551616 = ((q * 2 ^ M : Nat) : Int) from by omega, u64_or_nat _ _ (by omega) (by omega), or_shift _ _ _ hp]
theorem join_val (v M L D : Nat) (bs : List Int) (hn : num bs = v % 2 ^ (M + L) * 2 ^ D) : bitsAt bs D M + bitsAt bs (D + M) L * 2 ^ M = v % 2 ^ (M + L) := by
  unfold bitsAt
  rw [hn, Nat.pow_add 2 D M, ← Nat.div_div_eq_div_mul, Nat.mul_div_cancel _ (Nat.pow_pos (by decide)), put_parts, Nat.mod_mod]
theorem parts_num (v M L D : Nat) : v % 2 ^ M * 2 ^ D + v / 2 ^ M % 2 ^ L * 2 ^ (D + M) = v % 2 ^ (M + L) * 2 ^ D := by
  rw [← put_parts, Nat.add_mul, Nat.mul_assoc, ← Nat.pow_add, Nat.add_comm M D]

theorem wpAnyH_mono {P : Program} {md : Region.Mode} {ops : Array Oper} {Q : Exit → Act → World → Prop} {S S' : World → Prop} (h : ∀ w, S' w → S w) :
    ∀ {fuel : Nat} {listed : Array Bool} {a : Act} {w : World}, wpAnyH P md ops Q S' fuel listed a w → wpAnyH P md ops Q S fuel listed a w := by
  intro fuel
  induction fuel with
  | zero => intro _ _ _ hh; exact hh
  | succ n ih => intro listed a w hh; exact ⟨hh.1, fun i hi => wpOp_mono (fun a w hw => ⟨h _ hw.1, ih hw.2⟩) (hh.2 i hi)⟩

set_option maxRecDepth 100000 in
set_option maxHeartbeats 4000000 in
theorem bitsParts_walk (v : Nat) (n a d : Int) (w : World) (hv : v < 4294967296) :
    Calls Try.prog 4 #[.int .u32 v, .int .i64 n, .int .i64 a, .int .i64 d] w fun e w' => e = .returned (.bool true) ∧ Below w.heap.size w w' := by
  obtain ⟨N, hN⟩ : ∃ N : Nat, (N : Int) = n % 256 % 33 := ⟨(n % 256 % 33).toNat, by omega⟩
  have hN33 : N < 33 := by omega
  obtain ⟨M, hM⟩ : ∃ M : Nat, (M : Int) = a % 256 % ((N : Int) + 1) := ⟨(a % 256 % ((N : Int) + 1)).toNat, Int.toNat_of_nonneg (Int.emod_nonneg _ (by omega))⟩
  have hMN : (M : Int) < (N : Int) + 1 := by rw [hM]; exact Int.emod_lt_of_pos _ (by omega)
  obtain ⟨D, hD⟩ : ∃ D : Nat, (D : Int) = d % 8 := ⟨(d % 8).toNat, by omega⟩
  have hD8 : D < 8 := by omega
  have hmn : bits .and .i64 n 255 = n % 256 := mask255 n
  have hma : bits .and .i64 a 255 = a % 256 := mask255 a
  have hmd : bits .and .i64 d 7 = D := by rw [mask7, hD]
  have HN := Lib.hid hN; have HM := Lib.hid hM; have HD := Lib.hid hD; have HV := Lib.hid hv
  clear hN hM hD hv
  go_enter Try.func4, Try.ntmps4
  go_upto_region 1 with fail
  go_cut [1] from 17 to 19 (fun s wx => s = .int .i64 N ∧ w = wx)
  case first =>
    go_wp2
    go_meet
    exact ⟨by rw [HN.out], rfl⟩
  case rest =>
  obtain ⟨rfl, hw1⟩ := hcut
  subst hw1
  go_upto_region 2 with fail
  go_cut [2] from 20 to 24 (fun s wx => s = .int .i64 M ∧ w = wx)
  case first =>
    go_wp2
    go_meet
    exact ⟨by rw [HM.out], rfl⟩
  case rest =>
  obtain ⟨rfl, hw1⟩ := hcut
  subst hw1
  clear hmn hma
  go_wp2_with fail
  refine (neww_any _).mono ?_
  rintro e w1 ⟨A, rfl, hWa, hWf, hk1⟩
  have HA1 := Lib.hid hWa; have HB1 := Lib.hid (hk1.belowNo (Below.refl w.heap.size w)); have HAf := Lib.hid hWf
  clear hWa hWf hk1
  go_wp2_with fail
  refine (neww_any _).mono ?_
  rintro e w2 ⟨B, rfl, hWb, hWf, hk2⟩
  have HA2 := Lib.hid (HA1.out.keptNo hk2); have HB2 := Lib.hid (hk2.belowNo HB1.out); have HWb := Lib.hid hWb
  have hBf : w.heap.size ≤ B ∧ A < B := ⟨by have := HB1.out.size; omega, by have := obj_lt HA1.out.1; omega⟩
  have HBf := Lib.hid hBf
  clear hWb hWf hk2 hBf
  have hT2 : Two 84 84 w w2 A none 0 [] 0 B none 0 [] 0 :=
    ⟨HA2.out, HWb.out, by have := HBf.out; omega, HAf.out, HBf.out.1, (by intro k hk; simp [Value.ownBlock] at hk), (by intro k hk; simp [Value.ownBlock] at hk), (by intro k hk; simp [Value.ownBlock] at hk), by decide, by decide, HB2.out⟩
  have HT2 := Lib.hid hT2; clear hT2
  clear HA1 HB1 HA2 HB2 HWb HAf HBf
  go_wp2_with fail
  refine (put_any _ _ _ _ _ _ 0 D HT2.out.a (by decide) (by omega) (by decide)).mono ?_
  rintro e w3 hp3
  obtain ⟨aoa, capa, ba, rfl, hT3, hNa⟩ := HT2.out.putP hp3
  have HT3 := Lib.hid hT3; have HNa := Lib.hid (show num ba = 0 by rw [hNa]; simp [num])
  clear hp3 hT3 hNa HT2
  go_wp2_with fail
  refine (put_any _ _ _ _ _ _ 0 D HT3.out.b (by decide) (by omega) (by decide)).mono ?_
  rintro e w4 hp4
  obtain ⟨aob, capb, bb, rfl, hT4, hNb⟩ := HT3.out.swap.putP hp4
  have HT4 := Lib.hid hT4.swap; have HNb := Lib.hid (show num bb = 0 by rw [hNb]; simp [num])
  clear hp4 hT4 hNb HT3
  have hv := HV.out
  obtain ⟨x, hxe⟩ : ∃ x, v / 2 ^ M = x := ⟨_, rfl⟩
  have hx : x < 4294967296 := by rw [← hxe]; exact Nat.lt_of_le_of_lt (Nat.div_le_self _ _) hv
  have hxz : (v : Int) / 2 ^ M = (x : Int) := by rw [← hxe]; push_cast; rfl
  have HXe := Lib.hid hxe; have HXz := Lib.hid hxz; clear hxe hxz
  go_upto_region 8 with fail
  go_cut [11] from 41 to 45 (fun s wx => s = .int .u32 x ∧ w4 = wx)
  case first =>
    go_wp2
    go_meet
    exact ⟨by rw [HXz.out, Int.emod_eq_of_lt (by omega) (by omega)], rfl⟩
  case rest =>
  obtain ⟨rfl, hw4⟩ := hcut
  subst hw4
  obtain ⟨L, hL⟩ : ∃ L, N = M + L := ⟨N - M, by omega⟩
  have hL32 : L ≤ 32 := by omega
  have hM32 : M ≤ 32 := by omega
  have hN32 : N ≤ 32 := by omega
  have hLz : (N : Int) - M = L := by omega
  have HLy := Lib.hid hLz
  have HLz : Hid (IntKind.i64.wrap ((N : Int) - M) = L) := by rw [hLz]; exact IntWalk.i64_in _ (by omega)
  have HL := Lib.hid hL; clear hL hLz
  have hD9 : 0 + D ≤ 8 := by omega
  have HT4d := Lib.hid (HT4.out.keptNo ((Kept.refl NoB _).drew))
  have hq4 := fun W hk => HT4.out.putA v N hv hN32 (by omega) W hk
  have HQ4 := Lib.hid hq4; clear hq4
  go_upto_region 9 with fail
  go_cut [82] from 46 to 81 (fun s wx => PartsCut w wx A B v N D s)
  case first =>
    go_wp2_with fail
    refine wp_region_noPanic ?_
    refine wp_region_held_drew (S := fun _ => True) (by kernel_rfl) trivial (fun hHeld => ?_)
    refine wpAnyH_take (i := 0) (v := ?_) (by rw [List.getElem?_toArray]; rfl) (by kernel_rfl) (by kernel_rfl) (by kernel_rfl) (fun _ _ _ h => h) (Or.inl ⟨by rfl, ?hy0⟩) (by assumption) ?rest0
    case hy0 => (intro w hSw; (try dsimp only at hSw); go_simp; (try with_reducible rfl))
    try simp only [Act.put, List.setIfInBounds_toArray, List.set_cons_zero, List.set_cons_succ]
    refine wpAnyH_take (i := 1) (v := ?_) (by rw [List.getElem?_toArray]; rfl) (by kernel_rfl) (by kernel_rfl) (by kernel_rfl) (fun _ _ _ h => h) (Or.inl ⟨by rfl, ?hy1⟩) (by assumption) ?rest1
    case hy1 => (intro w hSw; (try dsimp only at hSw); go_simp; (try with_reducible rfl))
    try simp only [Act.put, List.setIfInBounds_toArray, List.set_cons_zero, List.set_cons_succ]
    refine wpAnyH_take (i := 2) (v := ?_) (by rw [List.getElem?_toArray]; rfl) (by kernel_rfl) (by kernel_rfl) (by kernel_rfl) (fun _ _ _ h => h) (Or.inl ⟨by rfl, ?hy2⟩) (by assumption) ?rest2
    case hy2 => (intro w hSw; (try dsimp only at hSw); go_simp; (try with_reducible rfl))
    try simp only [Act.put, List.setIfInBounds_toArray, List.set_cons_zero, List.set_cons_succ]
    refine wpAnyH_ready (rs := [3]) (by kernel_rfl) (by simp) ?_
    refine AllReadyH.cons (by rw [List.getElem?_toArray]; rfl) (fun K hK => ?_) AllReadyH.nil
    go_simp
    go_at_call 21
    (with_reducible refine (HQ4.out _ ((Kept.refl NoB _).drew)).mono ?_)
    rintro e w5 ⟨rfl, aoa5, capa5, ba5, HT5, HN5⟩
    go_wp2_with fail
    refine hK.out _ _ (trivial) (fun hHeld => ?_)
    clear hK K
    try simp only [Act.put, List.setIfInBounds_toArray, List.set_cons_zero, List.set_cons_succ]
    refine wpAnyH_take (i := 4) (v := ?_) (by rw [List.getElem?_toArray]; rfl) (by kernel_rfl) (by kernel_rfl) (by kernel_rfl) (fun _ _ _ h => h) (Or.inl ⟨by rfl, ?hy4⟩) (by assumption) ?rest4
    case hy4 => (intro w hSw; (try dsimp only at hSw); go_simp; (try with_reducible rfl))
    try simp only [Act.put, List.setIfInBounds_toArray, List.set_cons_zero, List.set_cons_succ]
    refine wpAnyH_take (i := 5) (v := ?_) (by rw [List.getElem?_toArray]; rfl) (by kernel_rfl) (by kernel_rfl) (by kernel_rfl) (fun _ _ _ h => h) (Or.inl ⟨by rfl, ?hy5⟩) (by assumption) ?rest5
    case hy5 => (intro w hSw; (try dsimp only at hSw); go_simp; (try with_reducible rfl))
    try simp only [Act.put, List.setIfInBounds_toArray, List.set_cons_zero, List.set_cons_succ]
    refine wpAnyH_take (i := 6) (v := ?_) (by rw [List.getElem?_toArray]; rfl) (by kernel_rfl) (by kernel_rfl) (by kernel_rfl) (fun _ _ _ h => h) (Or.inl ⟨by rfl, ?hy6⟩) (by assumption) ?rest6
    case hy6 => (intro w hSw; (try dsimp only at hSw); go_simp; (try with_reducible rfl))
    try simp only [Act.put, List.setIfInBounds_toArray, List.set_cons_zero, List.set_cons_succ]
    refine wpAnyH_take (i := 7) (v := ?_) (by rw [List.getElem?_toArray]; rfl) (by kernel_rfl) (by kernel_rfl) (by kernel_rfl) (fun _ _ _ h => h) (Or.inl ⟨by rfl, ?hy7⟩) (by assumption) ?rest7
    case hy7 => (intro w hSw; (try dsimp only at hSw); go_simp; (try with_reducible rfl))
    try simp only [Act.put, List.setIfInBounds_toArray, List.set_cons_zero, List.set_cons_succ]
    refine wpAnyH_take (i := 8) (v := ?_) (by rw [List.getElem?_toArray]; rfl) (by kernel_rfl) (by kernel_rfl) (by kernel_rfl) (fun _ _ _ h => h) (Or.inl ⟨by rfl, ?hy8⟩) (by assumption) ?rest8
    case hy8 => (intro w hSw; (try dsimp only at hSw); go_simp; (try with_reducible rfl))
    try simp only [Act.put, List.setIfInBounds_toArray, List.set_cons_zero, List.set_cons_succ]
    refine wpAnyH_ready (rs := [9]) (by kernel_rfl) (by simp) ?_
    refine AllReadyH.cons (by rw [List.getElem?_toArray]; rfl) (fun K hK => ?_) AllReadyH.nil
    go_simp
    go_at_call 21
    (with_reducible refine (HT5.out.putB v M hv hM32 (by omega) _ (Kept.refl NoB _) _ rfl).mono ?_)
    rintro e w6 ⟨rfl, aob6, capb6, bb6, HT6, HN6⟩
    go_wp2_with fail
    refine hK.out _ _ (trivial) (fun hHeld => ?_)
    clear hK K
    try simp only [Act.put, List.setIfInBounds_toArray, List.set_cons_zero, List.set_cons_succ]
    refine wpAnyH_take (i := 10) (v := ?_) (by rw [List.getElem?_toArray]; rfl) (by kernel_rfl) (by kernel_rfl) (by kernel_rfl) (fun _ _ _ h => h) (Or.inl ⟨by rfl, ?hy10⟩) (by assumption) ?rest10
    case hy10 => (intro w hSw; (try dsimp only at hSw); go_simp; (try with_reducible rfl))
    try simp only [Act.put, List.setIfInBounds_toArray, List.set_cons_zero, List.set_cons_succ]
    refine wpAnyH_take (i := 11) (v := ?_) (by rw [List.getElem?_toArray]; rfl) (by kernel_rfl) (by kernel_rfl) (by kernel_rfl) (fun _ _ _ h => h) (Or.inl ⟨by rfl, ?hy11⟩) (by assumption) ?rest11
    case hy11 => (intro w hSw; (try dsimp only at hSw); go_simp; (try with_reducible rfl))
    try simp only [Act.put, List.setIfInBounds_toArray, List.set_cons_zero, List.set_cons_succ]
    refine wpAnyH_take (i := 12) (v := ?_) (by rw [List.getElem?_toArray]; rfl) (by kernel_rfl) (by kernel_rfl) (by kernel_rfl) (fun _ _ _ h => h) (Or.inl ⟨by rfl, ?hy12⟩) (by assumption) ?rest12
    case hy12 => (intro w hSw; (try dsimp only at hSw); go_simp; (try with_reducible rfl))
    try simp only [Act.put, List.setIfInBounds_toArray, List.set_cons_zero, List.set_cons_succ]
    refine wpAnyH_take (i := 13) (v := ?_) (by rw [List.getElem?_toArray]; rfl) (by kernel_rfl) (by kernel_rfl) (by kernel_rfl) (fun _ _ _ h => h) (Or.inl ⟨by rfl, ?hy13⟩) (by assumption) ?rest13
    case hy13 => (intro w hSw; (try dsimp only at hSw); go_simp; (try with_reducible rfl))
    try simp only [Act.put, List.setIfInBounds_toArray, List.set_cons_zero, List.set_cons_succ]
    refine wpAnyH_take (i := 14) (v := ?_) (by rw [List.getElem?_toArray]; rfl) (by kernel_rfl) (by kernel_rfl) (by kernel_rfl) (fun _ _ _ h => h) (Or.inl ⟨by rfl, ?hy14⟩) (by assumption) ?rest14
    case hy14 => (intro w hSw; (try dsimp only at hSw); go_simp; (try with_reducible rfl))
    try simp only [Act.put, List.setIfInBounds_toArray, List.set_cons_zero, List.set_cons_succ]
    refine wpAnyH_take (i := 15) (v := ?_) (by rw [List.getElem?_toArray]; rfl) (by kernel_rfl) (by kernel_rfl) (by kernel_rfl) (fun _ _ _ h => h) (Or.inl ⟨by rfl, ?hy15⟩) (by assumption) ?rest15
    case hy15 => (intro w hSw; (try dsimp only at hSw); go_simp; (try with_reducible rfl))
    try simp only [Act.put, List.setIfInBounds_toArray, List.set_cons_zero, List.set_cons_succ]
    refine wpAnyH_take (i := 16) (v := ?_) (by rw [List.getElem?_toArray]; rfl) (by kernel_rfl) (by kernel_rfl) (by kernel_rfl) (fun _ _ _ h => h) (Or.inl ⟨by rfl, ?hy16⟩) (by assumption) ?rest16
    case hy16 => (intro w hSw; (try dsimp only at hSw); go_simp; (try with_reducible rfl))
    try simp only [Act.put, List.setIfInBounds_toArray, List.set_cons_zero, List.set_cons_succ]
    refine wpAnyH_take (i := 17) (v := ?_) (by rw [List.getElem?_toArray]; rfl) (by kernel_rfl) (by kernel_rfl) (by kernel_rfl) (fun _ _ _ h => h) (Or.inl ⟨by rfl, ?hy17⟩) (by assumption) ?rest17
    case hy17 => (intro w hSw; (try dsimp only at hSw); go_simp; (try with_reducible rfl))
    try simp only [Act.put, List.setIfInBounds_toArray, List.set_cons_zero, List.set_cons_succ]
    refine wpAnyH_ready (rs := [18]) (by kernel_rfl) (by simp) ?_
    refine AllReadyH.cons (by rw [List.getElem?_toArray]; rfl) (fun K hK => ?_) AllReadyH.nil
    go_simp
    go_at_call 21
    (with_reducible refine (HT6.out.putB x L hx hL32 (by omega) _ (Kept.refl NoB _) _ HLz.out).mono ?_)
    rintro e w7 ⟨rfl, aob7, capb7, bb7, HT7, HN7⟩
    have HT7b := Lib.hid (parts_same HT7.out (by have := HL.out; omega) (by rw [HN7.out, HN6.out, HN5.out, HNa.out, HNb.out, Nat.zero_add, Nat.zero_add, Nat.zero_add, ← HXe.out, parts_num, HL.out]))
    go_wp2_with fail
    refine hK.out _ _ (trivial) (fun hHeld => ?_)
    clear hK K
    try simp only [Act.put, List.setIfInBounds_toArray, List.set_cons_zero, List.set_cons_succ]
    refine wpAnyH_take (i := 19) (v := ?_) (by rw [List.getElem?_toArray]; rfl) (by kernel_rfl) (by kernel_rfl) (by kernel_rfl) (fun _ _ _ h => h) (Or.inl ⟨by rfl, ?hy19⟩) (by assumption) ?rest19
    case hy19 => (intro w hSw; (try dsimp only at hSw); go_simp; (try with_reducible rfl))
    try simp only [Act.put, List.setIfInBounds_toArray, List.set_cons_zero, List.set_cons_succ]
    refine wpAnyH_take (i := 20) (v := ?_) (by rw [List.getElem?_toArray]; rfl) (by kernel_rfl) (by kernel_rfl) (by kernel_rfl) (fun _ _ _ h => h) (Or.inl ⟨by rfl, ?hy20⟩) (by assumption) ?rest20
    case hy20 => (intro w hSw; (try dsimp only at hSw); go_simp; (try with_reducible rfl))
    try simp only [Act.put, List.setIfInBounds_toArray, List.set_cons_zero, List.set_cons_succ]
    refine wpAnyH_take (i := 21) (v := ?_) (by rw [List.getElem?_toArray]; rfl) (by kernel_rfl) (by kernel_rfl) (by kernel_rfl) (fun _ _ _ h => h) (Or.inl ⟨by rfl, ?hy21⟩) (by assumption) ?rest21
    case hy21 => (intro w hSw; (try dsimp only at hSw); go_simp; (try with_reducible rfl))
    try simp only [Act.put, List.setIfInBounds_toArray, List.set_cons_zero, List.set_cons_succ]
    refine wpAnyH_take (i := 22) (v := ?_) (by rw [List.getElem?_toArray]; rfl) (by kernel_rfl) (by kernel_rfl) (by kernel_rfl) (fun _ _ _ h => h) (Or.inl ⟨by rfl, ?hy22⟩) (by assumption) ?rest22
    case hy22 => (intro w hSw; (try dsimp only at hSw); go_simp; (try with_reducible rfl))
    try simp only [Act.put, List.setIfInBounds_toArray, List.set_cons_zero, List.set_cons_succ]
    refine wpAnyH_take (i := 25) (v := ?_) (by rw [List.getElem?_toArray]; rfl) (by kernel_rfl) (by kernel_rfl) (by kernel_rfl) (fun _ _ _ h => h) (Or.inl ⟨by rfl, ?hy25⟩) (by assumption) ?rest25
    case hy25 => (intro w hSw; (try dsimp only at hSw); go_simp; (try with_reducible rfl))
    try simp only [Act.put, List.setIfInBounds_toArray, List.set_cons_zero, List.set_cons_succ]
    refine wpAnyH_ready (rs := [23]) (by kernel_rfl) (by simp) ?_
    refine AllReadyH.cons (by rw [List.getElem?_toArray]; rfl) (fun K hK => ?_) AllReadyH.nil
    go_simp
    go_at_call 22
    (with_reducible refine (HT7b.out.bytesA _ (Kept.refl NoB _)).mono ?_)
    rintro e w8 ⟨ao8, cap8, rfl, Hr8, H08, Hc8, hk8⟩
    have HT8 := Lib.hid (HT7b.out.keptNo hk8); clear hk8 Hc8
    go_wp2_with fail
    refine hK.out _ _ (trivial) (fun hHeld => ?_)
    clear hK K
    try simp only [Act.put, List.setIfInBounds_toArray, List.set_cons_zero, List.set_cons_succ]
    refine wpAnyH_mono (S' := fun W => Kept NoB w8 W) (fun _ _ => trivial) ?_
    clear hHeld
    have hHeld := Kept.refl NoB w8
    have hc8 : ∀ W, Kept NoB w8 W → (convert 22 9 (.slice ao8 ba5.length cap8)).run Try.prog W = .ok (.string (strOfNums ba5)) W := fun W hk => conv_reads (Hr8.out.kept hk (fun _ _ h => h)) rfl H08.out
    refine wpAnyH_take (i := 24) (v := ?_) (by rw [List.getElem?_toArray]; rfl) (by kernel_rfl) (by kernel_rfl) (by kernel_rfl) (fun _ _ _ h => h) (Or.inl ⟨by rfl, ?hy24⟩) (by assumption) ?rest24
    case hy24 => (intro w hSw; (try dsimp only at hSw); go_simp; (try with_reducible rfl))
    try simp only [Act.put, List.setIfInBounds_toArray, List.set_cons_zero, List.set_cons_succ]
    clear hc8
    refine wpAnyH_ready (rs := [26]) (by kernel_rfl) (by simp) ?_
    refine AllReadyH.cons (by rw [List.getElem?_toArray]; rfl) (fun K hK => ?_) AllReadyH.nil
    go_simp
    go_at_call 22
    (with_reducible refine (HT8.out.swap.bytesA _ (Kept.refl NoB _)).mono ?_)
    rintro e w9 ⟨ao9, cap9, rfl, Hr9, H09, Hc9, hk9⟩
    have HT9 := Lib.hid (HT8.out.keptNo hk9)
    go_wp2_with fail
    refine hK.out _ _ (hk9) (fun hHeld => ?_)
    clear hK K
    try simp only [Act.put, List.setIfInBounds_toArray, List.set_cons_zero, List.set_cons_succ]
    refine wpAnyH_mono (S' := fun W => Kept NoB w9 W) (fun _ h => hk9.trans h) ?_
    clear hHeld
    have hHeld := Kept.refl NoB w9
    have hc9 : ∀ W, Kept NoB w9 W → (convert 22 9 (.slice ao9 ba5.length cap9)).run Try.prog W = .ok (.string (strOfNums ba5)) W := fun W hk => conv_reads (Hr9.out.kept hk (fun _ _ h => h)) rfl H09.out
    refine wpAnyH_take (i := 27) (v := ?_) (by rw [List.getElem?_toArray]; rfl) (by kernel_rfl) (by kernel_rfl) (by kernel_rfl) (fun _ _ _ h => h) (Or.inl ⟨by rfl, ?hy27⟩) (by assumption) ?rest27
    case hy27 => (intro w hSw; (try dsimp only at hSw); go_simp; (try with_reducible rfl))
    try simp only [Act.put, List.setIfInBounds_toArray, List.set_cons_zero, List.set_cons_succ]
    clear hc9 hk9
    refine wpAnyH_take (i := 28) (v := ?_) (by rw [List.getElem?_toArray]; rfl) (by kernel_rfl) (by kernel_rfl) (by kernel_rfl) (fun _ _ _ h => h) (Or.inl ⟨by rfl, ?hy28⟩) (by assumption) ?rest28
    case hy28 => (intro w hSw; (try dsimp only at hSw); go_simp; (try with_reducible rfl))
    try simp only [Act.put, List.setIfInBounds_toArray, List.set_cons_zero, List.set_cons_succ]
    refine wpAnyH_take (i := 29) (v := ?_) (by rw [List.getElem?_toArray]; rfl) (by kernel_rfl) (by kernel_rfl) (by kernel_rfl) (fun _ _ _ h => h) (Or.inl ⟨by rfl, ?hy29⟩) (by assumption) ?rest29
    case hy29 => (intro w hSw; (try dsimp only at hSw); go_simp; (try with_reducible rfl))
    try simp only [Act.put, List.setIfInBounds_toArray, List.set_cons_zero, List.set_cons_succ]
    refine wpAnyH_take (i := 30) (v := ?_) (by rw [List.getElem?_toArray]; rfl) (by kernel_rfl) (by kernel_rfl) (by kernel_rfl) (fun _ _ _ h => h) (Or.inl ⟨by rfl, ?hy30⟩) (by assumption) ?rest30
    case hy30 => (intro w hSw; (try dsimp only at hSw); go_simp; (try with_reducible rfl))
    try simp only [Act.put, List.setIfInBounds_toArray, List.set_cons_zero, List.set_cons_succ]
    refine wpAnyH_take (i := 31) (v := ?_) (by rw [List.getElem?_toArray]; rfl) (by kernel_rfl) (by kernel_rfl) (by kernel_rfl) (fun _ _ _ h => h) (Or.inl ⟨by rfl, ?hy31⟩) (by assumption) ?rest31
    case hy31 => (intro w hSw; (try dsimp only at hSw); go_simp; (try with_reducible rfl))
    try simp only [Act.put, List.setIfInBounds_toArray, List.set_cons_zero, List.set_cons_succ]
    refine wpAnyH_take (i := 33) (v := ?_) (by rw [List.getElem?_toArray]; rfl) (by kernel_rfl) (by kernel_rfl) (by kernel_rfl) (fun _ _ _ h => h) (Or.inl ⟨by rfl, ?hy33⟩) (by assumption) ?rest33
    case hy33 => (intro w hSw; (try dsimp only at hSw); go_simp; (try with_reducible rfl))
    try simp only [Act.put, List.setIfInBounds_toArray, List.set_cons_zero, List.set_cons_succ]
    refine wpAnyH_ready (rs := [32]) (by kernel_rfl) (by simp) ?_
    refine AllReadyH.cons (by rw [List.getElem?_toArray]; rfl) (fun K hK => ?_) AllReadyH.nil
    go_simp
    go_at_call 23
    (with_reducible refine (HT9.out.lenA _ (Kept.refl NoB _)).mono ?_)
    rintro e w10 ⟨rfl, hk10⟩
    have HT10 := Lib.hid (HT9.out.keptNo hk10)
    go_wp2_with fail
    refine hK.out _ _ (hHeld.trans hk10) (fun hHeld => ?_)
    clear hK K
    try simp only [Act.put, List.setIfInBounds_toArray, List.set_cons_zero, List.set_cons_succ]
    refine wpAnyH_ready (rs := [34]) (by kernel_rfl) (by simp) ?_
    refine AllReadyH.cons (by rw [List.getElem?_toArray]; rfl) (fun K hK => ?_) AllReadyH.nil
    go_simp
    go_at_call 23
    (with_reducible refine (HT10.out.swap.lenA _ (Kept.refl NoB _)).mono ?_)
    rintro e w11 ⟨rfl, hk11⟩
    have HT11 := Lib.hid (HT10.out.keptNo hk11)
    go_wp2_with fail
    refine hK.out _ _ (hHeld.trans hk11) (fun hHeld => ?_)
    clear hK K
    try simp only [Act.put, List.setIfInBounds_toArray, List.set_cons_zero, List.set_cons_succ]
    refine wpAnyH_take (i := 35) (v := ?_) (by rw [List.getElem?_toArray]; rfl) (by kernel_rfl) (by kernel_rfl) (by kernel_rfl) (fun _ _ _ h => h) (Or.inl ⟨by rfl, ?hy35⟩) (by assumption) ?rest35
    case hy35 => (intro w hSw; (try dsimp only at hSw); go_simp; (try with_reducible rfl))
    try simp only [Act.put, List.setIfInBounds_toArray, List.set_cons_zero, List.set_cons_succ]
    refine wpAnyH_take (i := 36) (v := ?_) (by rw [List.getElem?_toArray]; rfl) (by kernel_rfl) (by kernel_rfl) (by kernel_rfl) (fun _ _ _ h => h) (Or.inl ⟨by rfl, ?hy36⟩) (by assumption) ?rest36
    case hy36 => (intro w hSw; (try dsimp only at hSw); go_simp; (try with_reducible rfl))
    try simp only [Act.put, List.setIfInBounds_toArray, List.set_cons_zero, List.set_cons_succ]
    refine wpAnyH_done (by kernel_rfl) ?_ _
    refine NoPanic.normal ?_
    go_wp2
    go_meet
    exact ⟨by simp, aoa5, capa5, ba5, aob7, capb7, HT11.out, by rw [HN5.out, HNa.out, Nat.zero_add, Nat.zero_add]⟩
  case rest =>
  obtain ⟨rfl, aoa9, capa9, b9, aob9, capb9, hT9, hn9⟩ := hcut
  have HT9 := Lib.hid hT9; have HN9 := Lib.hid hn9
  have hl9 : b9.length = (0 + D + N + 7) / 8 := hT9.a.2.2.2.1
  have hb9 : AllB b9 := hT9.a.2.2.1
  have HL9 := Lib.hid hl9; have HB9 := Lib.hid hb9
  clear hT9 hn9 hl9 hb9
  clear HT4 HQ4 HT4d HNa HNb
  go_wp2_with fail
  (with_reducible refine (HT9.out.bytesA _ (Kept.refl NoB _)).mono ?_)
  rintro e w12 ⟨ao12, cap12, rfl, Hr12, H012, Hc12, hk12⟩
  have HB12 := Lib.hid (hk12.belowNo HT9.out.bel); clear hk12 Hc12
  go_wp2_with fail
  (with_reducible refine (newr_any _ _ _ _ Hr12.out (by have := HL9.out; omega) HB9.out).mono ?_)
  rintro e w13 ⟨R, aoR, capR, rfl, hR, hRf, hRo, hk13⟩
  have HR13 := Lib.hid hR; have HB13 := Lib.hid (hk13.belowNo HB12.out); have HRf := Lib.hid hRf; clear hR hRf hk13
  have HRw : Hid (w.heap.size ≤ R) := Nat.le_trans HB12.out.size HRf.out
  clear HRf HB12 H012 Hr12 hRo
  go_wp2_with fail
  refine (take_yes _ _ _ _ _ _ D HR13.out (by omega) (by have := HL9.out; omega)).mono ?_
  rintro e w14 ⟨rfl, hR14, hk14⟩
  have HR14 := Lib.hid hR14; have HB14 := Lib.hid (hk14.below HB13.out (by intro k hk; simp [OneB] at hk; have := HRw.out; omega))
  clear hR14 hk14 HR13 HB13
  go_wp2_with fail
  refine (take_yes _ _ _ _ _ _ M HR14.out (by omega) (by have := HL9.out; have := HL.out; omega)).mono ?_
  rintro e w15 ⟨rfl, hR15, hk15⟩
  have HR15 := Lib.hid hR15; have HB15 := Lib.hid (hk15.below HB14.out (by intro k hk; simp [OneB] at hk; have := HRw.out; omega))
  clear hR15 hk15 HR14 HB14
  go_wp2_with fail
  rw [HLy.out]
  refine (take_yes _ _ _ _ _ _ L HR15.out (by omega) (by have := HL9.out; have := HL.out; omega)).mono ?_
  rintro e w16 ⟨rfl, hR16, hk16⟩
  have HR16 := Lib.hid hR16; have HB16 := Lib.hid (hk16.below HB15.out (by intro k hk; simp [OneB] at hk; have := HRw.out; omega))
  clear hR16 hk16 HR15 HB15
  go_wp2_with fail
  have hPl : bitsAt b9 D M < 2 ^ M := Nat.mod_lt _ (Nat.pow_pos (by decide))
  have hQl : bitsAt b9 (D + M) L < 2 ^ L := Nat.mod_lt _ (Nat.pow_pos (by decide))
  have hjv := join_val v M L D b9 (by rw [HN9.out, HL.out])
  have HPl := Lib.hid hPl; have HQl := Lib.hid hQl; have HJv := Lib.hid hjv; clear hPl hQl hjv
  generalize bitsAt b9 D M = pp at HPl HJv ⊢
  generalize bitsAt b9 (D + M) L = qq at HQl HJv ⊢
  have hjoin := join_eq pp qq M L N HPl.out HQl.out HL.out hN32
  have q1 := wrap_pow N hN32
  have hwant := low_eq v N hv hN32
  rw [q1] at hwant
  rw [HJv.out, ← HL.out] at hjoin
  generalize v % 2 ^ N = yy at hjoin hwant
  have hp32 : pp < 4294967296 := Nat.lt_of_lt_of_le HPl.out (show 2 ^ M ≤ 2 ^ 32 from pow_le_pow2 hM32)
  have hq32 : qq < 4294967296 := Nat.lt_of_lt_of_le HQl.out (show 2 ^ L ≤ 2 ^ 32 from pow_le_pow2 hL32)
  have hw1 : IntKind.u64.wrap ((pp : Nat) : Int) = pp := by rw [IntKind.wrap_u64]; omega
  have hw2 : IntKind.u64.wrap ((qq : Nat) : Int) = qq := by rw [IntKind.wrap_u64]; omega
  have hw3 : IntKind.u64.wrap ((v : Nat) : Int) = v := by rw [IntKind.wrap_u64]; omega
  go_region_held3 (fun _ => True) (trivial)
    (first
      | (go_at_call 15; ((with_reducible refine (awake1 _).mono ?_); rintro e w17 ⟨rfl, hb17⟩)))
  clear hjoin hwant q1 hw1 hw2 hw3
  go_wp2
  go_ret
  exact ⟨rfl, ((Kept.refl NoB w16).drew.belowNo HB16.out).trans (hb17.mono HB16.out.size)⟩

theorem bitsParts_law (v0 v1 v2 v3 : Value) (w : World) (r0 : Arg w 26 v0) (r1 : Arg w 3 v1) (r2 : Arg w 3 v2) (r3 : Arg w 3 v3) :
    Calls Try.prog 4 #[v0, v1, v2, v3] w fun e w' => e = .returned (.bool true) ∧ Below w.heap.size w w' := by
  obtain ⟨v, rfl, hv⟩ := r0.int Try.underlying26
  obtain ⟨n, rfl, hn⟩ := r1.int Try.underlying3
  obtain ⟨a, rfl, ha⟩ := r2.int Try.underlying3
  obtain ⟨d, rfl, hd⟩ := r3.int Try.underlying3
  have hu := u32_bd hv
  obtain ⟨c, rfl⟩ := Int.eq_ofNat_of_zero_le hu.1
  exact bitsParts_walk c n a d w (by omega)
end Go.Proofs.Ytffoigacpnlkgaa
