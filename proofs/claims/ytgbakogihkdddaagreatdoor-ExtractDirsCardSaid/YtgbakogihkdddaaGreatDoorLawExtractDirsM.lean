/-
  Directories have at last what was said of them: ExtractDirs.
-/
import Derived.Test.YtgbakogihkdddaaGreatDoorExTopM
import Derived.BigQuiet
namespace Go.Proofs.YtgbakogihkdddaaGreatDoor
open Go.RowKit Go.Shelf
set_option linter.unusedVariables false
set_option linter.unusedSimpArgs false
set_option maxRecDepth 100000

def nm13 (i : Nat) : List UInt8 := [[97], [98], [99], [100], [108, 111, 110, 103, 45, 110, 97, 109, 101], [120, 46, 121]].getD (i % 6) []
def wayD : Nat → List UInt8
  | 0 => nm13 0
  | i + 1 => wayD i ++ [47] ++ nm13 (i + 1)
def edD (tm : Nat → Int) (i : Nat) : EntV := ⟨6, wayD i, [], i, 0, 0, tm i, 0, 0, 0, []⟩
def edP (i : Nat) : EntV := ⟨7, wayD i ++ [47, 112], [], 0, 0, 0, 0, 0, 0, 0, []⟩
def edQ : EntV := ⟨7, [97, 47, 113, 97], [], 0, 0, 0, 0, 0, 0, 0, []⟩
def edN : EntV := ⟨7, [47, 110, 111], [], 0, 0, 0, 0, 0, 0, 0, []⟩
def edL (tm : Nat → Int) (n : Nat) : List EntV := (List.range n).flatMap (fun i => [edD tm i, edP i])
def edA (tm : Nat → Int) (n : Nat) (wrong : Bool) : List EntV := edL tm n ++ List.replicate n edQ ++ if wrong then [edN] else []
/-- All that is asked of the tree that is made. -/
def edR (tm : Nat → Int) (n : Nat) (wrong : Bool) : (Nat × Int) × List ((Int × Int) × Int × Int × Int) :=
  ((allE (newT 100) 1 (edA tm n wrong)).2, (List.range n).map fun (i : Nat) => (findP (allE (newT 100) 1 (edA tm n wrong)).1 (if i = 0 then 1 else 2 * (i : Int)) (nm13 i), (statP (allE (newT 100) 1 (edA tm n wrong)).1 (2 * (i : Int) + 2)).2, (statP (allE (newT 100) 1 (edA tm n wrong)).1 (2 * (i : Int) + 2)).1.time, (statP (allE (newT 100) 1 (edA tm n wrong)).1 (2 * (i : Int) + 2)).1.mode))
def edW (tm : Nat → Int) (n : Nat) (wrong : Bool) : (Nat × Int) × List ((Int × Int) × Int × Int × Int) :=
  ((3 * n, if wrong then 9 else 0), (List.range n).map fun (i : Nat) => ((2 * (i : Int) + 2, 0), 0, tm i, (i : Int)))
theorem ed_all (tm : Nat → Int) (n : Nat) (hn : n ≤ 8) (wrong : Bool) : edR tm n wrong = edW tm n wrong := by
  obtain rfl | rfl | rfl | rfl | rfl | rfl | rfl | rfl | rfl : n = 0 ∨ n = 1 ∨ n = 2 ∨ n = 3 ∨ n = 4 ∨ n = 5 ∨ n = 6 ∨ n = 7 ∨ n = 8 := by omega
  all_goals (cases wrong <;> kernel_rfl)
theorem ed_end (tm : Nat → Int) (n : Nat) (hn : n ≤ 8) (wrong : Bool) : (allE (newT 100) 1 (edA tm n wrong)).2 = (3 * n, if wrong then 9 else 0) := congrArg Prod.fst (ed_all tm n hn wrong)
theorem ed_dir (tm : Nat → Int) (n : Nat) (hn : n ≤ 8) (wrong : Bool) (i : Nat) (hi : i < n) :
    findP (allE (newT 100) 1 (edA tm n wrong)).1 (if i = 0 then 1 else 2 * (i : Int)) (nm13 i) = (2 * (i : Int) + 2, 0) ∧ (statP (allE (newT 100) 1 (edA tm n wrong)).1 (2 * (i : Int) + 2)).2 = 0 ∧ (statP (allE (newT 100) 1 (edA tm n wrong)).1 (2 * (i : Int) + 2)).1.time = tm i ∧ (statP (allE (newT 100) 1 (edA tm n wrong)).1 (2 * (i : Int) + 2)).1.mode = i := by
  have h := congrArg (fun r => r.2[i]?) (ed_all tm n hn wrong)
  unfold edR edW at h
  simp only [List.getElem?_map, List.getElem?_range hi, Option.map_some, Option.some.injEq, Prod.mk.injEq] at h
  exact ⟨h.1, h.2.1, h.2.2.1, h.2.2.2⟩
theorem cells_int : Tryz.prog.cellsOf 3 = 1 := by kernel_rfl

/-- A slice of numbers reads as zs; its block is below B. -/
def RdI (w : World) (B : Nat) (ao : Option Addr) (zs : List Int) : Prop :=
  ∀ i, i < zs.length → ∃ g off, ao = some ⟨g, off, none⟩ ∧ g < B ∧ w.cell? ⟨g, off + i, none⟩ = some (.int .i64 (zs.getD i 0))
theorem RdI.kept {S : Nat → Prop} {w w' : World} {B : Nat} {ao : Option Addr} {zs : List Int} (h : RdI w B ao zs) (hk : Kept S w w') (hs : ∀ k, k < B → ¬ S k) : RdI w' B ao zs := by
  intro i hi
  obtain ⟨g, off, h1, h2, h3⟩ := h i hi
  exact ⟨g, off, h1, h2, (World.cell?_of_block (hk.block _ (World.block_lt_of_cell? w _ h3) (hs g h2))).trans h3⟩
theorem RdI.mono {w : World} {B C : Nat} {ao : Option Addr} {zs : List Int} (h : RdI w B ao zs) (hb : B ≤ C) : RdI w C ao zs := by
  intro i hi
  obtain ⟨g, off, h1, h2, h3⟩ := h i hi
  exact ⟨g, off, h1, Nat.lt_of_lt_of_le h2 hb, h3⟩
theorem RdI.room {w : World} {B : Nat} {ao : Option Addr} {zs : List Int} (h : RdI w B ao zs) : RdI w w.heap.size ao zs := by
  intro i hi
  obtain ⟨g, off, h1, h2, h3⟩ := h i hi
  exact ⟨g, off, h1, World.block_lt_of_cell? w _ h3, h3⟩
def AllI (zs : List Int) : Prop := ∀ z ∈ zs, -9223372036854775808 ≤ z ∧ z ≤ 9223372036854775807
theorem AllI.getD {zs : List Int} (h : AllI zs) (i : Nat) : -9223372036854775808 ≤ zs.getD i 0 ∧ zs.getD i 0 ≤ 9223372036854775807 := by
  by_cases hi : i < zs.length
  · have : zs.getD i 0 = zs[i] := by simp [List.getD, hi]
    rw [this]; exact h _ (List.getElem_mem hi)
  · have : zs.getD i 0 = 0 := by simp [List.getD, List.getElem?_eq_none (Nat.le_of_not_lt hi)]
    omega

theorem Arg.ints {w : World} {v : Value} (h : Arg w 34 v) :
    ∃ (ao : Option Addr) (cap : Nat) (zs : List Int), v = .slice ao zs.length cap ∧ zs.length ≤ cap ∧ cap ≤ maxLen ∧ RdI w w.heap.size ao zs ∧ AllI zs ∧ (ao = none → cap = 0) := by
  obtain ⟨ao, len, cap, rfl, hl, hm, hn, hc⟩ := h.slice Tryz.underlying34
  rw [cells_int] at hc
  have key : ∀ i, ∃ z : Int, (-9223372036854775808 ≤ z ∧ z ≤ 9223372036854775807) ∧ (∀ x, ao = some x → i < len → w.cell? (x.add i) = some (.int .i64 z)) := by
    intro i
    by_cases hi : i < len
    · cases ao with
      | none => exact ⟨0, by decide, (fun x hx => by cases hx)⟩
      | some x =>
        obtain ⟨cs, hr, hcl, hcc⟩ := hc x rfl i hi
        obtain ⟨z, rfl, hz⟩ := hr.int Tryz.underlying3
        refine ⟨z, i64_bd hz, ?_⟩
        intro y hy _
        cases hy
        simpa using hcc 0 (by simp)
    · exact ⟨0, by decide, (fun x _ h => absurd h hi)⟩
  obtain ⟨f, hf⟩ := choose1 key
  refine ⟨ao, cap, (List.range len).map f, by simp, by simpa using hl, hm, ?_, ?_, (fun h => (hn h).2)⟩
  · intro i hi
    have hil : i < len := by simpa using hi
    cases ao with
    | none => have := (hn rfl).1; omega
    | some x =>
      have hcell := (hf i).2 x rfl hil
      obtain ⟨b, off, spot⟩ := x
      have hs : spot = none := by
        have := World.cell?_spot ((hf 0).2 _ rfl (by omega))
        simpa [Addr.add] using this
      subst hs
      rw [addr_add] at hcell
      rw [range_getD f len i 0 hil]
      exact ⟨b, off, rfl, World.block_lt_of_cell? w _ hcell, hcell⟩
  · intro z hz
    obtain ⟨i, _, rfl⟩ := List.mem_map.1 hz
    exact (hf i).1

theorem i64_maskD (n : Int) (k : Nat) (hk : k ≤ 62) : bits .and .i64 n ((2 ^ k - 1 : Nat) : Int) = n % ((2 ^ k : Nat) : Int) := by
  have h1 : 1 ≤ 2 ^ k := Nat.one_le_two_pow
  have h2 : 2 ^ k ≤ 2 ^ 62 := pow_le_pow2 hk
  have ha : (BitVec.ofInt 64 ((2 ^ k - 1 : Nat) : Int)).toNat = 2 ^ k - 1 := by
    rw [BitVec.ofInt_natCast, BitVec.toNat_ofNat]; exact Nat.mod_eq_of_lt (by omega)
  show IntKind.i64.wrap ((BitVec.ofInt 64 n &&& BitVec.ofInt 64 ((2 ^ k - 1 : Nat) : Int)).toNat : Int) = _
  rw [BitVec.toNat_and, ha, Nat.and_two_pow_sub_one_eq_mod]
  have hm : (((BitVec.ofInt 64 n).toNat : Nat) : Int) = n % 18446744073709551616 := by
    rw [BitVec.toNat_ofInt]
    omega
  have hlt : (BitVec.ofInt 64 n).toNat % 2 ^ k < 2 ^ k := Nat.mod_lt _ (by omega)
  rw [IntWalk.i64_in _ (by omega), Int.natCast_emod, hm]
  exact Int.emod_emod_of_dvd n (Int.ofNat_dvd.2 (show 2 ^ k ∣ 2 ^ 64 from Nat.pow_dvd_pow 2 (by omega)))


theorem strB_appD (a b : List UInt8) : strB a ++ strB b = strB (a ++ b) := ByteArray.mk_append_mk a b
/-- One of some names. -/
theorem nm13_any (i : Nat) (hi : i < 8) (w : World) : Calls Tryz.prog 20 #[.int .i64 (i : Int)] w fun e w' => e = .returned (.string (strB (nm13 i))) ∧ Kept NoB w w' := by
  have m8 : bits .and .i64 (i : Int) 255 = (i : Int) % 256 := i64_maskD i 8 (by decide)
  have hj : (i : Int) % 256 % 6 = ((i % 6 : Nat) : Int) := by omega
  obtain ⟨j, hj2⟩ : ∃ j, j = i % 6 := ⟨_, rfl⟩
  rw [← hj2] at hj
  have hj6 : j < 6 := by omega
  have hcj : (w.alloc (.cells #[.string { data := #[97] }, .string { data := #[98] }, .string { data := #[99] }, .string { data := #[100] }, .string { data := #[108, 111, 110, 103, 45, 110, 97, 109, 101] }, .string { data := #[120, 46, 121] }] 9)).cell? ⟨w.heap.size, j, none⟩ = some (.string (strB (nm13 i))) := by
    rw [cell_of_row _ _ _ _ _ (0, 0) (heap_alloc_new _ _)]
    unfold nm13
    rw [← hj2]
    obtain rfl | rfl | rfl | rfl | rfl | rfl : j = 0 ∨ j = 1 ∨ j = 2 ∨ j = 3 ∨ j = 4 ∨ j = 5 := by omega
    all_goals rfl
  clear hj2
  go_enter Tryz.func20, Tryz.ntmps20
  go_wp2_with fail
  go_ret
  exact ⟨rfl, (Kept.refl NoB w).alloc _⟩

set_option maxHeartbeats 4000000 in
/-- A name of one number below eight. -/
theorem name20_any (g c i : Nat) (hi : i < 8) (w : World) (hc : w.cell? ⟨g, 0, none⟩ = some (.int .i64 (i : Int))) : Calls Tryz.prog 21 #[.slice (some ⟨g, 0, none⟩) 1 c, .int .i64 1] w fun e w' => e = .returned (.string { data := #[97] }) ∧ Kept NoB w w' := by
  have kc : ∀ w : World, (convert 22 9 (.slice (some ⟨w.heap.size, 0, none⟩) 1 1)).run Tryz.prog (w.alloc (.cells #[.int .u8 97] 5)) = .ok (.string { data := #[97] }) (w.alloc (.cells #[.int .u8 97] 5)) := fun w =>
    conv_reads (lit_reads [97] (heap_alloc_new w (.cells #[.int .u8 97] 5)) rfl) rfl (fun h => by cases h)
  have happ : ({ data := #[] } : ByteArray) ++ { data := #[97] } = { data := #[97] } := rfl
  have h8 : (i : Int) / 8 = 0 := by omega
  have h64 : (i : Int) / 64 = 0 := by omega
  have h16 : (i : Int) / 16 = 0 := by omega
  have m16 : bits .and .i64 (i : Int) 65535 = (i : Int) := (i64_maskD i 16 (by decide)).trans (by omega)
  have m7 : bits .and .i64 (i : Int) 7 = (i : Int) := (i64_maskD i 3 (by decide)).trans (by omega)
  have m70 : bits .and .i64 0 7 = 0 := i64_maskD 0 3 (by decide)
  have m255 : bits .and .i64 0 255 = 0 := i64_maskD 0 8 (by decide)
  have HC := Lib.hid hc
  have HI := Lib.hid hi
  clear hi hc
  go_enter Tryz.func21, Tryz.ntmps21
  go_wp2_with fail
  go_loopw [5, 6, 7, 8, 9] (fun v5 v6 _ _ _ wr => ((v5 = .string { data := #[] } ∧ v6 = .int .i64 0) ∨ (v5 = .string { data := #[97] } ∧ v6 = .int .i64 1)) ∧ Hid (Kept NoB w wr)) (fun _ v6 _ _ _ _ => 1 - (intOf v6).toNat)
  case atStart => exact ⟨.inl ⟨rfl, rfl⟩, Lib.hid (Kept.refl _ _)⟩
  case round =>
    obtain ⟨hv, HK⟩ := hrel
    rcases hv with ⟨rfl, rfl⟩ | ⟨rfl, rfl⟩
    · have hc := HK.out.cell HC.out
      clear HC
      go_upto_region 11 with fail
      go_wp2_with fail
      go_loopw [5, 9] (fun v5 v9 wi => ((v5 = .string { data := #[] } ∧ v9 = .int .i64 0) ∨ (v5 = .string { data := #[97] } ∧ v9 = .int .i64 1)) ∧ Hid (Kept NoB w wi)) (fun _ v9 _ => 1 - (intOf v9).toNat)
      case atStart => exact ⟨.inl ⟨rfl, rfl⟩, HK⟩
      case round =>
        obtain ⟨hv, HK2⟩ := hrel
        rcases hv with ⟨rfl, rfl⟩ | ⟨rfl, rfl⟩
        · go_wp2_with fail
          exact ⟨⟨.inr ⟨rfl, rfl⟩, Lib.hid (HK2.out.alloc _)⟩, by decide⟩
        · go_wp2_with fail
          exact ⟨⟨.inr ⟨rfl, rfl⟩, HK2⟩, by decide⟩
    · go_wp2_with fail
      go_ret
      exact ⟨rfl, HK.out⟩

theorem infoEnt : (Tryz.prog.info? 38).map (fun i => (i.zero, i.size, i.bytes)) = some (some (.agg #[.int .i64 0, .string ⟨#[]⟩, .string ⟨#[]⟩, .int .i64 0, .int .i64 0, .int .i64 0, .int .i64 0, .int .i64 0, .int .i64 0, .int .i64 0, .slice none 0 0, .slice none 0 0]), 12, 144) := by kernel_rfl
theorem flatE_len : ∀ l : List EntV, (flatE l).length = l.length * 12
  | [] => rfl
  | a :: r => by
    have h := flatE_len r
    unfold flatE at h ⊢
    rw [List.flatMap_cons, List.length_append, h, List.length_cons]
    show 12 + _ = _
    omega
theorem flatE_app (a b : List EntV) : flatE (a ++ b) = flatE a ++ flatE b := by unfold flatE; rw [List.flatMap_append]
/-- A row of entries of its own, made since w0. -/
structure EnSt (w0 w : World) (a : Option Addr) (l c : Nat) (es : List EntV) : Prop where
  len : l = es.length
  own : w.ownsRow 0 38 12 (.slice a l c) l (flatE es)
  kept : Kept NoB w0 w
  fresh : ∀ k, (Value.slice a l c).ownBlock = some k → w0.heap.size ≤ k
theorem EnSt.start {w0 w : World} (hk : Kept NoB w0 w) : EnSt w0 w none 0 0 [] := ⟨rfl, World.ownsRow_nil _ _ _ _, hk, (fun k hk => by simp [Value.ownBlock] at hk)⟩
theorem EnSt.on {w0 w w' : World} {a : Option Addr} {l c : Nat} {es : List EntV} (h : EnSt w0 w a l c es) (hk : Kept NoB w w') : EnSt w0 w' a l c es :=
  ⟨h.len, hk.row h.own (fun _ _ h => h), h.kept.trans hk, h.fresh⟩
/-- Some more. -/
theorem wpList_ents {ops : Array Oper} {rest : List Oper} {o : Oper} {a : Act} {w : World} {Q : Exit → Act → World → Prop} (hgd : o.guard = none) (s x : Operand)
    (ho : o.op = .call { callee := .builtin .append, args := #[s, x], argTypes := #[52, 52] })
    {w0 : World} {a1 : Option Addr} {l1 c1 : Nat} {es : List EntV} (hS : EnSt w0 w a1 l1 c1 es) (hs : a.eval s = .slice a1 l1 c1)
    (g m cx : Nat) (news : List EntV) (hm : news.length = m) (hx : a.eval x = .slice (some ⟨g, 0, none⟩) m cx) (hob : w.heap[g]? = some (.cells (flatE news).toArray 38 (0, 0))) (hn : l1 + m ≤ 1000000000)
    (h : ∀ a2 c2 w', EnSt w0 w' a2 (l1 + m) c2 (es ++ news) → wpList Tryz.prog ops Q rest (a.put o.dst (.slice a2 (l1 + m) c2)) w') : wpList Tryz.prog ops Q (o :: rest) a w := by
  obtain ⟨i0, hi, hz0, hz1, hz2⟩ := info_parts infoEnt
  have hone : ∀ u ∈ flatE news, u.oneCell' = true := by
    intro u hu
    unfold flatE at hu
    obtain ⟨E, _, hE⟩ := List.mem_flatMap.1 hu
    have := ent_one E none none 0 0 0 0
    rw [Array.all_eq_true'] at this
    exact this u (by simpa using hE)
  refine wpList_app w hgd s x 52 ho 38 i0 _ 12 144 (by kernel_rfl) hi hz0 hz1 hz2 rfl (by decide) _ l1 (flatE es) hs hS.own ⟨g, 0, none⟩ m cx (flatE news) hx (by rw [flatE_len, hm]) ?_ hone (by unfold maxLen; omega) (by omega) ?_
  · intro j u hu
    rw [addr_add, Nat.zero_add, cell_of_row _ _ _ _ _ (0, 0) hob, List.getElem?_toArray]
    exact hu
  intro v' w' h2 h3 h4
  obtain ⟨a2, c2, rfl⟩ := row_shape h2
  refine h _ _ _ ⟨by rw [List.length_append, hm, hS.len], by rw [flatE_app]; exact h2, hS.kept.grown h3 (fun k hk e => by have := hS.fresh k e; omega), ?_⟩
  intro k hk
  rcases h4 k hk with h | h
  · exact hS.fresh k h
  · have := hS.kept.size; omega
/-- It is read. -/
theorem EnSt.rd {S : Nat → Prop} {w0 w : World} {a : Option Addr} {l c : Nat} {es : List EntV} (h : EnSt w0 w a l c es) (hS : ∀ k, S k → k < w0.heap.size) (hl : ∀ E ∈ es, E.pcs = [] ∧ EntI E) : RdEs S w a es noX := by
  intro i hi
  have hE : es.getD i noE = es[i] := by simp [List.getD, hi]
  obtain ⟨h1, h2⟩ := hl es[i] (List.getElem_mem hi)
  have hlen := h.len
  rcases h.own.2 with ⟨_, hz⟩ | ⟨g, cc, cur, hv, _⟩
  · omega
  · simp at hv
    obtain ⟨rfl, rfl⟩ := hv
    refine ⟨g, 0, rfl, (fun e => by have := hS g e; have := h.fresh g rfl; omega), ?_, ?_, ?_, ?_, ?_, ?_⟩
    · intro j v hj
      have hj12 : j < 12 := by
        have := (List.getElem?_eq_some_iff.1 hj).1
        exact this
      rw [show 0 + i * 12 + j = i * 12 + j by omega, h.own.cellAt (i * 12 + j) (by omega)]
      unfold flatE
      rw [flat12 _ (fun _ => rfl) es i j hj12, List.getElem?_eq_getElem hi]
      unfold cellsE noX at hj
      rw [hE, h1] at hj
      exact hj
    · rw [hE, h1]; intro k hk; exact absurd hk (by simp)
    · rw [hE, h1]; intro p hp; cases hp
    · rw [hE, h1]; exact Nat.le_refl _
    · unfold noX maxLen; simp
    · rw [hE]; exact h2
/-- The name before the i-th part. -/
def wayS (i : Nat) : List UInt8 := if i = 0 then [] else wayD (i - 1) ++ [47]
theorem wayS_nm (i : Nat) : wayS i ++ nm13 i = wayD i := by
  cases i with
  | zero => rfl
  | succ i => show (if i + 1 = 0 then [] else wayD (i + 1 - 1) ++ [47]) ++ _ = _; rw [if_neg (by omega), Nat.add_sub_cancel]; rfl
theorem wayS_succ (i : Nat) : wayS (i + 1) = wayD i ++ [47] := by unfold wayS; rw [if_neg (by omega), Nat.add_sub_cancel]
theorem edL_succ (tm : Nat → Int) (n : Nat) : edL tm (n + 1) = edL tm n ++ [edD tm n, edP n] := by unfold edL; rw [List.range_succ, List.flatMap_append]; rfl
theorem rep_succ (n : Nat) (E : EntV) : List.replicate (n + 1) E = List.replicate n E ++ [E] := List.replicate_succ'
theorem wayD_len (i : Nat) (hi : i < 8) : (wayD i).length ≤ 100 := by
  obtain rfl | rfl | rfl | rfl | rfl | rfl | rfl | rfl : i = 0 ∨ i = 1 ∨ i = 2 ∨ i = 3 ∨ i = 4 ∨ i = 5 ∨ i = 6 ∨ i = 7 := by omega
  all_goals decide
theorem edA_ok (tm : Nat → Int) (htm : ∀ i, okI (tm i)) (n : Nat) (hn : n ≤ 8) (wrong : Bool) : ∀ E ∈ edA tm n wrong, E.pcs = [] ∧ EntI E := by
  intro E hE
  have hz : okI 0 := ⟨by decide, by decide⟩
  unfold edA edL at hE
  rcases List.mem_append.1 hE with hE | hE
  · rcases List.mem_append.1 hE with hE | hE
    · obtain ⟨i, hi, hE⟩ := List.mem_flatMap.1 hE
      have hi8 : i < 8 := by have := List.mem_range.1 hi; omega
      have hw := wayD_len i hi8
      simp at hE
      rcases hE with rfl | rfl
      · exact ⟨rfl, ⟨show (wayD i).length ≤ _ by omega, show (0 : Nat) ≤ 1000000000 by decide, htm i, hz⟩⟩
      · exact ⟨rfl, ⟨by show (wayD i ++ [47, 112]).length ≤ _; rw [List.length_append]; show _ + 2 ≤ _; omega, show (0 : Nat) ≤ 1000000000 by decide, hz, hz⟩⟩
    · rw [List.mem_replicate] at hE
      rw [hE.2]
      exact ⟨rfl, entI_small (by decide)⟩
  · cases wrong with
    | false => cases hE
    | true => simp at hE; subst hE; exact ⟨rfl, entI_small (by decide)⟩
theorem edA_len (tm : Nat → Int) (n : Nat) (wrong : Bool) : (edA tm n wrong).length = 3 * n + if wrong then 1 else 0 := by
  have h : ∀ n, (edL tm n).length = 2 * n := by
    intro n
    induction n with
    | zero => rfl
    | succ n ih => rw [edL_succ, List.length_append, ih]; show _ + 2 = _; omega
  unfold edA
  rw [List.length_append, List.length_append, h, List.length_replicate]
  cases wrong
  · show 2 * n + n + 0 = 3 * n + 0; omega
  · show 2 * n + n + 1 = 3 * n + 1; omega
set_option maxRecDepth 20000
set_option maxHeartbeats 8000000 in
theorem extractDirs_core (ao : Option Addr) (n0 cap : Nat) (ts : List Int) (wrong : Bool) (w : World) (hn : n0 = ts.length) (hnm : n0 ≤ maxLen) (hr : RdI w w.heap.size ao ts) (ha : AllI ts) : Calls Tryz.prog 5 #[.slice ao n0 cap, .bool wrong] w fun e w' => e = .returned (.bool true) ∧ Kept NoB w w' := by
  have HAw := Lib.hid awake24_any
  have HNew := Lib.hid (new_any 100 w (by decide))
  obtain ⟨tm, htm⟩ : ∃ tm : Nat → Int, tm = fun i => ts.getD i 0 := ⟨_, rfl⟩
  have HTok : Hid (∀ i, okI (tm i)) := Lib.hid (fun i => by rw [htm]; exact ha.getD i)
  have HRd : Hid (∀ i, i < n0 → ∃ g off, ao = some ⟨g, off, none⟩ ∧ g < w.heap.size ∧ w.cell? ⟨g, off + i, none⟩ = some (.int .i64 (tm i))) := Lib.hid (fun i hi => by
    obtain ⟨g, off, h1, h2, h3⟩ := hr i (by omega)
    exact ⟨g, off, h1, h2, by rw [htm]; exact h3⟩)
  obtain ⟨n, hnn⟩ : ∃ n, n = min n0 8 := ⟨_, rfl⟩
  have hmin : min (n0 : Int) 8 = (n : Int) := by omega
  have hn8 : n ≤ 8 := by omega
  have hnn0 : n ≤ n0 := by omega
  have hb0 : (n0 : Int) ≤ 9223372036854775807 := by unfold maxLen at hnm; omega
  have HN8 := Lib.hid hn8; have HNN := Lib.hid hnn0
  clear hnn hn hnm hr ha htm
  go_enter Tryz.func5, Tryz.ntmps5
  go_upto_region 6 with (go_at_call 7; refine HNew.out.mono ?_; rintro e w1 ⟨f, rfl, hf1, hk1⟩)
  have HF1 := Lib.hid hf1; have HK1 := Lib.hid hk1
  clear hf1 hk1 HNew
  go_wp2_with fail
  clear hmin
  go_loopw [6, 7, 9] (fun v6 v7 v9 wr => ∃ (k : Nat) (a : Option Addr) (c : Nat), v9 = .int .i64 (k : Int) ∧ k ≤ n ∧ v6 = .slice a (2 * k) c ∧ v7 = .string (strB (wayS k)) ∧ Hid (EnSt w1 wr a (2 * k) c (edL tm k))) (fun _ _ v9 _ => n - (intOf v9).toNat)
  case atStart => exact ⟨0, none, 0, rfl, by omega, rfl, rfl, Lib.hid (EnSt.start (Kept.refl _ _))⟩
  case round =>
    obtain ⟨k, a, c, rfl, hk, rfl, rfl, HE⟩ := hrel
    by_cases hlk : (k : Int) < (n : Int)
    · have hk8 : k < 8 := by omega
      have hkn0 : (k : Int) < (n0 : Int) := by omega
      have HNm := Lib.hid (nm13_any k hk8 wr)
      have hs1 : strB (wayS k) ++ strB (nm13 k) = strB (wayD k) := by rw [strB_appD, wayS_nm]
      have hs2 : strB (wayD k) ++ { data := #[47, 112] } = strB (wayD k ++ [47, 112]) := strB_appD _ [47, 112]
      have hs3 : strB (wayD k) ++ { data := #[47] } = strB (wayS (k + 1)) := by rw [wayS_succ]; exact strB_appD _ [47]
      have hw1 := wayD_len k hk8
      have hw0 : (wayS k).length + (nm13 k).length = (wayD k).length := by rw [← List.length_append, wayS_nm]
      have hz1 : ¬ 9223372036854775807 < (strB (wayS k)).size + (strB (nm13 k)).size := by rw [strB_size, strB_size]; omega
      have hz2 : ¬ 9223372036854775807 < (strB (wayD k)).size + 2 := by rw [strB_size]; omega
      have hz3 : ¬ 9223372036854775807 < (strB (wayD k)).size + 1 := by rw [strB_size]; omega
      have hd2 : ({ data := #[47, 112] } : ByteArray).size = 2 := rfl
      have hd1 : ({ data := #[47] } : ByteArray).size = 1 := rfl
      clear hw0 hw1
      obtain ⟨g, off, hao, hg, hcell⟩ := HRd.out k (by omega)
      subst hao
      go_upto_region 11 with (go_at_call 20; refine HNm.out.mono ?_; rintro e w2 ⟨rfl, hk2⟩)
      have hc2 : w2.cell? ⟨g, off + k, none⟩ = some (.int .i64 (tm k)) := ((HK1.out.trans HE.out.kept).trans hk2).cell hcell
      have HE2 := Lib.hid (HE.out.on hk2)
      clear hk2 HNm hs1 hcell hz1
      go_wp2_with (at_builtin; refine wpList_ents rfl (.tmp 34) (.tmp 45) rfl (HE2.out.on ((Kept.refl NoB w2).alloc _)) rfl w2.heap.size 2 2 [edD tm k, edP k] rfl rfl (heap_alloc_new _ _) (by omega) ?_)
      intro a2 c2 w3 h3
      rw [← edL_succ] at h3
      have HE3 := Lib.hid h3
      clear h3 HE2 HE
      go_wp2_with fail
      refine ⟨⟨k + 1, a2, c2, rfl, by omega, rfl, rfl, HE3⟩, ?_⟩
      simp [intOf]; omega
    · obtain rfl : k = n := by omega
      clear hlk hk
      have HE1 : Hid (EnSt w1 wr a (2 * k + 0) c (edL tm k ++ List.replicate 0 edQ)) := Lib.hid (by rw [show edL tm k ++ List.replicate 0 edQ = edL tm k from List.append_nil _]; exact HE.out)
      clear HE
      obtain ⟨n, hnk⟩ : ∃ n, n = k := ⟨_, rfl⟩
      subst hnk
      go_wp2_with fail
      go_loopw [6, 10] (fun v6 v10 wr => ∃ (k : Nat) (a : Option Addr) (c : Nat), v10 = .int .i64 (k : Int) ∧ k ≤ n ∧ v6 = .slice a (2 * n + k) c ∧ Hid (EnSt w1 wr a (2 * n + k) c (edL tm n ++ List.replicate k edQ))) (fun _ v10 _ => n - (intOf v10).toNat)
      case atStart => exact ⟨0, a, c, rfl, by omega, rfl, HE1⟩
      case round =>
        obtain ⟨k, a, c, rfl, hk, rfl, HE⟩ := hrel
        by_cases hlk : (k : Int) < (n : Int)
        · have hk8 : k < 8 := by omega
          have HNm : Hid (∀ W : World, Calls Tryz.prog 20 #[.int .i64 0] W fun e w' => e = .returned (.string { data := #[97] }) ∧ Kept NoB W w') := Lib.hid (fun W => nm13_any 0 (by decide) W)
          have HN2 : Hid (∀ W : World, Calls Tryz.prog 21 #[.slice (some ⟨W.heap.size, 0, none⟩) 1 1, .int .i64 1] (W.alloc (.cells #[.int .i64 (k : Int)] 3)) fun e w' => e = .returned (.string { data := #[97] }) ∧ Kept NoB (W.alloc (.cells #[.int .i64 (k : Int)] 3)) w') := Lib.hid (fun W => name20_any W.heap.size 1 k hk8 _ (by rw [cell_of_row _ _ _ _ _ (0, 0) (heap_alloc_new _ _)]; rfl))
          have hs1 : ({ data := #[97] } : ByteArray) ++ { data := #[47, 113] } = { data := #[97, 47, 113] } := rfl
          have hs2 : ({ data := #[97, 47, 113] } : ByteArray) ++ { data := #[97] } = { data := #[97, 47, 113, 97] } := rfl
          go_wp2_with (first
            | (go_at_call 20; refine (HNm.out _).mono ?_; rintro e w2 ⟨rfl, hk2⟩)
            | (go_at_call 21; refine (HN2.out _).mono ?_; rintro e w3 ⟨rfl, hk3⟩)
            | (at_builtin; refine wpList_ents rfl (.tmp 54) (.tmp 62) rfl (HE.out.on ((((hk2.alloc _).trans hk3)).alloc _)) rfl w3.heap.size 1 1 [edQ] rfl rfl (heap_alloc_new _ _) (by omega) ?_))
          intro a2 c2 w4 h4
          first | rw [List.append_assoc, ← rep_succ] at h4 | rw [← rep_succ] at h4
          have HE3 := Lib.hid h4
          clear h4 HE hk2 hk3
          go_wp2_with fail
          refine ⟨⟨k + 1, a2, c2, rfl, by omega, rfl, HE3⟩, ?_⟩
          simp [intOf]; omega
        · obtain rfl : k = n := by omega
          obtain ⟨n, hnk⟩ : ∃ n, n = k := ⟨_, rfl⟩
          subst hnk
          clear hlk hk HE1
          obtain ⟨L, hL⟩ : ∃ L : Nat, L = 3 * n + if wrong then 1 else 0 := ⟨_, rfl⟩
          go_upto_if 64 with fail
          go_cut [6] from 64 to 69 (fun s wx => ∃ (a : Option Addr) (c : Nat), s = .slice a L c ∧ Hid (EnSt w1 wx a L c (edA tm n wrong)))
          case first =>
            cases wrong with
            | false =>
              have HE5 : Hid (L = 2 * n + n ∧ EnSt w1 wr a (2 * n + n) c (edA tm n false)) := Lib.hid ⟨by rw [hL]; show 3 * n + 0 = _; omega, by
                have : edA tm n false = edL tm n ++ List.replicate n edQ := List.append_nil _
                rw [this]; exact HE.out⟩
              clear hL
              go_wp2
              all_goals go_meet
              all_goals exact ⟨a, c, by rw [HE5.out.1], Lib.hid (by rw [HE5.out.1]; exact HE5.out.2)⟩
            | true =>
              have HL : Hid (L = 2 * n + n + 1) := Lib.hid (by rw [hL]; show 3 * n + 1 = _; omega)
              clear hL
              go_wp2_with (at_builtin; refine wpList_ents rfl (.tmp 65) (.tmp 67) rfl (HE.out.on ((Kept.refl NoB wr).alloc _)) rfl wr.heap.size 1 1 [edN] rfl rfl (heap_alloc_new _ _) (by omega) ?_)
              intro a2 c2 w3 h3
              have HE5 : Hid (EnSt w1 w3 a2 (2 * n + n + 1) c2 (edA tm n true)) := Lib.hid (by
                have e : edA tm n true = edL tm n ++ (List.replicate n edQ ++ [edN]) := List.append_assoc _ _ _
                rw [e]; first | exact h3 | (rw [List.append_assoc] at h3; exact h3))
              clear h3
              go_wp2
              all_goals go_meet
              all_goals exact ⟨a2, c2, by rw [HL.out], Lib.hid (by rw [HL.out]; exact HE5.out)⟩
          case rest =>
            obtain ⟨a2, c2, rfl, HEA⟩ := hcut
            have HKc := Lib.hid HEA.out.kept
            have HAll : Hid (Calls Tryz.prog 17 #[.pointer (some ⟨f, 0, none⟩), .int .i64 1, .slice a2 L c2] wc fun e w' => e = .returned (.tuple #[.int .i64 ((3 * n : Nat) : Int), .int .i64 (if wrong then 9 else 0)]) ∧ Turn (_root_.Go.Proofs.YtgbakogihkdddaaGreatDoor.Grow NoB w w1) wc w' f (allE (newT 100) 1 (edA tm n wrong)).1) := Lib.hid (by
              have hlow : ∀ k, _root_.Go.Proofs.YtgbakogihkdddaaGreatDoor.Grow NoB w w1 k → k < w1.heap.size := fun k e => by
                rcases e with e | e
                · exact e.elim
                · exact e.2
              have hEl := HEA.out.len
              have hLs : L ≤ 10000 := by rw [hEl, edA_len]; have := HN8.out; cases wrong <;> simp <;> omega
              have := exAll_any (HF1.out.keptNo HKc.out) (fun k e => Nat.lt_of_lt_of_le (hlow k e) HKc.out.size) 1 ⟨by decide, by decide⟩ (edA tm n wrong) noX a2 c2 L (HEA.out.rd hlow (edA_ok tm HTok.out n HN8.out wrong)) hEl hLs (show (0 : Int) + 100000000 ≤ 4611686018427387904 by decide) (show (100 : Int) ≤ 4611686018427387904 by decide)
              rw [ed_end tm n HN8.out wrong] at this
              exact this)
            have HLe : Hid (L = 3 * n + if wrong then 1 else 0) := Lib.hid hL
            clear hL
            go_upto_region 20 with (first | (go_at_call 17; refine HAll.out.mono ?_; rintro e w4 ⟨rfl, ht4⟩) | fail)
            have HT4 := Lib.hid ht4
            clear ht4 HAll HE HEA
            obtain ⟨T4, hT4⟩ : ∃ T, T = (allE (newT 100) 1 (edA tm n wrong)).1 := ⟨_, rfl⟩
            have HD : Hid (∀ i : Nat, i < n → findP T4 (if i = 0 then 1 else 2 * (i : Int)) (nm13 i) = (2 * (i : Int) + 2, 0) ∧ (statP T4 (2 * (i : Int) + 2)).2 = 0 ∧ (statP T4 (2 * (i : Int) + 2)).1.time = tm i ∧ (statP T4 (2 * (i : Int) + 2)).1.mode = i) := Lib.hid (fun i hi => by rw [hT4]; exact ed_dir tm n HN8.out wrong i hi)
            rw [← hT4] at HT4
            clear hT4
            have HKw : Hid (∀ W, Kept NoB w4 W → Kept NoB w W) := Lib.hid (fun W hW => by
              have h1 := HT4.out.2
              have hw := HK1.out.size
              exact (keep_on (HK1.out.trans HKc.out) h1 (fun i hi e => by
                rcases e with e | e
                · exact e
                · omega)).trans hW)
            have HRest : ∀ L' : Nat, (wrong = true → L' = 3 * n + 1) → True := fun _ _ => trivial
            clear HRest
            have hne : (3 * (n : Int) != 3 * (n : Int)) = false := by simp
            have hwL : wrong = true → IntKind.i64.wrap ((L : Int) - 1) = 3 * (n : Int) := fun e => by have := HLe.out; have := HN8.out; rw [e] at *; simp at *; rw [IntKind.wrap_i64]; omega
            cases wrong
            case' false =>
              clear hwL
              go_wp2
            case' true =>
              have hwL := hwL rfl
              go_wp2
            all_goals
              go_loopw [13, 14, 15, 16, 17, 18] (fun v13 v14 _ _ _ _ wr => ∃ k : Nat, v14 = .int .i64 (k : Int) ∧ k ≤ n ∧ v13 = .int .i64 (if k = 0 then 1 else 2 * (k : Int)) ∧ Hid (Kept NoB w4 wr)) (fun _ v14 _ _ _ _ _ => n - (intOf v14).toNat)
              case atStart => exact ⟨0, rfl, by omega, rfl, Lib.hid (Kept.refl _ _)⟩
              case round =>
                obtain ⟨k, rfl, hk, rfl, HK⟩ := hrel
                by_cases hlk : (k : Int) < (n : Int)
                · have hk8 : k < 8 := by have := HN8.out; omega
                  obtain ⟨d1, d2, d3, d4⟩ := HD.out k (by omega)
                  have HNm := Lib.hid (nm13_any k hk8 wr)
                  obtain ⟨dd, hdd⟩ : ∃ dd : Int, dd = if k = 0 then 1 else 2 * (k : Int) := ⟨_, rfl⟩
                  rw [← hdd] at d1
                  rw [← hdd]
                  have hdb : -9223372036854775808 ≤ dd ∧ dd ≤ 9223372036854775807 := by rw [hdd]; split <;> omega
                  have hnl : (nm13 k).length ≤ 100 := by
                    obtain rfl | rfl | rfl | rfl | rfl | rfl | rfl | rfl : k = 0 ∨ k = 1 ∨ k = 2 ∨ k = 3 ∨ k = 4 ∨ k = 5 ∨ k = 6 ∨ k = 7 := by omega
                    all_goals decide
                  have HFd : Hid (∀ W, Kept NoB wr W → Calls Tryz.prog 14 #[.pointer (some ⟨f, 0, none⟩), .int .i64 dd, .string (strB (nm13 k))] W fun e w' => e = .returned (.tuple #[.int .i64 (2 * (k : Int) + 2), .int .i64 0]) ∧ Kept NoB W w') := Lib.hid (fun W hW => by
                    have := find_any (HT4.out.1.keptNo (HK.out.trans hW)) dd hdb (nm13 k) (by omega)
                    rw [d1] at this
                    exact this)
                  obtain ⟨V, hV⟩ : ∃ V, V = (statP T4 (2 * (k : Int) + 2)).1 := ⟨_, rfl⟩
                  rw [← hV] at d3 d4
                  have HSt : Hid (∀ W, Kept NoB wr W → Calls Tryz.prog 15 #[.pointer (some ⟨f, 0, none⟩), .int .i64 (2 * (k : Int) + 2)] W fun e w' => e = .returned (.tuple #[.agg (nvC V).toArray, .int .i64 0]) ∧ Kept NoB W w') := Lib.hid (fun W hW => by
                    have := stat_any (HT4.out.1.keptNo (HK.out.trans hW)) (2 * (k : Int) + 2) (by omega)
                    rw [← hV, d2] at this
                    exact this)
                  have HOne := Lib.hid (nv_one V)
                  have hkn : k < n0 := by have := HNN.out; omega
                  obtain ⟨g, off, hao, hg, hcell⟩ := HRd.out k hkn
                  subst hao
                  have HCell := Lib.hid (fun W (hW : Kept NoB wr W) => (HKw.out W (HK.out.trans hW)).cell hcell)
                  have HD3 := Lib.hid d3; have HD4 := Lib.hid d4
                  have hkn0 : (k : Int) < (n0 : Int) := by omega
                  clear d1 d2 d3 d4 hV hdd hdb hnl hcell hg
                  go_upto_region 28 with (first | (go_at_call 20; refine HNm.out.mono ?_; rintro e w5 ⟨rfl, hk5⟩) | (go_at_call 14; refine (HFd.out _ hk5).mono ?_; rintro e w6 ⟨rfl, hk6⟩) | (go_at_call 15; refine (HSt.out _ (hk5.trans hk6)).mono ?_; rintro e w7 ⟨rfl, hk7⟩) | (refine wpList_store_row rfl 27 (.tmp 17) (.tmp 114) rfl w7.heap.size (nvC V).toArray rfl rfl _ _ (heap_alloc_new _ _) infoNd rfl HOne.out ?_) | fail)
                  obtain ⟨w8, hw8⟩ : ∃ w8, w8 = (w7.alloc (.cells #[.int .i64 0, .int .i64 0, .int .i64 0, .int .i64 0, .int .i64 0, .string { data := #[] }, .int .i64 0, .int .i64 0, .int .i64 0, .int .i64 0, .int .i64 0] 27)).setRow w7.heap.size (nvC V).toArray := ⟨_, rfl⟩
                  rw [← hw8]
                  have hk8b : Kept NoB w7 w8 := by rw [hw8]; exact ((Kept.refl NoB w7).alloc _).setRow (.inr (Nat.le_refl _)) _
                  have ob8 : w8.heap[w7.heap.size]? = some (.cells (nvC V).toArray 27 (0, 0)) := by rw [hw8]; exact setRow_heap _ _ _ _ _ _ (heap_alloc_new _ _)
                  have x4 : w8.cell? ⟨w7.heap.size, 4, none⟩ = some (.int .i64 (tm k)) := by rw [obj_cell ob8, ← HD3.out]; rfl
                  have x1 : w8.cell? ⟨w7.heap.size, 1, none⟩ = some (.int .i64 (k : Int)) := by rw [obj_cell ob8, ← HD4.out]; rfl
                  have xt := HCell.out w8 (((hk5.trans hk6).trans hk7).trans hk8b)
                  have HK8 := Lib.hid (HK.out.trans (((hk5.trans hk6).trans hk7).trans hk8b))
                  have z1 : (tm k != tm k) = false := by simp
                  have z2 : ((k : Int) != (k : Int)) = false := by simp
                  clear hw8 hk8b ob8 hk5 hk6 hk7 HFd HSt HCell HOne HNm HD3 HD4
                  go_quiet (fail)
                  go_wp2
                  go_roundw
                  case rel => exact ⟨k + 1, by go_num, by omega, by
                    have e : (2 * ((k + 1 : Nat) : Int)) = 2 * (k : Int) + 2 := by omega
                    rw [if_neg (by omega), e], Lib.hid (HK8.out.drewN _)⟩
                  case measure => simp [intOf]; omega
                · go_wp2_with (first | (go_at_call 8; refine (HAw.out _).mono ?_; rintro e w9 ⟨rfl, hk9⟩))
                  all_goals go_ret
                  all_goals exact ⟨rfl, (HKw.out _ HK.out).trans hk9⟩
theorem Arg.boolD {w : World} {t : TypeId} {v : Value} (ht : Tryz.prog.underlying t = some .bool) (h : Arg w t v) : ∃ b, v = .bool b := by
  obtain ⟨⟨base, hv⟩, _⟩ := h
  exact Go.WideShapes.okWide_bool ht hv
theorem extractDirs_law (v0 v1 : Value) (w : World) (r0 : Arg w 34 v0) (r1 : Arg w 4 v1) : Calls Tryz.prog 5 #[v0, v1] w fun e w' => e = .returned (.bool true) ∧ Below w.heap.size w w' := by
  obtain ⟨ao, cap, zs, rfl, hlc, hcm, hrd, hall, hn⟩ := r0.ints
  obtain ⟨b, rfl⟩ := r1.boolD rfl
  refine (extractDirs_core ao zs.length cap zs b w rfl (Nat.le_trans hlc hcm) hrd hall).mono ?_
  rintro e w' ⟨rfl, hk⟩
  exact ⟨rfl, hk.belowNo (Below.refl _ _)⟩
end Go.Proofs.YtgbakogihkdddaaGreatDoor
