/-
  Rows of texts that are read; the document's SameTexts.
-/
import Derived.Test.YtamoojalfpghhaaDoorRefN
namespace Go.Proofs.YtamoojalfpghhaaDoor
open Go.RowKit Go.Shelf
set_option linter.unusedVariables false
set_option linter.unusedSimpArgs false

theorem cells_str : Tryd.prog.cellsOf 9 = 1 := by kernel_rfl
/-- A slice of texts reads as ps. -/
def RdS (w : World) (B : Nat) (ao : Option Addr) (ps : List (List UInt8)) : Prop :=
  ∀ i, i < ps.length → ∃ g off, ao = some ⟨g, off, none⟩ ∧ g < B ∧ w.cell? ⟨g, off + i, none⟩ = some (.string (strB (ps.getD i [])))
theorem RdS.kept {S : Nat → Prop} {w w' : World} {B : Nat} {ao : Option Addr} {ps : List (List UInt8)} (h : RdS w B ao ps) (hk : Kept S w w') (hs : ∀ k, k < B → ¬ S k) : RdS w' B ao ps := by
  intro i hi
  obtain ⟨g, off, h1, h2, h3⟩ := h i hi
  exact ⟨g, off, h1, h2, (World.cell?_of_block (hk.block _ (World.block_lt_of_cell? w _ h3) (hs g h2))).trans h3⟩
theorem RdS.keptNo {w w' : World} {B : Nat} {ao : Option Addr} {ps : List (List UInt8)} (h : RdS w B ao ps) (hk : Kept NoB w w') : RdS w' B ao ps := h.kept hk (fun _ _ h => h)
theorem RdS.below {w w' : World} {B : Nat} {ao : Option Addr} {ps : List (List UInt8)} (h : RdS w w.heap.size ao ps) (hb : Below w.heap.size w w') : RdS w' w'.heap.size ao ps := by
  intro i hi
  obtain ⟨g, off, h1, h2, h3⟩ := h i hi
  exact ⟨g, off, h1, Nat.lt_of_lt_of_le h2 hb.size, (World.cell?_of_block (hb.block _ h2)).trans h3⟩
theorem RdS.belowB {w w' : World} {B : Nat} {ao : Option Addr} {ps : List (List UInt8)} (h : RdS w B ao ps) (hb : Below w.heap.size w w') : RdS w' B ao ps := by
  intro i hi
  obtain ⟨g, off, h1, h2, h3⟩ := h i hi
  exact ⟨g, off, h1, h2, (World.cell?_of_block (hb.block _ (World.block_lt_of_cell? w _ h3))).trans h3⟩
theorem RdS.room {w : World} {B : Nat} {ao : Option Addr} {ps : List (List UInt8)} (h : RdS w B ao ps) : RdS w w.heap.size ao ps := by
  intro i hi
  obtain ⟨g, off, h1, h2, h3⟩ := h i hi
  exact ⟨g, off, h1, World.block_lt_of_cell? w _ h3, h3⟩
theorem own_readsS {w : World} {base n cap : Nat} {ao : Option Addr} {ps : List (List UInt8)} (h : w.ownsRow base 9 1 (.slice ao n cap) n (ps.map strV)) (hn : ps.length = n) : RdS w w.heap.size ao ps := by
  intro i hi
  rcases h.2 with ⟨_, hz⟩ | ⟨g, c, cur, hv, _⟩
  · omega
  · simp at hv
    obtain ⟨rfl, rfl⟩ := hv
    have hc : w.cell? ⟨g, i, none⟩ = some (.string (strB (ps.getD i []))) := by
      rw [h.cellAt i (by omega)]; simp [List.getD, hi, strV]
    exact ⟨g, 0, rfl, World.block_lt_of_cell? w _ hc, by rw [Nat.zero_add]; exact hc⟩

theorem Arg.strs {w : World} {v : Value} (h : Arg w 23 v) :
    ∃ (ao : Option Addr) (cap : Nat) (ps : List (List UInt8)), v = .slice ao ps.length cap ∧ ps.length ≤ cap ∧ cap ≤ maxLen ∧ RdS w w.heap.size ao ps ∧ (∀ p ∈ ps, p.length ≤ maxLen) ∧ (ao = none → cap = 0) := by
  obtain ⟨ao, len, cap, rfl, hl, hm, hn, hc⟩ := h.slice Tryd.underlying23
  rw [cells_str] at hc
  have key : ∀ i, ∃ z : List UInt8, z.length ≤ maxLen ∧ (∀ x, ao = some x → i < len → w.cell? (x.add i) = some (.string (strB z))) := by
    intro i
    by_cases hi : i < len
    · cases ao with
      | none => exact ⟨[], by simp, (fun x hx => by cases hx)⟩
      | some x =>
        obtain ⟨cs, hr, hcl, hcc⟩ := hc x rfl i hi
        obtain ⟨z, rfl, hz⟩ := hr.string Tryd.underlying9
        refine ⟨z.data.toList, by rw [Array.length_toList]; exact hz, ?_⟩
        intro y hy _
        cases hy
        rw [strB_of]
        simpa using hcc 0 (by simp)
    · exact ⟨[], by simp, (fun x _ h => absurd h hi)⟩
  obtain ⟨f, hf⟩ := choose1 key
  refine ⟨ao, cap, (List.range len).map f, by simp, by simpa using hl, hm, ?_, ?_, (fun h => (hn h).2)⟩
  · intro i hi
    have hil : i < len := by simpa using hi
    cases ao with
    | none => have := (hn rfl).1; omega
    | some x =>
      have hcell := (hf i).2 x rfl hil
      obtain ⟨b, off, spot⟩ := x
      have hs : spot = none := by
        have := World.cell?_spot ((hf 0).2 _ rfl (by omega))
        simpa [Addr.add] using this
      subst hs
      have h2 : w.cell? ⟨b, off + i, none⟩ = some (.string (strB (f i))) := by rwa [addr_add] at hcell
      exact ⟨b, off, rfl, World.block_lt_of_cell? w _ h2, by rw [range_getD f len i [] hil]; exact h2⟩
  · intro p hp
    simp at hp
    obtain ⟨i, _, rfl⟩ := hp
    exact (hf i).1

theorem strB_inj {a b : List UInt8} : strB a = strB b ↔ a = b := by
  constructor
  · intro h
    exact congrArg (fun s => s.data.toList) h
  · rintro rfl; rfl

theorem drop_getDs (ps : List (List UInt8)) (j : Nat) (hj : j < ps.length) : ps.drop j = ps.getD j [] :: ps.drop (j + 1) := by
  rw [List.drop_eq_getElem_cons hj]; simp [List.getD, hj]
set_option maxHeartbeats 1000000 in
theorem sameT_any (a : Option Addr) (c : Nat) (xs : List (List UInt8)) (b : Option Addr) (d : Nat) (ys : List (List UInt8)) (A B : Nat) (w : World) (hx : RdS w A a xs) (hy : RdS w B b ys) (hm : xs.length ≤ 1000000) :
    Calls Tryd.prog 11 #[.slice a xs.length c, .slice b ys.length d] w fun e w' => e = .returned (.bool (decide (xs = ys))) ∧ Kept NoB w w' := by
  have HX := Lib.hid hx; have HY := Lib.hid hy
  clear hx hy
  by_cases hlen : xs.length = ys.length
  · obtain ⟨n, hn⟩ : ∃ n, n = xs.length := ⟨_, rfl⟩
    have hn2 : ys.length = n := by omega
    have HN := Lib.hid hn; have HN2 := Lib.hid hn2
    have hm2 : n ≤ 1000000 := by omega
    rw [← hn, hn2]
    clear hn hn2 hlen
    go_enter Tryd.func11, Tryd.ntmps11
    go_wp2
    go_loopw [5] (fun v5 wr => ∃ j : Nat, v5 = .int .i64 (j : Int) ∧ j ≤ n ∧ Hid (Kept NoB w wr) ∧ Hid ((xs = ys) ↔ (xs.drop j = ys.drop j))) (fun v5 _ => n - (intOf v5).toNat)
    case atStart => exact ⟨0, rfl, by omega, Kept.refl _ _, (by rw [List.drop_zero, List.drop_zero]; exact Iff.rfl)⟩
    case round =>
      obtain ⟨j, rfl, hj, HK, HI⟩ := hrel
      by_cases hlt : (j : Int) < n
      · obtain ⟨g, off, rfl, hgl, hc0⟩ := HX.out j (by have := HN.out; omega)
        obtain ⟨g2, off2, rfl, hgl2, hc1⟩ := HY.out j (by have := HN2.out; omega)
        have hc0' := HK.out.cell hc0
        have hc1' := HK.out.cell hc1
        have hi := HI.out
        rw [drop_getDs xs j (by have := HN.out; omega), drop_getDs ys j (by have := HN2.out; omega)] at hi
        obtain ⟨x, hx⟩ : ∃ x, xs.getD j [] = x := ⟨_, rfl⟩
        obtain ⟨y, hy⟩ : ∃ y, ys.getD j [] = y := ⟨_, rfl⟩
        rw [hx] at hc0' hi
        rw [hy] at hc1' hi
        clear hx hy hc0 hc1 hgl hgl2
        by_cases hxy : x = y
        · subst hxy
          have HI2 : Hid ((xs = ys) ↔ (xs.drop (j + 1) = ys.drop (j + 1))) := hi.trans ⟨fun h => by injection h, fun h => by rw [h]⟩
          obtain ⟨X, hX⟩ : ∃ X, X = strB x := ⟨_, rfl⟩
          rw [← hX] at hc0' hc1'
          have hd : (X.toList != X.toList) = false := by simp
          clear hi hX
          go_upto_region 6 with fail
          go_quiet (fail)
          go_wp2
          go_roundw
          case rel => exact ⟨j + 1, by go_num, by omega, HK.out.drewN _, HI2⟩
          case measure => simp [intOf]; omega
        · have hne : ¬ xs = ys := fun h => hxy (by have := hi.1 h; injection this)
          have hne2 : ¬ (strB x).toList = (strB y).toList := by rw [strB_list, strB_list]; exact hxy
          obtain ⟨X, hX⟩ : ∃ X, X = strB x := ⟨_, rfl⟩
          obtain ⟨Y, hY⟩ : ∃ Y, Y = strB y := ⟨_, rfl⟩
          rw [← hX] at hc0' hne2
          rw [← hY] at hc1' hne2
          have hd : (X.toList == Y.toList) = false := by simpa using hne2
          have hd3 : (!X.toList == Y.toList) = true := by rw [hd]; rfl
          clear hi hxy hX hY
          have HNe := Lib.hid hne
          clear hne
          go_upto_region 6 with fail
          go_quiet (fail)
          go_wp2
          go_ret
          exact ⟨by rw [decide_eq_false HNe.out]; rfl, HK.out.drewN _⟩
      · have he : xs = ys := by
          have hi := HI.out
          rw [List.drop_of_length_le (by have := HN.out; omega), List.drop_of_length_le (by have := HN2.out; omega)] at hi
          exact hi.2 rfl
        have HE := Lib.hid he
        clear he
        go_wp2
        go_ret
        exact ⟨by rw [decide_eq_true HE.out]; rfl, HK.out⟩
  · have hne : ¬ xs = ys := fun h => hlen (by rw [h])
    have HNe := Lib.hid hne
    have g1 : ((xs.length : Int) != (ys.length : Int)) = true := bne_iff_ne.2 (by omega)
    clear hne hlen
    go_enter Tryd.func11, Tryd.ntmps11
    go_wp2
    go_ret
    exact ⟨by rw [decide_eq_false HNe.out]; rfl, Kept.refl _ _⟩
