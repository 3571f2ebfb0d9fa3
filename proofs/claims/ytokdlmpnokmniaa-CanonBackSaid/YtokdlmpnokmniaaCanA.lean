/-
  canon.counts: how many lengths there are of each kind; arrays of sixteen numbers.
-/
import Derived.Test.YtokdlmpnokmniaaPmD
import Derived.Laws.Tables
namespace Go.Proofs.Ytokdlmpnokmniaa
open Go.RowKit
set_option linter.unusedVariables false
set_option linter.unusedSimpArgs false

def arrC (zs : List Int) : Array Value := (zs.map (Value.int .i64)).toArray
theorem arrC_size (zs : List Int) : (arrC zs).size = zs.length := by simp [arrC]
theorem arrC_get (zs : List Int) (i : Nat) (h : i < zs.length) : (arrC zs)[i]? = some (.int .i64 (zs.getD i 0)) := by simp [arrC, List.getD, h]
theorem arrC_set (zs : List Int) (i : Nat) (x : Int) : (arrC zs).setIfInBounds i (.int .i64 x) = arrC (zs.set i x) := by
  simp [arrC, List.map_set]
theorem arrC_one (zs : List Int) : (arrC zs).all (·.oneCell') = true := by
  simp [arrC, List.all_eq_true, Value.oneCell']
/-- An array of sixteen numbers in block B. -/
structure Arr16 (B : Nat) (w : World) (zs : List Int) : Prop where
  len : zs.length = 16
  obj : w.heap[B]? = some (.cells (arrC zs) 62 (0, 0))
theorem Arr16.cell {B : Nat} {w : World} {zs : List Int} (h : Arr16 B w zs) (i : Nat) (hi : i < 16) : w.cell? ⟨B, i, none⟩ = some (.int .i64 (zs.getD i 0)) := by
  rw [obj_cell h.obj i, arrC_get _ _ (by rw [h.len]; exact hi)]
theorem Arr16.put {B : Nat} {w : World} {zs : List Int} (h : Arr16 B w zs) (i : Nat) (x : Int) : Arr16 B (w.setCell ⟨B, i, none⟩ (.int .i64 x)) (zs.set i x) :=
  ⟨by rw [List.length_set]; exact h.len, by rw [obj_set h.obj i _, arrC_set]⟩
theorem Arr16.kept {S : Nat → Prop} {B : Nat} {w w' : World} {zs : List Int} (h : Arr16 B w zs) (hk : Kept S w w') (hs : ¬ S B) : Arr16 B w' zs := ⟨h.len, hk.obj h.obj hs⟩
theorem Arr16.row {B : Nat} {w : World} {old : List Int} (h : Arr16 B w old) (zs : List Int) (hz : zs.length = 16) : Arr16 B (w.setRow B (arrC zs)) zs := ⟨hz, setRow_heap w B _ _ _ _ h.obj⟩
theorem Kept.setRow {S : Nat → Prop} {a b : World} (h : Kept S a b) {B : Nat} (hp : S B ∨ a.heap.size ≤ B) (cs : Array Value) : Kept S a (b.setRow B cs) :=
  ⟨h.os, h.tape, h.output, by show _ ≤ (b.heap.modify B _).size; rw [Array.size_modify]; exact h.size, fun i hi hs => (setRow_other b B i cs (fun e => by rcases hp with hp | hp; exact hs (e ▸ hp); omega)).trans (h.block i hi hs)⟩
theorem store16 {B : Nat} {w : World} {old : List Int} (h : Arr16 B w old) (zs : List Int) (hz : zs.length = 16) : (storeCells ⟨B, 0, none⟩ (arrC zs).toList).run Try.prog w = .ok () (w.setRow B (arrC zs)) := by
  have := run_storeCells_from (P := Try.prog) B 62 (arrC zs).toList 0 (arrC old) w h.obj (by simp [arrC, hz, h.len]) (fun v hv => by
    simp [arrC] at hv
    obtain ⟨x, _, rfl⟩ := hv
    rfl)
  simpa using this
theorem results_cell_tmp {P : Program} {fn : Func} {p t : Tmp} {ty : TypeId} (h : fn.results = #[.cell p ty, .tmp t]) (tmps : Array Value) (w : World) (g : Nat) (t' : TypeId) (cs : Array Value) (fr : Nat × Nat) (d : TypeDesc)
    (hp : tmps.getD p undef = .pointer (some ⟨g, 0, none⟩)) (hg : w.heap[g]? = some (.cells cs t' fr))
    (hu : P.underlying ty = some d) (hd : (match d with | .struct _ | .array _ _ => true | _ => false) = true) (hi : (P.info? ty).map (·.size) = some cs.size) :
    (results fn tmps).run P w = .ok (.tuple #[.agg cs, tmps.getD t undef]) w := by
  have hp' := hp
  simp only [Array.getD_eq_getD_getElem?] at hp' ⊢
  simp [results, h, hp', asAddr, run_loadVar_row w g t' ty cs fr d hg hu hd hi]
theorem info16 : (Try.prog.info? 62).map (·.size) = some 16 := by kernel_rfl
def zer16 : List Int := List.replicate 16 0
/-- How many of each length from 0 to 15. -/
def cntsL (ls : List Int) : List Int := (List.range 16).map (fun n : Nat => ((ls.count (n : Int) : Nat) : Int))
theorem cnts_nil : cntsL [] = zer16 := by decide
theorem cnts_len (ls : List Int) : (cntsL ls).length = 16 := by simp [cntsL]
theorem cnts_get (ls : List Int) (n : Nat) (h : n < 16) : (cntsL ls).getD n 0 = ((ls.count (n : Int) : Nat) : Int) := by simp [cntsL, List.getD, h]
theorem cnts_snoc (ls : List Int) (n : Nat) (h : n < 16) : cntsL (ls ++ [(n : Int)]) = (cntsL ls).set n ((cntsL ls).getD n 0 + 1) := by
  obtain ⟨v, hv⟩ : ∃ v, v = (cntsL ls).getD n 0 + 1 := ⟨_, rfl⟩
  rw [← hv]
  rw [cnts_get _ _ h] at hv
  apply List.ext_getElem (by simp [cntsL])
  intro i h1 h2
  have hi : i < 16 := by simpa [cntsL] using h1
  rw [List.getElem_set]
  by_cases e : n = i
  · subst e; rw [if_pos rfl, hv]; simp [cntsL]
  · rw [if_neg e]
    have h3 : ¬ (n : Int) = (i : Int) := by omega
    simp [cntsL, List.count_append, List.count_cons, h3]

set_option maxRecDepth 20000 in
set_option maxHeartbeats 1000000 in
theorem counts_calls (a : Option Addr) (c B : Nat) (ls : List Int) (w : World) (hr : RdI w B a ls) (hs : Small 15 ls) (hl : ls.length ≤ 320) :
    Calls Try.prog 27 #[.slice a ls.length c] w fun e w' => e = .returned (.tuple #[.agg (arrC (cntsL ls)), .bool true]) ∧ Kept NoB w w' := by
  have HR := Lib.hid hr; have HS := Lib.hid hs
  obtain ⟨n, hn⟩ : ∃ n, n = ls.length := ⟨_, rfl⟩
  have HN := Lib.hid hn
  rw [← hn] at hl ⊢
  clear hr hs hn
  go_enter Try.func27, Try.ntmps27
  go_wp2
  have hA2 : Arr16 w.heap.size ((w.alloc (.cells (arrC zer16) 62)).alloc (.cells (arrC zer16) 62)) zer16 := ⟨rfl, by
    rw [heap_alloc_old _ _ (by simp)]; exact heap_alloc_new w _⟩
  have hA4 : Arr16 (w.heap.size + 1) ((w.alloc (.cells (arrC zer16) 62)).alloc (.cells (arrC zer16) 62)) (cntsL (ls.take 0)) := ⟨cnts_len _, by
    rw [List.take_zero, cnts_nil]; exact heap_alloc2_new w _ _⟩
  have HA2 := Lib.hid hA2; have HA4 := Lib.hid hA4
  have HK0 : Hid (Kept NoB w ((w.alloc (.cells (arrC zer16) 62)).alloc (.cells (arrC zer16) 62))) := Lib.hid (((Kept.refl _ _).alloc _).alloc _)
  clear hA2 hA4
  obtain ⟨G, hG⟩ : ∃ G, G = w.heap.size := ⟨_, rfl⟩
  rw [← hG] at HA2 HA4 ⊢
  have HG := Lib.hid hG
  clear hG
  go_loopw [13, 6] (fun v13 _v6 wr => ∃ (j : Nat), v13 = .int .i64 (j : Int) ∧ j ≤ n ∧ Hid (Arr16 G wr zer16) ∧ Hid (Arr16 (G + 1) wr (cntsL (ls.take j))) ∧ Hid (Kept NoB w wr)) (fun v13 _ _ => n - (intOf v13).toNat)
  case atStart => exact ⟨0, rfl, by omega, HA2, HA4, HK0⟩
  case round =>
    clear HA2 HA4 HK0
    obtain ⟨j, rfl, hj, HA2, HA4, HK⟩ := hrel
    by_cases hlt : (j : Int) < n
    · obtain ⟨g, off, rfl, _, hc0⟩ := HR.out j (by have := HN.out; omega)
      have hc := HK.out.cell hc0
      have hb := HS.out.getD j (by have := HN.out; omega)
      obtain ⟨z, hz⟩ : ∃ z : Nat, (z : Int) = ls.getD j 0 := ⟨(ls.getD j 0).toNat, by omega⟩
      rw [← hz] at hc hb
      have hst : ls.take (j + 1) = ls.take j ++ [(z : Int)] := by
        rw [hz, List.take_succ_eq_append_getElem (by have := HN.out; omega)]; simp [List.getD, show j < ls.length by have := HN.out; omega]
      have hz16 : z < 16 := by omega
      have hcell := HA4.out.cell z hz16
      have hcb : 0 ≤ (cntsL (ls.take j)).getD z 0 ∧ (cntsL (ls.take j)).getD z 0 ≤ 320 := by
        rw [cnts_get _ _ hz16]
        have := List.count_le_length (l := ls.take j) (a := (z : Int))
        rw [List.length_take] at this
        have := HN.out
        omega
      have hsn := cnts_snoc (ls.take j) z hz16
      rw [← hst] at hsn
      obtain ⟨x, hx⟩ : ∃ x, x = (cntsL (ls.take j)).getD z 0 := ⟨_, rfl⟩
      rw [← hx] at hcell hcb hsn
      have hfz : wr.frozen? ⟨G + 1, z, none⟩ = false := obj_free HA4.out.obj z
      have hput := HA4.out.put z (x + 1)
      rw [← hsn] at hput
      have hkp : Kept NoB w (wr.setCell ⟨G + 1, z, none⟩ (.int .i64 (x + 1))) := Kept.setCell (p := ⟨G + 1, z, none⟩) HK.out (.inr (by rw [← HG.out]; simp)) _
      have hA2' : Arr16 G (wr.setCell ⟨G + 1, z, none⟩ (.int .i64 (x + 1))) zer16 := HA2.out.kept (S := fun k => k = G + 1) (Kept.setCell (S := fun k => k = G + 1) (p := ⟨G + 1, z, none⟩) (Kept.refl _ wr) (.inl rfl) _) (by omega)
      have HP := Lib.hid hput; have HKp := Lib.hid hkp; have HA2n := Lib.hid hA2'
      clear hz hst hsn hput hkp hx hc0 hA2'
      go_wp2
      go_roundw
      case rel => exact ⟨j + 1, by go_num, by omega, HA2n, HP, HKp⟩
      case measure => simp [intOf]; omega
    · have hjn : j = n := by omega
      subst hjn
      have hfin := HA4.out
      rw [List.take_of_length_le (by have := HN.out; omega)] at hfin
      have HF := Lib.hid hfin
      clear hfin HA4
      have hsz : (arrC (cntsL ls)).size = 16 := by rw [arrC_size, HF.out.len]
      have hst := store16 HA2.out (cntsL ls) HF.out.len
      have HF2 := Lib.hid (HA2.out.row (cntsL ls) HF.out.len)
      have HK2 := Lib.hid (HK.out.setRow (B := G) (.inr (by rw [← HG.out]; exact Nat.le_refl _)) (arrC (cntsL ls)))
      go_wp2_with (refine wpList_load_row rfl 62 (.tmp 4) rfl (G + 1) rfl 62 (arrC (cntsL ls)) (0, 0) (.array 16 3) HF.out.obj Try.underlying62 rfl (by rw [arrC_size, HF.out.len]; exact info16) ?_)
      refine bodyPost_ret (results_cell_tmp rfl _ _ G 62 (arrC (cntsL ls)) (0, 0) (.array 16 3) rfl HF2.out.obj Try.underlying62 rfl (by rw [hsz]; exact info16)) rfl ?_
      exact ⟨rfl, HK2.out⟩
end Go.Proofs.Ytokdlmpnokmniaa
