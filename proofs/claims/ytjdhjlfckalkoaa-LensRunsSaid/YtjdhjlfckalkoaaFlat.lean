/-
  lens: Flat.
-/
import Derived.Test.YtjdhjlfckalkoaaExt
namespace Go.Proofs.Ytjdhjlfckalkoaa
open Go.RowKit
set_option linter.unusedVariables false
set_option linter.unusedSimpArgs false

/-- A slice of runs reads as rs; its block is below B. -/
def RdRn (w : World) (B : Nat) (ao : Option Addr) (rs : List (Int × Int)) : Prop :=
  ∀ i, i < rs.length → ∃ g off, ao = some ⟨g, off, none⟩ ∧ g < B ∧ w.cell? ⟨g, off + i * 2, none⟩ = some (.int .i64 (rs.getD i (0, 0)).1) ∧ w.cell? ⟨g, off + i * 2 + 1, none⟩ = some (.int .i64 (rs.getD i (0, 0)).2)
theorem RdRn.kept {S : Nat → Prop} {w w' : World} {B : Nat} {ao : Option Addr} {rs : List (Int × Int)} (h : RdRn w B ao rs) (hk : Kept S w w') (hs : ∀ k, k < B → ¬ S k) : RdRn w' B ao rs := by
  intro i hi
  obtain ⟨g, off, h1, h2, h3, h4⟩ := h i hi
  exact ⟨g, off, h1, h2, (World.cell?_of_block (hk.block _ (World.block_lt_of_cell? w _ h3) (hs g h2))).trans h3, (World.cell?_of_block (hk.block _ (World.block_lt_of_cell? w _ h4) (hs g h2))).trans h4⟩
theorem drop_getDP (rs : List (Int × Int)) (j : Nat) (hj : j < rs.length) : rs.drop j = rs.getD j (0, 0) :: rs.drop (j + 1) := by
  rw [List.drop_eq_getElem_cons hj]; simp [List.getD, hj]
theorem Kept.trans' {S : Nat → Prop} {a b c : World} (h : Kept NoB a b) (k : Kept S b c) (hs : ∀ i, i < a.heap.size → S i → False) : Kept NoB a c :=
  ⟨k.os.trans h.os, k.tape.trans h.tape, k.output.trans h.output, Nat.le_trans h.size k.size, fun i hi _ => (k.block i (Nat.lt_of_lt_of_le hi h.size) (fun e => hs i hi e)).trans (h.block i hi (fun e => e))⟩
/-- A row of numbers told, with an error. -/
def FlatP (w : World) (s : List Int × Int) (e : Ending) (w' : World) : Prop :=
  ∃ ao cap, e = .returned (.tuple #[.slice ao s.1.length cap, .int .i64 s.2]) ∧ OwnI w' ao cap s.1 ∧ Kept NoB w w' ∧ (∀ k, (Value.slice ao s.1.length cap).ownBlock = some k → w.heap.size ≤ k)
theorem FlatP.none {w w' : World} {s : List Int × Int} {x : Int} (h : s = ([], x)) (hk : Kept NoB w w') : FlatP w s (.returned (.tuple #[.slice none 0 0, .int .i64 x])) w' := by
  subst h
  exact ⟨Option.none, 0, rfl, World.ownsRow_nil _ _ _ _, hk, fun k hk => by simp [Value.ownBlock] at hk⟩

set_option maxRecDepth 20000 in
set_option maxHeartbeats 2000000 in
theorem flat_any (n : Int) (ao : Option Addr) (cap : Nat) (rs : List (Int × Int)) (w : World) (hr : RdRn w w.heap.size ao rs) (hm : rs.length ≤ 1000000) :
    Calls Try.prog 7 #[.int .i64 n, .slice ao rs.length cap] w (FlatP w (flatS n rs)) := by
  have HR := Lib.hid hr
  clear hr
  by_cases hb : n < 0 ∨ 320 < n
  · have hf : flatS n rs = ([], 1) := if_pos hb
    have HF := Lib.hid hf
    have hc : n < 0 ∨ (¬ n < 0 ∧ 320 < n) := by omega
    clear hf hb
    rcases hc with h | ⟨h1, h2⟩
    all_goals
      go_enter Try.func7, Try.ntmps7
      go_wp2
      go_ret2
      exact FlatP.none HF.out (Kept.refl _ _)
  · have hn : 0 ≤ n ∧ n ≤ 320 := by omega
    have hf : flatS n rs = match runAll n [] rs with | some l => if (l.length : Int) = n then (l, 0) else ([], 6) | none => ([], 6) := if_neg hb
    obtain ⟨R, hR⟩ : ∃ R, R = runAll n [] rs := ⟨_, rfl⟩
    rw [← hR] at hf
    have HF := Lib.hid hf; have HRe := Lib.hid hR
    clear hf hR hb
    have hn1 := hn.1
    have hn2 := hn.2
    go_enter Try.func7, Try.ntmps7
    go_wp2
    go_loopw [6, 18] (fun v6 v18 wr => ∃ (l : List Int) (a : Option Addr) (c j : Nat), v6 = .slice a l.length c ∧ v18 = .int .i64 (j : Int) ∧ j ≤ rs.length ∧ Hid ((l.length : Int) ≤ n) ∧ Hid (OwnI wr a c l) ∧ Hid (Kept NoB w wr) ∧ Hid (∀ k, (Value.slice a l.length c).ownBlock = some k → w.heap.size ≤ k) ∧ Hid (runAll n l (rs.drop j) = R)) (fun _ v18 _ => rs.length - (intOf v18).toNat)
    case atStart => exact ⟨[], none, 0, 0, rfl, rfl, by omega, (by exact hn1 : ((([] : List Int).length : Nat) : Int) ≤ n), World.ownsRow_nil _ _ _ _, Kept.refl _ _, (fun k hk => by simp [Value.ownBlock] at hk), (by rw [List.drop_zero]; exact HRe.out.symm)⟩
    case round =>
      obtain ⟨l, a, c, j, rfl, rfl, hj, HL, HO, HK, HFr, HX⟩ := hrel
      by_cases hlt : (j : Int) < rs.length
      · obtain ⟨g, off, rfl, hgl, hc0, hc1⟩ := HR.out j (by omega)
        have hc0' := HK.out.cell hc0
        have hc1' := HK.out.cell hc1
        have hd := HX.out
        rw [drop_getDP rs j (by omega)] at hd
        obtain ⟨⟨s, x⟩, hsx⟩ : ∃ p : Int × Int, p = rs.getD j (0, 0) := ⟨_, rfl⟩
        rw [← hsx] at hd hc0' hc1'
        simp only at hc0' hc1'
        unfold runAll at hd
        have HD := Lib.hid hd
        clear hd hsx hc0 hc1 hgl
        have hkA : Kept NoB w (wr.alloc (.cells #[.int .i64 s, .int .i64 x] 32)) := HK.out.alloc _
        have hkW : Kept NoB wr (wr.alloc (.cells #[.int .i64 s, .int .i64 x] 32)) := (Kept.refl _ _).alloc _
        have hext := extended_any a c l s x n (wr.alloc (.cells #[.int .i64 s, .int .i64 x] 32)) (hkW.row HO.out (fun _ _ h => h)) (by omega) HL.out
        have hsz : wr.heap.size ≤ (wr.alloc (.cells #[.int .i64 s, .int .i64 x] 32)).heap.size := hkW.size
        have HExt := Lib.hid hext; have HKA := Lib.hid hkA; have HSz := Lib.hid hsz
        clear hext hkA hkW hsz
        go_wp2_with fail
        refine HExt.out.mono ?_
        rintro e w2 (⟨hok, hfit, a2, c2, rfl, ho2, hk2, hf2⟩ | ⟨hno, rfl, hk2⟩)
        · have hd := HD.out
          rw [if_pos ⟨hok, hfit⟩] at hd
          have HX2 := Lib.hid hd; have HO2 := Lib.hid ho2; have HL2 := Lib.hid hfit
          have hk3 : Kept NoB w w2 := HKA.out.trans' hk2 (fun k hk e => absurd hk (by have := HFr.out k e; omega))
          have hf3 : ∀ k, (Value.slice a2 (moreL l s x).length c2).ownBlock = some k → w.heap.size ≤ k := fun k hk => by
            rcases hf2 k hk with h | h
            · exact HFr.out k h
            · have := HKA.out.size; omega
          have HK3 := Lib.hid hk3; have HF3 := Lib.hid hf3
          clear hd ho2 hfit hk2 hf2 hk3 hf3 hok
          go_wp2
          go_roundw
          case rel => exact ⟨moreL l s x, a2, c2, j + 1, rfl, by go_num, by omega, HL2, HO2, HK3, HF3, HX2⟩
          case measure => simp [intOf]; omega
        · have hd := HD.out
          rw [if_neg hno] at hd
          have hf := HF.out
          rw [← hd] at hf
          have HF2 := Lib.hid hf
          have HK2 := Lib.hid (HKA.out.trans hk2)
          clear hd hf hk2 hno
          go_wp2
          go_ret2
          exact FlatP.none HF2.out HK2.out
      · have hjl : rs.drop j = [] := List.drop_of_length_le (by omega)
        have hd := HX.out
        rw [hjl] at hd
        have hR : R = some l := hd.symm
        have hf := HF.out
        rw [hR] at hf
        have HF2 := Lib.hid hf
        clear hjl hd hR hf
        obtain ⟨len, hlen⟩ : ∃ len, len = l.length := ⟨_, rfl⟩
        have HLn := Lib.hid hlen
        rw [← hlen]
        clear hlen
        by_cases heq : (len : Int) = n
        · have hf := HF2.out
          have hx : flatS n rs = (l, 0) := by rw [hf]; exact if_pos (by rw [← HLn.out]; exact heq)
          have HX2 := Lib.hid hx
          have g1 : ((len : Int) != n) = false := by simp; exact heq
          clear hf hx heq
          go_wp2
          go_ret2
          rw [HX2.out]
          exact ⟨a, c, by rw [HLn.out]; rfl, HO.out, HK.out, HFr.out⟩
        · have hf := HF2.out
          have hx : flatS n rs = ([], 6) := by rw [hf]; exact if_neg (by rw [← HLn.out]; exact heq)
          have HX2 := Lib.hid hx
          have g1 : ((len : Int) != n) = true := by simp; exact heq
          clear hf hx heq
          go_wp2
          go_ret2
          exact FlatP.none HX2.out HK.out
end Go.Proofs.Ytjdhjlfckalkoaa
