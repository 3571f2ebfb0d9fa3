/-
  The document's slashes.
-/
import Derived.Test.YtamoojalfpghhaaDoorStrs
namespace Go.Proofs.YtamoojalfpghhaaDoor
open Go.RowKit Go.Shelf
set_option linter.unusedVariables false
set_option linter.unusedSimpArgs false

/-- A row of texts of the call's own. -/
structure StrSt (w0 w : World) (a : Option Addr) (l c : Nat) (ps : List (List UInt8)) : Prop where
  len : l = ps.length
  own : w.ownsRow 0 9 1 (.slice a l c) l (ps.map strV)
  kept : Kept NoB w0 w
  fresh : ∀ k, (Value.slice a l c).ownBlock = some k → w0.heap.size ≤ k
theorem StrSt.nil (w : World) : StrSt w w none 0 0 [] := ⟨rfl, World.ownsRow_nil _ _ _ _, Kept.refl _ _, fun k hk => by simp [Value.ownBlock] at hk⟩
theorem StrSt.on {w0 w w' : World} {a : Option Addr} {l c : Nat} {ps : List (List UInt8)} (h : StrSt w0 w a l c ps) (hk : Kept NoB w w') : StrSt w0 w' a l c ps := ⟨h.len, hk.row h.own (fun _ _ h => h), h.kept.trans hk, h.fresh⟩
theorem StrSt.alloc {w0 w : World} {a : Option Addr} {l c : Nat} {ps : List (List UInt8)} (h : StrSt w0 w a l c ps) (o : Obj) : StrSt w0 (w.alloc o) a l c ps := h.on ((Kept.refl NoB w).alloc o)
theorem StrSt.reads {w0 w : World} {a : Option Addr} {l c : Nat} {ps : List (List UInt8)} (h : StrSt w0 w a l c ps) : RdS w w.heap.size a ps := own_readsS h.own h.len.symm
theorem str_shape {w : World} {base e s : Nat} {v : Value} {n : Nat} {xs : List Value} (h : w.ownsRow base e s v n xs) : ∃ ao cap, v = .slice ao n cap := by
  rcases h.2 with ⟨rfl, rfl⟩ | ⟨g, cap, cur, rfl, _⟩
  · exact ⟨none, 0, rfl⟩
  · exact ⟨_, cap, rfl⟩
theorem wpList_str1 {ops : Array Oper} {rest : List Oper} {o : Oper} {a : Act} {w : World} {Q : Exit → Act → World → Prop} (hgd : o.guard = none) (s x : Operand)
    (ho : o.op = .call { callee := .builtin .append, args := #[s, x], argTypes := #[23, 23] })
    {w0 : World} {a1 : Option Addr} {l1 c1 : Nat} {ps : List (List UInt8)} (hS : StrSt w0 w a1 l1 c1 ps) (hs : a.eval s = .slice a1 l1 c1)
    (ad : Addr) (c : Nat) (p : List UInt8) (hx : a.eval x = .slice (some ad) 1 c) (hc : w.cell? ad = some (.string (strB p))) (h63 : l1 ≤ 1000001)
    (h : ∀ a2 c2 w', StrSt w0 w' a2 (l1 + 1) c2 (ps ++ [p]) → wpList Tryd.prog ops Q rest (a.put o.dst (.slice a2 (l1 + 1) c2)) w') : wpList Tryd.prog ops Q (o :: rest) a w := by
  obtain ⟨i0, hi, hz0, hz1, hz2⟩ := info_parts infoS
  refine wpList_app w hgd s x 23 ho 9 i0 (.string ⟨#[]⟩) 1 16 (by kernel_rfl) hi hz0 hz1 hz2 rfl (by decide) _ l1 (ps.map strV) hs hS.own ad 1 c [strV p] hx rfl ?_ (fun u hu => by simp at hu; subst hu; rfl) (by unfold maxLen; omega) (by omega) ?_
  · intro j u hu
    cases j with
    | zero => simp at hu; subst hu; simpa [Addr.add, strV] using hc
    | succ j => simp at hu
  intro v' w' h2 h3 h4
  obtain ⟨a2, c2, rfl⟩ := str_shape h2
  refine h _ _ _ ⟨by rw [List.length_append, hS.len]; rfl, by rw [List.map_append]; exact h2, hS.kept.grown h3 (fun k hk e => by have := hS.fresh k e; omega), ?_⟩
  intro k hk
  rcases h4 k hk with h | h
  · exact hS.fresh k h
  · have := hS.kept.size; omega

theorem pieces_cut : ∀ (c r : List UInt8), (47 : UInt8) ∉ c → pieces (c ++ 47 :: r) = c :: pieces r
  | [], r, _ => by simp [pieces]
  | b :: c, r, h => by
    have hb : b ≠ 47 := fun e => h (by rw [e]; simp)
    have ih := pieces_cut c r (fun e => h (by simp [e]))
    rw [List.cons_append, pieces, if_neg hb, ih]
theorem pieces_whole : ∀ (c : List UInt8), (47 : UInt8) ∉ c → pieces c = [c]
  | [], _ => rfl
  | b :: c, h => by
    have hb : b ≠ 47 := fun e => h (by rw [e]; simp)
    have ih := pieces_whole c (fun e => h (by simp [e]))
    rw [pieces, if_neg hb, ih]
/-- What stands after i bytes: the pieces that are done, and the one that is under way. -/
structure InvS (l : List UInt8) (D : List (List UInt8)) (cur : List UInt8) (f i : Nat) : Prop where
  go : i ≤ l.length → f + cur.length = i ∧ l.drop f = cur ++ l.drop i ∧ (47 : UInt8) ∉ cur ∧ D ++ keepP (pieces (l.drop f)) = keepP (pieces l)
  fin : l.length < i → D = keepP (pieces l)
theorem InvS.start (l : List UInt8) : InvS l [] [] 0 0 := ⟨fun _ => ⟨rfl, rfl, by simp, rfl⟩, fun h => absurd h (by omega)⟩
theorem InvS.plain {l : List UInt8} {D : List (List UInt8)} {cur : List UInt8} {f i : Nat} (h : InvS l D cur f i) (b : UInt8) (hi : i < l.length) (hb : l.drop i = b :: l.drop (i + 1)) (hne : b ≠ 47) : InvS l D (cur ++ [b]) f (i + 1) := by
  obtain ⟨h1, h2, h3, h4⟩ := h.go (by omega)
  refine ⟨fun _ => ⟨by simp; omega, by rw [h2, hb]; simp, ?_, h4⟩, fun h => by omega⟩
  intro e
  rcases List.mem_append.1 e with e | e
  · exact h3 e
  · simp at e; exact hne e.symm
def nextD (D : List (List UInt8)) (cur : List UInt8) : List (List UInt8) := if skipP cur then D else D ++ [cur]
theorem InvS.cut {l : List UInt8} {D : List (List UInt8)} {cur : List UInt8} {f i : Nat} (h : InvS l D cur f i) (hi : i ≤ l.length) (hb : i = l.length ∨ l.drop i = 47 :: l.drop (i + 1)) : InvS l (nextD D cur) [] (i + 1) (i + 1) := by
  obtain ⟨h1, h2, h3, h4⟩ := h.go hi
  have hk : ∀ ps, nextD D cur ++ keepP ps = D ++ keepP (cur :: ps) := by
    intro ps
    unfold nextD
    cases hs : skipP cur with
    | true => simp [keepP, hs]
    | false => simp [keepP, hs]
  rcases hb with hb | hb
  · refine ⟨fun h => by omega, fun _ => ?_⟩
    rw [h2, List.drop_of_length_le (by omega), List.append_nil, pieces_whole cur h3] at h4
    rw [← h4, ← hk, keepP, List.filter_nil, List.append_nil]
  · refine ⟨fun h => ⟨by simp, rfl, by simp, ?_⟩, fun h => ?_⟩
    · rw [h2, hb, pieces_cut cur _ h3] at h4
      rw [← h4, hk]
    · have : l.drop i = [] := List.drop_of_length_le (by omega)
      rw [this] at hb; cases hb
theorem InvS.piece {l : List UInt8} {D : List (List UInt8)} {cur : List UInt8} {f i : Nat} (h : InvS l D cur f i) (hi : i ≤ l.length) : (strB l).extract f i = strB cur := by
  obtain ⟨h1, h2, h3, h4⟩ := h.go hi
  apply ByteArray.ext
  rw [ByteArray.data_extract]
  simp only [strB, List.extract_toArray, List.extract_eq_take_drop]
  rw [h2, List.take_append_of_le_length (by omega), List.take_of_length_le (by omega)]

set_option maxRecDepth 20000 in
set_option maxHeartbeats 4000000 in
theorem slashes_any (S : ByteArray) (w : World) (hs : S.size ≤ 1000000) :
    Calls Tryd.prog 17 #[.string S] w fun e w' => ∃ a c, e = .returned (.slice a (keepP (pieces S.data.toList)).length c) ∧ StrSt w w' a (keepP (pieces S.data.toList)).length c (keepP (pieces S.data.toList)) := by
  obtain ⟨l, hl⟩ : ∃ l, l = S.data.toList := ⟨_, rfl⟩
  rw [← hl]
  have hsz : l.length = S.size := by rw [hl, Array.length_toList]; rfl
  have hSl : S = strB l := by rw [hl, strB_of]
  have HDr : Hid (∀ k (h : k < S.size), l.drop k = (S[k]'h) :: l.drop (k + 1)) := Lib.hid (fun k h => by rw [hl]; exact drop_step S k h)
  have HSz := Lib.hid hsz; have HSl := Lib.hid hSl
  clear hl hsz hSl
  go_enter Tryd.func17, Tryd.ntmps17
  go_wp2
  go_loopw [3, 4, 5, 6] (fun v3 v4 v5 v6 wr => ∃ (a : Option Addr) (c m f i : Nat) (D : List (List UInt8)) (cur : List UInt8), v3 = .slice a m c ∧ v4 = .int .i64 (f : Int) ∧ v5 = .int .i64 (i : Int) ∧ i ≤ S.size + 1 ∧ m ≤ i ∧ Hid (StrSt w wr a m c D) ∧ Hid (InvS l D cur f i)) (fun _ _ v5 _ _ => S.size + 1 - (intOf v5).toNat)
  case atStart => exact ⟨none, 0, 0, 0, 0, [], [], rfl, rfl, rfl, by omega, by omega, Lib.hid (StrSt.nil _), Lib.hid (InvS.start l)⟩
  case round =>
    obtain ⟨a, c, m, f, i, D, cur, rfl, rfl, rfl, hi, hm, HS, HI⟩ := hrel
    by_cases hle : (i : Int) ≤ (S.size : Int)
    · have hgo := HI.out.go (by have := HSz.out; omega)
      have hfi : f ≤ i := by have := hgo.1; omega
      have hpc := HI.out.piece (by have := HSz.out; omega)
      rw [← HSl.out] at hpc
      clear hgo
      by_cases hpl : ∃ h : i < S.size, (S[i]'h) ≠ 47
      · obtain ⟨hi2, hb⟩ := hpl
        have hne : ((i : Int) == (S.size : Int)) = false := by simp; omega
        have hb1 : (((S[i]'hi2).toNat : Int) == 47) = false := by rw [show (47 : Int) = ((47 : Nat) : Int) from rfl, toNat_eq _ 47 (by decide)]; simpa using hb
        have HI2 := Lib.hid (HI.out.plain _ (by have := HSz.out; omega) (HDr.out i hi2) hb)
        have hlt : (i : Int) < (S.size : Int) := by omega
        clear hb hpc
        go_wp2
        go_roundw
        case rel => exact ⟨a, c, m, f, i + 1, D, _, rfl, rfl, by go_num, by omega, by omega, HS, HI2⟩
        case measure => simp [intOf]; omega
      · have hend : ((i : Int) == (S.size : Int)) = true ∨ (((i : Int) == (S.size : Int)) = false ∧ (i : Int) < (S.size : Int) ∧ ∃ h : i < S.size, (((S[i]'h).toNat : Int) == 47) = true) := by
          by_cases he : i = S.size
          · exact .inl (by simp; omega)
          · have hi2 : i < S.size := by omega
            refine .inr ⟨by simp; omega, by omega, hi2, ?_⟩
            have : (S[i]'hi2) = 47 := Classical.byContradiction fun h => hpl ⟨hi2, h⟩
            rw [this]; rfl
        have hcut : i = l.length ∨ l.drop i = 47 :: l.drop (i + 1) := by
          by_cases he : i = S.size
          · exact .inl (by have := HSz.out; omega)
          · have hi2 : i < S.size := by omega
            have : (S[i]'hi2) = 47 := Classical.byContradiction fun h => hpl ⟨hi2, h⟩
            exact .inr (by rw [HDr.out i hi2, this])
        have HI2 := Lib.hid (HI.out.cut (by have := HSz.out; omega) hcut)
        have hT : (strB cur).toList = cur := strB_list cur
        obtain ⟨C, hC⟩ : ∃ C, C = strB cur := ⟨_, rfl⟩
        rw [← hC] at hpc hT
        have HC := Lib.hid hC
        clear hpl hcut hC
        by_cases h1 : cur = []
        · have HN : Hid (nextD D cur = D) := Lib.hid (by rw [h1]; rfl)
          have e1 : C.toList = [] := by rw [hT, h1]
          have e2 : C.toList.isEmpty = true := by rw [e1]; rfl
          clear hT h1
          rcases hend with he | ⟨he, he2, he3, he4⟩
          · go_wp2
            go_roundw
            case rel => exact ⟨a, c, m, i + 1, i + 1, D, [], rfl, by go_num, by go_num, by omega, by omega, HS, Lib.hid (by have := HI2.out; rwa [HN.out] at this)⟩
            case measure => simp [intOf]; omega
          · go_wp2
            go_roundw
            case rel => exact ⟨a, c, m, i + 1, i + 1, D, [], rfl, by go_num, by go_num, by omega, by omega, HS, Lib.hid (by have := HI2.out; rwa [HN.out] at this)⟩
            case measure => simp [intOf]; omega
        · by_cases h2 : cur = [46]
          · have HN : Hid (nextD D cur = D) := Lib.hid (by rw [h2]; rfl)
            have e1 : C.toList = [46] := by rw [hT, h2]
            have e2 : C.toList.isEmpty = false := by rw [e1]; rfl
            have e3 : (C.toList == [46]) = true := by rw [e1]; rfl
            clear hT h1 h2
            rcases hend with he | ⟨he, he2, he3, he4⟩
            · go_wp2
              go_roundw
              case rel => exact ⟨a, c, m, i + 1, i + 1, D, [], rfl, by go_num, by go_num, by omega, by omega, HS, Lib.hid (by have := HI2.out; rwa [HN.out] at this)⟩
              case measure => simp [intOf]; omega
            · go_wp2
              go_roundw
              case rel => exact ⟨a, c, m, i + 1, i + 1, D, [], rfl, by go_num, by go_num, by omega, by omega, HS, Lib.hid (by have := HI2.out; rwa [HN.out] at this)⟩
              case measure => simp [intOf]; omega
          · have HN : Hid (nextD D cur = D ++ [cur]) := Lib.hid (by
              have a1 : cur.isEmpty = false := by cases cur with | nil => exact absurd rfl h1 | cons _ _ => rfl
              have a2 : (cur == [46]) = false := by simpa using h2
              rw [nextD, skipP, a1, a2]; rfl)
            have e0 : ¬ C.toList = [] := by rw [hT]; exact h1
            have e1 : ¬ C.toList = [46] := by rw [hT]; exact h2
            have e2 : C.toList.isEmpty = false := by simpa using e0
            have e3 : (C.toList == [46]) = false := by simpa using e1
            clear hT h1 h2
            rcases hend with he | ⟨he, he2, he3, he4⟩
            · go_wp2_with (at_builtin; refine wpList_str1 rfl (.tmp 33) (.tmp 35) rfl (HS.out.alloc (.cells #[.string C] 9)) rfl ⟨wr.heap.size, 0, none⟩ _ cur rfl (by rw [cell_new 0 rfl, HC.out]; rfl) (by omega) ?_)
              intro a2 c2 w2 hs2
              have HS2 := Lib.hid hs2
              clear hs2
              go_wp2
              go_roundw
              case rel => exact ⟨a2, c2, m + 1, i + 1, i + 1, D ++ [cur], [], rfl, by go_num, by go_num, by omega, by omega, HS2, Lib.hid (by have := HI2.out; rwa [HN.out] at this)⟩
              case measure => simp [intOf]; omega
            · go_wp2_with (at_builtin; refine wpList_str1 rfl (.tmp 33) (.tmp 35) rfl (HS.out.alloc (.cells #[.string C] 9)) rfl ⟨wr.heap.size, 0, none⟩ _ cur rfl (by rw [cell_new 0 rfl, HC.out]; rfl) (by omega) ?_)
              intro a2 c2 w2 hs2
              have HS2 := Lib.hid hs2
              clear hs2
              go_wp2
              go_roundw
              case rel => exact ⟨a2, c2, m + 1, i + 1, i + 1, D ++ [cur], [], rfl, by go_num, by go_num, by omega, by omega, HS2, Lib.hid (by have := HI2.out; rwa [HN.out] at this)⟩
              case measure => simp [intOf]; omega
    · have hf := HI.out.fin (by have := HSz.out; omega)
      have HF := Lib.hid hf
      clear hf
      go_wp2
      go_ret
      exact ⟨a, c, by rw [← HF.out, ← HS.out.len]; rfl, by rw [← HF.out, ← HS.out.len]; exact HS.out⟩
