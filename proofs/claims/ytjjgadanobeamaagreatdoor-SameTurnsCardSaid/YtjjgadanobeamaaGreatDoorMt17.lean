/-
  The document's slashes.
  The document's Parts.
  name.Join; awake.
  walk.All: all that is below a directory.
  strconv.Itoa by the shelf (a seat without num's fields).
  'n & (1 << k - 1)' on an int.
  Rows of texts of a call's own that grow, one text or numbers' digits at a time; strconv.Itoa.
-/
import Derived.Test.YtjjgadanobeamaaGreatDoorMt16
namespace Go.Proofs.YtjjgadanobeamaaGreatDoor
open Go.RowKit Go.Shelf
set_option linter.unusedVariables false
set_option linter.unusedSimpArgs false

structure StrSt (w0 w : World) (a : Option Addr) (l c : Nat) (ps : List (List UInt8)) : Prop where
  len : l = ps.length
  own : w.ownsRow 0 9 1 (.slice a l c) l (ps.map strV)
  kept : Kept NoB w0 w
  fresh : ∀ k, (Value.slice a l c).ownBlock = some k → w0.heap.size ≤ k
theorem StrSt.nil (w : World) : StrSt w w none 0 0 [] := ⟨rfl, World.ownsRow_nil _ _ _ _, Kept.refl _ _, fun k hk => by simp [Value.ownBlock] at hk⟩
theorem StrSt.on {w0 w w' : World} {a : Option Addr} {l c : Nat} {ps : List (List UInt8)} (h : StrSt w0 w a l c ps) (hk : Kept NoB w w') : StrSt w0 w' a l c ps := ⟨h.len, hk.row h.own (fun _ _ h => h), h.kept.trans hk, h.fresh⟩
theorem StrSt.alloc {w0 w : World} {a : Option Addr} {l c : Nat} {ps : List (List UInt8)} (h : StrSt w0 w a l c ps) (o : Obj) : StrSt w0 (w.alloc o) a l c ps := h.on ((Kept.refl NoB w).alloc o)
theorem StrSt.reads {w0 w : World} {a : Option Addr} {l c : Nat} {ps : List (List UInt8)} (h : StrSt w0 w a l c ps) : RdS w w.heap.size a ps := own_readsS h.own h.len.symm
theorem pieces_cut : ∀ (c r : List UInt8), (47 : UInt8) ∉ c → pieces (c ++ 47 :: r) = c :: pieces r
  | [], r, _ => by simp [pieces]
  | b :: c, r, h => by
    have hb : b ≠ 47 := fun e => h (by rw [e]; simp)
    have ih := pieces_cut c r (fun e => h (by simp [e]))
    rw [List.cons_append, pieces, if_neg hb, ih]
theorem pieces_whole : ∀ (c : List UInt8), (47 : UInt8) ∉ c → pieces c = [c]
  | [], _ => rfl
  | b :: c, h => by
    have hb : b ≠ 47 := fun e => h (by rw [e]; simp)
    have ih := pieces_whole c (fun e => h (by simp [e]))
    rw [pieces, if_neg hb, ih]
structure InvS (l : List UInt8) (D : List (List UInt8)) (cur : List UInt8) (f i : Nat) : Prop where
  go : i ≤ l.length → f + cur.length = i ∧ l.drop f = cur ++ l.drop i ∧ (47 : UInt8) ∉ cur ∧ D ++ keepP (pieces (l.drop f)) = keepP (pieces l)
  fin : l.length < i → D = keepP (pieces l)
theorem InvS.start (l : List UInt8) : InvS l [] [] 0 0 := ⟨fun _ => ⟨rfl, rfl, by simp, rfl⟩, fun h => absurd h (by omega)⟩
theorem InvS.plain {l : List UInt8} {D : List (List UInt8)} {cur : List UInt8} {f i : Nat} (h : InvS l D cur f i) (b : UInt8) (hi : i < l.length) (hb : l.drop i = b :: l.drop (i + 1)) (hne : b ≠ 47) : InvS l D (cur ++ [b]) f (i + 1) := by
  obtain ⟨h1, h2, h3, h4⟩ := h.go (by omega)
  refine ⟨fun _ => ⟨by simp; omega, by rw [h2, hb]; simp, ?_, h4⟩, fun h => by omega⟩
  intro e
  rcases List.mem_append.1 e with e | e
  · exact h3 e
  · simp at e; exact hne e.symm
def nextD (D : List (List UInt8)) (cur : List UInt8) : List (List UInt8) := if skipP cur then D else D ++ [cur]
theorem InvS.cut {l : List UInt8} {D : List (List UInt8)} {cur : List UInt8} {f i : Nat} (h : InvS l D cur f i) (hi : i ≤ l.length) (hb : i = l.length ∨ l.drop i = 47 :: l.drop (i + 1)) : InvS l (nextD D cur) [] (i + 1) (i + 1) := by
  obtain ⟨h1, h2, h3, h4⟩ := h.go hi
  have hk : ∀ ps, nextD D cur ++ keepP ps = D ++ keepP (cur :: ps) := by
    intro ps
    unfold nextD
    cases hs : skipP cur with
    | true => simp [keepP, hs]
    | false => simp [keepP, hs]
  rcases hb with hb | hb
  · refine ⟨fun h => by omega, fun _ => ?_⟩
    rw [h2, List.drop_of_length_le (by omega), List.append_nil, pieces_whole cur h3] at h4
    rw [← h4, ← hk, keepP, List.filter_nil, List.append_nil]
  · refine ⟨fun h => ⟨by simp, rfl, by simp, ?_⟩, fun h => ?_⟩
    · rw [h2, hb, pieces_cut cur _ h3] at h4
      rw [← h4, hk]
    · have : l.drop i = [] := List.drop_of_length_le (by omega)
      rw [this] at hb; cases hb
theorem InvS.piece {l : List UInt8} {D : List (List UInt8)} {cur : List UInt8} {f i : Nat} (h : InvS l D cur f i) (hi : i ≤ l.length) : (strB l).extract f i = strB cur := by
  obtain ⟨h1, h2, h3, h4⟩ := h.go hi
  apply ByteArray.ext
  rw [ByteArray.data_extract]
  simp only [strB, List.extract_toArray, List.extract_eq_take_drop]
  rw [h2, List.take_append_of_le_length (by omega), List.take_of_length_le (by omega)]
end Go.Proofs.YtjjgadanobeamaaGreatDoor

namespace Go.Proofs.YtjjgadanobeamaaGreatDoor
open Go.RowKit Go.Shelf
set_option linter.unusedVariables false
set_option linter.unusedSimpArgs false

def RPartsP (w : World) (l : List UInt8) (e : Ending) (w' : World) : Prop :=
  (partsOf l = none ∧ e = .returned (.tuple #[.slice none 0 0, .int .i64 9]) ∧ Kept NoB w w') ∨
  (∃ ps a c, partsOf l = some ps ∧ e = .returned (.tuple #[.slice a ps.length c, .int .i64 0]) ∧ StrSt w w' a ps.length c ps)
theorem RPartsP.no {w w' : World} {l : List UInt8} {e : Ending} (h : partsOf l = none) (he : e = .returned (.tuple #[.slice none 0 0, .int .i64 9])) (hk : Kept NoB w w') : RPartsP w l e w' := .inl ⟨h, he, hk⟩
end Go.Proofs.YtjjgadanobeamaaGreatDoor

namespace Go.Proofs.YtjjgadanobeamaaGreatDoor
open Go.RowKit Go.Shelf
set_option linter.unusedVariables false
set_option linter.unusedSimpArgs false

def joinB (ps : List (List UInt8)) : List UInt8 := Lib.join ps [47]
theorem map_back (ps : List (List UInt8)) : (ps.map strB).map (·.data.toList) = ps := by
  rw [List.map_map]
  have : ((fun s : ByteArray => s.data.toList) ∘ strB) = id := by funext p; rfl
  rw [this, List.map_id]
theorem sjoin_any (ao : Option Addr) (cap B : Nat) (ps : List (List UInt8)) (w : World) (hr : RdS w B ao ps) (hc : ps.length ≤ cap) (hl : ps.length ≤ 1000000) (hj : (joinB ps).length ≤ 1000000000) :
    Calls Tryz.prog 45 #[.slice ao ps.length cap, .string ⟨#[47]⟩] w fun e w' => e = .returned (.string (strB (joinB ps))) ∧ Below w.heap.size w w' := by
  cases ps with
  | nil =>
    refine (Tryz.strings_Join_none ao cap ⟨#[47]⟩ w).mono ?_
    rintro e w' ⟨rfl, rfl⟩
    exact ⟨rfl, Below.refl _ _⟩
  | cons p q =>
    obtain ⟨g, off, rfl, hg, h0⟩ := hr 0 (by simp)
    have hx : ∀ (j : Nat) x, ((p :: q).map strB)[j]? = some x → w.cell? ⟨g, off + j, none⟩ = some (.string x) := by
      intro j x hjx
      have hjl : j < (p :: q).length := by
        have := (List.getElem?_eq_some_iff.1 hjx).1
        simpa using this
      obtain ⟨g2, off2, h1, _, h2⟩ := hr j hjl
      cases h1
      rw [h2]
      rw [List.getElem?_map, List.getElem?_eq_getElem hjl] at hjx
      simp at hjx
      rw [← hjx, List.getD_eq_getElem?_getD, List.getElem?_eq_getElem hjl]
      rfl
    have hjj : Lib.join (((p :: q).map strB).map (·.data.toList)) (⟨#[47]⟩ : ByteArray).data.toList = joinB (p :: q) := by rw [map_back]; rfl
    have hlen : ((p :: q).map strB).length = (p :: q).length := List.length_map _
    have := Tryz.strings_Join g off cap ((p :: q).map strB) ⟨#[47]⟩ w hx (World.block_lt_of_cell? w _ h0) (by rw [hlen]; omega) (by rw [hlen]; exact hc) (by rw [hjj]; omega)
    rw [hjj, hlen] at this
    exact this
set_option maxHeartbeats 1000000 in
theorem njoin_any (ao : Option Addr) (cap B : Nat) (ps : List (List UInt8)) (w : World) (hr : RdS w B ao ps) (hc : ps.length ≤ cap) (hl : ps.length ≤ 1000000) (hj : (joinB ps).length ≤ 1000000000) :
    Calls Tryz.prog 66 #[.slice ao ps.length cap] w fun e w' => e = .returned (.string (strB (joinB ps))) ∧ Below w.heap.size w w' := by
  have H := Lib.hid (sjoin_any ao cap B ps w hr hc hl hj)
  clear hr hj
  go_enter Tryz.func66, Tryz.ntmps66
  go_wp2_with fail
  refine H.out.mono ?_
  rintro e w1 ⟨rfl, hb⟩
  have HB := Lib.hid hb
  clear hb
  go_wp2
  go_ret
  exact ⟨rfl, HB.out⟩

theorem Below.k {w w' : World} (h : Below w.heap.size w w') : Kept NoB w w' := Kept.ofBelow (Kept.refl NoB w) h
theorem Kept.b {w w' : World} (h : Kept NoB w w') : Below w.heap.size w w' := ⟨h.os, h.tape, h.output, h.size, fun i hi => h.block i hi (fun h => h)⟩
end Go.Proofs.YtjjgadanobeamaaGreatDoor

namespace Go.Proofs.YtjjgadanobeamaaGreatDoor
open Go.RowKit
set_option linter.unusedVariables false
set_option linter.unusedSimpArgs false
set_option maxRecDepth 20000

theorem RdS.keptD {S : Nat → Prop} {w w' : World} {B : Nat} {ao : Option Addr} {ps : List (List UInt8)} (h : RdS w B ao ps) (hk : Kept S w w') (hs : ∀ x, ao = some x → ¬ S x.block) : RdS w' B ao ps := by
  intro i hi
  obtain ⟨g, off, h1, h2, h3⟩ := h i hi
  exact ⟨g, off, h1, h2, (World.cell?_of_block (hk.block _ (World.block_lt_of_cell? w _ h3) (hs ⟨g, off, none⟩ h1))).trans h3⟩
structure SnP (w0 w w' : World) (a : Option Addr) (l c : Nat) (a2 : Option Addr) (l2 c2 : Nat) (qs : List SeenP) : Prop where
  st : SnSt w0 w' a2 l2 c2 qs
  kept : Kept (OwnB (.slice a l c)) w w'
  new : ∀ k, (Value.slice a2 l2 c2).ownBlock = some k → (Value.slice a l c).ownBlock = some k ∨ w.heap.size ≤ k
theorem SnP.refl {w0 w w' : World} {a : Option Addr} {l c : Nat} {qs : List SeenP} (h : SnSt w0 w a l c qs) (hk : Kept NoB w w') : SnP w0 w w' a l c a l c qs :=
  ⟨h.on hk, hk.mono (fun _ _ e => e.elim), fun k e => .inl e⟩
theorem SnP.on {w0 w w' w2 : World} {a a2 : Option Addr} {l c l2 c2 : Nat} {qs : List SeenP} (h : SnP w0 w w' a l c a2 l2 c2 qs) (hk : Kept NoB w' w2) : SnP w0 w w2 a l c a2 l2 c2 qs :=
  ⟨h.st.on hk, h.kept.trans (hk.mono (fun _ _ e => e.elim)), h.new⟩
theorem SnP.trans {w0 w w' w2 : World} {a a2 a3 : Option Addr} {l c l2 c2 l3 c3 : Nat} {qs qs3 : List SeenP} (h : SnP w0 w w' a l c a2 l2 c2 qs) (g : SnP w0 w' w2 a2 l2 c2 a3 l3 c3 qs3) : SnP w0 w w2 a l c a3 l3 c3 qs3 := by
  have h1 := h.kept; have g1 := g.kept
  have hs := h1.size
  refine ⟨g.st, ⟨g1.os.trans h1.os, g1.tape.trans h1.tape, g1.output.trans h1.output, Nat.le_trans h1.size g1.size, fun i hi hn => ?_⟩, fun k hk => ?_⟩
  · refine (g1.block i (Nat.lt_of_lt_of_le hi hs) (fun e => ?_)).trans (h1.block i hi hn)
    rcases h.new i e with q | q
    · exact hn q
    · omega
  · rcases g.new k hk with q | q
    · exact h.new k q
    · exact .inr (by omega)
def Dis (w : World) (na : Option Addr) (v : Value) : Prop := ∀ x, na = some x → x.block < w.heap.size ∧ v.ownBlock ≠ some x.block
theorem Dis.step {w0 w w' : World} {na a a2 : Option Addr} {l c l2 c2 : Nat} {qs : List SeenP} (h : Dis w na (.slice a l c)) (g : SnP w0 w w' a l c a2 l2 c2 qs) : Dis w' na (.slice a2 l2 c2) := by
  intro x hx
  obtain ⟨h1, h2⟩ := h x hx
  have := g.kept.size
  refine ⟨by omega, fun e => ?_⟩
  rcases g.new _ e with q | q
  · exact h2 q
  · omega
theorem nms_reads {w : World} {ao : Option Addr} {c : Nat} {l : Nms} (h : w.ownsRow 0 9 1 (.slice ao l.length c) l.length (nmC l)) : RdS w w.heap.size ao (l.map Prod.fst) := by
  refine own_readsS (base := 0) (n := l.length) (cap := c) ?_ (by simp)
  have e : (l.map Prod.fst).map strV = nmC l := by unfold nmC; rw [List.map_map]; rfl
  rw [e]; exact h
theorem joinB_two (a b : List UInt8) : joinB [a, b] = a ++ 47 :: b := by
  simp [joinB, Lib.join]
theorem row_two (w : World) (a b : List UInt8) : RdS (w.alloc (.cells #[.string (strB a), .string (strB b)] 9)) (w.heap.size + 1) (some ⟨w.heap.size, 0, none⟩) [a, b] := by
  intro i hi
  refine ⟨w.heap.size, 0, rfl, by omega, ?_⟩
  rw [Nat.zero_add, cell_new (k := w.heap.size) i rfl]
  rcases (show i = 0 ∨ i = 1 by simp at hi; omega) with rfl | rfl <;> rfl
def BelowR (w0 w : World) (a : Option Addr) (l c : Nat) (qs : List SeenP) : Ending → World → Prop := fun e w' => ∃ a2 l2 c2, e = .returned (.slice a2 l2 c2) ∧ Hid (SnP w0 w w' a l c a2 l2 c2 qs)
set_option maxHeartbeats 4000000 in
theorem allBelow_core {S : Nat → Prop} {w0 : World} {f : Nat} {T : FsP} (h : FsSt S w0 f T) (hclk : T.clock ≤ 1000000000) (go : Int → List UInt8 → List SeenP) (dir : Int) (hdir : -9223372036854775808 ≤ dir ∧ dir ≤ 9223372036854775807) (path : List UInt8) (hp : path.length ≤ 500000000)
    (IH : ∀ p ∈ namesP T dir, ∀ (W : World) (a : Option Addr) (l c : Nat) (qs : List SeenP), SnSt w0 W a l c qs → qs.length + (go p.2 (joinW path p.1)).length ≤ 1000000000 →
      Calls Tryz.prog 53 #[.pointer (some ⟨f, 0, none⟩), .int .i64 p.2, .string (strB (joinW path p.1)), .slice a l c] W (BelowR w0 W a l c (qs ++ go p.2 (joinW path p.1))))
    (w : World) (a : Option Addr) (l c : Nat) (qs : List SeenP) (hS : SnSt w0 w a l c qs) (hl : qs.length + (allL go path (namesP T dir)).length ≤ 1000000000) :
    Calls Tryz.prog 53 #[.pointer (some ⟨f, 0, none⟩), .int .i64 dir, .string (strB path), .slice a l c] w (BelowR w0 w a l c (qs ++ allL go path (namesP T dir))) := by
  have HNs := Lib.hid (names_any (h.keptNo hS.kept) dir hdir hclk)
  have hOk : OkT T := by obtain ⟨L, B, mb, h1⟩ := h; exact h1.ok
  have HFd := Lib.hid (fun (p : List UInt8 × Int) (hp : p ∈ namesP T dir) => find_mem hOk hp)
  have HFs := Lib.hid h
  obtain ⟨nms, hn⟩ : ∃ nms, nms = namesP T dir := ⟨_, rfl⟩
  rw [← hn] at HNs HFd IH hl ⊢
  have hnl : nms.length ≤ 1000000000 := by
    have := names_in hOk dir
    rw [← hn] at this; omega
  have HIH := Lib.hid IH
  have HS := Lib.hid hS
  have HL := Lib.hid hl
  clear h hn IH hS hl hOk
  obtain ⟨n, hnn⟩ : ∃ n, n = nms.length := ⟨_, rfl⟩
  rw [← hnn] at HNs hnl
  have HNn := Lib.hid hnn
  clear hnn
  go_enter Tryz.func53, Tryz.ntmps53
  go_wp2_with (go_at_call 65; refine HNs.out.mono ?_; rintro e w1 ⟨na, nc, rfl, hq⟩)
  have hq2 := hq.out
  rw [HNn.out] at hq2
  have HR1 : Hid (RdS w1 w1.heap.size na (nms.map Prod.fst)) := Lib.hid (nms_reads hq2.1)
  have HD1 : Hid (Dis w1 na (.slice a l c)) := Lib.hid (fun x hx => by
    have hb := hq2.2.1 x.block (by rw [hx]; rfl)
    refine ⟨(hq2.1.lt x.block (by rw [hx]; rfl)).2, fun e => ?_⟩
    have := HS.out.low _ e
    omega)
  have HP1 : Hid (SnP w0 w w1 a l c a l c (qs ++ allL go path (nms.take 0))) := Lib.hid (by
    rw [List.take_zero]
    show SnP w0 w w1 a l c a l c (qs ++ [])
    rw [List.append_nil]
    exact SnP.refl HS.out hq2.2.2)
  clear hq hq2 HNs
  obtain ⟨B, hB⟩ : ∃ B, B = w1.heap.size := ⟨_, rfl⟩
  rw [← hB] at HR1
  clear hB
  go_wp2_with fail
  go_loopw [3, 10, 11, 12, 13, 18] (fun v3 v10 v11 v12 v13 v18 wr => ∃ (i : Nat) (a' : Option Addr) (l' c' : Nat), v3 = .slice a' l' c' ∧ v18 = .int .i64 (i : Int) ∧ i ≤ n ∧ Hid (SnP w0 w wr a l c a' l' c' (qs ++ allL go path (nms.take i))) ∧ Hid (RdS wr B na (nms.map Prod.fst)) ∧ Hid (Dis wr na (.slice a' l' c'))) (fun _ _ _ _ _ v18 _ => n - (intOf v18).toNat)
  case atStart => exact ⟨0, a, l, c, rfl, rfl, by omega, HP1, HR1, HD1⟩
  case round =>
    obtain ⟨i, a', l', c', rfl, rfl, hi, HP, HR, HD⟩ := hrel
    clear HP1 HR1 HD1
    by_cases hlt : (i : Int) < n
    · have hin : i < nms.length := by have := HNn.out; omega
      obtain ⟨g, off, rfl, hgl, hc0⟩ := HR.out i (by simpa using hin)
      obtain ⟨p, hpe⟩ : ∃ p, p = nms[i] := ⟨_, rfl⟩
      have hpm : p ∈ nms := by rw [hpe]; exact List.getElem_mem hin
      have hc1 : (nms.map Prod.fst).getD i [] = p.1 := by rw [hpe]; simp [List.getD, hin]
      rw [hc1] at hc0
      have HSn : Hid (allL go path (nms.take (i + 1)) = allL go path (nms.take i) ++ ((joinW path p.1, p.2) :: go p.2 (joinW path p.1))) := Lib.hid (by rw [hpe]; exact allL_snoc go path nms i hin)
      obtain ⟨hf1, hf2, hf3, hf4⟩ := HFd.out p hpm
      have HFi : Hid (Calls Tryz.prog 10 #[.pointer (some ⟨f, 0, none⟩), .int .i64 dir, .string (strB p.1)] wr fun e w' => e = .returned (.tuple #[.int .i64 p.2, .int .i64 0]) ∧ Kept NoB wr w') := Lib.hid (by
        have := find_any (HFs.out.keptNo HP.out.st.kept) dir hdir p.1 (by omega)
        rw [hf1] at this
        exact this)
      have HLen : Hid ((qs ++ allL go path (nms.take i)).length + 1 + (go p.2 (joinW path p.1)).length ≤ 1000000000) := Lib.hid (by
        have h1 := allL_take_le go path nms (i + 1)
        have h2 := HL.out
        have h3 := congrArg List.length HSn.out
        simp only [List.length_append, List.length_cons] at h3 ⊢
        omega)
      have HI := Lib.hid (HIH.out p hpm)
      obtain ⟨ino, hino⟩ : ∃ ino, ino = p.2 := ⟨_, rfl⟩
      obtain ⟨part, hpart⟩ : ∃ part, part = p.1 := ⟨_, rfl⟩
      rw [← hino] at HFi HSn HLen HI
      rw [← hpart] at HFi HSn HLen HI hc0 hf2
      clear hpe hpm hc1 hf1 hf3 hf4 hino hpart hin
      have hl5 : l' ≤ 1000000000 := by
        have h1 := HP.out.st.len
        have h2 := HLen.out
        omega
      go_upto_region 5 with (first | (go_at_call 10; refine HFi.out.mono ?_; rintro e w2 ⟨rfl, hk2⟩) | fail)
      have HP2 := Lib.hid (HP.out.on hk2)
      have HR2 := Lib.hid (HR.out.keptNo hk2)
      have HD2 : Hid (Dis w2 (some ⟨g, off, none⟩) (.slice a' l' c')) := Lib.hid (HD.out.step (SnP.refl HP.out.st hk2))
      clear HP HR HD hk2 HFi hc0 hgl
      have HJn : Hid (path ≠ [] → Calls Tryz.prog 66 #[.slice (some ⟨w2.heap.size, 0, none⟩) 2 2] (w2.alloc (.cells #[.string (strB path), .string (strB part)] 9)) fun e w' => e = .returned (.string (strB (joinW path part))) ∧ Kept NoB w2 w') := Lib.hid (fun hne => by
        have hln : (joinB [path, part]).length ≤ 1000000000 := by rw [joinB_two]; simp; omega
        have := njoin_any (some ⟨w2.heap.size, 0, none⟩) 2 (w2.heap.size + 1) [path, part] _ (row_two w2 path part) (by simp) (by simp) hln
        rw [joinB_two] at this
        have e : joinW path part = path ++ 47 :: part := by unfold joinW; rw [if_neg hne]
        rw [e]
        refine this.mono ?_
        rintro e w' ⟨rfl, hb⟩
        exact ⟨rfl, ((Kept.refl NoB w2).alloc _).ofBelow hb⟩)
      have HX : Hid ((strB path).toList = path) := Lib.hid (strB_list path)
      go_upto_if 31 with fail
      go_cut [13] from 29 to 35 (fun v13 wx => v13 = .string (strB (joinW path part)) ∧ Hid (Kept NoB w2 wx))
      case first =>
        by_cases hne : path = []
        · have e1 : (strB path).toList = [] := by rw [HX.out]; exact hne
          have e2 : (strB path).toList.isEmpty = true := by rw [e1]; rfl
          have HE3 : Hid (joinW path part = part) := Lib.hid (by unfold joinW; rw [if_pos hne])
          clear hne e1
          rw [e2]
          go_wp2
          go_meet
          exact ⟨by rw [HE3.out], Lib.hid (Kept.refl _ _)⟩
        · have HJ := Lib.hid (HJn.out hne)
          have e2 : (strB path).toList.isEmpty = false := by rw [HX.out]; cases path with | nil => exact absurd rfl hne | cons => rfl
          clear hne
          rw [e2]
          go_wp2_with (go_at_call 66; refine HJ.out.mono ?_; rintro e w3 ⟨rfl, hk3⟩)
          go_meet
          exact ⟨rfl, Lib.hid hk3⟩
      case rest =>
        obtain ⟨rfl, HK3⟩ := hcut
        clear HJn HX
        have HP3 := Lib.hid (HP2.out.on HK3.out)
        have HR3 := Lib.hid (HR2.out.keptNo HK3.out)
        have HD3 : Hid (Dis wc (some ⟨g, off, none⟩) (.slice a' l' c')) := Lib.hid (HD2.out.step (SnP.refl HP2.out.st HK3.out))
        clear HP2 HR2 HD2 HK3
        obtain ⟨J, hJ⟩ : ∃ J, J = joinW path part := ⟨_, rfl⟩
        rw [← hJ] at HSn HLen HI ⊢
        clear hJ
        obtain ⟨w4, hw4⟩ : ∃ w4, w4 = wc.alloc (.cells #[.string (strB J), .int .i64 ino] 82) := ⟨_, rfl⟩
        have hk4 : Kept NoB wc w4 := by rw [hw4]; exact (Kept.refl NoB wc).alloc _
        have HP4 := Lib.hid (HP3.out.on hk4)
        have HR4 := Lib.hid (HR3.out.keptNo hk4)
        have HD4 : Hid (Dis w4 (some ⟨g, off, none⟩) (.slice a' l' c')) := Lib.hid (HD3.out.step (SnP.refl HP3.out.st hk4))
        have hc0 : w4.cell? ⟨wc.heap.size, 0, none⟩ = some (.string (strB J)) := by rw [hw4, cell_new (k := wc.heap.size) 0 rfl]; rfl
        have hc1 : w4.cell? ⟨wc.heap.size, 1, none⟩ = some (.int .i64 ino) := by rw [hw4, cell_new (k := wc.heap.size) 1 rfl]; rfl
        have HW4 := Lib.hid hw4
        clear HP3 HR3 HD3 hk4 hw4
        go_wp2_with (at_builtin; rw [← HW4.out]; refine wpList_seen rfl _ _ rfl HP4.out.st rfl wc.heap.size 1 (J, ino) rfl hc0 hc1 hl5 ?_; intro a2 c2 w5 hs5 hk5 hn5)
        have hs4 : Kept NoB wc w4 := by rw [HW4.out]; exact (Kept.refl NoB wc).alloc _
        have HP5 : Hid (SnP w0 w w5 a l c a2 (l' + 1) c2 ((qs ++ allL go path (nms.take i)) ++ [(J, ino)])) := Lib.hid (HP4.out.trans ⟨hs5, hk5, hn5⟩)
        have HR5 : Hid (RdS w5 B (some ⟨g, off, none⟩) (nms.map Prod.fst)) := Lib.hid (HR4.out.keptD hk5 (fun x hx e => (HD4.out x hx).2 e))
        have HD5 : Hid (Dis w5 (some ⟨g, off, none⟩) (.slice a2 (l' + 1) c2)) := Lib.hid (HD4.out.step ⟨hs5, hk5, hn5⟩)
        have HC : Hid (Calls Tryz.prog 53 #[.pointer (some ⟨f, 0, none⟩), .int .i64 ino, .string (strB J), .slice a2 (l' + 1) c2] w5 (BelowR w0 w5 a2 (l' + 1) c2 (((qs ++ allL go path (nms.take i)) ++ [(J, ino)]) ++ go ino J))) := Lib.hid (HI.out w5 a2 (l' + 1) c2 _ hs5 (by have := HLen.out; simp only [List.length_append, List.length_cons, List.length_nil] at this ⊢; omega))
        clear HP4 HR4 HD4 hc0 hc1 hs5 hk5 hn5 hs4 HI HLen HW4
        go_wp2_with (go_at_call 53; refine HC.out.mono ?_; rintro e w6 ⟨a3, l3, c3, rfl, HP6⟩)
        have HP7 : Hid (SnP w0 w w6 a l c a3 l3 c3 (qs ++ allL go path (nms.take (i + 1)))) := Lib.hid (by
          have := HP5.out.trans HP6.out
          rw [HSn.out]
          simpa using this)
        have HR7 : Hid (RdS w6 B (some ⟨g, off, none⟩) (nms.map Prod.fst)) := Lib.hid (HR5.out.keptD HP6.out.kept (fun x hx e => (HD5.out x hx).2 e))
        have HD7 : Hid (Dis w6 (some ⟨g, off, none⟩) (.slice a3 l3 c3)) := Lib.hid (HD5.out.step HP6.out)
        clear HP5 HR5 HD5 HP6 HSn HC
        go_wp2_with fail
        go_roundw
        case rel => exact ⟨i + 1, a3, l3, c3, rfl, by go_num, by omega, HP7, HR7, HD7⟩
        case measure => simp [intOf]; omega
    · have he : nms.take i = nms := List.take_of_length_le (by have := HNn.out; omega)
      rw [he] at HP
      clear he
      go_wp2
      go_ret
      exact ⟨_, _, _, rfl, HP⟩
theorem allBelow_any {S : Nat → Prop} {w0 : World} {f : Nat} {T : FsP} (h : FsSt S w0 f T) (hclk : T.clock ≤ 1000000000) : ∀ (k : Nat) (dir : Int), (-9223372036854775808 ≤ dir ∧ dir ≤ 9223372036854775807) → Deep T k dir → ∀ (path : List UInt8), path.length + 256 * k ≤ 500000000 →
    ∀ (w : World) (a : Option Addr) (l c : Nat) (qs : List SeenP), SnSt w0 w a l c qs → qs.length + (allP T k dir path).length ≤ 1000000000 →
    Calls Tryz.prog 53 #[.pointer (some ⟨f, 0, none⟩), .int .i64 dir, .string (strB path), .slice a l c] w (BelowR w0 w a l c (qs ++ allP T k dir path)) := by
  have hOk : OkT T := by obtain ⟨L, B, mb, h1⟩ := h; exact h1.ok
  intro k
  induction k with
  | zero =>
    intro dir hdir hd path hp w a l c qs hS hl
    have hn : namesP T dir = [] := hd
    have := allBelow_core h hclk (fun _ _ => []) dir hdir path (by omega) (fun p hp => by rw [hn] at hp; cases hp) w a l c qs hS (by rw [hn]; simpa [allL, allP] using hl)
    rw [hn] at this
    exact this
  | succ k ih =>
    intro dir hdir hd path hp w a l c qs hS hl
    refine allBelow_core h hclk (allP T k) dir hdir path (by omega) (fun p hpm W a l c qs hS hl => ?_) w a l c qs hS hl
    obtain ⟨_, h2, _, h4⟩ := find_mem hOk hpm
    have h5 := joinW_len path p.1
    have h6 := hOk.next.2
    exact ih p.2 (by omega) (hd p hpm) _ (by omega) W a l c qs hS hl
set_option maxHeartbeats 1000000 in
/-- All. -/
theorem all_any {S : Nat → Prop} {w : World} {f : Nat} {T : FsP} (h : FsSt S w f T) (hclk : T.clock ≤ 1000000000) (k : Nat) (hk : k ≤ 1000000) (dir : Int) (hdir : -9223372036854775808 ≤ dir ∧ dir ≤ 9223372036854775807) (hd : Deep T k dir) (hl : (allP T k dir []).length ≤ 1000000000) :
    Calls Tryz.prog 40 #[.pointer (some ⟨f, 0, none⟩), .int .i64 dir] w fun e w' => ∃ a l c, e = .returned (.slice a l c) ∧ Hid (SnSt w w' a l c (allP T k dir [])) := by
  have H := Lib.hid (allBelow_any h hclk k dir hdir hd [] (by simp; omega) w none 0 0 [] (SnSt.start (Kept.refl _ _)) (by simpa using hl))
  clear h hd hl
  go_enter Tryz.func40, Tryz.ntmps40
  go_wp2_with (go_at_call 53; refine H.out.mono ?_; rintro e w1 ⟨a, l, c, rfl, hq⟩)
  go_ret
  exact ⟨a, l, c, rfl, Lib.hid (by have := hq.out.st; simpa using this)⟩
end Go.Proofs.YtjjgadanobeamaaGreatDoor

namespace Go.Proofs
open Go.Shelf
set_option linter.unusedVariables false

namespace YtjjgadanobeamaaGreatDoor
open Go.RowKit
def Pow10 (w : World) : Prop := Lib.TabIs Tryz.prog w "internal/strconv.uint64pow10" .u64 Lib.pow10Tab
theorem itoa_any (n : Int) (h0 : -9223372036854775808 ≤ n) (h1 : n ≤ 9223372036854775807) (w : World) (htab : Pow10 w) :
    Calls Tryz.prog 54 #[.int .i64 n] w fun e w' => e = .returned (.string ⟨(Lib.itoa n).toArray⟩) ∧ ∃ k os, w' = Sort.grow (w.drewN k) os := Any.strconv_Itoa Tryz.laysItoa n h0 h1 w htab
end YtjjgadanobeamaaGreatDoor
end Go.Proofs

namespace Go.Proofs.YtjjgadanobeamaaGreatDoor
open Go.RowKit
set_option linter.unusedVariables false

theorem i64_mask (n : Int) (k : Nat) (hk : k ≤ 62) : bits .and .i64 n ((2 ^ k - 1 : Nat) : Int) = n % ((2 ^ k : Nat) : Int) := by
  have h1 : 1 ≤ 2 ^ k := Nat.one_le_two_pow
  have h2 : 2 ^ k ≤ 2 ^ 62 := pow_le_pow2 hk
  have ha : (BitVec.ofInt 64 ((2 ^ k - 1 : Nat) : Int)).toNat = 2 ^ k - 1 := by
    rw [BitVec.ofInt_natCast, BitVec.toNat_ofNat]; exact Nat.mod_eq_of_lt (by omega)
  show IntKind.i64.wrap ((BitVec.ofInt 64 n &&& BitVec.ofInt 64 ((2 ^ k - 1 : Nat) : Int)).toNat : Int) = _
  rw [BitVec.toNat_and, ha, Nat.and_two_pow_sub_one_eq_mod]
  have hm : (((BitVec.ofInt 64 n).toNat : Nat) : Int) = n % 18446744073709551616 := by
    rw [BitVec.toNat_ofInt]
    omega
  have hlt : (BitVec.ofInt 64 n).toNat % 2 ^ k < 2 ^ k := Nat.mod_lt _ (by omega)
  rw [IntWalk.i64_in _ (by omega), Int.natCast_emod, hm]
  exact Int.emod_emod_of_dvd n (Int.ofNat_dvd.2 (show 2 ^ k ∣ 2 ^ 64 from Nat.pow_dvd_pow 2 (by omega)))

theorem mask255 (n : Int) : bits .and .i64 n 255 = n % 256 := i64_mask n 8 (by decide)
end Go.Proofs.YtjjgadanobeamaaGreatDoor

namespace Go.Proofs.YtjjgadanobeamaaGreatDoor
open Go.RowKit Go.Shelf
set_option linter.unusedVariables false
set_option linter.unusedSimpArgs false
set_option maxRecDepth 20000

def numB (n : Int) : List UInt8 := Lib.itoa n
theorem Kept.grow {w : World} (k : Nat) (os : Array Obj) : Kept NoB w (Sort.grow (w.drewN k) os) :=
  ⟨rfl, rfl, rfl, by simp [Sort.grow, World.drewN], fun i hi _ => by
    show (w.heap ++ os)[i]? = w.heap[i]?
    rw [Array.getElem?_append_left hi]⟩
theorem Pow10.keptS {S : Nat → Prop} {w w' : World} (h : Pow10 w) (hk : Kept S w w') (hs : ∀ g, Program.globalNamed Tryz.prog "internal/strconv.uint64pow10" = some g → ¬ S g) : Pow10 w' := by
  unfold Pow10 Lib.TabIs World.var? at h ⊢
  cases hg : Program.globalNamed Tryz.prog "internal/strconv.uint64pow10" with
  | none => rw [hg] at h; cases h
  | some g =>
    rw [hg] at h
    simp only [Option.bind_some] at h ⊢
    cases hh : w.heap[g]? with
    | none => rw [hh] at h; cases h
    | some o =>
      have hlt : g < w.heap.size := (Array.getElem?_eq_some_iff.1 hh).1
      rw [hk.block g hlt (hs g hg)]
      exact h
theorem Pow10.keptNo {w w' : World} (h : Pow10 w) (hk : Kept NoB w w') : Pow10 w' := h.keptS hk (fun _ _ e => e)
theorem itoaK_any (n : Int) (h0 : -9223372036854775808 ≤ n) (h1 : n ≤ 9223372036854775807) (w : World) (htab : Pow10 w) :
    Calls Tryz.prog 54 #[.int .i64 n] w fun e w' => e = .returned (.string (strB (Lib.itoa n))) ∧ Kept NoB w w' := by
  refine (itoa_any n h0 h1 w htab).mono ?_
  rintro e w' ⟨rfl, k, os, rfl⟩
  exact ⟨rfl, Kept.grow k os⟩
theorem StrSt.of {w0 w w' : World} {a a2 : Option Addr} {l c l2 c2 : Nat} {ps qs : List (List UInt8)} (h : StrSt w0 w a l c ps) (ho : w'.ownsRow 0 9 1 (.slice a2 l2 c2) l2 (qs.map strV)) (hl : l2 = qs.length) (hk : Kept (OwnB (Value.slice a l c)) w w') (hn : ∀ k, (Value.slice a2 l2 c2).ownBlock = some k → (Value.slice a l c).ownBlock = some k ∨ w.heap.size ≤ k) : StrSt w0 w' a2 l2 c2 qs := by
  have hk0 := h.kept
  refine ⟨hl, ho, ⟨hk.os.trans hk0.os, hk.tape.trans hk0.tape, hk.output.trans hk0.output, Nat.le_trans hk0.size hk.size, fun i hi _ => (hk.block i (Nat.lt_of_lt_of_le hi hk0.size) (fun q => by have := h.fresh i q; omega)).trans (hk0.block i hi id)⟩, fun k e => ?_⟩
  rcases hn k e with q | q
  · exact h.fresh k q
  · have := hk0.size; omega
theorem wpList_text {ops : Array Oper} {rest : List Oper} {o : Oper} {a : Act} {w : World} {Q : Exit → Act → World → Prop} (hgd : o.guard = none) (s x : Operand)
    (ho : o.op = .call { callee := .builtin .append, args := #[s, x], argTypes := #[36, 36] })
    {pa : Option Addr} {pl pc : Nat} {ps : List (List UInt8)} (hS : w.ownsRow 0 9 1 (.slice pa pl pc) pl (ps.map strV)) (hs : a.eval s = .slice pa pl pc)
    (g c : Nat) (p : List UInt8) (hx : a.eval x = .slice (some ⟨g, 0, none⟩) 1 c) (hc : w.cell? ⟨g, 0, none⟩ = some (.string (strB p))) (hb : pl ≤ 1000000000)
    (h : ∀ a2 c2 w', w'.ownsRow 0 9 1 (.slice a2 (pl + 1) c2) (pl + 1) ((ps ++ [p]).map strV) → Kept (OwnB (Value.slice pa pl pc)) w w' → (∀ k, (Value.slice a2 (pl + 1) c2).ownBlock = some k → (Value.slice pa pl pc).ownBlock = some k ∨ w.heap.size ≤ k) → wpList Tryz.prog ops Q rest (a.put o.dst (.slice a2 (pl + 1) c2)) w') : wpList Tryz.prog ops Q (o :: rest) a w := by
  obtain ⟨i0, hi, hz0, hz1, hz2⟩ := info_parts infoS
  refine wpList_app w hgd s x 36 ho 9 i0 (.string ⟨#[]⟩) 1 16 (by kernel_rfl) hi hz0 hz1 hz2 rfl (by decide) _ pl (ps.map strV) hs hS ⟨g, 0, none⟩ 1 c [strV p] hx rfl ?_ (fun u hu => by simp at hu; subst hu; rfl) (by unfold maxLen; omega) (by omega) ?_
  · intro j u hu
    rw [addr_add, Nat.zero_add]
    cases j with
    | zero => simp at hu; subst hu; exact hc
    | succ j => simp at hu
  intro v' w' h2 h3 h4
  obtain ⟨a2, c2, rfl⟩ := row_shape h2
  exact h _ _ _ (by rw [List.map_append]; exact h2) ((Kept.refl _ w).grown h3 (fun k hk e => e)) h4
def NumR (w : World) (ao : Option Addr) (zs : List Int) : Prop := ∀ i, i < zs.length → ∃ g off, ao = some ⟨g, off, none⟩ ∧ w.cell? ⟨g, off + i, none⟩ = some (.int .i64 (zs.getD i 0))
theorem NumR.keptD {S : Nat → Prop} {w w' : World} {ao : Option Addr} {zs : List Int} (h : NumR w ao zs) (hk : Kept S w w') (hs : ∀ x, ao = some x → ¬ S x.block) : NumR w' ao zs := by
  intro i hi
  obtain ⟨g, off, h1, h3⟩ := h i hi
  exact ⟨g, off, h1, (World.cell?_of_block (hk.block _ (World.block_lt_of_cell? w _ h3) (hs ⟨g, off, none⟩ h1))).trans h3⟩
theorem Dis.on {w w' : World} {na a a2 : Option Addr} {l c l2 c2 : Nat} (h : Dis w na (.slice a l c)) (hs : w.heap.size ≤ w'.heap.size) (hn : ∀ k, (Value.slice a2 l2 c2).ownBlock = some k → (Value.slice a l c).ownBlock = some k ∨ w.heap.size ≤ k) : Dis w' na (.slice a2 l2 c2) := by
  intro x hx
  obtain ⟨h1, h2⟩ := h x hx
  refine ⟨by omega, fun e => ?_⟩
  rcases hn _ e with q | q
  · exact h2 q
  · omega
set_option maxHeartbeats 4000000 in
theorem appNums_any {w0 w : World} {a : Option Addr} {l c : Nat} {ps : List (List UInt8)} (hS : StrSt w0 w a l c ps) (htab : Pow10 w0) (ao : Option Addr) (n nc : Nat) (zs : List Int) (hn : n = zs.length) (hz : NumR w ao zs) (hd : Dis w ao (.slice a l c)) (hzb : ∀ z ∈ zs, -9223372036854775808 ≤ z ∧ z ≤ 9223372036854775807) (hb : ps.length + zs.length ≤ 100000000) :
    Calls Tryz.prog 43 #[.slice a l c, .slice ao n nc] w fun e w' => ∃ a2 l2 c2, e = .returned (.slice a2 l2 c2) ∧ Hid (StrSt w0 w' a2 l2 c2 (ps ++ zs.map numB)) := by
  have HN := Lib.hid hn; have HZb := Lib.hid hzb; have HT := Lib.hid htab
  have HS0 : Hid (StrSt w0 w a l c (ps ++ (zs.take 0).map numB)) := Lib.hid (by simpa using hS)
  have HZ0 := Lib.hid hz; have HD0 := Lib.hid hd
  have hpl : ps.length + zs.length ≤ 100000000 := hb
  have hnb : n ≤ 100000000 := by omega
  clear hS htab hz hd hzb hn
  go_enter Tryz.func43, Tryz.ntmps43
  go_upto_region 2 with fail
  go_loopw [0, 6, 9] (fun v0 v6 v9 wr => ∃ (i : Nat) (a' : Option Addr) (l' c' : Nat), v0 = .slice a' l' c' ∧ v9 = .int .i64 (i : Int) ∧ i ≤ n ∧ Hid (StrSt w0 wr a' l' c' (ps ++ (zs.take i).map numB)) ∧ Hid (NumR wr ao zs) ∧ Hid (Dis wr ao (.slice a' l' c'))) (fun _ _ v9 _ => n - (intOf v9).toNat)
  case atStart => exact ⟨0, a, l, c, rfl, rfl, by omega, HS0, HZ0, HD0⟩
  case round =>
    obtain ⟨i, a', l', c', rfl, rfl, hi, HS, HZ, HD⟩ := hrel
    clear HS0 HZ0 HD0
    by_cases hlt : (i : Int) < n
    · have hin : i < zs.length := by have := HN.out; omega
      obtain ⟨g, off, rfl, hc0⟩ := HZ.out i hin
      obtain ⟨z, hze⟩ : ∃ z, z = zs.getD i 0 := ⟨_, rfl⟩
      have hzm : z ∈ zs := by rw [hze]; simp [List.getD, hin]
      have HTk : Hid (ps ++ (zs.take (i + 1)).map numB = (ps ++ (zs.take i).map numB) ++ [numB z]) := Lib.hid (by
        have e : zs[i] = z := by rw [hze]; simp [List.getD, hin]
        rw [List.take_succ_eq_append_getElem hin, e]; simp)
      rw [← hze] at hc0
      have hzr := HZb.out z hzm
      have HI := Lib.hid (itoaK_any z hzr.1 hzr.2 wr (HT.out.keptNo HS.out.kept))
      have hll : l' ≤ 1000000000 := by
        have h1 := HS.out.len
        simp only [List.length_append, List.length_map, List.length_take] at h1
        omega
      clear hze hzm hzr hin
      obtain ⟨st, hst⟩ : ∃ st, st = numB z := ⟨_, rfl⟩
      have HI2 : Hid (Calls Tryz.prog 54 #[.int .i64 z] wr fun e w' => e = .returned (.string (strB st)) ∧ Kept NoB wr w') := Lib.hid (by rw [hst]; exact HI.out)
      rw [← hst] at HTk
      clear hst HI
      go_upto_region 4 with fail
      go_wp2_with (first | (go_at_call 54; refine HI2.out.mono ?_; rintro e w2 ⟨rfl, hk2⟩; have HK2 := Lib.hid hk2; clear hk2) | (at_builtin; refine wpList_text rfl _ _ rfl ((((Kept.refl NoB w2).alloc _)).row ((HS.out.on HK2.out).own) (fun _ _ h => h)) rfl w2.heap.size 1 st rfl (cell_new (k := w2.heap.size) 0 rfl) hll ?_; intro a2 c2 w5 ho5 hk5 hn5))
      have HS5 : Hid (StrSt w0 w5 a2 (l' + 1) c2 (ps ++ (zs.take (i + 1)).map numB)) := Lib.hid (by
        have h2 := (HS.out.on HK2.out).alloc (.cells #[.string (strB st)] 9)
        rw [HTk.out]
        refine h2.of ho5 ?_ hk5 hn5
        have := h2.len
        simp only [List.length_append, List.length_cons, List.length_nil] at this ⊢
        omega)
      have hkA : Kept NoB wr (w2.alloc (.cells #[.string (strB st)] 9)) := HK2.out.alloc _
      have hdA : Dis (w2.alloc (.cells #[.string (strB st)] 9)) (some ⟨g, off, none⟩) (.slice a' l' c') := HD.out.on hkA.size (fun k e => .inl e)
      have HZ5 : Hid (NumR w5 (some ⟨g, off, none⟩) zs) := Lib.hid ((HZ.out.keptD hkA (fun x _ h => h)).keptD hk5 (fun x hx e => (hdA x hx).2 e))
      have HD5 : Hid (Dis w5 (some ⟨g, off, none⟩) (.slice a2 (l' + 1) c2)) := Lib.hid (hdA.on hk5.size hn5)
      clear hkA hdA ho5 hk5 hn5 HS HZ HD HK2 hc0
      go_wp2
      go_roundw
      case rel => exact ⟨i + 1, a2, l' + 1, c2, rfl, by go_num, by omega, HS5, HZ5, HD5⟩
      case measure => simp [intOf]; omega
    · have he : zs.take i = zs := List.take_of_length_le (by have := HN.out; omega)
      rw [he] at HS
      clear he
      go_wp2
      go_ret
      exact ⟨_, _, _, rfl, HS⟩
end Go.Proofs.YtjjgadanobeamaaGreatDoor
