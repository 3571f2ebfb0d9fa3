/-
  A source of bytes in pieces: NewSource, At, size, Next.
-/
import Derived.Test.YtffoigacpnlkgaaFeedA
import Derived.Deep.RegionHeld3
import Derived.BigRegion
namespace Go.Proofs.Ytffoigacpnlkgaa
open Go.RowKit
set_option linter.unusedVariables false
set_option linter.unusedSimpArgs false

def NewS (w : World) (bs zs : List Int) (e : Ending) (w' : World) : Prop :=
  ∃ S ab cb az cz, e = .returned (.pointer (some ⟨S, 0, none⟩)) ∧ Src w' S w.heap.size ab cb bs az cz zs 0 0 ∧ Kept NoB w w'

theorem own_block {w : World} {base n cap : Nat} {ao : Option Addr} {xs : List Value} {e : TypeId} (h : w.ownsRow base e 1 (.slice ao n cap) n xs) {a : Addr} (ha : ao = some a) : (Value.slice ao n cap).ownBlock = some a.block := by
  subst ha
  rcases h.2 with ⟨hv, _⟩ | ⟨g, c, cur, hv, _⟩
  · simp at hv
  · simp at hv; rw [hv.1]; rfl

set_option maxHeartbeats 1000000 in
theorem news_any (w : World) (ab : Option Addr) (cb : Nat) (bs : List Int) (az : Option Addr) (cz : Nat) (zs : List Int) (hr : Reads w ab bs) (hb : AllB bs) (hl : bs.length ≤ 1000000)
    (hi : RdI w w.heap.size az zs) (hz0 : az = none → zs.length = 0 ∧ cz = 0) (hzl : zs.length ≤ 1000000) (hza : AllI zs) :
    Calls Try.prog 44 #[.slice ab bs.length cb, .slice az zs.length cz] w (NewS w bs zs) := by
  have HR := Lib.hid hr; have HB := Lib.hid hb; have HI := Lib.hid hi; have HZ0 := Lib.hid hz0; have HZa := Lib.hid hza
  clear hr hb hi hz0 hza
  go_enter Try.func44, Try.ntmps44
  go_wp2_with fail
  refine (clone_any _ _ _ _ HR.out (by omega)).mono ?_
  rintro e w1 ⟨ab', cb', rfl, ho, hf, hn, hk⟩
  have HO := Lib.hid ho; have HF := Lib.hid hf; have HK := Lib.hid hk
  clear ho hf hn hk
  have HI1 := Lib.hid ((HI.out.kept HK.out (fun _ _ h => h)).room)
  go_wp2_with fail
  refine (clonei_any _ _ _ _ HI1.out hzl HZ0.out).mono ?_
  rintro e w2 ⟨az', cz', rfl, hri, hrf, hk2⟩
  have HRI := Lib.hid hri; have HRF := Lib.hid hrf; have HK2 := Lib.hid hk2
  clear hri hrf hk2
  go_wp2
  go_ret
  have hs1 := HK.out.size
  have hs2 := HK2.out.size
  have ho2 := HK2.out.row HO.out (fun _ _ h => h)
  have hc := own_cap ho2
  refine ⟨w2.heap.size, ab', cb', az', cz', rfl, ⟨heap_alloc_new _ _, ?_, ?_, ?_, ?_, by omega, ⟨hc.1, hc.2, own_nil ho2⟩, Nat.zero_le _, ?_, hl, hzl, HB.out, HZa.out⟩, (HK.out.trans HK2.out).alloc _⟩
  · exact (own_reads ho2 rfl).keptNo ((Kept.refl _ _).alloc _)
  · intro a ha
    have hbk := own_block ho2 ha
    exact ⟨HF.out _ hbk, (ho2.lt _ hbk).2⟩
  · exact HRI.out.kept ((Kept.refl NoB _).alloc _) (fun _ _ h => h)
  · intro hne a ha
    have := HRF.out hne a ha
    omega
  · cases zs with
    | nil => exact .inl rfl
    | cons => exact .inr (by simp)

set_option maxHeartbeats 1000000 in
theorem at_any (w : World) {S L : Nat} {ab : Option Addr} {cb : Nat} {bs : List Int} {az : Option Addr} {cs : Nat} {zs : List Int} {p t : Nat} (h : Src w S L ab cb bs az cs zs p t) :
    Calls Try.prog 46 #[.pointer (some ⟨S, 0, none⟩)] w fun e w' => e = .returned (.int .i64 p) ∧ Kept NoB w w' := by
  have c2 : w.cell? ⟨S, 2, none⟩ = some (.int .i64 p) := by simpa using obj_cell h.obj 2
  clear h
  go_enter Try.func46, Try.ntmps46
  go_wp2
  go_ret
  exact ⟨rfl, Kept.refl _ _⟩

/-- The size that is said next; which one is said behind it. -/
def szOf (bs zs : List Int) (t : Nat) : Int := if zs = [] then bs.length else if zs.getD t 0 < 1 then 1 else zs.getD t 0
def tn (zs : List Int) (t : Nat) : Nat := if zs = [] then t else (t + 1) % zs.length
theorem szOf_bd {bs zs : List Int} (hz : AllI zs) (hb : bs.length ≤ 1000000) (t : Nat) : szOf bs zs t ≤ 9223372036854775807 ∧ 0 ≤ szOf bs zs t ∧ (0 < bs.length → 1 ≤ szOf bs zs t) := by
  have := hz.getD t
  unfold szOf
  split
  · omega
  · split <;> omega

set_option maxHeartbeats 2000000 in
theorem size_any (w : World) {S L : Nat} {ab : Option Addr} {cb : Nat} {bs : List Int} {az : Option Addr} {cs : Nat} {zs : List Int} {p t : Nat} (h : Src w S L ab cb bs az cs zs p t) :
    Calls Try.prog 59 #[.pointer (some ⟨S, 0, none⟩)] w fun e w' => e = .returned (.int .i64 (szOf bs zs t)) ∧ Src w' S L ab cb bs az cs zs p (tn zs t) ∧ Kept (OneB S) w w' := by
  have H := Lib.hid h
  have c0 : w.cell? ⟨S, 0, none⟩ = some (.slice ab bs.length cb) := by simpa using obj_cell h.obj 0
  have c1 : w.cell? ⟨S, 1, none⟩ = some (.slice az zs.length cs) := by simpa using obj_cell h.obj 1
  have c3 : w.cell? ⟨S, 3, none⟩ = some (.int .i64 t) := by simpa using obj_cell h.obj 3
  have f3 : w.frozen? ⟨S, 3, none⟩ = false := obj_free h.obj 3
  have hzl := h.zl
  go_enter Try.func59, Try.ntmps59
  by_cases h0 : zs = []
  · subst h0
    have hs : szOf bs [] t = bs.length := by unfold szOf; rw [if_pos rfl]
    have ht : tn [] t = t := by unfold tn; rw [if_pos rfl]
    rw [hs, ht]
    clear hs ht h
    go_wp2
    go_ret
    exact ⟨rfl, H.out, Kept.refl _ _⟩
  · have hz0 : ((zs.length : Int) == 0) = false := by
      have : zs.length ≠ 0 := fun e => h0 (List.eq_nil_of_length_eq_zero e)
      simp; omega
    have htl : t < zs.length := by rcases h.tl with e | e; exact absurd e h0; exact e
    obtain ⟨g, off, haz, hg, hc⟩ := h.ri t htl
    have hzb := h.zall.getD t
    have hs : szOf bs zs t = if zs.getD t 0 < 1 then 1 else zs.getD t 0 := by unfold szOf; rw [if_neg h0]
    have ht : tn zs t = (t + 1) % zs.length := by unfold tn; rw [if_neg h0]
    rw [hs, ht]
    have HZ0 := Lib.hid h0
    clear hs ht h h0
    generalize zs.getD t 0 = z at hc hzb ⊢
    obtain ⟨n, hn⟩ : ∃ n, n = zs.length := ⟨_, rfl⟩
    have HN := Lib.hid hn
    rw [← hn] at c1 hz0 htl hzl ⊢
    clear hn
    have hmod : ((t : Int) + 1) % (n : Int) = (((t + 1) % n : Nat) : Int) := by push_cast; rfl
    have hml : (t + 1) % n < n := Nat.mod_lt _ (by omega)
    generalize (t + 1) % n = u at hmod hml ⊢
    subst haz
    go_wp2
    go_quiet (fail)
    go_wp2
    go_region
    go_wp2
    all_goals
      go_ret
      have hK : Kept (OneB S) w ((w.drewN (nq + 1)).setCell ⟨S, 3, none⟩ (.int .i64 u)) := Kept.setCell (S := OneB S) (p := ⟨S, 3, none⟩) ((Kept.refl _ _).drewN _) (.inl rfl) _
      refine ⟨rfl, H.out.moved hK H.out.pl (.inr (by have := HN.out; omega)) ?_, hK⟩
      simpa using obj_set (((Kept.refl NoB w).drewN (nq + 1)).obj H.out.obj (fun h => h)) 3 (.int .i64 u)

set_option maxHeartbeats 1000000 in
theorem next_end (w : World) {S L : Nat} {ab : Option Addr} {cb : Nat} {bs : List Int} {az : Option Addr} {cs : Nat} {zs : List Int} {p t : Nat} (h : Src w S L ab cb bs az cs zs p t) (hp : p = bs.length) :
    Calls Try.prog 45 #[.pointer (some ⟨S, 0, none⟩)] w fun e w' => e = .returned (.tuple #[.slice none 0 0, .bool false]) ∧ Kept NoB w w' := by
  have c0 : w.cell? ⟨S, 0, none⟩ = some (.slice ab bs.length cb) := by simpa using obj_cell h.obj 0
  have c2 : w.cell? ⟨S, 2, none⟩ = some (.int .i64 p) := by simpa using obj_cell h.obj 2
  have hbl := h.bl
  subst hp
  clear h
  go_enter Try.func45, Try.ntmps45
  go_wp2
  go_quiet (fail)
  go_wp2
  go_ret2
  exact ⟨rfl, (Kept.refl _ _).drewN _⟩

/-- A piece that was told: a row of its own; the source behind it. -/
def Piece (w : World) (S L : Nat) (ab : Option Addr) (cb : Nat) (bs : List Int) (az : Option Addr) (cs : Nat) (zs : List Int) (p t n : Nat) (e : Ending) (w' : World) : Prop :=
  ∃ ao cap, e = .returned (.tuple #[.slice ao n cap, .bool true]) ∧ Hid (w'.ownsRow 0 5 1 (.slice ao n cap) n (((bs.drop p).take n).map (.int .u8))) ∧
    Hid (∀ k, (Value.slice ao n cap).ownBlock = some k → w.heap.size ≤ k) ∧ Hid (Src w' S L ab cb bs az cs zs (p + n) (tn zs t)) ∧ Hid (Kept (OneB S) w w')

set_option maxRecDepth 20000 in
set_option maxHeartbeats 2000000 in
theorem next_some (w : World) {S L : Nat} {ab : Option Addr} {cb : Nat} {bs : List Int} {az : Option Addr} {cs : Nat} {zs : List Int} {p t n : Nat} (h : Src w S L ab cb bs az cs zs p t) (hp : p < bs.length)
    (hn : (n : Int) = if (bs.length : Int) - p < szOf bs zs t then (bs.length : Int) - p else szOf bs zs t) :
    Calls Try.prog 45 #[.pointer (some ⟨S, 0, none⟩)] w (Piece w S L ab cb bs az cs zs p t n) := by
  have H := Lib.hid h
  have c0 : w.cell? ⟨S, 0, none⟩ = some (.slice ab bs.length cb) := by simpa using obj_cell h.obj 0
  have c2 : w.cell? ⟨S, 2, none⟩ = some (.int .i64 p) := by simpa using obj_cell h.obj 2
  have hbl := h.bl
  have hsz := szOf_bd h.zall h.bl (bs := bs) t
  obtain ⟨hlc, hcm, hn0⟩ := h.cap
  have hnl : p + n ≤ bs.length := by split at hn <;> omega
  obtain ⟨x, rfl⟩ : ∃ x, ab = some x := by
    cases ab with
    | none => have := hn0 rfl; omega
    | some x => exact ⟨x, rfl⟩
  have hz : (((bs.length : Int) - p) == 0) = false := by simp; omega
  clear h hn0
  go_enter Try.func45, Try.ntmps45
  go_wp2
  go_quiet (fail)
  have hHd := H.out.keptNo ((Kept.refl NoB w).drewN nq)
  have HHd := Lib.hid hHd
  generalize hwd : w.drewN nq = wd at HHd ⊢
  have hkd : Kept NoB w wd := by rw [← hwd]; exact (Kept.refl _ _).drewN _
  have HKd := Lib.hid hkd
  clear hHd hwd hkd c0 c2
  go_upto_region 4 with fail
  go_cut [5] from 19 to 22 (fun s wx => s = .int .i64 n ∧ Src wx S L (some x) cb bs az cs zs p (tn zs t) ∧ Kept (OneB S) wd wx)
  case first =>
    go_wp2_with fail
    refine (size_any _ HHd.out).mono ?_
    rintro e w1 ⟨rfl, hS, hk1⟩
    have HS := Lib.hid hS; have HK1 := Lib.hid hk1; clear hS hk1
    go_wp2
    all_goals go_meet
    all_goals exact ⟨by congr 1; omega, HS.out, HK1.out⟩
  case rest =>
  obtain ⟨rfl, hS, hk1⟩ := hcut
  have HS := Lib.hid hS; have HK1 := Lib.hid hk1
  have hS0 := hS.obj
  clear hS hk1 hn hsz
  have hc0 : ∀ W, Kept NoB wc W → W.cell? ⟨S, 0, none⟩ = some (.slice (some x) bs.length cb) := fun W hk => by simpa using obj_cell (hk.obj hS0 (fun h => h)) 0
  have hc2 : ∀ W, Kept NoB wc W → W.cell? ⟨S, 2, none⟩ = some (.int .i64 p) := fun W hk => by simpa using obj_cell (hk.obj hS0 (fun h => h)) 2
  have HS0 := Lib.hid hS0; clear hS0
  have hxl : ((bs.drop p).take n).length = n := by rw [List.length_take, List.length_drop]; omega
  have hcl : Hid (∀ W, Kept NoB wc W → Calls Try.prog 54 #[.slice (some (x.add p)) n (cb - p)] W (Copied W (some (x.add p)) ((bs.drop p).take n))) := fun W hk => by
    have h := clone_any (some (x.add p)) (cb - p) ((bs.drop p).take n) W (reads_take n (reads_drop p (HS.out.rd.keptNo hk))) (by omega)
    rwa [hxl] at h
  have HXl := Lib.hid hxl; clear hxl
  obtain ⟨xs, hxs⟩ : ∃ xs, xs = (bs.drop p).take n := ⟨_, rfl⟩
  rw [← hxs] at hcl HXl
  have HXs := Lib.hid hxs; clear hxs
  obtain ⟨q, hq⟩ : ∃ q, q = p + n := ⟨_, rfl⟩
  have hqp : q - p = n := by omega
  have hpq : (p : Int) + n = q := by omega
  have hqw : IntKind.i64.wrap (q : Int) = q := IntWalk.i64_in _ (by omega)
  have hp0 : (0 : Int) ≤ q := by omega
  have hpp : (0 : Int) ≤ p := by omega
  have hpc : (q : Int) ≤ cb := by omega
  have hpc2 : (p : Int) < cb := by omega
  have hpc3 : (p : Int) ≤ cb := by omega
  have hpn : (p : Int) ≤ q := by omega
  have hne : ¬ cb = p := by omega
  have HQ := Lib.hid hq; have HQP := Lib.hid hqp
  rw [← hqp] at hcl
  clear hq hqp
  have hcm' : (cb : Int) ≤ 9223372036854775807 := by unfold maxLen at hcm; omega
  go_wp2_with fail
  go_region_held3 (fun W => Kept NoB wc W) (first | assumption | exact Kept.drew (Kept.refl _ _) | exact Kept.drew (by assumption) | exact Kept.trans (by assumption) hkn)
    (first
      | (go_at_call 54; ((with_reducible refine (hcl.out _ (by assumption)).mono ?_); rintro e wn ⟨ao', cap', rfl, ho, hf, hn', hkn⟩)))
  have hw : Kept NoB wc wn := by assumption
  have hS2 := HS.out.keptNo hw
  have c2 : wn.cell? ⟨S, 2, none⟩ = some (.int .i64 p) := by simpa using obj_cell hS2.obj 2
  have f2 : wn.frozen? ⟨S, 2, none⟩ = false := obj_free hS2.obj 2
  have HS2 := Lib.hid hS2; have HW := Lib.hid hw; have HO := Lib.hid ho; have HF := Lib.hid hf
  clear hS2 hw ho hf hn' hc0 hc2 hcl
  go_wp2
  go_ret2
  have hsz := HW.out.size
  have hk : Kept (OneB S) w wn := ((HKd.out.mono (fun _ _ h => h.elim)).trans HK1.out).trans (HW.out.mono (fun _ _ h => h.elim))
  have hk2 : Kept (OneB S) w (wn.setCell ⟨S, 2, none⟩ (.int .i64 q)) := Kept.setCell (S := OneB S) (p := ⟨S, 2, none⟩) hk (.inl rfl) _
  have hk1 : Kept (OneB S) wn (wn.setCell ⟨S, 2, none⟩ (.int .i64 q)) := Kept.setCell (S := OneB S) (p := ⟨S, 2, none⟩) (Kept.refl _ _) (.inl rfl) _
  have ho := HO.out
  have hf := HF.out
  have hne : ∀ k, (Value.slice ao' xs.length cap').ownBlock = some k → ¬ OneB S k := by
    intro k hkk e
    have h1 := hf k hkk
    have h2 := obj_lt HS.out.obj
    unfold OneB at e
    have h3 : wc.drew.heap.size = wc.heap.size := rfl
    omega
  have hx := HXl.out
  refine ⟨ao', cap', by rw [← hx]; rfl, ?_, ?_, ?_, hk2⟩
  · rw [← HXs.out, ← hx]; exact hk1.row ho hne
  · rw [← hx]; intro k hkk
    have h1 := hf k hkk
    have h3 : wc.drew.heap.size = wc.heap.size := rfl
    have h4 := (HKd.out.mono (T := OneB S) (fun _ _ h => h.elim)).trans HK1.out
    have h5 := h4.size
    omega
  · rw [← HQ.out]
    refine HS2.out.moved hk1 (by have := HQ.out; omega) HS2.out.tl ?_
    simpa using obj_set HS2.out.obj 2 (.int .i64 q)
end Go.Proofs.Ytffoigacpnlkgaa
