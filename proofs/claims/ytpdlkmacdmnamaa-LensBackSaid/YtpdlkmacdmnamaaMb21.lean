/-
  lens.readCode: the code of lengths is read.
  How a head is written, on paper: what is put, and that it is read as it was.
  Runs that came in; rows of runs of the call's own.
-/
import Derived.Test.YtpdlkmacdmnamaaMb20
namespace Go.Proofs.Ytpdlkmacdmnamaa
open Go.RowKit
set_option linter.unusedVariables false
set_option linter.unusedSimpArgs false

theorem order19 (w : World) : Calls Try.prog 20 #[] w fun e w' => e = .returned (.slice (some ⟨w.heap.size, 0, none⟩) 19 19) ∧ RdI w' w'.heap.size (some ⟨w.heap.size, 0, none⟩) ordL ∧ Kept NoB w w' ∧ w.heap.size < w'.heap.size := by
  go_enter Try.func20, Try.ntmps20
  go_wp2
  go_ret
  exact ⟨rfl, lit_readsI _ rfl, (Kept.refl _ _).alloc _, by simp⟩
theorem ord_at : ∀ i, i < 19 → 0 ≤ ordL.getD i 0 ∧ ordL.getD i 0 < 19 := by decide
theorem full_ref {ls : List Int} (h : fullB ls = true) : refS ls = 0 := by
  have hm := full_may h
  unfold fullB kindA at h
  rw [if_pos hm] at h
  unfold refS
  rcases kindS_of ls with k | k | k | k | k <;> simp [k] at h ⊢
/-- What readCode tells: its Decoder, where the reader is then. -/
def CodeRP (bs : List Int) (p n R : Nat) (ao : Option Addr) (cap : Nat) (w : World) (e : Ending) (w' : World) : Prop :=
  Kept (OneB R) w w' ∧ (∃ q, Rdr w' R ao cap bs q ∧ (p + 3 * n ≤ 8 * bs.length → q = p + 3 * n)) ∧
  (if 8 * bs.length < p + 3 * n then e = .returned (.tuple #[.pointer none, .int .i64 2])
   else if fullB (codeT bs p n) = false then e = .returned (.tuple #[.pointer none, .int .i64 6])
   else ∃ D, e = .returned (.tuple #[.pointer (some ⟨D, 0, none⟩), .int .i64 0]) ∧ DecG (codeT bs p n) D (fun k => w.heap.size ≤ k) w')
set_option maxRecDepth 20000 in
set_option maxHeartbeats 8000000 in
theorem readCode_any (bs : List Int) (p n R : Nat) (ao : Option Addr) (cap : Nat) (w : World) (hr : Rdr w R ao cap bs p) (hn : n ≤ 19) :
    Calls Try.prog 30 #[.pointer (some ⟨R, 0, none⟩), .int .i64 (n : Int)] w (CodeRP bs p n R ao cap w) := by
  obtain ⟨i0, hi, hz0, hz1, hz2⟩ := info_parts infoI
  have hlf := left_any w R ao cap bs p hr
  have hRw := obj_lt hr.1
  have hp8 := hr.2.2.2.1
  have hbl := hr.2.2.1
  have HLf := Lib.hid hlf; have HR := Lib.hid hr
  obtain ⟨L8, hL8⟩ : ∃ L8, L8 = 8 * bs.length := ⟨_, rfl⟩
  clear hlf hr
  go_enter Try.func30, Try.ntmps30
  go_wp2_with fail
  with_reducible refine HLf.out.mono ?_
  rintro e w1 ⟨rfl, hk1⟩
  have HR1 := Lib.hid (HR.out.keptNo hk1); have HK1 := Lib.hid hk1
  clear hk1 HLf
  have e1 : (8 : Int) * (bs.length : Int) = (L8 : Int) := by omega
  rw [e1]
  by_cases hsh : L8 < p + 3 * n
  · have hsh2 : (L8 : Int) - p < 3 * n := by omega
    have hif : 8 * bs.length < p + 3 * n := by omega
    have HIf := Lib.hid hif
    clear hif hL8 e1
    go_wp2
    go_ret2
    refine ⟨HK1.out.mono (fun _ _ h => h.elim), ⟨p, HR1.out, fun h => by have := HIf.out; omega⟩, ?_⟩
    rw [if_pos HIf.out]
    rfl
  · have hsh2 : ¬ (L8 : Int) - p < 3 * n := by omega
    have hif : ¬ 8 * bs.length < p + 3 * n := by omega
    have HIf := Lib.hid hif; have HL8 := Lib.hid hL8
    clear hif hL8 e1 hbl
    go_wp2_with (at_make; refine wpList_make_full _ rfl _ _ _ rfl 0 3 i0 (.int .i64 0) 1 Try.underlying23 hi hz0 hz1 .i64 .i64 _ _ 19 rfl rfl rfl rfl (by rw [hz2]; omega) (by unfold maxLen; omega) (Nat.zero_le _) ?_)
    intro w2 hown hgrow
    obtain ⟨G, hG⟩ : ∃ G, G = w1.heap.size := ⟨_, rfl⟩
    have hGw : w.heap.size ≤ G := by rw [hG]; exact HK1.out.size
    rw [← hG] at hown ⊢
    have hk2 : Kept NoB w w2 := HK1.out.grown hgrow (fun _ _ e => by cases e)
    have hO2 : w2.ownsRow 0 3 1 (.slice (some ⟨G, 0, none⟩) 19 19) 19 ((codeT bs p 0).map (.int .i64)) := by
      unfold codeT; rw [List.map_replicate, ← toList_madeCells_one]; exact hown
    have HK2 := Lib.hid hk2; have HO2 := Lib.hid hO2; have HR2 := Lib.hid (HR.out.keptNo hk2)
    clear hown hgrow hG hk2 hO2 HR1 HK1
    go_wp2_with fail
    with_reducible refine (order19 w2).mono ?_
    rintro e w3 ⟨rfl, hor, hk3, hlt3⟩
    obtain ⟨H, hH⟩ : ∃ H, H = w2.heap.size := ⟨_, rfl⟩
    have hHw : w.heap.size ≤ H := by rw [hH]; exact HK2.out.size
    have hHR : H ≠ R := by have := obj_lt HR2.out.1; omega
    have hHG : H ≠ G := by have := own_lt HO2.out G rfl; omega
    rw [← hH] at hor ⊢
    have HOr := Lib.hid hor; have HK3 := Lib.hid (HK2.out.trans hk3); have HR3 := Lib.hid (HR2.out.keptNo hk3); have HO3 := Lib.hid (hk3.row HO2.out (fun _ _ h => h))
    clear hor hk3 hlt3 hH HR2 HO2 HK2
    have hcw : ∀ i, i < 19 → w3.cell? ⟨H, i, none⟩ = some (.int .i64 (ordL.getD i 0)) := fun i hi => by
      obtain ⟨g, o, h1, h2, h3⟩ := HOr.out i hi
      cases h1
      simpa using h3
    have HCw := Lib.hid hcw
    clear hcw HOr
    have hn0 : (0 : Int) ≤ n := by omega
    go_wp2_with fail
    go_loopw [21, 8, 9, 10] (fun v21 _ _ _ wr => ∃ (i : Nat), v21 = .int .i64 (i : Int) ∧ i ≤ n ∧ Hid (wr.ownsRow 0 3 1 (.slice (some ⟨G, 0, none⟩) 19 19) 19 ((codeT bs p i).map (.int .i64))) ∧ Hid (Rdr wr R ao cap bs (p + 3 * i)) ∧ Hid (Kept (OneB R) w wr) ∧ Hid (∀ i, i < 19 → wr.cell? ⟨H, i, none⟩ = some (.int .i64 (ordL.getD i 0)))) (fun v21 _ _ _ _ => n - (intOf v21).toNat)
    case atStart => exact ⟨0, rfl, by omega, HO3, HR3, Lib.hid (HK3.out.mono (fun _ _ h => h.elim)), HCw⟩
    case round =>
      clear HO3 HR3 HK3 HCw
      obtain ⟨i, rfl, hin, HO, HRr, HK, HC⟩ := hrel
      by_cases hlt : i < n
      · have hlt2 : (i : Int) < n := by omega
        have hc := HC.out i (by omega)
        obtain ⟨o1, o2⟩ := ord_at i (by omega)
        obtain ⟨k, hk⟩ : ∃ k : Nat, ordL.getD i 0 = (k : Int) := ⟨(ordL.getD i 0).toNat, by omega⟩
        rw [hk] at hc
        have hk19 : k < 19 := by omega
        have hk19' : (k : Int) < 19 := by omega
        have htk := take_yes wr R ao cap bs (p + 3 * i) 3 HRr.out (by decide) (by have := HIf.out; omega)
        have hct : codeT bs p (i + 1) = (codeT bs p i).set k ((bitsAt bs (p + 3 * i) 3 : Nat) : Int) := by rw [codeT, hk, Int.toNat_natCast]
        have hx8 := bitsAt_lt bs (p + 3 * i) 3
        obtain ⟨x, hx⟩ : ∃ x, x = bitsAt bs (p + 3 * i) 3 := ⟨_, rfl⟩
        rw [← hx] at htk hct hx8
        rw [show ((3 : Nat) : Int) = 3 from rfl] at htk
        have hx8' : x < 8 := hx8
        have wx : IntKind.i64.wrap (x : Int) = (x : Int) := IntWalk.i64_in _ (by omega)
        have HTk := Lib.hid htk; have HCt := Lib.hid hct
        clear htk hct hx8 hx hk o1 o2 HRr
        go_wp2_with fail
        with_reducible refine HTk.out.mono ?_
        rintro e w5 ⟨rfl, hr5, hk5⟩
        have hO5 := hk5.row HO.out (fun k e h => by simp [Value.ownBlock] at e; unfold OneB at h; omega)
        have hGu : ∃ u, w5.cell? ⟨G, k, none⟩ = some u := by
          rw [hO5.cellAt k (by omega)]
          exact ⟨_, List.getElem?_eq_getElem (by rw [List.length_map, codeT_len]; omega)⟩
        obtain ⟨u, hu⟩ := hGu
        have hfz := hO5.frozenAt k
        have hst := (hO5.stored k (.int .i64 (x : Int))).1
        rw [← List.map_set, ← HCt.out] at hst
        have hks : Kept (fun j => j = G) w5 (w5.setCell ⟨G, k, none⟩ (.int .i64 (x : Int))) := Kept.setCell (S := fun j => j = G) (p := ⟨G, k, none⟩) (Kept.refl _ w5) (.inl rfl) _
        have hrr : Rdr (w5.setCell ⟨G, k, none⟩ (.int .i64 (x : Int))) R ao cap bs (p + 3 * (i + 1)) := by
          have h := hr5.kept hks (by omega) (fun k h e => by have := own_lt (HR.out.2.1) k h; omega)
          have e : p + 3 * i + 3 = p + 3 * (i + 1) := by omega
          rw [e] at h; exact h
        have hHn : (fun j => j = G) H → False := fun e => hHG e
        have hcc : ∀ i, i < 19 → (w5.setCell ⟨G, k, none⟩ (.int .i64 (x : Int))).cell? ⟨H, i, none⟩ = some (.int .i64 (ordL.getD i 0)) := fun j hj => by
          have h := HC.out j hj
          have h5 := (World.cell?_of_block (hk5.block _ (World.block_lt_of_cell? wr _ h) (fun e => by unfold OneB at e; exact hHR e))).trans h
          exact (World.cell?_of_block (hks.block _ (World.block_lt_of_cell? w5 _ h5) hHn)).trans h5
        have HR5 := Lib.hid hrr; have HC5 := Lib.hid hcc; have HO5 := Lib.hid hst
        have HK5 := Lib.hid (show Kept (OneB R) w (w5.setCell ⟨G, k, none⟩ (.int .i64 (x : Int))) from Kept.setCell (p := ⟨G, k, none⟩) (HK.out.trans hk5) (.inr hGw) _)
        clear hrr hcc hst hHn hks hr5 hk5 hO5 hc HTk HO HK HC
        go_wp2
        go_roundw
        case rel => exact ⟨i + 1, by go_num, by omega, HO5, HR5, HK5, HC5⟩
        case measure => simp [intOf]; omega
      · have hin2 : i = n := by omega
        subst hin2
        have hlt2 : ¬ (i : Int) < i := by omega
        have hrd : RdI wr wr.heap.size (some ⟨G, 0, none⟩) (codeT bs p i) := own_readsI HO.out (codeT_len _ _ _)
        have hsm := small7_15 (codeT_small bs p i)
        have hfu := full_any (some ⟨G, 0, none⟩) 19 _ (codeT bs p i) wr hrd (fun z hz => by have := hsm z hz; omega)
        rw [codeT_len] at hfu
        have HFu := Lib.hid hfu; have HRd := Lib.hid hrd
        clear hfu hrd hlt2
        by_cases hfb : fullB (codeT bs p i) = true
        · have HFb := Lib.hid hfb
          rw [hfb] at HFu
          clear hfb
          go_wp2_with fail
          with_reducible refine HFu.out.mono ?_
          rintro e w5 ⟨rfl, hk5⟩
          have hnw := new_calls2 (some ⟨G, 0, none⟩) 19 _ (codeT bs p i) w5 (HRd.out.keptNo hk5) hsm (by rw [codeT_len]; decide) (full_ref HFb.out)
          rw [codeT_len] at hnw
          have HNw := Lib.hid hnw; have HR5 := Lib.hid (HRr.out.keptNo hk5); have HK5 := Lib.hid (HK.out.trans (hk5.mono (fun _ _ h => h.elim)))
          clear hnw hk5
          go_wp2_with fail
          with_reducible refine HNw.out.mono ?_
          rintro e w6 ⟨D, rfl, hdn, hk6⟩
          have HR6 := Lib.hid (HR5.out.keptNo hk6); have HK6 := Lib.hid (HK5.out.trans (hk6.mono (fun _ _ h => h.elim))); have HDn := Lib.hid (hdn.toG.mono (fun k (h : w5.heap.size ≤ k) => Nat.le_trans HK5.out.size h))
          clear hdn hk6
          go_wp2
          go_ret2
          refine ⟨HK6.out, ⟨_, HR6.out, fun _ => rfl⟩, ?_⟩
          rw [if_neg HIf.out, if_neg (by rw [HFb.out]; decide)]
          exact ⟨D, rfl, HDn.out⟩
        · have hfb2 : fullB (codeT bs p i) = false := by simpa using hfb
          have HFb := Lib.hid hfb2
          rw [hfb2] at HFu
          clear hfb hfb2
          go_wp2_with fail
          with_reducible refine HFu.out.mono ?_
          rintro e w5 ⟨rfl, hk5⟩
          have HR5 := Lib.hid (HRr.out.keptNo hk5); have HK5 := Lib.hid (HK.out.trans (hk5.mono (fun _ _ h => h.elim)))
          clear hk5
          go_wp2
          go_ret2
          refine ⟨HK5.out, ⟨_, HR5.out, fun _ => rfl⟩, ?_⟩
          rw [if_neg HIf.out, if_pos HFb.out]
          rfl
end Go.Proofs.Ytpdlkmacdmnamaa

namespace Go.Proofs.Ytpdlkmacdmnamaa
open Go.RowKit
set_option linter.unusedVariables false
set_option linter.unusedSimpArgs false

theorem revN_lowH (n v : Nat) : revN n v = revN n (v % 2 ^ n) := by
  apply Nat.eq_of_testBit_eq
  intro i
  rw [revN_bit, revN_bit, Nat.testBit_mod_two_pow]
  by_cases h : i < n
  · have : n - 1 - i < n := by omega
    simp [h, this]
  · simp [h]
/-- What was put from bit s on. -/
structure Puts (bs : List Int) (s : Nat) (ps : List (Nat × Nat)) : Prop where
  num : ∃ A, A < 2 ^ s ∧ num bs = A + putsN ps * 2 ^ s
  lt : ∀ y ∈ ps, y.1 < 2 ^ y.2
  len : s + wdN ps ≤ 8 * bs.length
theorem Puts.at {bs : List Int} {s : Nat} {pre rest : List (Nat × Nat)} {v k : Nat} (h : Puts bs s (pre ++ (v, k) :: rest)) (T : Nat) (hT : k ≤ T) : bitsAt bs (s + wdN pre) T % 2 ^ k = v := by
  obtain ⟨A, hA, hn⟩ := h.num
  have hv : v < 2 ^ k := h.lt (v, k) (by simp)
  have hd := putsN_drop (pre ++ (v, k) :: rest) pre.length h.lt
  rw [List.take_left, List.drop_left, putsN] at hd
  unfold bitsAt
  rw [hn, Nat.pow_add, ← Nat.div_div_eq_div_mul, Nat.add_mul_div_right _ _ (Nat.two_pow_pos s), Nat.div_eq_of_lt hA, Nat.zero_add, hd, Nat.mod_mod_of_dvd _ (Nat.pow_dvd_pow 2 hT), Nat.add_mul_mod_self_right, Nat.mod_eq_of_lt hv]
theorem Puts.is {bs : List Int} {s : Nat} {pre rest : List (Nat × Nat)} {v k : Nat} (h : Puts bs s (pre ++ (v, k) :: rest)) : bitsAt bs (s + wdN pre) k = v := by
  have := h.at k (Nat.le_refl _)
  rw [Nat.mod_eq_of_lt (bitsAt_lt bs _ k)] at this
  exact this
theorem Puts.room {bs : List Int} {s : Nat} {pre rest : List (Nat × Nat)} (h : Puts bs s (pre ++ rest)) : s + wdN pre + wdN rest ≤ 8 * bs.length := by
  have := h.len
  rw [wdN_append] at this
  omega
/-- A place that was put is what comes next. -/
theorem Puts.read {bs : List Int} {s : Nat} {pre rest : List (Nat × Nat)} {L : List Int} {k : Nat} (h : Puts bs s (pre ++ wordZ L (k : Int) :: rest)) (hs : Small 15 L) (hl : L.length ≤ 320) (hok : refS L = 0) (hkl : k < L.length) (h0 : 0 < L.getD k 0) {T : Nat}
    (hT : min3 15 (8 * bs.length - (s + wdN pre : Nat)) = T) : ReadS L T (bitsAt bs (s + wdN pre) T) (s + wdN pre) (k : Int) 0 (s + wdN pre + (L.getD k 0).toNat) := by
  have hbk := hs.getD k hkl
  obtain ⟨n, hlk⟩ : ∃ n : Nat, L.getD k 0 = (n : Int) := ⟨(L.getD k 0).toNat, by omega⟩
  have hcb := codeAt_bd L hl hs k hkl
  obtain ⟨ck, hck⟩ : ∃ ck : Nat, codeAt L k = (ck : Int) := ⟨(codeAt L k).toNat, by omega⟩
  have hclt := code_lt L hs hl hok k n hkl hlk (by omega)
  have hword : wordZ L (k : Int) = (revN n ck, n) := by unfold wordZ; rw [Int.toNat_natCast, hlk, hck, Int.toNat_natCast, Int.toNat_natCast]
  rw [hword] at h
  have hroom := h.room
  rw [wdN] at hroom
  have hnT : n ≤ T := by unfold min3 at hT; omega
  rw [hlk, Int.toNat_natCast]
  have hv : codeN (bitsAt bs (s + wdN pre) T) n = ck := by
    rw [← revN_code, revN_lowH, h.at T hnT]
    exact revN_revN n ck (by omega)
  refine .inl ⟨n, k, by omega, hnT, hkl, hlk, by rw [hck, hv], ?_, rfl, rfl, rfl⟩
  intro m hm1 hm2 j hj hzj e
  obtain ⟨d, rfl⟩ : ∃ d, n = m + d := ⟨n - m, by omega⟩
  have hne : j ≠ k := by
    rintro rfl
    rw [hlk] at hzj; omega
  have hfr := (code_free L hl hs j k hj hkl hne (by omega) d (by rw [hzj, hlk]; omega)).1
  rw [hck, ← hv, codeN_pre_int, ← e] at hfr
  exact hfr rfl
/-- What is put for runs by a code. -/
def wordsR (code : List Int) (rs : List (Int × Int)) : List (Nat × Nat) := rs.flatMap fun y => [wordZ code y.1, (y.2.toNat, spanB y.1)]
theorem wordsR_cons (code : List Int) (y : Int × Int) (rs : List (Int × Int)) : wordsR code (y :: rs) = wordZ code y.1 :: (y.2.toNat, spanB y.1) :: wordsR code rs := by simp [wordsR]
theorem wordsR_snoc (code : List Int) (rs : List (Int × Int)) (y : Int × Int) : wordsR code (rs ++ [y]) = wordsR code rs ++ [wordZ code y.1, (y.2.toNat, spanB y.1)] := by simp [wordsR]
/-- Runs that were put are read. -/
theorem Puts.row {bs : List Int} {s N : Nat} {code F : List Int} (hs : Small 15 code) (hl : code.length ≤ 320) (hok : refS code = 0) (hF : F.length = N) : ∀ (rs : List (Int × Int)) (l : List Int) (pre : List (Nat × Nat)), Puts bs s (pre ++ wordsR code rs) →
    (∀ y ∈ rs, HasC code y.1) → runAll (N : Int) l rs = some F → RowR code bs N (s + wdN pre) l (s + wdN (pre ++ wordsR code rs)) F 0
  | [], l, pre, h, hc, hr => by
    rw [runAll] at hr
    cases hr
    simp only [wordsR, List.flatMap_nil, List.append_nil]
    exact .done (by omega)
  | (z, x) :: r, l, pre, h, hc, hr => by
    rw [runAll] at hr
    split at hr
    · rename_i hok2
      obtain ⟨ho, hN⟩ := hok2
      obtain ⟨k, rfl, hkl, h0⟩ := hc (z, x) (by simp)
      rw [wordsR_cons] at h ⊢
      obtain ⟨T, hT⟩ : ∃ T : Nat, min3 15 (8 * bs.length - (s + wdN pre : Nat)) = T := by
        have := h.room
        obtain ⟨T, h, _⟩ := min3_at (8 * bs.length) (s + wdN pre) (by omega)
        exact ⟨T, by simpa using h⟩
      have hrd := h.read hs hl hok hkl h0 hT
      have hwz : (wordZ code (k : Int)).2 = (code.getD k 0).toNat := by unfold wordZ; rw [Int.toNat_natCast]
      have e1 : pre ++ wordZ code (k : Int) :: (x.toNat, spanB (k : Int)) :: wordsR code r = (pre ++ [wordZ code (k : Int)]) ++ (x.toNat, spanB (k : Int)) :: wordsR code r := by simp
      have e2 : pre ++ wordZ code (k : Int) :: (x.toNat, spanB (k : Int)) :: wordsR code r = (pre ++ [wordZ code (k : Int), (x.toNat, spanB (k : Int))]) ++ wordsR code r := by simp
      have w1 : s + wdN (pre ++ [wordZ code (k : Int)]) = s + wdN pre + (code.getD k 0).toNat := by
        rw [wdN_append, ← hwz]
        have : wdN [wordZ code (k : Int)] = (wordZ code (k : Int)).2 := by simp [wdN]
        omega
      have w2 : s + wdN (pre ++ [wordZ code (k : Int), (x.toNat, spanB (k : Int))]) = s + wdN pre + (code.getD k 0).toNat + spanB (k : Int) := by
        rw [wdN_append, ← hwz]
        have : wdN [wordZ code (k : Int), (x.toNat, spanB (k : Int))] = (wordZ code (k : Int)).2 + spanB (k : Int) := by simp [wdN]
        omega
      have hx := (e1 ▸ h).is
      rw [w1] at hx
      have hxx : ((x.toNat : Nat) : Int) = x := by have := ho.2.2.1; omega
      have hrm := (e2 ▸ h).room
      rw [w2] at hrm
      have hml := moreL_len l (k : Int) x
      have hsp := spanL_pos (k : Int)
      have ih := Puts.row hs hl hok hF r (moreL l (k : Int) x) (pre ++ [wordZ code (k : Int), (x.toNat, spanB (k : Int))]) (e2 ▸ h) (fun y hy => hc y (List.mem_cons_of_mem _ hy)) hr
      rw [w2, ← e2] at ih
      exact .step (by omega) hT hrd (by omega) (by rw [hx, hxx]; exact ho) (by rw [hx, hxx]; exact hN) (by rw [hx, hxx]; exact ih)
    · cases hr
theorem ord_ne : ∀ i, i < 19 → ∀ j, j < 19 → i ≠ j → (ordL.getD i 0).toNat ≠ (ordL.getD j 0).toNat := by decide +kernel
theorem ord_inv : ∀ j, j < 19 → ∃ i, i < 19 ∧ (ordL.getD i 0).toNat = j := by decide +kernel
theorem ord_lt : ∀ i, i < 19 → (ordL.getD i 0).toNat < 19 := by decide +kernel
theorem getD_setH (Z : List Int) (i j : Nat) (z : Int) (h : i < Z.length) : (Z.set i z).getD j 0 = if i = j then z else Z.getD j 0 := by
  by_cases e : i = j
  · subst e; simp [List.getD, h]
  · simp [List.getD, List.getElem?_set, e]
theorem rep0 (n j : Nat) : (List.replicate n (0 : Int)).getD j 0 = 0 := by
  unfold List.getD
  rw [List.getElem?_replicate]
  split <;> rfl
theorem codeT_at (bs : List Int) (p : Nat) : ∀ n, n ≤ 19 → ∀ i, i < 19 → (codeT bs p n).getD (ordL.getD i 0).toNat 0 = if i < n then ((bitsAt bs (p + 3 * i) 3 : Nat) : Int) else 0
  | 0, _, i, hi => by
    rw [if_neg (Nat.not_lt_zero i), codeT]
    exact rep0 _ _
  | n + 1, h, i, hi => by
    rw [codeT, getD_setH _ _ _ _ (by rw [codeT_len]; exact ord_lt n (by omega)), codeT_at bs p n (by omega) i hi]
    by_cases e : n = i
    · subst e; rw [if_pos rfl, if_pos (by omega)]
    · rw [if_neg (ord_ne n (by omega) i hi e)]
      by_cases h2 : i < n
      · rw [if_pos h2, if_pos (by omega)]
      · rw [if_neg h2, if_neg (by omega)]
/-- The code's own lengths, n of them, in order. -/
def wordsC (code : List Int) (n : Nat) : List (Nat × Nat) := (List.range n).map fun i => ((code.getD (ordL.getD i 0).toNat 0).toNat, 3)
theorem wordsC_snoc (code : List Int) (n : Nat) : wordsC code (n + 1) = wordsC code n ++ [((code.getD (ordL.getD n 0).toNat 0).toNat, 3)] := by simp [wordsC, List.range_succ]
theorem wordsC_wd (code : List Int) : ∀ n, wdN (wordsC code n) = 3 * n
  | 0 => by simp [wordsC, wdN]
  | n + 1 => by rw [wordsC_snoc, wdN_append, wordsC_wd code n]; simp [wdN]; omega
theorem wordsC_split (code : List Int) : ∀ n i, i < n → ∃ r, wordsC code n = wordsC code i ++ ((code.getD (ordL.getD i 0).toNat 0).toNat, 3) :: r
  | 0, i, h => absurd h (Nat.not_lt_zero i)
  | n + 1, i, h => by
    by_cases e : i = n
    · subst e; exact ⟨[], by rw [wordsC_snoc]⟩
    · obtain ⟨r, hr⟩ := wordsC_split code n i (by omega)
      exact ⟨r ++ [((code.getD (ordL.getD n 0).toNat 0).toNat, 3)], by rw [wordsC_snoc, hr]; simp⟩
/-- What is put for a head. -/
def headW (lit dist code : List Int) (told : Nat) (rs : List (Int × Int)) : List (Nat × Nat) :=
  [(lit.length - 257, 5), (dist.length - 1, 5), (told - 4, 4)] ++ wordsC code told ++ wordsR code rs
/-- A code that may stand in a head. -/
structure CodeW (code : List Int) (told : Nat) (rs : List (Int × Int)) (F : List Int) : Prop where
  len : code.length = 19
  small : Small 7 code
  full : fullB code = true
  lo : 4 ≤ told
  hi : told ≤ 19
  rest : ∀ i, told ≤ i → i < 19 → code.getD (ordL.getD i 0).toNat 0 = 0
  has : ∀ y ∈ rs, HasC code y.1
  runs : runAll (F.length : Int) [] rs = some F
theorem codeT_eq {bs : List Int} {s told : Nat} {code : List Int} {pre post : List (Nat × Nat)} (h : Puts bs s (pre ++ wordsC code told ++ post)) (hl : code.length = 19) (hs : Small 7 code) (hi : told ≤ 19) (hr : ∀ i, told ≤ i → i < 19 → code.getD (ordL.getD i 0).toNat 0 = 0) : codeT bs (s + wdN pre) told = code := by
  apply List.ext_getElem (by rw [codeT_len, hl])
  intro j h1 h2
  obtain ⟨i, hi19, hij⟩ := ord_inv j (by rw [codeT_len] at h1; exact h1)
  have hc := codeT_at bs (s + wdN pre) told hi i hi19
  rw [hij] at hc
  have e1 : (codeT bs (s + wdN pre) told).getD j 0 = (codeT bs (s + wdN pre) told)[j] := by simp [List.getD, h1]
  have e2 : code.getD j 0 = code[j] := by simp [List.getD, h2]
  rw [← e1, ← e2, hc]
  by_cases ht : i < told
  · rw [if_pos ht]
    obtain ⟨r, hr⟩ := wordsC_split code told i ht
    rw [hr] at h
    have hx := (show Puts bs s ((pre ++ wordsC code i) ++ ((code.getD (ordL.getD i 0).toNat 0).toNat, 3) :: (r ++ post)) by simpa using h).is
    rw [wdN_append, wordsC_wd, ← Nat.add_assoc] at hx
    rw [hx, hij]
    have := hs _ (List.getElem_mem h2)
    rw [e2]; omega
  · rw [if_neg ht, ← hij]
    exact (hr i (by omega) hi19).symm
/-- A head that was put is read. -/
theorem head_back {bs : List Int} {s told : Nat} {lit dist code : List Int} {rs : List (Int × Int)} (h : Puts bs s (headW lit dist code told rs)) (hc : CodeW code told rs (lit ++ dist)) (hb : headB lit dist = true) : HeadR bs s lit dist 0 (s + wdN (headW lit dist code told rs)) := by
  unfold headB at hb
  obtain ⟨hb1, hb2⟩ := Bool.and_eq_true_iff.1 hb
  obtain ⟨l1, l2, l3, l4⟩ := of_decide_eq_true hb1
  have hlo := hc.lo
  have hhi := hc.hi
  have h0 := h
  unfold headW at h
  have x1 := (show Puts bs s ([] ++ (lit.length - 257, 5) :: ([(dist.length - 1, 5), (told - 4, 4)] ++ wordsC code told ++ wordsR code rs)) by simpa using h).is
  have x2 := (show Puts bs s ([(lit.length - 257, 5)] ++ (dist.length - 1, 5) :: ([(told - 4, 4)] ++ wordsC code told ++ wordsR code rs)) by simpa using h).is
  have x3 := (show Puts bs s ([(lit.length - 257, 5), (dist.length - 1, 5)] ++ (told - 4, 4) :: (wordsC code told ++ wordsR code rs)) by simpa using h).is
  have e4 : [(lit.length - 257, 5), (dist.length - 1, 5), (told - 4, 4)] ++ wordsC code told ++ wordsR code rs = [(lit.length - 257, 5), (dist.length - 1, 5), (told - 4, 4)] ++ wordsC code told ++ wordsR code rs := rfl
  have x4 := codeT_eq h hc.len hc.small hhi hc.rest
  have x5 := h.row (N := lit.length + dist.length) (F := lit ++ dist) (small7_15 hc.small) (by rw [hc.len]; decide) (full_ref hc.full) (by simp) rs [] ([(lit.length - 257, 5), (dist.length - 1, 5), (told - 4, 4)] ++ wordsC code told)
    hc.has (by have := hc.runs; rw [List.length_append] at this; exact this)
  have hr := h.room
  have w0 : wdN [(lit.length - 257, 5), (dist.length - 1, 5), (told - 4, 4)] = 14 := rfl
  have w1 : wdN ([(lit.length - 257, 5), (dist.length - 1, 5), (told - 4, 4)] ++ wordsC code told) = 14 + 3 * told := by rw [wdN_append, wordsC_wd, w0]
  rw [w1] at x5 hr
  rw [w0] at x4
  have y1 : bitsAt bs s 5 = lit.length - 257 := x1
  have y2 : bitsAt bs (s + 5) 5 = dist.length - 1 := x2
  have y3 : bitsAt bs (s + 10) 4 = told - 4 := x3
  unfold HeadR
  rw [y1, y2, y3, if_neg (by omega), if_neg (by omega), if_neg (by omega)]
  rw [show told - 4 + 4 = told by omega, x4, if_neg (by rw [hc.full]; decide)]
  rw [show lit.length - 257 + 257 = lit.length by omega, show dist.length - 1 + 1 = dist.length by omega]
  refine ⟨lit ++ dist, s + wdN (headW lit dist code told rs), 0, ?_, ?_⟩
  · rw [show s + 14 + 3 * told = s + (14 + 3 * told) by omega]
    exact x5
  · rw [if_pos rfl, List.take_left, List.drop_left, if_pos hb2]
    exact ⟨rfl, rfl, rfl, rfl⟩
end Go.Proofs.Ytpdlkmacdmnamaa

namespace Go.Proofs.Ytpdlkmacdmnamaa
open Go.RowKit
set_option linter.unusedVariables false
set_option linter.unusedSimpArgs false
set_option maxRecDepth 20000

theorem cells_run : Try.prog.cellsOf 54 = 2 := by kernel_rfl
theorem infoR : (Try.prog.info? 54).map (fun i => (i.zero, i.size, i.bytes)) = some (some (.agg #[.int .i64 0, .int .i64 0]), 2, 16) := by kernel_rfl
def AllR (rs : List (Int × Int)) : Prop := ∀ p ∈ rs, (-9223372036854775808 ≤ p.1 ∧ p.1 ≤ 9223372036854775807) ∧ (-9223372036854775808 ≤ p.2 ∧ p.2 ≤ 9223372036854775807)
theorem AllR.getD {rs : List (Int × Int)} (h : AllR rs) (i : Nat) : (-9223372036854775808 ≤ (rs.getD i (0, 0)).1 ∧ (rs.getD i (0, 0)).1 ≤ 9223372036854775807) ∧ (-9223372036854775808 ≤ (rs.getD i (0, 0)).2 ∧ (rs.getD i (0, 0)).2 ≤ 9223372036854775807) := by
  by_cases hi : i < rs.length
  · have : rs.getD i (0, 0) = rs[i] := by simp [List.getD, hi]
    rw [this]; exact h _ (List.getElem_mem hi)
  · have : rs.getD i (0, 0) = (0, 0) := by simp [List.getD, List.getElem?_eq_none (Nat.le_of_not_lt hi)]
    rw [this]; exact ⟨by decide, by decide⟩
theorem runs_open {w : World} {v : Value} (h : Arg w 60 v) :
    ∃ (ao : Option Addr) (cap : Nat) (rs : List (Int × Int)), v = .slice ao rs.length cap ∧ RdRn w w.heap.size ao rs ∧ AllR rs ∧ rs.length ≤ cap ∧ cap ≤ maxLen ∧ (ao = none → cap = 0) := by
  obtain ⟨ao, len, cap, rfl, hl, hm, hn, hc⟩ := h.slice Try.underlying60
  rw [cells_run] at hc
  have key : ∀ i, ∃ p : Int × Int, ((-9223372036854775808 ≤ p.1 ∧ p.1 ≤ 9223372036854775807) ∧ (-9223372036854775808 ≤ p.2 ∧ p.2 ≤ 9223372036854775807)) ∧ (∀ x, ao = some x → i < len → w.cell? (x.add (i * 2)) = some (.int .i64 p.1) ∧ w.cell? (x.add (i * 2 + 1)) = some (.int .i64 p.2)) := by
    intro i
    by_cases hi : i < len
    · cases ao with
      | none => exact ⟨(0, 0), ⟨by decide, by decide⟩, (fun x hx => by cases hx)⟩
      | some x =>
        obtain ⟨cs, hr, hcl, hcc⟩ := hc x rfl i hi
        obtain ⟨_, hf⟩ := hr.struct Try.underlying54
        match cs, hcl with
        | [c0, c1], _ =>
          have i64c : Try.prog.cellsOf 3 = 1 := by kernel_rfl
          have r0 := hf 0 _ rfl
          have r1 := hf 1 _ rfl
          simp [i64c] at r0 r1
          obtain ⟨a, ea, wa⟩ := r0.int Try.underlying3
          obtain ⟨b, eb, wb⟩ := r1.int Try.underlying3
          simp at ea eb
          subst ea eb
          refine ⟨(a, b), ⟨i64_bd wa, i64_bd wb⟩, ?_⟩
          intro y hy _
          cases hy
          exact ⟨by simpa using hcc 0 (by simp), by simpa using hcc 1 (by simp)⟩
    · exact ⟨(0, 0), ⟨by decide, by decide⟩, (fun x _ h => absurd h hi)⟩
  obtain ⟨f, hf⟩ := choose1 key
  refine ⟨ao, cap, (List.range len).map f, by simp, ?_, ?_, by simpa using hl, hm, (fun h => (hn h).2)⟩
  · intro i hi
    have hil : i < len := by simpa using hi
    cases ao with
    | none => have := (hn rfl).1; omega
    | some x =>
      have hcell := (hf i).2 x rfl hil
      obtain ⟨b, off, spot⟩ := x
      have hs : spot = none := by
        have := World.cell?_spot ((hf 0).2 _ rfl (by omega)).1
        simpa [Addr.add] using this
      subst hs
      rw [addr_add, addr_add] at hcell
      rw [range_getD f len i (0, 0) hil]
      exact ⟨b, off, rfl, World.block_lt_of_cell? w _ hcell.1, hcell.1, hcell.2⟩
  · intro z hz
    obtain ⟨i, _, rfl⟩ := List.mem_map.1 hz
    exact (hf i).1

/-- The cells of runs. -/
def rcells (rs : List (Int × Int)) : List Value := rs.flatMap fun p => [.int .i64 p.1, .int .i64 p.2]
theorem rcells_len (rs : List (Int × Int)) : (rcells rs).length = rs.length * 2 := by
  induction rs with
  | nil => rfl
  | cons p r ih => simp [rcells] at ih ⊢; omega
theorem rcells_app (rs : List (Int × Int)) (s x : Int) : rcells rs ++ [.int .i64 s, .int .i64 x] = rcells (rs ++ [(s, x)]) := by simp [rcells]
theorem rcells_at : ∀ (rs : List (Int × Int)) (i : Nat), i < rs.length → (rcells rs)[i * 2]? = some (.int .i64 (rs.getD i (0, 0)).1) ∧ (rcells rs)[i * 2 + 1]? = some (.int .i64 (rs.getD i (0, 0)).2) := by
  intro rs
  induction rs with
  | nil => intro i hi; simp at hi
  | cons p r ih =>
    intro i hi
    have e : rcells (p :: r) = .int .i64 p.1 :: .int .i64 p.2 :: rcells r := by simp [rcells]
    rw [e]
    cases i with
    | zero => exact ⟨rfl, rfl⟩
    | succ i =>
      have hi' : i < r.length := by simpa using hi
      obtain ⟨h1, h2⟩ := ih i hi'
      rw [show (i + 1) * 2 = i * 2 + 1 + 1 by omega]
      refine ⟨?_, ?_⟩
      · simpa using h1
      · rw [List.getElem?_cons_succ, List.getElem?_cons_succ]; simpa using h2
/-- A row of runs of the call's own. -/
def OwnR (w : World) (ao : Option Addr) (cap : Nat) (rs : List (Int × Int)) : Prop := w.ownsRow 0 54 2 (.slice ao rs.length cap) rs.length (rcells rs)
theorem OwnR.reads {w : World} {a : Option Addr} {c : Nat} {rs : List (Int × Int)} (h : OwnR w a c rs) : RdRn w w.heap.size a rs := by
  intro i hi
  rcases h.2 with ⟨_, hz⟩ | ⟨g, cc, cur, hv, _⟩
  · omega
  · simp at hv
    obtain ⟨rfl, rfl⟩ := hv
    obtain ⟨h1, h2⟩ := rcells_at rs i hi
    have hc1 : w.cell? ⟨g, i * 2, none⟩ = some (.int .i64 (rs.getD i (0, 0)).1) := by
      rw [← h1]; exact h.cellAt (i * 2) (by omega)
    have hc2 : w.cell? ⟨g, i * 2 + 1, none⟩ = some (.int .i64 (rs.getD i (0, 0)).2) := by
      rw [← h2]; exact h.cellAt (i * 2 + 1) (by omega)
    exact ⟨g, 0, rfl, World.block_lt_of_cell? w _ hc1, by rw [Nat.zero_add]; exact hc1, by rw [Nat.zero_add]; exact hc2⟩
end Go.Proofs.Ytpdlkmacdmnamaa
