/-
  LensReads: a head is read from any bits as the document says, or refused, by what is wrong first.
-/
import Derived.Test.YtpdlkmacdmnamaaMa27
namespace Go.Proofs.Ytpdlkmacdmnamaa
open Go.RowKit
set_option linter.unusedVariables false
set_option linter.unusedSimpArgs false

theorem runAll_few (n : Int) : ∀ (rs : List (Int × Int)) (l F : List Int), runAll n l rs = some F → l.length + rs.length ≤ F.length
  | [], l, F, h => by rw [runAll] at h; cases h; simp
  | (s, x) :: r, l, F, h => by
    rw [runAll] at h
    split at h
    · have ih := runAll_few n r _ F h
      have h1 := moreL_len l s x
      have h2 := spanL_pos s
      rw [List.length_cons]
      omega
    · cases h
theorem headW_wd {lit dist code : List Int} {told : Nat} {rs : List (Int × Int)} (hc : CodeW code told rs (lit ++ dist)) : 14 ≤ wdN (headW lit dist code told rs) ∧ wdN (headW lit dist code told rs) ≤ 71 + 22 * (lit.length + dist.length) := by
  unfold headW
  rw [wdN_append, wdN_append, wordsC_wd]
  have h1 := wdN_leR code (small7_15 hc.small) rs
  have h2 := runAll_few _ _ _ _ hc.runs
  have h3 := hc.hi
  rw [List.length_append] at h2
  have e : wdN [(lit.length - 257, 5), (dist.length - 1, 5), (told - 4, 4)] = 14 := rfl
  simp only [List.length_nil, Nat.zero_add] at h2
  omega
theorem xor_u8L (a b : Int) : 0 ≤ bits .xor .u8 a b ∧ bits .xor .u8 a b < 256 := by
  show 0 ≤ IntKind.u8.wrap _ ∧ IntKind.u8.wrap _ < 256
  rw [IntKind.wrap_u8]
  omega
theorem HeadR.len {bs : List Int} {p : Nat} {lit dist : List Int} {e : Int} {q : Nat} (h : HeadR bs p lit dist e q) : lit.length ≤ 1000 ∧ dist.length ≤ 1000 := by
  unfold HeadR at h
  split at h
  · obtain ⟨rfl, rfl, _⟩ := h; simp
  · rename_i c1
    split at h
    · obtain ⟨rfl, rfl, _⟩ := h; simp
    · rename_i c2
      split at h
      · obtain ⟨rfl, rfl, _⟩ := h; simp
      · rename_i c3
        split at h
        · obtain ⟨rfl, rfl, _⟩ := h; simp
        · obtain ⟨row, q', f, hr, h⟩ := h
          split at h
          · rename_i hf
            obtain ⟨hl, _, _⟩ := hr.ok hf (by simp; omega) (fun z hz => by simp at hz) (by omega)
            split at h
            · obtain ⟨rfl, rfl, _⟩ := h
              rw [List.length_take, List.length_drop]
              omega
            · obtain ⟨rfl, rfl, _⟩ := h; simp
          · obtain ⟨rfl, rfl, _⟩ := h; simp
theorem RowR.code {cd bs : List Int} {N p : Nat} {l : List Int} {q : Nat} {l' : List Int} {f : Int} (h : RowR cd bs N p l q l' f) : f = 0 ∨ f = 2 ∨ f = 3 ∨ f = 6 := by
  induction h with
  | done => exact .inl rfl
  | fail h1 h2 h3 h4 =>
    rcases h3 with ⟨n, i, _, _, _, _, _, _, _, rfl, _⟩ | ⟨_, _, rfl, _⟩
    · exact absurd rfl h4
    · split
      · exact .inr (.inl rfl)
      · exact .inr (.inr (.inl rfl))
  | short => exact .inr (.inl rfl)
  | bad => exact .inr (.inr (.inr rfl))
  | step _ _ _ _ _ _ _ ih => exact ih
theorem HeadR.code {bs : List Int} {p : Nat} {lit dist : List Int} {e : Int} {q : Nat} (h : HeadR bs p lit dist e q) : e = 0 ∨ e = 2 ∨ e = 3 ∨ e = 6 := by
  unfold HeadR at h
  split at h
  · obtain ⟨_, _, rfl⟩ := h; simp
  · split at h
    · obtain ⟨_, _, rfl⟩ := h; simp
    · split at h
      · obtain ⟨_, _, rfl⟩ := h; simp
      · split at h
        · obtain ⟨_, _, rfl⟩ := h; simp
        · obtain ⟨row, q', f, hr, h⟩ := h
          split at h
          · split at h
            · obtain ⟨_, _, rfl, _⟩ := h; simp
            · obtain ⟨_, _, rfl⟩ := h; simp
          · obtain ⟨_, _, rfl⟩ := h; exact hr.code
/-- A row of bytes that a reader is made of. -/
structure RowX (w : World) (a : Option Addr) (c : Nat) (xs : List Int) : Prop where
  rd : Reads w a xs
  all : AllB xs
  len : xs.length ≤ 1000
  nil : a = none → c = 0
theorem RowX.on {w w' : World} {a : Option Addr} {c : Nat} {xs : List Int} (h : RowX w a c xs) (hk : Kept NoB w w') : RowX w' a c xs := ⟨h.rd.kept hk (fun _ _ h => h), h.all, h.len, h.nil⟩
theorem LitZ.reads {w wr : World} {G : Nat} {Z : List Int} (h : LitZ w wr G Z) : RdI wr wr.heap.size (some ⟨G, 0, none⟩) Z := own_readsI h.own h.len
set_option maxRecDepth 20000 in
set_option maxHeartbeats 16000000 in
theorem lensReads_walk (ab : Option Addr) (cb : Nat) (bs : List Int) (ao : Option Addr) (ca : Nat) (ws : List Int) (bo : Option Addr) (cd : Nat) (ds : List Int) (bit cut : Int) (w : World)
    (hb : Reads w ab bs) (hbb : AllB bs) (hbl : bs.length ≤ cb ∧ cb ≤ maxLen) (hb0 : ab = none → cb = 0) (hx : RdI w w.heap.size ao ws) (hy : RdI w w.heap.size bo ds) (hdc : ds.length ≤ cd) (hdm : cd ≤ maxLen) :
    Calls Try.prog 3 #[.slice ab bs.length cb, .slice ao ws.length ca, .slice bo ds.length cd, .int .i64 bit, .int .i64 cut] w fun e w' => e = .returned (.bool true) ∧ Below w.heap.size w w' := by
  obtain ⟨i0, hi, hz0, hz1, hz2⟩ := info_parts info5
  have HB := Lib.hid hb; have HBb := Lib.hid hbb
  have hhd := heads_any ao ca ws bo cd ds w hx hy hdc hdm
  obtain ⟨nb, hnb⟩ : ∃ n, n = bs.length := ⟨_, rfl⟩
  obtain ⟨nw, hnw⟩ : ∃ n, n = ws.length := ⟨_, rfl⟩
  obtain ⟨nd, hnd⟩ : ∃ n, n = ds.length := ⟨_, rfl⟩
  rw [← hnw, ← hnd] at hhd
  rw [← hnb, ← hnw, ← hnd]
  have HNb := Lib.hid hnb; have HHd := Lib.hid hhd
  clear hb hbb hx hy hnb hnw hnd hhd
  by_cases hlong : (200 : Int) < (nb : Int)
  · go_enter Try.func3, Try.ntmps3
    go_wp2_with fail
    with_reducible refine (awake8 _).mono ?_
    rintro e w1 ⟨rfl, hk⟩
    have HK := Lib.hid hk
    clear hk
    go_wp2
    go_ret
    exact ⟨rfl, HK.out⟩
  · go_enter Try.func3, Try.ntmps3
    go_wp2_with fail
    with_reducible refine HHd.out.mono ?_
    rintro e w1 ⟨G, lit, da, dc, dist, rfl, hlz, hdr, hds, hhb⟩
    have HLz := Lib.hid hlz; have HDr := Lib.hid hdr; have HHb := Lib.hid hhb; have hl257 := hlz.len
    clear hlz hdr hds hhb HHd
    go_wp2_with fail
    with_reducible refine (neww_any w1).mono ?_
    rintro e w2 ⟨R, rfl, hw2, hR2, hk2⟩
    have hwr := lensWrite_yes (some ⟨G, 0, none⟩) 257 lit da dc dist w1.heap.size R none 0 [] 0 w2 (HLz.out.reads.keptNo hk2) (HDr.out.keptNo hk2) hw2 HHb.out (by decide)
    rw [HLz.out.len] at hwr
    have HWr := Lib.hid hwr; have HK2 := Lib.hid (HLz.out.kept.trans hk2)
    have hR := Nat.le_trans HLz.out.kept.size hR2
    have hk2b : w.heap.size ≤ w2.heap.size := HK2.out.size
    clear hwr hw2 hR2 hk2 HDr HLz
    go_wp2_with fail
    with_reducible refine HWr.out.mono ?_
    rintro e w3 ⟨ao3, cap3, bs3, code, told, rs, rfl, hcw, hwp⟩
    have hwb := headW_wd hcw
    obtain ⟨b1, b2, b3, b4⟩ := (head_small HHb.out).1
    have hlen3 : bs3.length = (0 + wdN (headW lit dist code told rs) + 7) / 8 := hwp.1.2.2.2.1
    have hn3 : 2 ≤ bs3.length ∧ bs3.length ≤ 1000 := by omega
    have hK3 : Kept NoB w w3 := by
      refine HK2.out.trans' hwp.2.2.1 (fun i hi h => ?_)
      rcases h with h | h
      · unfold OneB at h; have h : i = R := h; omega
      · simp [OwnB, Value.ownBlock] at h
    have HK3 := Lib.hid hK3; have HW3 := Lib.hid hwp.1; have HB3 := Lib.hid hwp.1.2.2.1
    obtain ⟨n3, hn3e⟩ : ∃ n, n = bs3.length := ⟨_, rfl⟩
    rw [← hn3e] at hn3
    have hn3a := hn3.1
    have hn3b := hn3.2
    have HN3 := Lib.hid hn3e
    clear hwb b1 b2 b3 b4 hlen3 hn3 hK3 hwp hcw HWr HK2 hn3e HHb
    go_wp2_with fail
    with_reducible refine (wbytes_any w3 R ao3 cap3 bs3 _ HW3.out).mono ?_
    rintro e w4 ⟨a4, c4, rfl, ho4, hf4, _, hk4⟩
    rw [← HN3.out] at ho4 hf4 ⊢
    obtain ⟨g4, rfl⟩ := own_some ho4 (by omega)
    have HO4 := Lib.hid ho4; have HK4 := Lib.hid (HK3.out.trans hk4)
    have hg4 : w.heap.size ≤ g4 := Nat.le_trans HK3.out.size (hf4 g4 rfl)
    have h40 : ¬ ((n3 : Int) = 0) := by omega
    have h41 : ((n3 : Int) == 0) = false := by simp; omega
    have hemp : (w4.alloc (.cells #[] 5)).ownsRow 0 5 1 (.slice (some ⟨w4.heap.size, 0, none⟩) 0 0) 0 [] := World.ownsRow_lit w4 #[] 0 (Nat.zero_le _) (Nat.zero_le _) rfl
    have hrd4 : Reads w4 (some ⟨g4, 0, none⟩) bs3 := own_reads (by rw [← HN3.out]; exact ho4) HN3.out
    have hrn : ∀ j u, (bs3.map (Value.int .u8))[j]? = some u → (w4.alloc (.cells #[] 5)).cell? ((⟨g4, 0, none⟩ : Addr).add j) = some u := by
      intro j u hu
      have hj : j < bs3.length := by have := (List.getElem?_eq_some_iff.1 hu).1; simpa using this
      have h := ((Kept.refl NoB w4).alloc (.cells #[] 5)).cell (hrd4.2 _ rfl j hj)
      rw [h, ← hu]
      simp [List.getD, hj]
    have HEmp := Lib.hid hemp; have HRn := Lib.hid hrn; have HR4 := Lib.hid hrd4
    have hg4l := (ho4.lt g4 rfl).2
    clear ho4 hf4 hk4 hemp hrn hrd4 HW3 HK3
    go_wp2_with (at_builtin; refine wpList_app _ rfl _ _ 22 rfl 5 i0 (.int .u8 0) 1 1 Try.underlying22 hi hz0 hz1 hz2 rfl (by decide) _ 0 [] rfl HEmp.out ⟨g4, 0, none⟩ n3 c4 (bs3.map (.int .u8)) rfl ?d1 HRn.out ?d2 ?d3 ?d4 ?_)
    case d1 => rw [List.length_map, Nat.mul_one]; exact HN3.out.symm
    case d2 => intro u hu; obtain ⟨x, _, rfl⟩ := List.mem_map.1 hu; rfl
    case d3 => unfold maxLen; omega
    case d4 => omega
    intro v' w5 hown hgrow hnew
    obtain ⟨a5, c5, rfl⟩ := own_shape hown
    obtain ⟨g5, rfl⟩ := own_some hown (by omega)
    have hk5 : Kept NoB w4 w5 := ((Kept.refl NoB w4).alloc (.cells #[] 5)).grown hgrow (fun k hk e => by simp [Value.ownBlock] at e; omega)
    have hg5 : w4.heap.size ≤ g5 := by
      rcases hnew g5 rfl with h | h
      · simp [Value.ownBlock] at h; omega
      · omega
    have ho45 := hk5.row HO4.out (fun _ _ h => h)
    obtain ⟨j, hj⟩ : ∃ j : Nat, bit / 8 % 65536 % (n3 : Int) = (j : Int) := ⟨(bit / 8 % 65536 % (n3 : Int)).toNat, by
      have := Int.emod_nonneg (bit / 8 % 65536) (show (n3 : Int) ≠ 0 by omega); omega⟩
    have hjn : j < n3 := by have := Int.emod_lt_of_pos (bit / 8 % 65536) (show (0 : Int) < (n3 : Int) by omega); omega
    have hjn2 : (j : Int) < n3 := by omega
    have hcz : w5.cell? ⟨g4, j, none⟩ = some (.int .u8 (bs3.getD j 0)) := by
      rw [ho45.cellAt j (by omega)]
      have := HN3.out
      simp [List.getD, List.getElem?_map, show j < bs3.length by omega]
    have hfz := ho45.frozenAt j
    have hzb := HB3.out.getD j
    obtain ⟨z, hz⟩ : ∃ z, z = bs3.getD j 0 := ⟨_, rfl⟩
    rw [← hz] at hcz hzb
    have HOwn := Lib.hid hown; have HK5 := Lib.hid (HK4.out.trans hk5); have HO45 := Lib.hid ho45
    have m1 := mask65535
    have m2 := mask7
    have hq1 : 0 ≤ bit / 8 % 65536 := by omega
    have hn0 : ¬ ((n3 : Int) = 0) := by omega
    clear hown hgrow hnew hk5 ho45 hz HEmp HRn
    go_upto_region 11 with fail
    go_region
    have hvb := xor_u8L z (2 ^ (bit % 8).toNat % 256)
    obtain ⟨v, hv⟩ : ∃ v, v = bits .xor .u8 z (2 ^ (bit % 8).toNat % 256) := ⟨_, rfl⟩
    rw [← hv] at hvb ⊢
    obtain ⟨w6, hw6⟩ : ∃ w6, w6 = (w5.setCell ⟨g4, j, none⟩ (.int .u8 v)).drew := ⟨_, rfl⟩
    have hst := (HO45.out.stored j (.int .u8 v)).1
    rw [← List.map_set] at hst
    have hkd : Kept NoB (w5.setCell ⟨g4, j, none⟩ (.int .u8 v)) w6 := by rw [hw6]; exact Kept.drew (Kept.refl _ _)
    have hks : Kept (fun k => k = g4) w5 w6 := (Kept.setCell (S := fun k => k = g4) (p := ⟨g4, j, none⟩) (Kept.refl _ w5) (.inl rfl) _).trans (hkd.mono (fun _ _ h => h.elim))
    have hk6 : Kept NoB w w6 := (Kept.setCell (p := ⟨g4, j, none⟩) HK5.out (.inr hg4) _).trans hkd
    have ho5 := hks.row HOwn.out (fun k e h => by simp [Value.ownBlock] at e; have h : k = g4 := h; omega)
    have ho4 := hkd.row hst (fun _ _ h => h)
    have hcap5 := own_cap ho5
    have X0 := Lib.hid (show RowX w6 ab cb bs from ⟨HB.out.kept hk6 (fun _ _ h => h), HBb.out, by rw [← HNb.out]; omega, hb0⟩)
    have X1 := Lib.hid (show RowX w6 (some ⟨g5, 0, none⟩) c5 bs3 from ⟨own_reads (by rw [← HN3.out]; exact ho5) HN3.out, HB3.out, by rw [← HN3.out]; exact hn3b, fun h => (by cases h)⟩)
    have hsl : (bs3.set j v).length = n3 := by rw [List.length_set]; exact HN3.out.symm
    have X2 := Lib.hid (show RowX w6 (some ⟨g4, 0, none⟩) c4 (bs3.set j v) from ⟨own_reads (by rw [hsl]; exact ho4) hsl.symm, fun b hb => by
      rcases List.mem_or_eq_of_mem_set hb with h | h
      · exact HB3.out b h
      · rw [h]; exact hvb, by rw [hsl]; exact hn3b, fun h => (by cases h)⟩)
    obtain ⟨k, hk⟩ : ∃ k : Nat, cut % 65536 % ((n3 : Int) + 1) = (k : Int) := ⟨(cut % 65536 % ((n3 : Int) + 1)).toNat, by
      have := Int.emod_nonneg (cut % 65536) (show (n3 : Int) + 1 ≠ 0 by omega); omega⟩
    have hkn : k ≤ n3 := by have := Int.emod_lt_of_pos (cut % 65536) (show (0 : Int) < (n3 : Int) + 1 by omega); omega
    have htl : (bs3.take k).length = k := by rw [List.length_take, ← HN3.out]; omega
    have X3 := Lib.hid (show RowX w6 (some ⟨g5, 0, none⟩) c5 (bs3.take k) from ⟨⟨fun h => (by cases h), fun a ha i hi => by
      rw [htl] at hi
      rw [X1.out.rd.2 a ha i (by rw [← HN3.out]; omega)]
      simp [List.getD, List.getElem?_take, hi]⟩, fun b hb => HB3.out b (List.mem_of_mem_take hb), by rw [htl]; omega, fun h => (by cases h)⟩)
    have HSl := Lib.hid hsl; have HTl := Lib.hid htl; have HK6 := Lib.hid hk6
    have hkn2 : (k : Int) ≤ n3 := by omega
    have hk0 : (0 : Int) ≤ k := by omega
    have hn5 : (n3 : Int) ≤ c5 := by omega
    have hq2 : 0 ≤ cut % 65536 := by omega
    have hn1 : ¬ ((n3 : Int) + 1 = 0) := by omega
    rw [← hw6]
    clear hst hkd hks hk6 ho5 ho4 hcap5 hsl htl hvb hv hw6 hj hjn hjn2 hcz hfz hzb hq1 hn0 HOwn HK5 HO45 HR4 HO4 HK4
    go_wp2_with fail
    go_loopw [16, 17, 18, 19, 20, 21, 22, 23, 24, 25] (fun v16 _ _ _ _ _ _ _ _ _ wr => ∃ i : Nat, v16 = .int .i64 (i : Int) ∧ i ≤ 4 ∧ Hid (Kept NoB w6 wr)) (fun v16 _ _ _ _ _ _ _ _ _ _ => 4 - (intOf v16).toNat)
    case atStart => exact ⟨0, rfl, by omega, Lib.hid (Kept.refl _ _)⟩
    case round =>
      obtain ⟨i, rfl, hi4, HK⟩ := hrel
      by_cases hlt : (i : Int) < 4
      · go_upto_region 15 with fail
        go_cut [17] from 72 to 87 (fun v wx => ∃ (a : Option Addr) (c : Nat) (xs : List Int), v = .slice a xs.length c ∧ Hid (RowX wx a c xs) ∧ Hid (Kept NoB w6 wx))
        case first =>
          rcases (show i = 0 ∨ i = 1 ∨ i = 2 ∨ i = 3 by omega) with rfl | rfl | rfl | rfl
          · have HKA := Lib.hid (HK.out.trans ((Kept.refl NoB wr).alloc (.cells #[.slice ab nb cb, .slice (some ⟨g5, 0, none⟩) n3 c5, .slice (some ⟨g4, 0, none⟩) n3 c4, .slice (some ⟨g5, 0, none⟩) k c5] 22)))
            go_wp2
            go_meet
            exact ⟨ab, cb, bs, by rw [HNb.out], Lib.hid (X0.out.on HKA.out), HKA⟩
          · have HKA := Lib.hid (HK.out.trans ((Kept.refl NoB wr).alloc (.cells #[.slice ab nb cb, .slice (some ⟨g5, 0, none⟩) n3 c5, .slice (some ⟨g4, 0, none⟩) n3 c4, .slice (some ⟨g5, 0, none⟩) k c5] 22)))
            go_wp2
            go_meet
            exact ⟨some ⟨g5, 0, none⟩, c5, bs3, by rw [HN3.out], Lib.hid (X1.out.on HKA.out), HKA⟩
          · have HKA := Lib.hid (HK.out.trans ((Kept.refl NoB wr).alloc (.cells #[.slice ab nb cb, .slice (some ⟨g5, 0, none⟩) n3 c5, .slice (some ⟨g4, 0, none⟩) n3 c4, .slice (some ⟨g5, 0, none⟩) k c5] 22)))
            go_wp2
            go_meet
            exact ⟨some ⟨g4, 0, none⟩, c4, bs3.set j v, by rw [HSl.out], Lib.hid (X2.out.on HKA.out), HKA⟩
          · have HKA := Lib.hid (HK.out.trans ((Kept.refl NoB wr).alloc (.cells #[.slice ab nb cb, .slice (some ⟨g5, 0, none⟩) n3 c5, .slice (some ⟨g4, 0, none⟩) n3 c4, .slice (some ⟨g5, 0, none⟩) k c5] 22)))
            go_wp2
            go_meet
            exact ⟨some ⟨g5, 0, none⟩, c5, bs3.take k, by rw [HTl.out], Lib.hid (X3.out.on HKA.out), HKA⟩
        case rest =>
        obtain ⟨xa, xc, xs, rfl, HX, HKc⟩ := hcut
        clear HK
        obtain ⟨n, hn⟩ : ∃ n, n = xs.length := ⟨_, rfl⟩
        have HN := Lib.hid hn
        rw [← hn]
        clear hn
        go_upto_region 16 with fail
        go_cut [18, 19] from 87 to 93 (fun s t wx => ∃ R B aoR capR, s = .pointer (some ⟨R, 0, none⟩) ∧ t = .pointer (some ⟨B, 0, none⟩) ∧ Rds wc wx R aoR capR xs B 0 0)
        case first =>
          have hb100 : n ≤ 1000 := by have := HX.out.len; have := HN.out; omega
          have hcv : ∀ W, Kept NoB wc W → (convert 22 9 (.slice xa n xc)).run Try.prog W = .ok (.string (strOfNums xs)) W := fun W hk => conv_reads (HX.out.rd.kept hk (fun _ _ h => h)) HN.out HX.out.nil
          have HNr : Hid (∀ W, Kept NoB wc W → Calls Try.prog 10 #[.slice xa n xc] W (NewR W xs)) := fun W hk => by
            have h := newr_any xa xc xs W (HX.out.rd.kept hk (fun _ _ h => h)) (by have := HX.out.len; omega) HX.out.all
            rwa [← HN.out] at h
          have hk0 := Kept.refl NoB wc
          go_wp2_with fail
          go_region_held3 (fun W => Kept NoB wc W) (first | assumption | exact Kept.drew (by assumption) | exact Kept.alloc (by assumption) _ | exact Kept.trans (by assumption) hkn)
            (first
              | (go_at_call 10; ((with_reducible refine (HNr.out _ (by assumption)).mono ?_); rintro e wn ⟨R, aoR, capR, rfl, hR, hRf, hRo, hkn⟩; have HRn := Lib.hid hR; have HRf := Lib.hid hRf; have HRo := Lib.hid hRo; clear hR hRf hRo)))
          · go_wp2
            go_meet
            have hk1 : Kept NoB wc wn := ((Kept.refl NoB wc).drew).trans hkn
            exact ⟨R, wn.heap.size, aoR, capR, rfl, rfl, HRn.out.keptNo ((Kept.refl NoB wn).alloc _), ⟨heap_alloc_new _ _, HX.out.all, by have := HN.out; omega, by omega⟩, HRf.out, hk1.size, HRo.out, (hk1.alloc _).belowNo (Below.refl _ _)⟩
          · go_wp2
            go_meet
            have hk1 : Kept NoB wc wn := by assumption
            exact ⟨R, wc.heap.size, aoR, capR, rfl, rfl, HRn.out, ⟨hkn.obj (heap_alloc_new _ _) (fun h => h), HX.out.all, by have := HN.out; omega, by omega⟩, Nat.le_trans (Kept.alloc (Kept.refl NoB wc) _).size HRf.out, Nat.le_refl _, (fun k hk => Nat.le_trans (Kept.alloc (Kept.refl NoB wc) _).size (HRo.out k hk)), hk1.belowNo (Below.refl _ _)⟩
        case rest =>
        obtain ⟨R, B, aoR, capR, rfl, rfl, hS⟩ := hcut
        have HS := Lib.hid hS; clear hS
        have HRa := Lib.hid (lensRead_any xs 0 R aoR capR wc HS.out.a)
        go_wp2_with fail
        with_reducible refine HRa.out.mono ?_
        rintro e w8 ⟨la, lc, l1, ea, ec, d1, f, q, q', rfl, hh1, hR8, hq8, hl8, hd8, hk8⟩
        have HS9 := Lib.hid (HS.out.stepA hR8 hk8)
        have HH1 := Lib.hid hh1; have HQ8 := Lib.hid hq8; have HL8 := Lib.hid hl8; have HD8 := Lib.hid hd8
        clear hh1 hR8 hq8 hl8 hd8 hk8 HRa HS
        have HRb := Lib.hid (rlens_any xs 0 B w8 HS9.out.b)
        go_wp2_with fail
        with_reducible refine HRb.out.mono ?_
        rintro e w9 ⟨la', lc', l2, ea', ec', d2, f', p, p', rfl, hh2, hR9, hq9, hl9, hd9, hk9⟩
        obtain ⟨e1, e2, e3, e4⟩ := HH1.out.det hh2
        subst e1 e2 e3
        have HS10 := Lib.hid (HS9.out.stepB hR9 hk9)
        have hl8 := hk9.row HL8.out (fun k h e => row_ne HL8.out HS9.out.b.1 (by decide) k h (by unfold OneB at e; exact e))
        have hd8 := hk9.row HD8.out (fun k h e => row_ne HD8.out HS9.out.b.1 (by decide) k h (by unfold OneB at e; exact e))
        have hrl := own_readsI hl8 rfl
        have hrd := own_readsI hd8 rfl
        obtain ⟨ll1, ll2⟩ := HH1.out.len
        have hcd := HH1.out.code
        have HSa : Hid (∀ n, Calls Try.prog 13 #[.slice la l1.length lc, .slice la' l1.length lc'] (w9.drewN n) fun e w' => e = .returned (.bool true) ∧ ∃ m, w' = (w9.drewN n).drewN m) := Lib.hid (fun n => by
          have hW := (Kept.refl NoB w9).drewN n
          have h := sameInts_dr la lc l1 la' lc' l1 _ _ (w9.drewN n) (hrl.keptNo hW) (hl9.keptNo hW) (by omega)
          rw [decide_eq_true rfl] at h
          exact h)
        have HSb : Hid (∀ n, Calls Try.prog 13 #[.slice ea d1.length ec, .slice ea' d1.length ec'] (w9.drewN n) fun e w' => e = .returned (.bool true) ∧ ∃ m, w' = (w9.drewN n).drewN m) := Lib.hid (fun n => by
          have hW := (Kept.refl NoB w9).drewN n
          have h := sameInts_dr ea ec d1 ea' ec' d1 _ _ (w9.drewN n) (hrd.keptNo hW) (hd9.keptNo hW) (by omega)
          rw [decide_eq_true rfl] at h
          exact h)
        have HAt := Lib.hid (fun n => at_same _ _ _ _ _ _ (HS10.out.keptNo ((Kept.refl NoB w9).drewN n)).a)
        have hc1 : w9.cell? ⟨B, 1, none⟩ = some (.int .i64 (p' : Int)) := by simpa using obj_cell HS10.out.b.1 1
        have q2 : (f != f) = false := by simp
        obtain ⟨n1, hn1⟩ : ∃ n, n = l1.length := ⟨_, rfl⟩
        obtain ⟨n2, hn2⟩ : ∃ n, n = d1.length := ⟨_, rfl⟩
        rw [← hn1] at HSa ⊢
        rw [← hn2] at HSb ⊢
        have HC : Hid (f = 0 → p' = q') := Lib.hid (fun h => by rw [HQ8.out h, hq9 h, e4 h])
        clear hh2 hR9 hq9 hl9 hd9 hk9 HRb HS9 hl8 hd8 hrl hrd HL8 HD8 HQ8 HH1 e4 ll1 ll2 hn1 hn2
        by_cases hf : f = 0
        · have hpq := HC.out hf
          clear hcd
          subst hpq
          subst hf
          have q3 : ((p' : Int) != (p' : Int)) = false := by simp
          go_upto_region 21 with fail
          go_quiet (first
            | (go_at_call 13; with_reducible exact Calls.quiet_of (HSa.out _))
            | (go_at_call 13; with_reducible exact Calls.quiet_of (HSb.out _))
            | (go_at_call 14; with_reducible exact Calls.quiet_of_same ((HAt.out _).mono fun _ _ h => ⟨h.1, h.2.symm⟩)))
          have HKn := Lib.hid ((HKc.out.trans (Kept.ofBelow (Kept.refl NoB _) HS10.out.bel)).drewN nq)
          clear hc1
          go_wp2
          go_roundw
          case rel => exact ⟨i + 1, by go_num, by omega, HKn⟩
          case measure => simp [intOf]; omega
        · have hf2 : (f == 0) = false := by simp [hf]
          clear hcd hf HC
          go_upto_region 21 with fail
          go_quiet (first
            | (go_at_call 13; with_reducible exact Calls.quiet_of (HSa.out _))
            | (go_at_call 13; with_reducible exact Calls.quiet_of (HSb.out _)))
          have HKn := Lib.hid ((HKc.out.trans (Kept.ofBelow (Kept.refl NoB _) HS10.out.bel)).drewN nq)
          clear hc1
          go_wp2
          go_roundw
          case rel => exact ⟨i + 1, by go_num, by omega, HKn⟩
          case measure => simp [intOf]; omega
      · have hKf := HK6.out.trans HK.out
        have HKf := Lib.hid hKf
        clear hKf
        go_wp2_with fail
        with_reducible refine (awake8 _).mono ?_
        rintro e w8 ⟨rfl, hb8⟩
        have hfin := (HKf.out.ofBelow hb8).belowNo (Below.refl _ _)
        have HFin := Lib.hid hfin
        clear hb8 hfin
        go_wp2
        go_ret
        exact ⟨rfl, HFin.out⟩

set_option maxRecDepth 20000 in
theorem lensReads_law (v0 v1 v2 v3 v4 : Value) (w : World) (r0 : Arg w 22 v0) (r1 : Arg w 23 v1) (r2 : Arg w 23 v2) (r3 : Arg w 3 v3) (r4 : Arg w 3 v4) : Calls Try.prog 3 #[v0, v1, v2, v3, v4] w fun e w' => e = .returned (.bool true) ∧ Below w.heap.size w w' := by
  obtain ⟨ab, cb, bs, rfl, hc, hmb, hr, hbb, h0⟩ := r0.bytes Try.underlying22
  obtain ⟨ao, ca, ws, rfl, _, _, hx, _, _⟩ := r1.ints
  obtain ⟨bo, cd, ds, rfl, hdc, hdm, hy, _, _⟩ := r2.ints
  obtain ⟨bit, rfl, _⟩ := r3.int rfl
  obtain ⟨cut, rfl, _⟩ := r4.int rfl
  exact lensReads_walk ab cb bs ao ca ws bo cd ds bit cut w hr hbb ⟨hc, hmb⟩ h0 hx hy hdc hdm
end Go.Proofs.Ytpdlkmacdmnamaa
