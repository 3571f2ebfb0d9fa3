/-
  FeedJoin: whatever the sizes, pieces one behind the other are all bytes; what is told may be turned.
-/
import Derived.Test.YtffoigacpnlkgaaLawFeedPieces
namespace Go.Proofs.Ytffoigacpnlkgaa
open Go.RowKit
set_option linter.unusedVariables false
set_option linter.unusedSimpArgs false

theorem Src.keptLe {w w' : World} {S L : Nat} {ab : Option Addr} {cb : Nat} {bs : List Int} {az : Option Addr} {cs : Nat} {zs : List Int} {p t : Nat} (h : Src w S L ab cb bs az cs zs p t) {T : Nat → Prop} (hk : Kept T w w') (hs : ∀ k, k ≤ S → ¬ T k) : Src w' S L ab cb bs az cs zs p t :=
  { h with
    obj := hk.obj h.obj (hs S (Nat.le_refl _))
    rd := h.rd.kept hk (fun a ha => hs _ (Nat.le_of_lt (h.rdb a ha).2))
    ri := h.ri.kept hk (fun k hk2 => hs k (Nat.le_of_lt hk2)) }
theorem str_append (a b : List Int) : strOfNums a ++ strOfNums b = strOfNums (a ++ b) := by
  apply ByteArray.ext
  apply Array.ext'
  rw [strOfNums_data]
  simp [strOfNums_data]
theorem take_add_drop (bs : List Int) (p n : Nat) : bs.take p ++ (bs.drop p).take n = bs.take (p + n) := by rw [List.take_add]

set_option maxRecDepth 100000 in
set_option maxHeartbeats 4000000 in
theorem feedJoin_walk (ao : Option Addr) (cap len : Nat) (bs : List Int) (aa : Option Addr) (ca la : Nat) (xs : List Int) (ac : Option Addr) (cc lc : Nat) (ys : List Int) (w : World) (hlen : bs.length = len) (hr : Reads w ao bs) (hb : AllB bs) (h0 : ao = none → cap = 0) (hlc : len ≤ cap) (hm : cap ≤ maxLen)
    (hla : xs.length = la) (hra : RdI w w.heap.size aa xs) (hza : AllI xs) (hz0 : aa = none → xs.length = 0 ∧ ca = 0) (hma : la ≤ maxLen)
    (hlcc : ys.length = lc) (hrc : RdI w w.heap.size ac ys) (hzc : AllI ys) (hc0 : ac = none → ys.length = 0 ∧ cc = 0) (hmc : lc ≤ maxLen) :
    Calls Try.prog 12 #[.slice ao len cap, .slice aa la ca, .slice ac lc cc] w fun e w' => e = .returned (.bool true) ∧ Below w.heap.size w w' := by
  unfold maxLen at hm hma hmc
  have HLen := Lib.hid hlen; have HR := Lib.hid hr; have HB := Lib.hid hb; have H0 := Lib.hid h0
  have HLa := Lib.hid hla; have HRa := Lib.hid hra; have HZa := Lib.hid hza; have HZ0 := Lib.hid hz0
  have HLc := Lib.hid hlcc; have HRc := Lib.hid hrc; have HZc := Lib.hid hzc; have HC0 := Lib.hid hc0
  clear hlen hr hb h0 hla hra hza hz0 hlcc hrc hzc hc0
  have hcase : ((300 : Int) < len) ∨ (¬ (300 : Int) < len ∧ (20 : Int) < la) ∨ (¬ (300 : Int) < len ∧ ¬ (20 : Int) < la ∧ (20 : Int) < lc) ∨ (¬ (300 : Int) < len ∧ ¬ (20 : Int) < la ∧ ¬ (20 : Int) < lc) := by omega
  go_enter Try.func12, Try.ntmps12
  rcases hcase with h1 | ⟨h1, h2⟩ | ⟨h1, h2, h3⟩ | ⟨h1, h2, h3⟩
  · go_wp2_with fail
    refine (awake3 _).mono ?_
    rintro e w2 ⟨rfl, hb2⟩
    go_wp2
    go_ret
    exact ⟨rfl, hb2⟩
  · go_wp2_with fail
    refine (awake3 _).mono ?_
    rintro e w2 ⟨rfl, hb2⟩
    go_wp2
    go_ret
    exact ⟨rfl, hb2⟩
  · go_wp2_with fail
    refine (awake3 _).mono ?_
    rintro e w2 ⟨rfl, hb2⟩
    go_wp2
    go_ret
    exact ⟨rfl, hb2⟩
  · have hcv := conv_reads HR.out HLen.out.symm H0.out
    go_wp2
    clear hcv
    go_loopw [8] (fun i wr => ∃ j : Nat, j ≤ 2 ∧ i = .int .i64 j ∧ Below w.heap.size w wr) (fun i _ => 2 - (intOf i).toNat)
    case atStart => exact ⟨0, by omega, rfl, Below.refl _ _⟩
    case round =>
      obtain ⟨j, hj, rfl, hB⟩ := hrel
      have HBr := Lib.hid hB; clear hB
      by_cases hlt : j < 2
      · have hlti : (j : Int) < 2 := by omega
        go_upto_region 7 with fail
        go_cut [9] from 35 to 42 (fun s wx => ∃ S ab cb az cz zs, s = .pointer (some ⟨S, 0, none⟩) ∧ Src wx S w.heap.size ab cb bs az cz zs 0 0 ∧ Below w.heap.size w wx)
        case first =>
          have hwb : w.heap.size ≤ wr.heap.size := HBr.out.size
          have key : ∃ az lz cz zs, zs.length = lz ∧ RdI w w.heap.size az zs ∧ AllI zs ∧ (az = none → zs.length = 0 ∧ cz = 0) ∧ (#[Value.slice aa la ca, Value.slice ac lc cc])[j]? = some (.slice az lz cz) ∧ zs.length ≤ 20 := by
            rcases (show j = 0 ∨ j = 1 by omega) with rfl | rfl
            · exact ⟨aa, la, ca, xs, HLa.out, HRa.out, HZa.out, HZ0.out, rfl, by have := HLa.out; omega⟩
            · exact ⟨ac, lc, cc, ys, HLc.out, HRc.out, HZc.out, HC0.out, rfl, by have := HLc.out; omega⟩
          obtain ⟨az, lz, cz, zs, hlz, hri, hzz, hzn, hcell, hl20⟩ := key
          have hn1 := news_any (wr.alloc (.cells #[.slice aa la ca, .slice ac lc cc] 64)) ao cap bs az cz zs ((HR.out.below HBr.out).keptNo ((Kept.refl _ _).alloc _)) HB.out (by have := HLen.out; omega) (((hri.below HBr.out).kept ((Kept.refl NoB _).alloc _) (fun _ _ h => h)).mono (by simp; omega)) hzn (by omega) hzz
          have hc0 : (wr.alloc (.cells #[.slice aa la ca, .slice ac lc cc] 64)).cell? ⟨wr.heap.size, j, none⟩ = some (.slice az lz cz) := by rw [cell_new j rfl]; exact hcell
          rw [HLen.out, hlz] at hn1
          have HN1 := Lib.hid hn1; have HWb := Lib.hid hwb
          clear hn1 hlz hri hzz hzn hcell hl20 hwb
          go_wp2_with fail
          refine (HN1.out).mono ?_
          rintro e w1 ⟨S, ab, cb, az', cz', rfl, hS, hk1⟩
          have hB1 := (((Kept.refl NoB wr).alloc _).trans hk1).belowNo HBr.out
          have hL : w.heap.size ≤ (wr.alloc (.cells #[.slice aa la ca, .slice ac lc cc] 64)).heap.size := by have := HWb.out; simp; omega
          have hS' : Src w1 S w.heap.size ab cb bs az' cz' zs 0 0 := { hS with rdb := fun a ha => ⟨Nat.le_trans hL (hS.rdb a ha).1, (hS.rdb a ha).2⟩, rib := fun h a ha => Nat.le_trans hL (hS.rib h a ha), low := Nat.le_trans hL hS.low }
          have HS' := Lib.hid hS'; have HB1 := Lib.hid hB1
          clear hS hk1 hB1 hL hS' hc0
          go_wp2
          go_meet
          exact ⟨S, ab, cb, az', cz', zs, rfl, HS'.out, HB1.out⟩
        case rest =>
        obtain ⟨S, ab, cb, az, cz, zs, rfl, hS, hB1⟩ := hcut
        have HS1 := Lib.hid hS; have HB1 := Lib.hid hB1
        clear hS hB1
        have e0 : strOfNums (bs.take 0) = ⟨#[]⟩ := rfl
        go_wp2
        go_loopw [10, 11] (fun al i wx => ∃ k p t : Nat, k ≤ p ∧ p ≤ len ∧ i = .int .i64 k ∧ al = .string (strOfNums (bs.take p)) ∧ Src wx S w.heap.size ab cb bs az cz zs p t ∧ Below w.heap.size w wx) (fun _ i _ => len + 1 - (intOf i).toNat)
        case atStart => exact ⟨0, 0, 0, by omega, by omega, rfl, rfl, HS1.out, HB1.out⟩
        case round =>
          obtain ⟨k, p, t, hkp, hpl, rfl, rfl, hS, hB⟩ := hrel
          have hkl : (k : Int) ≤ len := by omega
          have HS := Lib.hid hS; have HBk := Lib.hid hB
          clear hS hB
          by_cases hpe : p = len
          · go_wp2_with fail
            refine (next_end _ HS.out (by rw [HLen.out]; exact hpe)).mono ?_
            rintro e w3 ⟨rfl, hk3⟩
            have HB3 := Lib.hid (hk3.belowNo HBk.out)
            have hall : bs.take p = bs := List.take_of_length_le (by have := HLen.out; omega)
            rw [hall]
            have hcv := conv_reads (HR.out.below HB3.out) HLen.out.symm H0.out
            clear hk3 hall
            go_wp2
            exact ⟨⟨j + 1, by omega, by go_num, HB3.out⟩, by simp [intOf]; omega⟩
          · have hplb : p < bs.length := by have := HLen.out; omega
            obtain ⟨n, hn⟩ : ∃ n : Nat, (n : Int) = if (bs.length : Int) - p < szOf bs zs t then (bs.length : Int) - p else szOf bs zs t := ⟨(if (bs.length : Int) - p < szOf bs zs t then (bs.length : Int) - p else szOf bs zs t).toNat, Int.toNat_of_nonneg (by have := szOf_bd (bs := bs) HS.out.zall HS.out.bl t; split <;> omega)⟩
            have hn1 : 1 ≤ n ∧ p + n ≤ len := by
              have := HLen.out
              have := szOf_bd (bs := bs) HS.out.zall HS.out.bl t
              split at hn <;> omega
            have HNx := Lib.hid (next_some _ (n := n) HS.out hplb hn)
            clear hn hplb
            go_wp2_with fail
            refine HNx.out.mono ?_
            rintro e w3 ⟨a3, c3, rfl, HO3, HF3, HS3, HK3⟩
            have HB3 := Lib.hid (HK3.out.below HBk.out (by intro k hk; have := HS.out.low; unfold OneB at hk; omega))
            clear HNx
            have hxl : ((bs.drop p).take n).length = n := by rw [List.length_take, List.length_drop, HLen.out]; omega
            obtain ⟨g, hg⟩ : ∃ g, a3 = some ⟨g, 0, none⟩ := by
              rcases HO3.out.2 with ⟨h1, h2⟩ | ⟨g, c, cur, h1, _⟩
              · omega
              · simp at h1; exact ⟨g, h1.1⟩
            subst hg
            have hgS : S < g := by have h1 := HF3.out g rfl; have h2 := obj_lt HS.out.obj; omega
            have hcv := conv_reads (n := n) (cap := c3) (own_reads (n := n) (by rw [hxl]; exact HO3.out) hxl.symm) hxl.symm (fun h => by cases h)
            have hsz : (strOfNums (bs.take p)).size ≤ 300 := by rw [strOfNums_size, List.length_take]; have := HLen.out; omega
            have hsz2 : (strOfNums ((bs.drop p).take n)).size ≤ 300 := by rw [strOfNums_size, hxl]; omega
            have hap := str_append (bs.take p) ((bs.drop p).take n)
            rw [take_add_drop] at hap
            have HGS := Lib.hid hgS; have HXl := Lib.hid hxl; have HAp := Lib.hid hap
            clear hgS hxl hap
            generalize hst : strOfNums ((bs.drop p).take n) = st at hcv hsz2 HAp
            generalize hs0 : strOfNums (bs.take p) = s0 at hsz HAp ⊢
            clear hst hs0
            have hgw : w.heap.size ≤ g := by have h1 := HF3.out g rfl; have h2 := HBk.out.size; omega
            go_wp2
            clear hcv hsz hsz2
            go_loopw [64] (fun i wx => ∃ (m : Nat) (zl : List Int), m ≤ n ∧ i = .int .i64 m ∧ zl.length = n ∧ wx.ownsRow 0 5 1 (.slice (some ⟨g, 0, none⟩) n c3) n (zl.map (.int .u8)) ∧ Kept (OneB g) w3 wx) (fun i _ => n - (intOf i).toNat)
            case atStart => exact ⟨0, _, by omega, rfl, HXl.out, HO3.out, Kept.refl _ _⟩
            case round =>
              obtain ⟨m, zl, hmn, rfl, hzl, hown, hK⟩ := hrel
              have HOwn := Lib.hid hown; have HK := Lib.hid hK; have HZl := Lib.hid hzl
              by_cases hmlt : m < n
              · have hc0 : wr.cell? ⟨g, m, none⟩ = some (.int .u8 (zl.getD m 0)) := by
                  rw [hown.cellAt m (by omega)]; simp [List.getD, show m < zl.length from by omega]
                have hf0 : wr.frozen? ⟨g, m, none⟩ = false := hown.frozenAt _
                have hst := fun u => (hown.stored m (.int .u8 u)).1
                have HSt := Lib.hid hst
                generalize zl.getD m 0 = z at hc0
                clear hown hK hzl hst
                go_wp2
                go_roundw
                case rel => exact ⟨m + 1, zl.set m ((z + 1) % 256), by omega, by go_num, by rw [List.length_set]; exact HZl.out, by rw [List.map_set]; exact HSt.out _, Kept.setCell (S := OneB g) (p := ⟨g, m, none⟩) HK.out (.inl rfl) _⟩
                case measure => simp [intOf]; omega
              · have hS4 := HS3.out.keptLe hK (fun k hk e => by have := HGS.out; unfold OneB at e; omega)
                have hB4 := hK.below HB3.out (fun k e => by unfold OneB at e; omega)
                have HS4 := Lib.hid hS4; have HB4 := Lib.hid hB4
                clear hS4 hB4 hown hK hzl
                go_wp2
                exact ⟨⟨k + 1, p + n, _, by omega, by omega, by go_num, by rw [HAp.out], HS4.out, HB4.out⟩, by simp [intOf]; omega⟩
      · go_wp2_with fail
        refine (awake3 _).mono ?_
        rintro e w2 ⟨rfl, hb2⟩
        have hb3 := HBr.out.trans (hb2.mono HBr.out.size)
        go_wp2
        go_ret
        exact ⟨rfl, hb3⟩

theorem feedJoin_law (v0 v1 v2 : Value) (w : World) (r0 : Arg w 22 v0) (r1 : Arg w 64 v1) (r2 : Arg w 64 v2) : Calls Try.prog 12 #[v0, v1, v2] w fun e w' => e = .returned (.bool true) ∧ Below w.heap.size w w' := by
  obtain ⟨ao, cap, bs, rfl, hc, hm, hr, hb, h0⟩ := r0.bytes Try.underlying22
  obtain ⟨az, cz, zs, rfl, hcz, hmz, hri, hza, hz0⟩ := r1.ints
  obtain ⟨ay, cy, ys, rfl, hcy, hmy, hry, hya, hy0⟩ := r2.ints
  refine feedJoin_walk ao cap _ bs az cz _ zs ay cy _ ys w rfl hr hb h0 hc hm rfl hri hza (fun h => ⟨?_, hz0 h⟩) (by omega) rfl hry hya (fun h => ⟨?_, hy0 h⟩) (by omega)
  · have := hz0 h
    omega
  · have := hy0 h
    omega
end Go.Proofs.Ytffoigacpnlkgaa
