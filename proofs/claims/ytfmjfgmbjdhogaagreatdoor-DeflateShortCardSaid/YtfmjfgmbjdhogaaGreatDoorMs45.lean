/-
  deflate.All of up to 32768 bytes in parts: one block.
  Most, for few bytes (stage 10).
-/
import Derived.Test.YtfmjfgmbjdhogaaGreatDoorMs44
namespace Go.Proofs.YtfmjfgmbjdhogaaGreatDoor
open Go.RowKit
set_option linter.unusedVariables false
set_option linter.unusedSimpArgs false
set_option maxRecDepth 20000

theorem no_to {t : Tk} {n : Nat} {m m2 : Int} (h : t.no n m = 0) (hm : m ≤ m2) : t.no n m2 = 0 := by
  unfold Tk.no at h ⊢
  repeat' split at h
  all_goals first | (exact absurd h (by decide)) | skip
  all_goals (repeat' split) <;> first | rfl | omega | (simp_all; try omega)
theorem good_to {m m2 : Int} (hm : m ≤ m2) : ∀ (ts : List Tk) (bs : List Int), good m ts bs → good m2 ts bs
  | [], bs, h => h
  | t :: ts, bs, h => ⟨no_to h.1 hm, good_to hm ts _ h.2⟩
/-- Bytes that are one block that says b, no longer than a stored one; below level 1 a stored one. -/
structure PackedP (lv : Int) (L : List UInt8) (bs : List Int) (qs : List (Nat × Nat)) : Prop where
  all : AllB bs
  len : bs.length = (wdN qs + 7) / 8
  puts : Puts bs 0 qs
  few : wdN qs ≤ 40 + 8 * L.length
  low : lv < 1 → qs = storedW true 5 (nb L)
  run2 : ∀ (b2 : List Int) (post : List (Nat × Nat)) (M : Nat), L.length ≤ M → Puts b2 0 (qs ++ post) → Steps b2 M 0 .block false [] (wdN qs) .fin true (nb L)
theorem PackedP.run {lv : Int} {L : List UInt8} {bs : List Int} {qs : List (Nat × Nat)} (h : PackedP lv L bs qs) (M : Nat) (hM : L.length ≤ M) : Steps bs M 0 .block false [] (wdN qs) .fin true (nb L) := h.run2 bs [] M hM (by simpa using h.puts)
theorem stored_wd5 (b : List Int) : wdN (storedW true 5 b) = 40 + 8 * b.length := by
  unfold storedW
  rw [wdN_append, bytesW_wd]
  simp only [wdN]
theorem packed_of {w w' : World} {R cap : Nat} {v0 : Value} {lv : Int} {L : List UInt8} {qs : List (Nat × Nat)} {ao : Option Addr} {bs : List Int} (hL : L.length ≤ 32768) (h : WroteP w R v0 [] 0 qs w' ao cap bs) (hlen : wdN qs ≤ wdN (storedW true 5 (nb L))) (hlow : lv < 1 → qs = storedW true 5 (nb L))
    (hf : qs = storedW true 5 (nb L) ∨ (∃ ws, TokWs fixL fixD (restT lv L 0) ws ∧ qs = [(lastN true, 1), (1, 2)] ++ (ws ++ [wordZ fixL 256])) ∨
      (∃ lit dist code told rs ws, CodeOk lit ∧ CodeOk dist ∧ HasC lit 256 ∧ headB lit dist = true ∧ CodeW code told rs (lit ++ dist) ∧ TokWs lit dist (restT lv L 0) ws ∧ qs = [(lastN true, 1), (2, 2)] ++ (headW lit dist code told rs ++ (ws ++ [wordZ lit 256])))) : PackedP lv L bs qs := by
  have hl := h.1.2.2.2.1
  rw [Nat.zero_add] at hl
  have hall := h.1.2.2.1
  rw [stored_wd5, nb_len] at hlen
  obtain ⟨f1, f2, f3, f4⟩ := rest_facts lv L hL
  have hup : up8 (0 + 3) - (0 + 3) = 5 := rfl
  rcases hf with rfl | ⟨ws, hws, rfl⟩ | ⟨lit, dist, code, told, rs, ws, d1, d2, d3, d4, d5, hws, rfl⟩
  · have hbk := BlkS.stored 0 true (nb L) (nb_all L) (by rw [nb_len]; omega)
    rw [hup] at hbk
    have hp := puts_of h hbk.lt
    refine ⟨hall, hl, hp, hlen, hlow, fun b2 post M hM hp2 => ?_⟩
    have h2 := hbk.run b2 [] post M false [] rfl (by simpa using hp2) (by rw [nb_len]; simpa using hM)
    simpa [wdN, endM] using h2
  · have hlt : ∀ y ∈ [(lastN true, 1), (1, 2)] ++ (ws ++ [wordZ fixL 256]), y.1 < 2 ^ y.2 := by
      intro y hy
      rcases List.mem_append.1 hy with h | h
      · simp only [List.mem_cons, List.not_mem_nil, or_false] at h
        rcases h with rfl | rfl
        · exact lastN_one true
        · decide
      · rcases List.mem_append.1 h with h | h
        · exact hws.lt y h
        · simp only [List.mem_cons, List.not_mem_nil, or_false] at h; subst h; exact wordZ_lt _ _
    have hp := puts_of h hlt
    refine ⟨hall, hl, hp, hlen, hlow, fun b2 post M hM hp2 => ?_⟩
    have h2 := fixed_steps (bs := b2) (s := 0) (most := M) (last := true) (l0 := false) (pre := []) (post := post) (out := []) hws (by simpa using hp2) (good_to (by omega) _ _ f2)
    rw [f3] at h2
    simpa [wdN, endM] using h2
  · have hlt : ∀ y ∈ [(lastN true, 1), (2, 2)] ++ (headW lit dist code told rs ++ (ws ++ [wordZ lit 256])), y.1 < 2 ^ y.2 := by
      intro y hy
      rcases List.mem_append.1 hy with h | h
      · simp only [List.mem_cons, List.not_mem_nil, or_false] at h
        rcases h with rfl | rfl
        · exact lastN_one true
        · decide
      · rcases List.mem_append.1 h with h | h
        · exact headW_lt d5 d4 y h
        · rcases List.mem_append.1 h with h | h
          · exact hws.lt y h
          · simp only [List.mem_cons, List.not_mem_nil, or_false] at h; subst h; exact wordZ_lt _ _
    have hp := puts_of h hlt
    refine ⟨hall, hl, hp, hlen, hlow, fun b2 post M hM hp2 => ?_⟩
    have h2 := dynamic_steps (bs := b2) (s := 0) (most := M) (last := true) (l0 := false) (pre := []) (post := post) (out := []) hws d1 d2 d3 d5 d4 (by simpa using hp2) (good_to (by omega) _ _ f2)
    rw [f3] at h2
    simpa [wdN, endM] using h2
set_option maxHeartbeats 4000000 in
theorem allPack_any (w : World) (lv : Int) (H k : Nat) (ps : List (List UInt8)) (hk : k = ps.length) (hk4 : k ≤ 1000) (hp : ∀ i, i < k → ∃ o c, w.cell? ⟨H, i, none⟩ = some (.slice o (ps.getD i []).length c) ∧ Reads w o (nb (ps.getD i [])) ∧ (o = none → c = 0)) (hlen : ps.flatten.length ≤ 32768)
    (hT : DeB w) (hlv : -9223372036854775808 ≤ lv ∧ lv ≤ 9223372036854775807) :
    Calls Tryz.prog 9 #[.int .i64 lv, .slice (some ⟨H, 0, none⟩) k k] w fun e w' => ∃ ao c bs qs, e = .returned (.slice ao bs.length c) ∧ PackedP lv ps.flatten bs qs ∧ Reads w' ao bs ∧ (ao = none → c = 0) ∧ bs.length ≤ c ∧ Kept NoB w w' := by
  have HCc := Lib.hid (concatB_any H k ps w hk hk4 hp (by omega))
  have HT := Lib.hid hT
  obtain ⟨L, hL⟩ : ∃ L, L = ps.flatten := ⟨_, rfl⟩
  rw [← hL] at HCc hlen ⊢
  clear hk hp hT hL
  go_enter Tryz.func9, Tryz.ntmps9
  go_wp2_with fail
  refine HCc.out.mono ?_
  rintro e w1 ⟨a, n, c, rfl, hn, hst⟩
  have HSt := Lib.hid hst; have HN := Lib.hid hn
  have hcap := hst.cap
  have hnl : n ≤ 32768 := by omega
  clear hst hn HCc
  go_wp2_with fail
  refine (neww_any _).mono ?_
  rintro e w2 ⟨A, rfl, hW, hAf, hk2⟩
  have HW := Lib.hid hW; have HAf : Hid (w1.heap.size ≤ A) := Lib.hid hAf; have HK2 := Lib.hid hk2
  clear hW hAf hk2
  have hsh : ∀ q, a = some q → ∃ g, q = ⟨g, 0, none⟩ := fun q hq => by
    rcases HSt.out.own.2 with ⟨hv, _⟩ | ⟨g, cc, cur, hv, _⟩
    · simp at hv; rw [hv.1] at hq; cases hq
    · simp at hv; rw [hv.1] at hq; cases hq; exact ⟨g, rfl⟩
  have hxl : n = (nb L).length := by rw [nb_len]; exact HN.out
  have hE1 : ∀ W, (Instr.slice 22 (.slice a n c) none (some (.int .i64 (n : Int))) none).run Tryz.prog W = .ok (.slice a n c) W := fun W => by
    rw [run_slice_h (P := Tryz.prog) (w := W) 22 a n c (by kernel_rfl) .i64 (n : Int) (by omega) (by have := hcap.1; omega), size_u8]
    simp only [Result.andThen, Int.toNat_natCast]
    unfold sliced
    rw [Nat.sub_zero, Nat.sub_zero]
    cases a with
    | none => simp
    | some q =>
      obtain ⟨g, rfl⟩ := hsh q rfl
      simp [addr_add]
  obtain ⟨o2, c2, hE2, _⟩ := slc_l a n c n (nb L) hxl hsh (Nat.le_refl _) hcap.1 hcap.2.2
  rw [Nat.sub_self] at hE2
  have hblk : ∀ q, a = some q → q.block < w1.heap.size := fun q hq => own_lt HSt.out.own _ (by rw [hq]; rfl)
  have hsep : ∀ q, a = some q → q.block ≠ A ∧ (Value.slice none ([] : List Int).length 0).ownBlock ≠ some q.block := fun q hq => by
    have h1 := hblk q hq
    have h2 := HAf.out
    exact ⟨by omega, by simp [Value.ownBlock]⟩
  have hst2 : BySt w w2 a n c L := HSt.out.on HK2.out
  have hrd := hst2.reads
  have hcS := storeAll_few w2 A none 0 [] 0 true a c (nb L) HW.out (by omega) hrd (nb_all L) (by rw [nb_len]; omega) hsep
  rw [← hxl] at hcS
  have HcS := Lib.hid hcS
  have HcP := Lib.hid (packAll_short w2 A none 0 [] 0 true lv a n c L HW.out (by omega) hst2.rowB hrd hsh HN.out hnl hcap.1 (by have := hcap.2.1; unfold maxLen at this; omega) hcap.2.2 hsep (HT.out.kept (HSt.out.kept.trans HK2.out)) hlv)
  have HCap := Lib.hid hcap; have HKw2 := Lib.hid hst2.kept; have HAw : Hid (w.heap.size ≤ A) := Lib.hid (Nat.le_trans HSt.out.kept.size HAf.out)
  have hfin : ∀ (w3 : World) (qs : List (Nat × Nat)) (a3 : Option Addr) (c3 : Nat) (b3 : List Int), WroteP w2 A (.slice none ([] : List Int).length 0) [] 0 qs w3 a3 c3 b3 → PackedP lv L b3 qs →
      Calls Tryz.prog 28 #[.pointer (some ⟨A, 0, none⟩)] w3 fun e w' => ∃ ao c bs qs, e = .returned (.slice ao bs.length c) ∧ PackedP lv L bs qs ∧ Reads w' ao bs ∧ (ao = none → c = 0) ∧ bs.length ≤ c ∧ Kept NoB w w' := fun w3 qs a3 c3 b3 h1 h2 => by
    refine (wbytes_any _ _ _ _ _ _ h1.1).mono ?_
    rintro e w' ⟨ao', cap', rfl, ho, hf, hn, hk'⟩
    refine ⟨ao', cap', b3, qs, rfl, h2, own_reads ho rfl, own_nil ho, (own_cap2 ho).1, ?_⟩
    refine (HKw2.out.transO h1.2.2.1 (fun i hi e => ?_)).trans hk'
    rcases e with e | e
    · unfold OneB at e; have := HAw.out; omega
    · unfold OwnB at e; simp [Value.ownBlock] at e
  have HFin := Lib.hid hfin
  have hLl : L.length ≤ 32768 := hlen
  have hmin : ¬ (1048560 : Int) < (n : Int) := by omega
  have hmin2 : min (n : Int) 1048560 = (n : Int) := by omega
  clear hsh hxl hblk hsep hst2 hrd hcS hfin hcap
  go_wp2_with fail
  go_loopw [5, 7] (fun bv _n wr => bv = .slice a n c ∧ w2 = wr) (fun _ _ _ => 0)
  case atStart => exact ⟨rfl, rfl⟩
  case round =>
    obtain ⟨rfl, rfl⟩ := hrel
    by_cases hl1 : lv < 1
    · go_wp2_with fail
      refine HcS.out.mono ?_
      rintro e w3 ⟨a3, c3, b3, rfl, hW3⟩
      have hup : up8 (0 + 3) - (0 + 3) = 5 := rfl
      rw [hup] at hW3
      have HF3 := Lib.hid (HFin.out w3 _ a3 c3 b3 hW3 (packed_of hLl hW3 (Nat.le_refl _) (fun _ => rfl) (.inl rfl)))
      clear hW3 hup
      go_wp2_with fail
      refine HF3.out.mono ?_
      rintro e w4 ⟨ao, c4, bs, qs, rfl, h1, h2, h3, h4, h5⟩
      have H1 := Lib.hid h1; have H2 := Lib.hid h2; have H3 := Lib.hid h3; have H4 := Lib.hid h4; have H5 := Lib.hid h5
      clear h1 h2 h3 h4 h5
      go_wp2
      go_ret
      exact ⟨ao, c4, bs, qs, rfl, H1.out, H2.out, H3.out, H4.out, H5.out⟩
    · go_wp2_with fail
      refine HcP.out.mono ?_
      rintro e w3 ⟨qs3, a3, c3, b3, rfl, hW3, hlen3, hform3⟩
      have hup : up8 (0 + 3) - (0 + 3) = 5 := rfl
      rw [hup] at hlen3 hform3
      have HF3 := Lib.hid (HFin.out w3 _ a3 c3 b3 hW3 (packed_of hLl hW3 hlen3 (fun h => absurd h (by omega)) hform3))
      clear hW3 hup hlen3 hform3
      go_wp2_with fail
      refine HF3.out.mono ?_
      rintro e w4 ⟨ao, c4, bs, qs, rfl, h1, h2, h3, h4, h5⟩
      have H1 := Lib.hid h1; have H2 := Lib.hid h2; have H3 := Lib.hid h3; have H4 := Lib.hid h4; have H5 := Lib.hid h5
      clear h1 h2 h3 h4 h5
      go_wp2
      go_ret
      exact ⟨ao, c4, bs, qs, rfl, H1.out, H2.out, H3.out, H4.out, H5.out⟩
end Go.Proofs.YtfmjfgmbjdhogaaGreatDoor

namespace Go.Proofs.YtfmjfgmbjdhogaaGreatDoor
open Go.RowKit
set_option linter.unusedVariables false
set_option linter.unusedSimpArgs false
set_option maxRecDepth 20000

set_option maxHeartbeats 2000000 in
theorem most_any (n : Nat) (w : World) (hn : n ≤ 65535) : Calls Tryz.prog 11 #[.int .i64 n] w fun e w' => e = .returned (.int .i64 (n + 10 : Nat)) ∧ w = w' := by
  go_enter Tryz.func11, Tryz.ntmps11
  go_wp2
  go_ret
  have h1 : ((n : Int) + 65535 - 1) / 65535 ≤ 1 := by omega
  refine ⟨?_, rfl⟩
  show Ending.returned (Value.int IntKind.i64 ((n : Int) + 5 * max (((n : Int) + 65535 - 1) / 65535) 1 + 5)) = _
  rw [Int.max_eq_right h1]
  congr 2
