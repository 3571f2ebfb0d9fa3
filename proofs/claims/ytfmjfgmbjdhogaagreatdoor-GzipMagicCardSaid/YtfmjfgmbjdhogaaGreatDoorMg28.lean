/-
  gzip.All of nothing; law11.awake.
  deflate.All of up to 32768 bytes below level 1: a stored block.
  gzip.Member below level 1.
  law11.awake.
-/
import Derived.Test.YtfmjfgmbjdhogaaGreatDoorMg27
import Derived.Lib.SlBytesConst
namespace Go.Proofs.YtfmjfgmbjdhogaaGreatDoor
open Go.RowKit
set_option linter.unusedVariables false
set_option linter.unusedSimpArgs false
set_option maxRecDepth 20000

theorem hdS_nil : (hdS []).s14.e ≠ 0 := by
  rcases hdS_short (b := []) (fun h => absurd h (by decide)) (fun h => absurd h (by decide)) (by decide) with h | h <;> rw [h] <;> decide
set_option maxHeartbeats 4000000 in
theorem gzall_nil (w : World) (z : Int) : Calls Tryz.prog 18 #[.slice none 0 0, .int .i64 z] w fun e w' => e = .returned (.tuple #[.slice none 0 0, .slice none 0 0, .int .i64 0, .int .i64 8]) ∧ Kept NoB w w' := by
  have HNt := Lib.hid (newt_any w)
  have HE := Lib.hid hdS_nil
  go_enter Tryz.func18, Tryz.ntmps18
  go_wp2_with fail
  refine HNt.out.mono ?_
  rintro e w1 ⟨T, rfl, hT, hTl, hk1⟩
  have HK1 := Lib.hid hk1
  have HRH := Lib.hid (readhead_any w1 none 0 0 [] rfl ⟨⟨fun _ => rfl, fun a e => by cases e⟩, (fun x hx => by cases hx), Nat.le_refl _, Nat.zero_le _, fun _ => rfl⟩ (by decide))
  have hsl : ∀ W, (Instr.slice 22 (.slice none 0 0) (some (.int .i64 0)) none none).run Tryz.prog W = .ok (.slice none 0 0) W := fun W => by
    obtain ⟨o, h1, h2⟩ := slg_l none 0 0 0 [] rfl (Nat.le_refl _) (Nat.le_refl _) (fun _ => rfl)
    have := h1 W
    rw [h2.nil.2 rfl] at this
    exact this
  clear hT hTl hk1 HNt
  go_wp2_with fail
  go_loopw [4, 5, 6, 9, 10, 11, 12, 13, 14, 15, 16, 17] (fun v4 v5 v6 _ _ _ _ _ _ _ _ _ wr => v4 = .slice none 0 0 ∧ v5 = .slice none 0 0 ∧ v6 = .int .i64 0 ∧ wr = w1) (fun _ _ _ _ _ _ _ _ _ _ _ _ _ => 0)
  case atStart => exact ⟨rfl, rfl, rfl, rfl⟩
  case round =>
    obtain ⟨rfl, rfl, rfl, rfl⟩ := hrel
    go_wp2_with fail
    refine HRH.out.mono ?_
    rintro e w3 ⟨a, k, g', n', rfl, hz1, hz2, hx, hk3⟩
    have hn0 := hz2.out HE.out
    subst hn0
    obtain ⟨er, her⟩ : ∃ x, x = (hdS []).s14.e := ⟨_, rfl⟩
    have hne : er ≠ 0 := by rw [her]; exact HE.out
    rw [← her]
    have hne2 : (er == 0) = false := by simpa using hne
    have hG1 : (w3.alloc (.cells gz0 42)).heap[w3.heap.size]? = some (.cells gz0 42 (0, 0)) := heap_alloc_new _ _
    have hk4 : Kept NoB w3 ((w3.alloc (.cells gz0 42)).setRow w3.heap.size (gzV a k g')) := by
      have h1 : Kept NoB w3 (w3.alloc (.cells gz0 42)) := (Kept.refl _ _).alloc _
      exact ⟨h1.os, h1.tape, h1.output, by simp [World.setRow], fun k hk hs => (setRow_other _ _ k _ (by omega)).trans (h1.block k hk hs)⟩
    have hone : (gzV a k g').all (·.oneCell') = true := by unfold gzV; rw [← Array.all_toList]; rfl
    unfold gz0 at hG1 hk4
    have HG1 := Lib.hid hG1; have HOne := Lib.hid hone; have HK4 := Lib.hid ((HK1.out.trans hk3).trans hk4)
    clear hz1 hz2 hx hG1 hone HRH HE her hk3 hk4 hne
    go_upto_region 3 with (refine wpList_store_row rfl 42 (.tmp 9) (.tmp 24) rfl w3.heap.size (gzV a k g') rfl rfl _ _ HG1.out infoGz rfl HOne.out ?_)
    generalize (w3.alloc (.cells #[.bool false, .bool false, .bool false, .slice none 0 0, .string ⟨#[]⟩, .string ⟨#[]⟩, .int .i64 0, .int .i64 0, .int .i64 0] 42)).setRow w3.heap.size (gzV a k g') = w4 at HK4 ⊢
    go_wp2
    refine bodyPost_ret (results_tmp4 rfl _ _ _) rfl ?_
    exact ⟨rfl, HK4.out⟩
theorem mm_ok {g : GzP} {lv : Int} {L body : List UInt8} {qs : List (Nat × Nat)} (hg : g.Ok) (hp : PackedP lv L (nb body) qs) (hl : L.length ≤ 240) : Mm.Ok ⟨g, L, body⟩ := by
  have h1 := hp.len
  have h2 := hp.few
  have h3 := hp.pos
  rw [nb_len] at h1
  exact ⟨hg, ⟨lv, qs, hp⟩, by dsimp only; omega, by dsimp only; omega, by dsimp only; omega⟩
theorem tail_whole (L : List UInt8) (more : List Int) (hl : L.length < 4294967296) : tailS (nb (leB 4 (crcL L)) ++ nb (leB 4 L.length) ++ more) (crcL L) L.length = (0, 0) := by
  have h1 : (nb (leB 4 (crcL L))).length = 4 := by rw [nb_len, leB_len]
  have h2 : (nb (leB 4 L.length)).length = 4 := by rw [nb_len, leB_len]
  have n1 : num (nb (leB 4 (crcL L))) = crcL L := leB_num 4 _ (crc16_nat _)
  have n2 : num (nb (leB 4 L.length)) = L.length := leB_num 4 _ hl
  generalize nb (leB 4 (crcL L)) = x at *
  generalize nb (leB 4 L.length) = y at *
  have e1 : (x ++ y ++ more).take 4 = x := by rw [List.append_assoc, ← h1, List.take_left]
  have e2 : ((x ++ y ++ more).drop 4).take 4 = y := by rw [List.append_assoc, ← h1, List.drop_left, h1, ← h2, List.take_left]
  unfold tailS
  rw [e1, e2, n1, n2, if_neg (fun k => k.2 rfl), if_neg (by simp only [List.length_append]; omega), if_neg (fun k => k rfl)]
theorem memB_next (m : Mm) (at_ : Nat) : m.next at_ + 8 = at_ + (memB m.g m.L m.body).length := by
  unfold Mm.next memB
  simp only [List.length_append, leB_len]
  omega
theorem rnd_mem {pre rest : List Int} {m : Mm} {M : Nat} {out : List UInt8} (hm : m.Ok) (hr : out.length + m.L.length ≤ M) : Rnd (pre ++ (nb (memB m.g m.L m.body) ++ rest)) pre.length M out m (nb (leB 4 (crcL m.L)) ++ nb (leB 4 m.L.length) ++ rest) := by
  refine ⟨?_, hm, hr⟩
  rw [List.drop_left]
  unfold memB
  simp [nb]
theorem drop_mem (pre rest : List Int) (m : Mm) : (pre ++ (nb (memB m.g m.L m.body) ++ rest)).drop (m.next pre.length + 8) = rest := by
  rw [memB_next, ← List.drop_drop, List.drop_left, ← nb_len, List.drop_left]
theorem tail_le1 {m : Mm} (h : m.Ok) : m.L.length < 4294967296 := by have := h.ll; omega
theorem leadZ_all : ∀ k, leadZ (List.replicate k 0) = k
  | 0 => rfl
  | k + 1 => by rw [List.replicate_succ, leadZ, if_pos rfl, leadZ_all k]
theorem memB_head (m : Mm) : ∃ r, nb (memB m.g m.L m.body) = 31 :: r := ⟨nb (memB m.g m.L m.body).tail, by
  have : memB m.g m.L m.body = 31 :: (memB m.g m.L m.body).tail := rfl
  rw [this]; rfl⟩
theorem go_rows {M k : Nat} : ∀ (ms : List Mm) (pre : List Int) (out : List UInt8) (gs : List GzP), ms ≠ [] → (∀ m ∈ ms, m.Ok) → out.length + (ms.map (·.L)).flatten.length ≤ M →
    GoG (pre ++ (nb ((ms.map fun m => memB m.g m.L m.body).flatten) ++ List.replicate k 0)) M pre.length out gs 0 0 (out ++ (ms.map (·.L)).flatten) (gs ++ ms.map (·.g))
  | [], _, _, _, h, _, _ => absurd rfl h
  | [m], pre, out, gs, _, hok, hM => by
    have hm := hok m (List.mem_singleton_self m)
    simp only [List.map_cons, List.map_nil, List.flatten_cons, List.flatten_nil, List.append_nil] at hM ⊢
    refine GoG.done (rnd_mem hm (by simpa using hM)) (tail_whole _ _ (tail_le1 hm)) ?_
    rw [drop_mem, leadZ_all, memB_next]
    simp only [List.length_append, nb_len, List.length_replicate]
    omega
  | m :: m2 :: r, pre, out, gs, _, hok, hM => by
    have hm := hok m List.mem_cons_self
    have ih := go_rows (M := M) (k := k) (m2 :: r) (pre ++ nb (memB m.g m.L m.body)) (out ++ m.L) (gs ++ [m.g]) (by simp) (fun x hx => hok x (List.mem_cons_of_mem _ hx)) (by
      simp only [List.map_cons, List.flatten_cons, List.length_append] at hM ⊢; omega)
    obtain ⟨t, ht⟩ := memB_head m2
    have eb : pre ++ (nb (((m :: m2 :: r).map fun m => memB m.g m.L m.body).flatten) ++ List.replicate k 0) = pre ++ (nb (memB m.g m.L m.body) ++ (nb (((m2 :: r).map fun m => memB m.g m.L m.body).flatten) ++ List.replicate k 0)) := by
      simp [nb]
    have eb2 : (pre ++ nb (memB m.g m.L m.body)) ++ (nb (((m2 :: r).map fun m => memB m.g m.L m.body).flatten) ++ List.replicate k 0) = pre ++ (nb (memB m.g m.L m.body) ++ (nb (((m2 :: r).map fun m => memB m.g m.L m.body).flatten) ++ List.replicate k 0)) := by
      rw [List.append_assoc]
    have e31 : ∃ t, nb (((m2 :: r).map fun m => memB m.g m.L m.body).flatten) ++ List.replicate k (0 : Int) = 31 :: t := by
      rw [List.map_cons, List.flatten_cons, nb_app, ht]
      exact ⟨_, rfl⟩
    obtain ⟨t2, ht2⟩ := e31
    rw [eb2] at ih
    rw [eb]
    refine GoG.next (m := m) (rnd_mem hm (by simp only [List.map_cons, List.flatten_cons, List.length_append] at hM; omega)) (tail_whole _ _ (tail_le1 hm)) ?_ ?_ ?_
    · rw [memB_next, ht2]
      simp only [List.length_append, nb_len, List.length_cons]
      omega
    · rw [drop_mem, ht2, leadZ, if_neg (by decide)]
    · rw [memB_next, ← nb_len, ← List.length_append]
      have e1 : out ++ ((m :: m2 :: r).map (·.L)).flatten = (out ++ m.L) ++ ((m2 :: r).map (·.L)).flatten := by simp
      have e2 : gs ++ (m :: m2 :: r).map (·.g) = (gs ++ [m.g]) ++ (m2 :: r).map (·.g) := by simp
      rw [e1, e2]
      exact ih
end Go.Proofs.YtfmjfgmbjdhogaaGreatDoor

namespace Go.Proofs.YtfmjfgmbjdhogaaGreatDoor
open Go.RowKit
set_option linter.unusedVariables false
set_option linter.unusedSimpArgs false
set_option maxRecDepth 20000

set_option maxHeartbeats 4000000 in
theorem allStore_any (w : World) (lv : Int) (H k : Nat) (ps : List (List UInt8)) (hk : k = ps.length) (hk4 : k ≤ 1000) (hp : ∀ i, i < k → ∃ o c, w.cell? ⟨H, i, none⟩ = some (.slice o (ps.getD i []).length c) ∧ Reads w o (nb (ps.getD i [])) ∧ (o = none → c = 0)) (hlen : ps.flatten.length ≤ 32768)
    (hlv : -9223372036854775808 ≤ lv ∧ lv ≤ 9223372036854775807) (hl1 : lv < 1) :
    Calls Tryz.prog 9 #[.int .i64 lv, .slice (some ⟨H, 0, none⟩) k k] w fun e w' => ∃ ao c bs qs, e = .returned (.slice ao bs.length c) ∧ PackedP lv ps.flatten bs qs ∧ Reads w' ao bs ∧ (ao = none → c = 0) ∧ bs.length ≤ c ∧ Kept NoB w w' := by
  have HCc := Lib.hid (concatB_any H k ps w hk hk4 hp (by omega))
  obtain ⟨L, hL⟩ : ∃ L, L = ps.flatten := ⟨_, rfl⟩
  rw [← hL] at HCc hlen ⊢
  clear hk hp hL
  go_enter Tryz.func9, Tryz.ntmps9
  go_wp2_with fail
  refine HCc.out.mono ?_
  rintro e w1 ⟨a, n, c, rfl, hn, hst⟩
  have HSt := Lib.hid hst; have HN := Lib.hid hn
  have hcap := hst.cap
  have hnl : n ≤ 32768 := by omega
  clear hst hn HCc
  go_wp2_with fail
  refine (neww_any _).mono ?_
  rintro e w2 ⟨A, rfl, hW, hAf, hk2⟩
  have HW := Lib.hid hW; have HAf : Hid (w1.heap.size ≤ A) := Lib.hid hAf; have HK2 := Lib.hid hk2
  clear hW hAf hk2
  have hsh : ∀ q, a = some q → ∃ g, q = ⟨g, 0, none⟩ := fun q hq => by
    rcases HSt.out.own.2 with ⟨hv, _⟩ | ⟨g, cc, cur, hv, _⟩
    · simp at hv; rw [hv.1] at hq; cases hq
    · simp at hv; rw [hv.1] at hq; cases hq; exact ⟨g, rfl⟩
  have hxl : n = (nb L).length := by rw [nb_len]; exact HN.out
  have hE1 : ∀ W, (Instr.slice 22 (.slice a n c) none (some (.int .i64 (n : Int))) none).run Tryz.prog W = .ok (.slice a n c) W := fun W => by
    rw [run_slice_h (P := Tryz.prog) (w := W) 22 a n c (by kernel_rfl) .i64 (n : Int) (by omega) (by have := hcap.1; omega), size_u8]
    simp only [Result.andThen, Int.toNat_natCast]
    unfold sliced
    rw [Nat.sub_zero, Nat.sub_zero]
    cases a with
    | none => simp
    | some q =>
      obtain ⟨g, rfl⟩ := hsh q rfl
      simp [addr_add]
  obtain ⟨o2, c2, hE2, _⟩ := slc_l a n c n (nb L) hxl hsh (Nat.le_refl _) hcap.1 hcap.2.2
  rw [Nat.sub_self] at hE2
  have hblk : ∀ q, a = some q → q.block < w1.heap.size := fun q hq => own_lt HSt.out.own _ (by rw [hq]; rfl)
  have hsep : ∀ q, a = some q → q.block ≠ A ∧ (Value.slice none ([] : List Int).length 0).ownBlock ≠ some q.block := fun q hq => by
    have h1 := hblk q hq
    have h2 := HAf.out
    exact ⟨by omega, by simp [Value.ownBlock]⟩
  have hst2 : BySt w w2 a n c L := HSt.out.on HK2.out
  have hrd := hst2.reads
  have hcS := storeAll_few w2 A none 0 [] 0 true a c (nb L) HW.out (by omega) hrd (nb_all L) (by rw [nb_len]; omega) hsep
  rw [← hxl] at hcS
  have HcS := Lib.hid hcS
  have HCap := Lib.hid hcap; have HKw2 := Lib.hid hst2.kept; have HAw : Hid (w.heap.size ≤ A) := Lib.hid (Nat.le_trans HSt.out.kept.size HAf.out)
  have hfin : ∀ (w3 : World) (qs : List (Nat × Nat)) (a3 : Option Addr) (c3 : Nat) (b3 : List Int), WroteP w2 A (.slice none ([] : List Int).length 0) [] 0 qs w3 a3 c3 b3 → PackedP lv L b3 qs →
      Calls Tryz.prog 28 #[.pointer (some ⟨A, 0, none⟩)] w3 fun e w' => ∃ ao c bs qs, e = .returned (.slice ao bs.length c) ∧ PackedP lv L bs qs ∧ Reads w' ao bs ∧ (ao = none → c = 0) ∧ bs.length ≤ c ∧ Kept NoB w w' := fun w3 qs a3 c3 b3 h1 h2 => by
    refine (wbytes_any _ _ _ _ _ _ h1.1).mono ?_
    rintro e w' ⟨ao', cap', rfl, ho, hf, hn, hk'⟩
    refine ⟨ao', cap', b3, qs, rfl, h2, own_reads ho rfl, own_nil ho, (own_cap2 ho).1, ?_⟩
    refine (HKw2.out.transO h1.2.2.1 (fun i hi e => ?_)).trans hk'
    rcases e with e | e
    · unfold OneB at e; have := HAw.out; omega
    · unfold OwnB at e; simp [Value.ownBlock] at e
  have HFin := Lib.hid hfin
  have hLl : L.length ≤ 32768 := hlen
  have hmin : ¬ (1048560 : Int) < (n : Int) := by omega
  have hmin2 : min (n : Int) 1048560 = (n : Int) := by omega
  clear hsh hxl hblk hsep hst2 hrd hcS hfin hcap
  go_wp2_with fail
  go_loopw [5, 7] (fun bv _n wr => bv = .slice a n c ∧ w2 = wr) (fun _ _ _ => 0)
  case atStart => exact ⟨rfl, rfl⟩
  case round =>
    obtain ⟨rfl, rfl⟩ := hrel
    go_wp2_with fail
    refine HcS.out.mono ?_
    rintro e w3 ⟨a3, c3, b3, rfl, hW3⟩
    have hup : up8 (0 + 3) - (0 + 3) = 5 := rfl
    rw [hup] at hW3
    have HF3 := Lib.hid (HFin.out w3 _ a3 c3 b3 hW3 (packed_of hLl hW3 (Nat.le_refl _) (fun _ => rfl) (.inl rfl)))
    clear hW3 hup
    go_wp2_with fail
    refine HF3.out.mono ?_
    rintro e w4 ⟨ao, c4, bs, qs, rfl, h1, h2, h3, h4, h5⟩
    have H1 := Lib.hid h1; have H2 := Lib.hid h2; have H3 := Lib.hid h3; have H4 := Lib.hid h4; have H5 := Lib.hid h5
    clear h1 h2 h3 h4 h5
    go_wp2
    go_ret
    exact ⟨ao, c4, bs, qs, rfl, H1.out, H2.out, H3.out, H4.out, H5.out⟩
end Go.Proofs.YtfmjfgmbjdhogaaGreatDoor

namespace Go.Proofs.YtfmjfgmbjdhogaaGreatDoor
open Go.RowKit
set_option linter.unusedVariables false
set_option linter.unusedSimpArgs false
set_option maxRecDepth 20000

set_option maxHeartbeats 4000000 in
theorem member_yes0 (w : World) (a : Option Addr) (c : Nat) (g : GzP) (lv : Int) (H k : Nat) (ps : List (List UInt8)) (hg : g.Ok) (hr : Reads w a (nb g.extra)) (hc : g.extra.length ≤ c) (h0 : a = none → c = 0)
    (hk : k = ps.length) (hk4 : k ≤ 1000) (hp : ∀ W, Kept NoB w W → ∀ i, i < k → ∃ o c, W.cell? ⟨H, i, none⟩ = some (.slice o (ps.getD i []).length c) ∧ Reads W o (nb (ps.getD i [])) ∧ (o = none → c = 0) ∧ (ps.getD i []).length ≤ c ∧ c ≤ maxLen) (hlen : ps.flatten.length ≤ 32768)
    (hlv : -9223372036854775808 ≤ lv ∧ lv ≤ 9223372036854775807) (hl1 : lv < 1) :
    Calls Tryz.prog 17 #[.agg (gzV a c g), .int .i64 lv, .slice (some ⟨H, 0, none⟩) k k] w fun e w' => ∃ (a2 : Option Addr) (m c2 : Nat) (body : List UInt8) (qs : List (Nat × Nat)), e = .returned (.tuple #[.slice a2 m c2, .bool true]) ∧ Hid (BySt w w' a2 m c2 (memB g ps.flatten body)) ∧ Hid (PackedP lv ps.flatten (nb body) qs) := by
  have HHd := Lib.hid (fun W (h : Kept NoB w W) => gzhead_yes W a c g hg (hr.keptNo h) hc h0)
  have hhl := headG_len g hg
  have HP := Lib.hid hp; have HKe := Lib.hid hk
  have hsz : (Tryz.prog.info? 42).map (·.size) = some (gzV a c g).size := infoGz
  obtain ⟨arr, harr⟩ : ∃ arr, arr = gzV a c g := ⟨_, rfl⟩
  rw [← harr] at HHd hsz ⊢
  have HSz := Lib.hid hsz
  clear hg hr hc h0 hp hk hsz harr
  go_enter Tryz.func17, Tryz.ntmps17
  go_upto_region 1 with fail
  have hob : (w.alloc (.cells arr 42)).heap[w.heap.size]? = some (.cells arr 42 (0, 0)) := heap_alloc_new _ _
  have hk0 : Kept NoB w (w.alloc (.cells arr 42)) := (Kept.refl _ _).alloc _
  generalize w.alloc (.cells arr 42) = wb at hob hk0 ⊢
  generalize w.heap.size = X at hob ⊢
  have HOb := Lib.hid hob; have HHb := Lib.hid (HHd.out wb hk0); have HK0 := Lib.hid hk0
  clear hob HHd hk0
  go_wp2_with (refine wpList_load_row rfl 42 (.tmp 3) rfl X rfl 42 arr (0, 0) _ HOb.out Tryz.underlying42 rfl HSz.out ?_)
  go_wp2_with fail
  refine HHb.out.mono ?_
  rintro e w1 ⟨a1, m1, c1, rfl, hS1⟩
  have HS1 : Hid (BySt w w1 a1 m1 c1 (headG g)) := Lib.hid ⟨hS1.len, hS1.own, HK0.out.trans hS1.kept, fun k e => Nat.le_trans HK0.out.size (hS1.fresh k e)⟩
  have hml : m1 ≤ 70000 := by rw [hS1.len]; exact hhl.2
  clear hS1 HHb HOb HK0
  go_wp2_with fail
  go_loopw [10, 12, 22] (fun v10 _ v22 wr => ∃ i n : Nat, v10 = .int .i64 (n : Int) ∧ v22 = .int .i64 (i : Int) ∧ i ≤ k ∧ n ≤ 32768 ∧ wr = w1 ∧ Hid (n = (ps.take i).flatten.length)) (fun _ _ v22 _ => k - (intOf v22).toNat)
  case atStart => exact ⟨0, 0, rfl, rfl, Nat.zero_le _, by omega, rfl, Lib.hid rfl⟩
  case round =>
    obtain ⟨i, n, rfl, rfl, hi, hn, rfl, HN⟩ := hrel
    by_cases hik : i < k
    · obtain ⟨o, co, c0, hro, hno, hlo, hco⟩ := HP.out wr HS1.out.kept i hik
      have hfs := flat_step ps i (by rw [← HKe.out]; exact hik)
      have hfl := flat_le ps (i + 1)
      obtain ⟨pl, hpl⟩ : ∃ pl, pl = (ps.getD i []).length := ⟨_, rfl⟩
      rw [← hpl] at c0 hlo
      have hnn : n + pl = (ps.take (i + 1)).flatten.length := by rw [hfs, List.length_append, ← HN.out, hpl]
      have hn2 : n + pl ≤ 32768 := by omega
      have HNn := Lib.hid hnn
      have hco2 := hco
      unfold maxLen at hco2
      clear hro hno hfs hfl hpl hnn hco
      go_wp2
      go_roundw
      case rel => exact ⟨i + 1, n + pl, by go_num, by go_num, by omega, by omega, by trivial, Lib.hid HNn.out⟩
      case measure => simp [intOf]; omega
    · have hik2 : i = k := by omega
      subst hik2
      have HNl : Hid (n = ps.flatten.length) := Lib.hid (by rw [HN.out, List.take_of_length_le (by rw [← HKe.out]; exact Nat.le_refl _)])
      clear HN hi hik
      have HAll := Lib.hid (allStore_any wr lv H i ps HKe.out hk4 (fun j hj => by
        obtain ⟨o, co, h1, h2, h3, _, _⟩ := HP.out wr HS1.out.kept j hj
        exact ⟨o, co, h1, h2, h3⟩) hlen hlv hl1)
      have hparts : ∀ W, Kept NoB w W → Parts W (some ⟨H, 0, none⟩) (ps.map nb) := fun W hk => by
        by_cases h0 : i = 0
        · left
          have : ps.length = 0 := by rw [← HKe.out]; exact h0
          rw [List.eq_nil_of_length_eq_zero this]; rfl
        · right
          obtain ⟨o, co, h1, _⟩ := HP.out W hk 0 (by omega)
          refine ⟨H, 0, rfl, World.block_lt_of_cell? W _ h1, fun j hj => ?_⟩
          have hj2 : j < i := by rw [HKe.out]; simpa using hj
          obtain ⟨o, co, h1, h2, h3, h4, h5⟩ := HP.out W hk j hj2
          have e : (ps.map nb).getD j [] = nb (ps.getD j []) := by
            have hjp : j < ps.length := by rw [← HKe.out]; exact hj2
            simp [List.getD, hjp]
          rw [e, nb_len, Nat.zero_add]
          exact ⟨o, co, h1, h2, h4, h5, h3⟩
      have hallp : AllP (ps.map nb) := by
        intro p hp
        obtain ⟨q, _, rfl⟩ := List.mem_map.1 hp
        exact nb_all q
      have hflat : (ps.map nb).flatten = nb ps.flatten := by unfold nb; rw [List.map_flatten]
      have HSum : Hid (∀ W T, Kept NoB w W → Tbl W T → Calls Tryz.prog 44 #[.pointer (some ⟨T, 0, none⟩), .slice (some ⟨H, 0, none⟩) i i] W fun e w' => e = .returned (.int .u32 (crcL ps.flatten : Nat)) ∧ Kept NoB W w') := Lib.hid (fun W T hk hT => by
        have := sum_any W T (some ⟨H, 0, none⟩) i i (ps.map nb) hT (hparts W hk) hallp (by rw [List.length_map, HKe.out]) (by omega)
        rw [hflat] at this
        exact this)
      have hcl : crcL ps.flatten < 4294967296 := crc16_nat _
      clear hparts hallp hflat
      generalize hLe : ps.flatten = L at *
      have HLe := Lib.hid hLe
      obtain ⟨cr, hcr⟩ : ∃ cr, cr = crcL L := ⟨_, rfl⟩
      rw [← hcr] at HSum hcl
      have HCr := Lib.hid hcr
      clear hLe hcr
      go_wp2_with fail
      refine HAll.out.mono ?_
      rintro e w4 ⟨ao, c4, bs, qs, rfl, hP, hrd, hno, hcc, hk4'⟩
      have hall := hP.all
      have hnu := nb_un hall
      have hbl : bs.length ≤ 40000 := by have h1 := hP.len; have h2 := hP.few; omega
      have HS4 := Lib.hid (HS1.out.on hk4')
      have HPk : Hid (PackedP lv L (nb (un bs)) qs) := Lib.hid (by rw [hnu]; exact hP)
      have hrd2 : Reads w4 ao (nb (un bs)) := by rw [hnu]; exact hrd
      have hul : bs.length = (un bs).length := by simp [un]
      obtain ⟨body, hbody⟩ : ∃ body, body = un bs := ⟨_, rfl⟩
      rw [← hbody] at HPk hrd2 hul
      obtain ⟨bl, hble⟩ : ∃ bl, bl = bs.length := ⟨_, rfl⟩
      rw [← hble] at hbl hul hcc ⊢
      have HRd := Lib.hid hrd2; have HUl := Lib.hid hul
      clear hP hrd hall hnu hbody hrd2 hul hk4' HAll hble
      cases ao with
      | none =>
        have hc0 := hno rfl
        subst hc0
        have hb0 : bl = 0 := by omega
        subst hb0
        have hbn : body = [] := List.eq_nil_of_length_eq_zero HUl.out.symm
        have HS5 : Hid (BySt w w4 a1 m1 c1 (headG g ++ body)) := Lib.hid (by rw [hbn, List.append_nil]; exact HS4.out)
        have HNt := Lib.hid (newt_any w4)
        clear hno
        go_wp2_with (first | (at_builtin; refine wpList_by_none rfl (.tmp 31) (.tmp 34) rfl HS4.out rfl rfl ?_) | fail)
        refine HNt.out.mono ?_
        rintro e w6 ⟨T, rfl, hT, hTl, hk6⟩
        have HS6 := Lib.hid (HS5.out.on hk6)
        have HSm := Lib.hid (HSum.out w6 T HS6.out.kept hT)
        clear hT hTl hk6 HNt
        go_wp2_with fail
        refine HSm.out.mono ?_
        rintro e w7 ⟨rfl, hk7⟩
        have HA1 := Lib.hid (appnum_any w w7 a1 m1 c1 _ cr 4 4 rfl (HS6.out.on hk7) (by omega) (by decide) (by omega))
        clear hk7 HSm
        go_wp2_with fail
        refine HA1.out.mono ?_
        rintro e w8 ⟨a8, c8, rfl, hS8⟩
        have HA2 := Lib.hid (appnum_any w w8 a8 (m1 + 4) c8 _ n 4 4 rfl hS8 (by omega) (by decide) (by omega))
        clear hS8 HA1
        go_wp2_with fail
        refine HA2.out.mono ?_
        rintro e w9 ⟨a9, c9, rfl, hS9⟩
        have HS9 := Lib.hid hS9
        clear hS9 HA2
        go_wp2
        go_ret2
        refine ⟨a9, _, c9, body, qs, rfl, Lib.hid ?_, Lib.hid (by rw [HLe.out]; exact HPk.out)⟩
        rw [HLe.out]
        unfold memB
        rw [← HCr.out, ← HNl.out]
        exact HS9.out
      | some ad =>
        clear hno
        go_wp2_with (first | (at_builtin; refine wpList_by_row rfl (.tmp 31) (.tmp 34) rfl HS4.out rfl ad c4 bl body HUl.out rfl HRd.out (by omega) ?_; intro a5 c5 w5 hS5; have HS5 := Lib.hid hS5; have HNt := Lib.hid (newt_any w5); clear hS5) | fail)
        refine HNt.out.mono ?_
        rintro e w6 ⟨T, rfl, hT, hTl, hk6⟩
        have HS6 := Lib.hid (HS5.out.on hk6)
        have HSm := Lib.hid (HSum.out w6 T HS6.out.kept hT)
        clear hT hTl hk6 HNt
        go_wp2_with fail
        refine HSm.out.mono ?_
        rintro e w7 ⟨rfl, hk7⟩
        have HA1 := Lib.hid (appnum_any w w7 a5 (m1 + bl) c5 _ cr 4 4 rfl (HS6.out.on hk7) (by omega) (by decide) (by omega))
        clear hk7 HSm
        go_wp2_with fail
        refine HA1.out.mono ?_
        rintro e w8 ⟨a8, c8, rfl, hS8⟩
        have HA2 := Lib.hid (appnum_any w w8 a8 (m1 + bl + 4) c8 _ n 4 4 rfl hS8 (by omega) (by decide) (by omega))
        clear hS8 HA1
        go_wp2_with fail
        refine HA2.out.mono ?_
        rintro e w9 ⟨a9, c9, rfl, hS9⟩
        have HS9 := Lib.hid hS9
        clear hS9 HA2
        go_wp2
        go_ret2
        refine ⟨a9, _, c9, body, qs, rfl, Lib.hid ?_, Lib.hid (by rw [HLe.out]; exact HPk.out)⟩
        rw [HLe.out]
        unfold memB
        rw [← HCr.out, ← HNl.out]
        exact HS9.out
end Go.Proofs.YtfmjfgmbjdhogaaGreatDoor

namespace Go.Proofs.YtfmjfgmbjdhogaaGreatDoor
open Go.RowKit
set_option linter.unusedVariables false
set_option linter.unusedSimpArgs false
set_option maxRecDepth 20000

theorem conv_by {w0 w : World} {a : Option Addr} {l c : Nat} {L : List UInt8} (h : BySt w0 w a l c L) : (convert 22 9 (.slice a l c)).run Tryz.prog w = .ok (.string (strB L)) w := by
  rw [← nb_strG]
  exact conv_reads h.reads (by rw [nb_len]; exact h.len) h.cap.2.2
theorem CurRow.ofBy {w0 w : World} {a : Option Addr} {l c : Nat} {L : List UInt8} (h : BySt w0 w a l c L) : CurRow w a c (nb L) := ⟨h.reads, nb_all L, by rw [nb_len, ← h.len]; exact h.cap.1, h.cap.2.1, h.cap.2.2⟩
theorem isg_mem (w : World) {w0 : World} {a : Option Addr} {l c : Nat} {m : Mm} {rest : List UInt8} (h : BySt w0 w a l c (memB m.g m.L m.body ++ rest)) : Calls Tryz.prog 21 #[.slice a l c] w fun e w' => e = .returned (.bool true) ∧ w' = w := by
  refine isg_yes w a l c (nb (memB m.g m.L m.body ++ rest)) (by rw [nb_len]; exact h.len) h.reads ?_ ?_ ?_
  · rw [h.len]
    have h1 : 2 ≤ (memB m.g m.L m.body).length := by
      have : memB m.g m.L m.body = 31 :: 139 :: (memB m.g m.L m.body).tail.tail := rfl
      rw [this]; simp
    rw [List.length_append]; omega
  · have : memB m.g m.L m.body ++ rest = 31 :: ((memB m.g m.L m.body).tail ++ rest) := rfl
    rw [this]; rfl
  · have : memB m.g m.L m.body ++ rest = 31 :: 139 :: ((memB m.g m.L m.body).tail.tail ++ rest) := rfl
    rw [this]; rfl
def g255 : GzP := ⟨false, false, false, [], [], [], 0, 0, 255⟩
theorem g255_ok : g255.Ok := ⟨by decide, by decide, by decide, by decide, fun _ => rfl, by decide, by decide, by decide, by decide⟩
set_option maxHeartbeats 4000000 in
theorem awake11_any (w : World) : Calls Tryz.prog 15 #[] w fun e w' => e = .returned (.bool true) ∧ Kept NoB w w' := by
  have hk0 : Kept NoB w ((w.alloc (.cells #[.int .u8 97] 5 (1, 2))).alloc (.cells #[.slice (some ⟨w.heap.size, 0, none⟩) 1 1] 22)) := ((Kept.refl _ _).alloc _).alloc _
  have hrd : Reads ((w.alloc (.cells #[.int .u8 97] 5 (1, 2))).alloc (.cells #[.slice (some ⟨w.heap.size, 0, none⟩) 1 1] 22)) (some ⟨w.heap.size, 0, none⟩) (nb [97]) :=
    (lit_reads (t := 5) (fr := (1, 2)) (cs := #[.int .u8 97]) (nb [97]) (heap_alloc_new _ _) rfl).keptNo ((Kept.refl _ _).alloc _)
  have hcl : ((w.alloc (.cells #[.int .u8 97] 5 (1, 2))).alloc (.cells #[.slice (some ⟨w.heap.size, 0, none⟩) 1 1] 22)).cell? ⟨w.heap.size + 1, 0, none⟩ = some (.slice (some ⟨w.heap.size, 0, none⟩) 1 1) := cell_new 0 (by simp)
  have HMem := Lib.hid (member_yes0 ((w.alloc (.cells #[.int .u8 97] 5 (1, 2))).alloc (.cells #[.slice (some ⟨w.heap.size, 0, none⟩) 1 1] 22)) none 0 g255 0 (w.heap.size + 1) 1 [[97]] g255_ok ⟨fun _ => rfl, fun a e => by cases e⟩ (Nat.zero_le _) (fun _ => rfl) rfl (by decide)
    (fun W hk i hi => by
      have : i = 0 := by omega
      subst this
      exact ⟨_, 1, hk.cell hcl, hrd.keptNo hk, fun e => (by cases e), Nat.le_refl _, by unfold maxLen; omega⟩) (by decide) (by decide) (by decide))
  have HMem : Hid (Calls Tryz.prog 17 #[.agg #[.bool false, .bool false, .bool false, .slice none 0 0, .string ⟨#[]⟩, .string ⟨#[]⟩, .int .i64 0, .int .i64 0, .int .i64 255], .int .i64 0, .slice (some ⟨w.heap.size + 1, 0, none⟩) 1 1] ((w.alloc (.cells #[.int .u8 97] 5 (1, 2))).alloc (.cells #[.slice (some ⟨w.heap.size, 0, none⟩) 1 1] 22)) fun e w' => ∃ (a2 : Option Addr) (m c2 : Nat) (body : List UInt8) (qs : List (Nat × Nat)), e = .returned (.tuple #[.slice a2 m c2, .bool true]) ∧ Hid (BySt ((w.alloc (.cells #[.int .u8 97] 5 (1, 2))).alloc (.cells #[.slice (some ⟨w.heap.size, 0, none⟩) 1 1] 22)) w' a2 m c2 (memB g255 [97] body)) ∧ Hid (PackedP 0 [97] (nb body) qs)) := HMem
  have HK0 := Lib.hid hk0
  have kc := fun (w : World) (C : Array Value) (n c : Nat) => Lib.run_convert_bytes_const (P := Tryz.prog) w 22 5 C n c Tryz.underlying22 Tryz.underlying5
  clear hk0 hrd hcl
  go_enter Tryz.func15, Tryz.ntmps15
  go_wp2_with fail
  refine HMem.out.mono ?_
  rintro e w2 ⟨a2, m, c2, body, qs, rfl, HB, HP⟩
  have hok : Mm.Ok ⟨g255, [97], body⟩ := mm_ok g255_ok HP.out (by decide)
  have hgo := go_rows (M := 10) (k := 0) [⟨g255, [97], body⟩] [] [] [] (by simp) (by intro x hx; rw [List.mem_singleton] at hx; subst hx; exact hok) (by simp)
  have eb : ([] : List Int) ++ (nb (([(⟨g255, [97], body⟩ : Mm)].map fun m => memB m.g m.L m.body).flatten) ++ List.replicate 0 0) = nb (memB g255 [97] body) := by simp
  rw [eb] at hgo
  have hbl : (memB g255 [97] body).length ≤ 100000 := by
    have := (headG_len g255 g255_ok).2
    have := hok.bl
    unfold memB
    simp only [List.length_append, leB_len]
    dsimp only at this
    omega
  have HAll := Lib.hid (gzall_any w2 a2 m c2 (nb (memB g255 [97] body)) 10 10 _ _ _ _ (by rw [nb_len]; exact HB.out.len) (CurRow.ofBy HB.out) (by rw [HB.out.len]; exact hbl) rfl (by decide) hgo)
  have HIs := Lib.hid (fun (W : World) (hk : Kept NoB w2 W) => isg_mem W (m := ⟨g255, [97], body⟩) (rest := []) (by rw [List.append_nil]; exact HB.out.on hk))
  have HKB := Lib.hid (HK0.out.trans HB.out.kept)
  clear hok hgo eb hbl HMem
  go_wp2_with fail
  refine HAll.out.mono ?_
  rintro e w3 ⟨oa, ol, oc, ha, hl, hc, es, rfl, HI, HE⟩
  have HNil := Lib.hid (gzall_nil w3 10)
  have HIs3 := Lib.hid (fun W hk => HIs.out W (HI.out.ob.kept.trans hk))
  clear HAll
  go_wp2_with fail
  refine HNil.out.mono ?_
  rintro e w4 ⟨rfl, hk4⟩
  have HI4 := Lib.hid (HI.out.no hk4)
  have HIs4 := Lib.hid (HIs3.out w4 hk4)
  clear hk4 HNil HI
  have hcv := conv_by HI4.out.ob
  have hye : ∃ y, es = [y] ∧ y.g = g255 := by have := HE.out; simpa using this
  obtain ⟨y, rfl, hyg⟩ := hye
  have hl1 : hl = 1 := HI4.out.hs.len
  subst hl1
  obtain ⟨gb, rfl, hgc⟩ := HI4.out.hs.cell 0 (by simp)
  have hg8 : w4.cell? ⟨gb, 8, none⟩ = some (.int .i64 255) := by
    have := hgc 8 (by decide)
    rw [Nat.zero_mul, Nat.zero_add] at this
    rw [this]
    show (gzV y.a y.k y.g)[8]? = _
    rw [hyg]; rfl
  have hol : ([] : List UInt8) ++ ([(⟨g255, [97], body⟩ : Mm)].map (·.L)).flatten = [97] := rfl
  rw [hol] at hcv
  have hst := strB_list [97]
  have HK := Lib.hid (HKB.out.trans HI4.out.ob.kept)
  clear hgc hol HE HI4 HB HP HIs HIs3 hyg
  go_wp2_with fail
  refine HIs4.out.mono ?_
  rintro e w5 ⟨rfl, rfl⟩
  go_wp2
  go_ret
  exact ⟨rfl, HK.out⟩
end Go.Proofs.YtfmjfgmbjdhogaaGreatDoor
