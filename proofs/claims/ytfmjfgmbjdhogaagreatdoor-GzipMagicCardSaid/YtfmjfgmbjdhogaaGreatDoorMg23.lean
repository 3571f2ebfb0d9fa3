/-
  gzip.Head of a head that may be.
  gzip: a head that is read, cell by cell.
-/
import Derived.Test.YtfmjfgmbjdhogaaGreatDoorMg22
namespace Go.Proofs.YtfmjfgmbjdhogaaGreatDoor
open Go.RowKit
set_option linter.unusedVariables false
set_option linter.unusedSimpArgs false
set_option maxRecDepth 20000

theorem infoGz : (Tryz.prog.info? 42).map (·.size) = some 9 := by kernel_rfl
theorem by_lit {w0 w : World} (hk : Kept NoB w0 w) (L : List UInt8) (cs : Array Value) (hc : cs.toList = bc L) (n : Nat) (hn : n = L.length) (hm : n ≤ 1000000) : BySt w0 (w.alloc (.cells cs 5)) (some ⟨w.heap.size, 0, none⟩) n n L := by
  have hs : cs.size = n := by rw [← Array.length_toList, hc, hn]; simp [bc]
  refine ⟨hn, ?_, hk.alloc _, fun k e => by have := hk.size; simp [Value.ownBlock] at e; omega⟩
  refine ⟨by rw [hn]; simp [bc], .inr ⟨w.heap.size, n, cs, rfl, Nat.zero_le _, heap_alloc_new _ _, Nat.le_refl _, by unfold maxLen; omega, by omega, ?_⟩⟩
  rw [hc, List.take_of_length_le]
  rw [hn]; simp [bc]
theorem wpList_by_rowK {w : World} {ops : Array Oper} {rest : List Oper} {o : Oper} {act : Act} {Q : Exit → Act → World → Prop} (hgd : o.guard = none) (s x : Operand)
    (ho : o.op = .call { callee := .builtin .append, args := #[s, x], argTypes := #[22, 22] })
    {w0 : World} {a : Option Addr} {l c : Nat} {L : List UInt8} (hS : BySt w0 w a l c L) (hs : act.eval s = .slice a l c) (ad : Addr) (cx m : Nat) (M : List UInt8) (hm : m = M.length) (hx : act.eval x = .slice (some ad) m cx) (hr : Reads w (some ad) (nb M)) (hn : l + m ≤ 100000000)
    (h : ∀ a2 c2 w', BySt w0 w' a2 (l + m) c2 (L ++ M) → Kept (OwnB (.slice a l c)) w w' → wpList Tryz.prog ops Q rest (act.put o.dst (.slice a2 (l + m) c2)) w') : wpList Tryz.prog ops Q (o :: rest) act w := by
  obtain ⟨i0, hi, hz0, hz1, hz2⟩ := info_parts info5
  refine wpList_app w hgd s x 22 ho 5 i0 (.int .u8 0) 1 1 Tryz.underlying22 hi hz0 hz1 hz2 rfl (by decide) _ l (bc L) hs hS.own ad m cx (bc M) hx (by simp [bc, hm]) ?_ ?_ (by unfold maxLen; omega) (by omega) ?_
  · rw [bc_nb]; exact reads_news hr
  · rw [bc_nb]; exact news_one _
  intro v' w' h2 h3 h4
  obtain ⟨a2, c2, rfl, hb⟩ := hS.grow h2 hm h3 h4
  exact h _ _ _ hb ((Kept.refl _ w).grown h3 (fun k _ e => e))
theorem wpList_by_strK {w : World} {ops : Array Oper} {rest : List Oper} {o : Oper} {act : Act} {Q : Exit → Act → World → Prop} (hgd : o.guard = none) (s x : Operand)
    (ho : o.op = .call { callee := .builtin .append, args := #[s, x], argTypes := #[22, 9] })
    {w0 : World} {a : Option Addr} {l c : Nat} {L : List UInt8} (hS : BySt w0 w a l c L) (hs : act.eval s = .slice a l c) (X : ByteArray) (M : List UInt8) (hX : X = strB M) (m : Nat) (hm : m = M.length) (hx : act.eval x = .string X) (h0 : M ≠ []) (hn : l + m ≤ 100000000)
    (h : ∀ a2 c2 w', BySt w0 w' a2 (l + m) c2 (L ++ M) → Kept (OwnB (.slice a l c)) w w' → wpList Tryz.prog ops Q rest (act.put o.dst (.slice a2 (l + m) c2)) w') : wpList Tryz.prog ops Q (o :: rest) act w := by
  subst hX hm
  have hsz := strB_size M
  have h00 : 0 < M.length := by cases M with | nil => exact absurd rfl h0 | cons _ _ => simp
  refine wpList_app_str hgd s x 22 9 ho Tryz.underlying22 Tryz.underlying9 _ l (bc L) hs hS.own (strB M) hx (by omega) (by omega) ?_
  intro v' w' h2 h3 h4
  rw [byteCells_strB, hsz] at h2
  obtain ⟨a2, c2, rfl, hb⟩ := hS.grow h2 rfl h3 h4
  rw [hsz] at *
  exact h _ _ _ hb ((Kept.refl _ w).grown h3 (fun k _ e => e))
theorem BySt.keepT {w0 w w' : World} {a : Option Addr} {l c H : Nat} {L : List UInt8} {cs : Array Value} {t : TypeId} (h : BySt w0 w a l c L) (hk : Kept (OwnB (.slice a l c)) w w') (hH : w.heap[H]? = some (.cells cs t (0, 0))) (ht : t ≠ 5) : w'.heap[H]? = some (.cells cs t (0, 0)) :=
  hk.obj hH (fun e => row_ne h.own hH ht H e rfl)
def txts (g : GzP) (i : Nat) : List UInt8 := if i = 0 then [] else if i = 1 then txtB g.name else txtB g.name ++ txtB g.comm
set_option maxHeartbeats 4000000 in
theorem gzhead_yes (w : World) (a : Option Addr) (c : Nat) (g : GzP) (h : g.Ok) (hr : Reads w a (nb g.extra)) (hc : g.extra.length ≤ c) (h0 : a = none → c = 0) :
    Calls Tryz.prog 41 #[.agg (gzV a c g)] w fun e w' => ∃ a2 m c2, e = .returned (.tuple #[.slice a2 m c2, .bool true]) ∧ BySt w w' a2 m c2 (headG g) := by
  have HG := Lib.hid h; have HR := Lib.hid hr; have H0 := Lib.hid h0; have HC := Lib.hid hc
  clear h hr h0 hc
  go_enter Tryz.func41, Tryz.ntmps41
  go_upto_region 1 with fail
  have hob : (w.alloc (.cells (gzV a c g) 42)).heap[w.heap.size]? = some (.cells (gzV a c g) 42 (0, 0)) := heap_alloc_new _ _
  have hk0 : Kept NoB w (w.alloc (.cells (gzV a c g) 42)) := (Kept.refl _ _).alloc _
  obtain ⟨wb, hwb⟩ : ∃ wb, wb = w.alloc (.cells (gzV a c g) 42) := ⟨_, rfl⟩
  rw [← hwb] at hob hk0 ⊢
  have HWb := Lib.hid hwb
  have hX : w.heap.size < wb.heap.size := obj_lt hob
  obtain ⟨X, hXe⟩ : ∃ X, X = w.heap.size := ⟨_, rfl⟩
  rw [← hXe] at hob ⊢
  have HOb := Lib.hid hob; have HK0 := Lib.hid hk0
  clear hwb hXe hob hk0 hX
  have HOk := Lib.hid (fun W => gzok_yes W a c g HG.out)
  have HFl := Lib.hid (fun W => flags_any W a c g)
  go_wp2_with (refine wpList_load_row rfl 42 (.tmp 1) rfl X rfl 42 (gzV a c g) (0, 0) _ HOb.out Tryz.underlying42 rfl infoGz ?_)
  go_wp2_with fail
  refine (HOk.out _).mono ?_
  rintro e w1 ⟨rfl, hk1⟩
  have HOb1 := Lib.hid (hk1.obj HOb.out (fun h => h)); have HK1 : Hid (Kept NoB wb w1) := Lib.hid hk1
  clear hk1
  go_wp2_with (refine wpList_load_row rfl 42 (.tmp 1) rfl X rfl 42 (gzV a c g) (0, 0) _ HOb1.out Tryz.underlying42 rfl infoGz ?_)
  go_wp2_with fail
  refine (HFl.out _).mono ?_
  rintro e w2 ⟨rfl, hk2⟩
  have HOb2 := Lib.hid (hk2.obj HOb1.out (fun h => h)); have HK2 := Lib.hid (HK1.out.trans hk2)
  clear hk2
  have hfb := (flag_bits g).1
  have hS1 : BySt wb (w2.alloc (.cells #[.int .u8 31, .int .u8 139, .int .u8 8, .int .u8 (flagN g : Nat)] 5)) (some ⟨w2.heap.size, 0, none⟩) 4 4 [31, 139, 8, UInt8.ofNat (flagN g)] :=
    by_lit HK2.out _ _ (by have e : (UInt8.ofNat (flagN g)).toNat = flagN g := by (rw [UInt8.toNat_ofNat']; omega)
                           simp [bc, e]) 4 rfl (by decide)
  have hk3 : Kept NoB w2 (w2.alloc (.cells #[.int .u8 31, .int .u8 139, .int .u8 8, .int .u8 (flagN g : Nat)] 5)) := (Kept.refl _ _).alloc _
  have HAn := Lib.hid (appnum_any wb _ _ _ _ _ g.time 4 4 rfl hS1 (by have := HG.out.time; omega) (by decide) (by decide))
  have HOb3 := Lib.hid (hk3.obj HOb2.out (fun h => h))
  have c6 := (obj_cell HOb3.out 6).trans (show (gzV a c g)[6]? = some (.int .i64 g.time) from rfl)
  generalize hfle : flagN g = fl at HAn HOb3 c6
  have HFe := Lib.hid hfle
  clear hS1 hk3 hfb hfle
  go_wp2_with fail
  refine HAn.out.mono ?_
  rintro e w3 ⟨a3, c3, rfl, hS3⟩
  have hob3 : w3.heap[X]? = some (.cells (gzV a c g) 42 (0, 0)) := hS3.kept.obj HOb.out (fun h => h)
  have c7 : w3.cell? ⟨X, 7, none⟩ = some (.int .i64 g.xfl) := obj_cell hob3 7
  have c8 : w3.cell? ⟨X, 8, none⟩ = some (.int .i64 g.os) := obj_cell hob3 8
  have v7 : IntKind.u8.wrap (g.xfl : Int) = ((UInt8.ofNat g.xfl).toNat : Int) := by have := HG.out.xfl; rw [UInt8.toNat_ofNat', IntKind.wrap_u8]; omega
  have v8 : IntKind.u8.wrap (g.os : Int) = ((UInt8.ofNat g.os).toNat : Int) := by have := HG.out.os; rw [UInt8.toNat_ofNat', IntKind.wrap_u8]; omega
  have HS3 := Lib.hid hS3
  clear hS3 hob3 HAn c6
  go_upto_if 27 with (at_builtin; refine wpList_by_row rfl (.tmp 17) (.tmp 24) rfl (HS3.out.on ((Kept.refl _ _).alloc _)) rfl ⟨w3.heap.size, 0, none⟩ 2 2 [UInt8.ofNat g.xfl, UInt8.ofNat g.os] rfl rfl (lit_reads (t := 5) (fr := (0, 0)) (cs := #[.int .u8 ((UInt8.ofNat g.xfl).toNat : Int), .int .u8 ((UInt8.ofNat g.os).toNat : Int)]) _ (heap_alloc_new _ _) rfl) (by omega) ?_; intro a4 c4 w4 hS4; have c1 := (obj_cell (hS4.kept.obj HOb.out (fun h => h)) 1).trans (show (gzV a c g)[1]? = some (.bool g.hasx) from rfl); have c3 := (obj_cell (hS4.kept.obj HOb.out (fun h => h)) 3).trans (show (gzV a c g)[3]? = some (.slice a g.extra.length c) from rfl); have HS4 := Lib.hid hS4; clear hS4 HS3)
  have HS4 : Hid (BySt wb w4 a4 10 c4 (gz1 g)) := Lib.hid (by have := HS4.out; rw [← HFe.out] at this; exact this)
  have HXl : Hid (gzX g = if g.hasx then leB 2 g.extra.length ++ g.extra else []) := Lib.hid rfl
  have HEl := Lib.hid HG.out.extra
  have hel := HG.out.extra
  have HRx : Hid (∀ W, Kept NoB wb W → Reads W a (nb g.extra)) := Lib.hid (fun W hk => HR.out.keptNo (HK0.out.trans hk))
  have HN0 : Hid (a = none → g.extra = []) := Lib.hid (fun e => by have := HC.out; have := H0.out e; exact List.eq_nil_of_length_eq_zero (by omega))
  generalize g.hasx = hx at c1 HXl
  generalize hGXe : gzX g = GX at HXl
  have HGX : Hid (GX = gzX g) := Lib.hid hGXe.symm
  clear hGXe
  go_cut [4] from 27 to 36 (fun v4 wx => ∃ (a5 : Option Addr) (m5 c5 : Nat), v4 = .slice a5 m5 c5 ∧ m5 ≤ 70000 ∧ Hid (BySt wb wx a5 m5 c5 (gz1 g ++ GX)))
  case first =>
    cases hx with
    | false =>
      have hGX : GX = [] := by rw [HXl.out]; rfl
      go_wp2
      go_meet
      exact ⟨a4, 10, c4, rfl, by omega, Lib.hid (by rw [hGX, List.append_nil]; exact HS4.out)⟩
    | true =>
      have HGXl : Hid (GX = leB 2 g.extra.length ++ g.extra) := Lib.hid (by rw [HXl.out]; rfl)
      have HAn2 := Lib.hid (appnum_any wb _ _ _ _ _ g.extra.length 2 2 rfl HS4.out (by omega) (by decide) (by decide))
      obtain ⟨el, hele⟩ : ∃ el, el = g.extra.length := ⟨_, rfl⟩
      rw [← hele] at HAn2 c3 hel HEl HGXl
      have HEe := Lib.hid hele
      clear hele
      go_wp2_with fail
      refine HAn2.out.mono ?_
      rintro e w5 ⟨a5, c5, rfl, hS5⟩
      have c3 := (obj_cell (hS5.kept.obj HOb.out (fun h => h)) 3).trans (show (gzV a c g)[3]? = some (.slice a g.extra.length c) from rfl)
      rw [← HEe.out] at c3
      have HRx5 := Lib.hid (HRx.out w5 hS5.kept)
      have HS5 := Lib.hid hS5
      clear hS5 HAn2
      cases a with
      | none =>
        have hx0 : g.extra = [] := HN0.out rfl
        have hc0 : c = 0 := H0.out rfl
        have hl0 : el = 0 := by rw [HEe.out, hx0]; rfl
        subst hc0 hl0
        go_wp2_with (at_builtin; refine wpList_by_none rfl (.tmp 33) (.tmp 35) rfl HS5.out rfl rfl ?_)
        go_wp2
        go_meet
        exact ⟨a5, _, c5, rfl, by omega, Lib.hid (by rw [HGXl.out, hx0, List.append_nil]; exact HS5.out)⟩
      | some ad =>
        go_wp2_with (at_builtin; refine wpList_by_row rfl (.tmp 33) (.tmp 35) rfl HS5.out rfl ad c el g.extra HEe.out rfl HRx5.out (by omega) ?_; intro a6 c6 w6 hS6; have HS6 := Lib.hid hS6; clear hS6)
        go_wp2
        go_meet
        exact ⟨a6, _, c6, rfl, by omega, Lib.hid (by rw [HGXl.out, ← List.append_assoc]; exact HS6.out)⟩
  case rest =>
  obtain ⟨a5, m5, c5, rfl, hm5, HS5⟩ := hcut
  clear HXl c1 c3 c7 c8 v7 v8 HOb1 HOb2 HOb3 HFe HOk HFl HK1 HK2 hel
  obtain ⟨B5, hB5⟩ : ∃ B5, B5 = gz1 g ++ GX := ⟨_, rfl⟩
  rw [← hB5] at HS5
  have HB5 := Lib.hid hB5
  clear hB5
  have hobc := HS5.out.kept.obj HOb.out (fun h => h)
  have c4 : wc.cell? ⟨X, 4, none⟩ = some (.string (strB g.name)) := obj_cell hobc 4
  have c5 : wc.cell? ⟨X, 5, none⟩ = some (.string (strB g.comm)) := obj_cell hobc 5
  have hnl := HG.out.name
  have hcl := HG.out.comm
  obtain ⟨S1, hS1⟩ : ∃ S1, S1 = strB g.name := ⟨_, rfl⟩
  obtain ⟨S2, hS2⟩ : ∃ S2, S2 = strB g.comm := ⟨_, rfl⟩
  rw [← hS1] at c4
  rw [← hS2] at c5
  have HS1 := Lib.hid hS1; have HS2 := Lib.hid hS2
  obtain ⟨R, hR⟩ : ∃ R, R = wc.heap.size := ⟨_, rfl⟩
  have HR5 := Lib.hid hR
  clear hobc hS1 hS2 hR
  go_wp2_with fail
  go_loopw [4, 6, 43] (fun v4 _ v43 wr => ∃ (i : Nat) (a6 : Option Addr) (m6 c6 : Nat), v4 = .slice a6 m6 c6 ∧ v43 = .int .i64 (i : Int) ∧ i ≤ 2 ∧ m6 ≤ 70000 + 1001 * i ∧ Hid (BySt wb wr a6 m6 c6 (B5 ++ txts g i)) ∧ Hid (wr.heap[R]? = some (.cells #[.string S1, .string S2] 9 (0, 0)))) (fun _ _ v43 _ => 2 - (intOf v43).toNat)
  case atStart => exact ⟨0, a5, m5, _, rfl, rfl, by omega, by omega, Lib.hid (by unfold txts; rw [if_pos rfl, List.append_nil]; exact HS5.out.on ((Kept.refl _ _).alloc _)), Lib.hid (by rw [HR5.out]; exact heap_alloc_new _ _)⟩
  case round =>
    obtain ⟨i, a6, m6, c6, rfl, rfl, hi, hm6, HS6, HRw⟩ := hrel
    by_cases hi2 : i < 2
    · obtain ⟨M, hMd⟩ : ∃ M, M = if i = 0 then g.name else g.comm := ⟨_, rfl⟩
      have hM0 : 0 ∉ M := by rw [hMd]; split; exact HG.out.name0; exact HG.out.comm0
      have hMl : M.length ≤ 1000 := by rw [hMd]; split <;> assumption
      have cM : wr.cell? ⟨R, i, none⟩ = some (.string (strB M)) := by
        rw [obj_cell HRw.out i, hMd]
        rcases (show i = 0 ∨ i = 1 by omega) with rfl | rfl
        · rw [if_pos rfl, ← HS1.out]; rfl
        · rw [if_neg (by decide), ← HS2.out]; rfl
      have HTx : Hid (txts g (i + 1) = txts g i ++ txtB M) := Lib.hid (by
        rw [hMd]
        rcases (show i = 0 ∨ i = 1 by omega) with rfl | rfl <;> simp [txts])
      have hMs := strB_list M
      obtain ⟨S, hS⟩ : ∃ S, S = strB M := ⟨_, rfl⟩
      rw [← hS] at cM hMs
      rw [HR5.out] at cM
      obtain ⟨ml, hml⟩ : ∃ ml, ml = M.length := ⟨_, rfl⟩
      rw [← hml] at hMl
      have HSd := Lib.hid hS; have HMl := Lib.hid hml
      by_cases hMe : M = []
      · have e1 : S.toList.isEmpty = true := by rw [hMs, hMe]; rfl
        have e2 : (S.toList = []) = True := by rw [hMs, hMe]; simp
        clear hMd hM0 hMs hS hml
        go_wp2
        go_roundw
        case rel => exact ⟨i + 1, a6, m6, c6, rfl, by go_num, by omega, by omega, Lib.hid (by rw [HTx.out, hMe]; unfold txtB; simpa using HS6.out), HRw⟩
        case measure => simp [intOf]; omega
      · have e1 : S.toList.isEmpty = false := by rw [hMs]; simpa using hMe
        have e2 : (S.toList = []) = False := by rw [hMs]; simpa using hMe
        have HTb : Hid (txtB M = M ++ [0]) := Lib.hid (by unfold txtB; rw [if_neg (by simpa using hMe)])
        clear hMd hM0 hMs hS hml
        go_wp2_with (at_builtin; first
          | (refine wpList_by_strK rfl (.tmp 49) (.tmp 50) rfl HS6.out rfl S M HSd.out ml HMl.out rfl hMe (by omega) ?_; intro a7 c7 w7 hS7 hk7; have HRw7 := Lib.hid (HS6.out.keepT hk7 HRw.out (by decide)); have HS7 := Lib.hid hS7; clear hS7 hk7)
          | (refine wpList_by_rowK rfl (.tmp 52) (.tmp 53) rfl (HS7.out.on ((Kept.refl _ _).alloc _)) rfl ⟨w7.heap.size, 0, none⟩ 1 1 [0] rfl rfl (lit_reads (t := 5) (fr := (0, 0)) (cs := #[.int .u8 0]) _ (heap_alloc_new _ _) rfl) (by omega) ?_; intro a8 c8 w8 hS8 hk8; have HRw8 := Lib.hid ((HS7.out.on ((Kept.refl _ _).alloc _)).keepT hk8 (((Kept.refl NoB w7).alloc _).obj HRw7.out (fun h => h)) (by decide)); have HS8 := Lib.hid hS8; clear hS8 hk8))
        go_wp2
        go_roundw
        case rel => exact ⟨i + 1, a8, m6 + ml + 1, c8, rfl, by go_num, by omega, by omega, Lib.hid (by rw [HTx.out, HTb.out, ← List.append_assoc, ← List.append_assoc]; exact HS8.out), HRw8⟩
        case measure => simp [intOf]; omega
    · have hi2' : i = 2 := by omega
      subst hi2'
      have hm7 : m6 ≤ 72002 := by omega
      clear hi hm6 HRw
      have HS6 : Hid (BySt wb wr a6 m6 c6 (gz4 g)) := Lib.hid (by
        have := HS6.out
        rw [HB5.out, HGX.out] at this
        unfold gz4
        simpa [txts] using this)
      have hob6 := HS6.out.kept.obj HOb.out (fun h => h)
      have c2 : wr.cell? ⟨X, 2, none⟩ = some (.bool g.sum) := obj_cell hob6 2
      have HHd : Hid (headG g = gz4 g ++ (if g.sum then leB 2 (crc16 (nb (gz4 g))) else [])) := Lib.hid rfl
      have hcap := HS6.out.cap
      have HLs := Lib.hid (lowsum_any wr a6 m6 c6 (nb (gz4 g)) HS6.out.reads (nb_all _) (by rw [nb_len]; exact HS6.out.len) hcap.1 hcap.2.1 hcap.2.2)
      have hcl16 : crc16 (nb (gz4 g)) < 65536 := by unfold crc16; omega
      have HAn3 : Hid (∀ W, Kept NoB wr W → Calls Tryz.prog 42 #[.slice a6 m6 c6, .int .i64 (crc16 (nb (gz4 g)) : Nat), .int .i64 2] W fun e w' => ∃ a2 c2, e = .returned (.slice a2 (m6 + 2) c2) ∧ BySt wb w' a2 (m6 + 2) c2 (gz4 g ++ leB 2 (crc16 (nb (gz4 g))))) :=
        Lib.hid (fun W hk => appnum_any wb W a6 m6 c6 _ _ 2 2 rfl (HS6.out.on hk) (by omega) (by decide) (by omega))
      generalize crc16 (nb (gz4 g)) = cr at *
      have hfin : ∀ (w' : World) (a : Option Addr) (m c : Nat) (L : List UInt8), BySt wb w' a m c L → BySt w w' a m c L := fun _ _ _ _ _ h => ⟨h.len, h.own, HK0.out.trans h.kept, fun k e => Nat.le_trans HK0.out.size (h.fresh k e)⟩
      have HFin := Lib.hid hfin
      clear hob6 hcap hfin hi2
      generalize g.sum = sm at c2 HHd
      cases sm with
      | false =>
        go_wp2
        go_ret2
        exact ⟨a6, m6, c6, rfl, by rw [HHd.out, if_neg (by decide), List.append_nil]; exact HFin.out _ _ _ _ _ HS6.out⟩
      | true =>
        go_wp2_with fail
        refine HLs.out.mono ?_
        rintro e w7 ⟨rfl, hk7⟩
        have HA7 := Lib.hid (HAn3.out w7 hk7)
        clear hk7 HLs HAn3
        go_wp2_with fail
        refine HA7.out.mono ?_
        rintro e w8 ⟨a8, c8, rfl, hS8⟩
        have HS8 := Lib.hid hS8
        clear hS8 HA7
        go_wp2
        go_ret2
        exact ⟨a8, _, c8, rfl, by rw [HHd.out, if_pos (by trivial)]; exact HFin.out _ _ _ _ _ HS8.out⟩
end Go.Proofs.YtfmjfgmbjdhogaaGreatDoor

namespace Go.Proofs.YtfmjfgmbjdhogaaGreatDoor
open Go.RowKit
set_option linter.unusedVariables false
set_option linter.unusedSimpArgs false
set_option maxRecDepth 20000

def gz0 : Array Value := #[.bool false, .bool false, .bool false, .slice none 0 0, .string ⟨#[]⟩, .string ⟨#[]⟩, .int .i64 0, .int .i64 0, .int .i64 0]
structure HdI (w W : World) (C H R : Nat) (bo : Option Addr) (c : Nat) (b : List Int) (s : Cur) (hc : Array Value) (xa : Option Addr) (xs : List Int) : Prop where
  cur : CurO W C bo c b s
  h : W.heap[H]? = some (.cells hc 42 (0, 0))
  r : W.heap[R]? = some (.cells gz0 42 (0, 0))
  kept : Kept (OneB C) w W
  lo : w.heap.size ≤ H ∧ w.heap.size ≤ R ∧ H ≠ R ∧ C < w.heap.size
  xr : Reads W xa xs
  xb : ∀ q, xa = some q → w.heap.size ≤ q.block ∧ q.block ≠ H ∧ q.block ≠ R
theorem HdI.step {w W W2 : World} {C H R : Nat} {bo : Option Addr} {c : Nat} {b : List Int} {s s2 : Cur} {hc : Array Value} {xa : Option Addr} {xs : List Int} (h : HdI w W C H R bo c b s hc xa xs) (ho : CurO W2 C bo c b s2) (hk : Kept (OneB C) W W2) : HdI w W2 C H R bo c b s2 hc xa xs := by
  obtain ⟨l1, l2, l3, l4⟩ := h.lo
  exact ⟨ho, hk.obj h.h (fun e => by unfold OneB at e; omega), hk.obj h.r (fun e => by unfold OneB at e; omega), h.kept.trans hk, h.lo, h.xr.kept hk (fun q hq e => by have := h.xb q hq; unfold OneB at e; omega), h.xb⟩
theorem HdI.no {w W W2 : World} {C H R : Nat} {bo : Option Addr} {c : Nat} {b : List Int} {s : Cur} {hc : Array Value} {xa : Option Addr} {xs : List Int} (h : HdI w W C H R bo c b s hc xa xs) (hk : Kept NoB W W2) : HdI w W2 C H R bo c b s hc xa xs :=
  h.step (hk.obj h.cur (fun e => e)) (hk.mono (fun _ _ e => e.elim))
theorem HdI.watch {w W : World} {C H R : Nat} {bo : Option Addr} {c : Nat} {b : List Int} {s : Cur} {hc : Array Value} {xa : Option Addr} {xs : List Int} (h : HdI w W C H R bo c b s hc xa xs) (ya : Option Addr) (ys : List Int) (hr : Reads W ya ys) (hb : ∀ q, ya = some q → w.heap.size ≤ q.block ∧ q.block ≠ H ∧ q.block ≠ R) : HdI w W C H R bo c b s hc ya ys :=
  ⟨h.cur, h.h, h.r, h.kept, h.lo, hr, hb⟩
theorem HdI.set {w W : World} {C H R : Nat} {bo : Option Addr} {c : Nat} {b : List Int} {s : Cur} {hc : Array Value} {xa : Option Addr} {xs : List Int} (h : HdI w W C H R bo c b s hc xa xs) (i : Nat) (v : Value) : HdI w (W.setCell ⟨H, i, none⟩ v) C H R bo c b s (hc.setIfInBounds i v) xa xs := by
  obtain ⟨l1, l2, l3, l4⟩ := h.lo
  have hk : Kept (OneB H) W (W.setCell ⟨H, i, none⟩ v) := Kept.setCell (S := OneB H) (p := ⟨H, i, none⟩) (Kept.refl _ _) (.inl rfl) v
  exact ⟨hk.obj h.cur (fun e => by unfold OneB at e; omega), obj_set h.h i v, hk.obj h.r (fun e => by unfold OneB at e; omega), h.kept.setCell (p := ⟨H, i, none⟩) (.inr l1) v, h.lo, h.xr.kept hk (fun q hq e => (h.xb q hq).2.1 e), h.xb⟩
theorem HdI.fin {w W : World} {C H R : Nat} {bo : Option Addr} {c : Nat} {b : List Int} {s : Cur} {hc : Array Value} {xa : Option Addr} {xs : List Int} (h : HdI w W C H R bo c b s hc xa xs) :
    CurO (W.setRow R hc) C bo c b s ∧ (W.setRow R hc).heap[R]? = some (.cells hc 42 (0, 0)) ∧ Kept (OneB C) w (W.setRow R hc) ∧ Reads (W.setRow R hc) xa xs := by
  obtain ⟨l1, l2, l3, l4⟩ := h.lo
  have hk : Kept (OneB R) W (W.setRow R hc) := ⟨rfl, rfl, rfl, by simp [World.setRow], fun k _ hs => setRow_other W R k hc (fun e => hs e)⟩
  have hk2 : Kept (OneB C) w (W.setRow R hc) := ⟨h.kept.os, h.kept.tape, h.kept.output, Nat.le_trans h.kept.size hk.size, fun k hk3 hs => (hk.block k (Nat.lt_of_lt_of_le hk3 h.kept.size) (fun e => by unfold OneB at e; omega)).trans (h.kept.block k hk3 hs)⟩
  exact ⟨hk.obj h.cur (fun e => by unfold OneB at e; omega), setRow_heap W R _ hc _ _ h.r, hk2, h.xr.kept hk (fun q hq e => (h.xb q hq).2.2 e)⟩
theorem i64_andG (a b : Nat) (ha : a < 9223372036854775808) (hb : b < 9223372036854775808) : bits .and .i64 (a : Int) (b : Int) = ((a &&& b : Nat) : Int) := by
  show IntKind.i64.wrap ((BitVec.ofInt 64 (a : Int) &&& BitVec.ofInt 64 (b : Int)).toNat : Int) = _
  have h1 : (BitVec.ofInt 64 (a : Int) &&& BitVec.ofInt 64 (b : Int)).toNat = a &&& b := by
    rw [BitVec.ofInt_natCast, BitVec.ofInt_natCast, BitVec.toNat_and, BitVec.toNat_ofNat, BitVec.toNat_ofNat, Nat.mod_eq_of_lt (show a < 2 ^ 64 by omega), Nat.mod_eq_of_lt (show b < 2 ^ 64 by omega)]
  have h2 : a &&& b < 2 ^ 63 := Nat.and_lt_two_pow (n := 63) _ hb
  rw [h1]
  exact IntWalk.i64_in _ (by omega)
theorem and_pos : ∀ n, n < 256 → (decide (0 < (n &&& 1)) = decide (n % 2 = 1)) ∧ (decide (0 < (n &&& 2)) = decide (n / 2 % 2 = 1)) ∧ (decide (0 < (n &&& 4)) = decide (n / 4 % 2 = 1)) ∧ (decide (0 < (n &&& 8)) = decide (n / 8 % 2 = 1)) ∧ (decide (0 < (n &&& 16)) = decide (n / 16 % 2 = 1)) := by decide +kernel
theorem and_fact (n m : Nat) (hn : n < 256) (hm : m < 256) : ∃ x : Nat, bits .and .i64 (n : Int) (m : Int) = (x : Int) ∧ decide (0 < x) = decide (0 < (n &&& m)) := by
  exact ⟨n &&& m, i64_andG n m (by omega) (by omega), rfl⟩
theorem flag_fact (n : Nat) (hn : n < 256) : (∃ x : Nat, bits .and .i64 (n : Int) 1 = (x : Int) ∧ decide (0 < x) = decide (n % 2 = 1)) ∧ (∃ x : Nat, bits .and .i64 (n : Int) 2 = (x : Int) ∧ decide (0 < x) = decide (n / 2 % 2 = 1)) ∧
    (∃ x : Nat, bits .and .i64 (n : Int) 4 = (x : Int) ∧ decide (0 < x) = decide (n / 4 % 2 = 1)) ∧ (∃ x : Nat, bits .and .i64 (n : Int) 8 = (x : Int) ∧ decide (0 < x) = decide (n / 8 % 2 = 1)) ∧ (∃ x : Nat, bits .and .i64 (n : Int) 16 = (x : Int) ∧ decide (0 < x) = decide (n / 16 % 2 = 1)) := by
  obtain ⟨a1, a2, a3, a4, a5⟩ := and_pos n hn
  refine ⟨?_, ?_, ?_, ?_, ?_⟩
  · rw [← a1]; exact and_fact n 1 hn (by decide)
  · rw [← a2]; exact and_fact n 2 hn (by decide)
  · rw [← a3]; exact and_fact n 4 hn (by decide)
  · rw [← a4]; exact and_fact n 8 hn (by decide)
  · rw [← a5]; exact and_fact n 16 hn (by decide)
structure HdK (w : World) (C H R : Nat) (bo : Option Addr) (c : Nat) (b : List Int) : Prop where
  row : ∀ W, Kept (OneB C) w W → CurRow W bo c b
  len : b.length ≤ 1000000
theorem HdK.that {w W : World} {C H R : Nat} {bo : Option Addr} {c : Nat} {b : List Int} {s : Cur} {hc : Array Value} {xa : Option Addr} {xs : List Int} (k : HdK w C H R bo c b) (h : HdI w W C H R bo c b s hc xa xs) (hat : s.at_ ≤ b.length) (want e : Int) :
    Calls Tryz.prog 79 #[.pointer (some ⟨C, 0, none⟩), .int .u8 want, .int .i64 e] W fun e' w' => e' = .returned (.tuple #[]) ∧ Hid (HdI w w' C H R bo c b (thatS b s want e) hc xa xs) :=
  (that_any W C bo c b s want e h.cur (k.row W h.kept) (fun W2 h2 => k.row W2 (h.kept.trans h2)) hat k.len).mono (by rintro e' w' ⟨rfl, h1, h2⟩; exact ⟨rfl, Lib.hid (h.step h1 h2)⟩)
theorem HdK.refuse {w W : World} {C H R : Nat} {bo : Option Addr} {c : Nat} {b : List Int} {s : Cur} {hc : Array Value} {xa : Option Addr} {xs : List Int} (k : HdK w C H R bo c b) (h : HdI w W C H R bo c b s hc xa xs) (x : Bool) (e : Int) :
    Calls Tryz.prog 81 #[.pointer (some ⟨C, 0, none⟩), .bool x, .int .i64 e] W fun e' w' => e' = .returned (.tuple #[]) ∧ Hid (HdI w w' C H R bo c b (refS2 s x e) hc xa xs) :=
  (refuse_any W C bo c b s x e h.cur).mono (by rintro e' w' ⟨rfl, h1, h2⟩; exact ⟨rfl, Lib.hid (h.step h1 h2)⟩)
theorem HdK.take {w W : World} {C H R : Nat} {bo : Option Addr} {c : Nat} {b : List Int} {s : Cur} {hc : Array Value} {xa : Option Addr} {xs : List Int} (k : HdK w C H R bo c b) (h : HdI w W C H R bo c b s hc xa xs) (hat : s.at_ ≤ b.length) (n : Nat) (z : Int) (hz : z = (n : Int)) (hn : n ≤ 1000000) :
    Calls Tryz.prog 80 #[.pointer (some ⟨C, 0, none⟩), .int .i64 z] W fun e' w' => ∃ (o : Option Addr) (m kk : Nat), e' = .returned (.slice o m kk) ∧ Hid (HdI w w' C H R bo c b (takeS b s n) hc xa xs) ∧ Hid (m = (takeB b s n).length) ∧ Hid (∀ W, Kept (OneB C) w W → Reads W o (takeB b s n)) ∧ m ≤ kk ∧ kk ≤ c ∧ Hid (o = none → kk = 0) :=
  (take_any W C bo c b s n z hz h.cur (k.row W h.kept) hat k.len hn).mono (by
    rintro e' w' ⟨o, m, kk, rfl, h1, h2, h3, h4, h5, h6, h7⟩
    exact ⟨o, m, kk, rfl, Lib.hid (h.step h1.out h2.out), h3, Lib.hid (fun W2 hk => h4.out W2 (k.row W2 hk)), h5, h6, h7⟩)
theorem HdK.text {w W : World} {C H R : Nat} {bo : Option Addr} {c : Nat} {b : List Int} {s : Cur} {hc : Array Value} {xa : Option Addr} {xs : List Int} (k : HdK w C H R bo c b) (h : HdI w W C H R bo c b s hc xa xs) (hat : s.at_ ≤ b.length) :
    Calls Tryz.prog 82 #[.pointer (some ⟨C, 0, none⟩)] W fun e' w' => e' = .returned (.string (strOfNums (txtR b s))) ∧ Hid (HdI w w' C H R bo c b (txtS b s) hc xa xs) :=
  (text_anyG W C bo c b s h.cur (k.row W h.kept) (fun W2 h2 => k.row W2 (h.kept.trans h2)) hat k.len).mono (by rintro e' w' ⟨rfl, h1, h2⟩; exact ⟨rfl, Lib.hid (h.step h1 h2)⟩)
theorem txtS_at {b : List Int} {s : Cur} (h : s.at_ ≤ b.length) : (txtS b s).at_ ≤ b.length := by
  have hl : (aheadB b s).length ≤ b.length - s.at_ := by unfold aheadB; rw [List.length_take, List.length_drop]; omega
  have hz := zeroAt_le (aheadB b s)
  unfold txtS
  split
  · exact h
  · split
    · split <;> exact h
    · split
      · exact h
      · dsimp only; omega
theorem txtR_all {b : List Int} {s : Cur} (h : AllB b) : AllB (txtR b s) := by
  unfold txtR
  split
  · intro x hx; cases hx
  · split
    · intro x hx; cases hx
    · unfold aheadB; exact ((h.drop _).take _).take _
theorem thatS_at {b : List Int} {s : Cur} {x e : Int} (h : s.at_ ≤ b.length) : (thatS b s x e).at_ ≤ b.length := by unfold thatS; rw [refS2_at]; exact takeS_at h
end Go.Proofs.YtfmjfgmbjdhogaaGreatDoor
