/-
  Rows of bytes of the call's own that grow (for a seat without strings: out of XBytB); a row that is read.
  A string's bytes appended to a row of bytes of the call's own.
  CRC-32 in numbers: one step, eight, a byte, a row of bytes; sums; no step takes a number to nought but nought. No Go in sight.
  Bits turned round. No Go in sight.
  Strings of numbers; the document's own Rev.
-/
import Derived.Test.YtfmjfgmbjdhogaaGreatDoorMg1
import Derived.Deep.AppendSrc
import Derived.Laws.BytesArg
import Derived.Deep.DeepCutAuto
namespace Go.Proofs.YtfmjfgmbjdhogaaGreatDoor
open Go.RowKit
set_option linter.unusedVariables false
set_option linter.unusedSimpArgs false
set_option maxRecDepth 20000

def bc (L : List UInt8) : List Value := L.map fun b => Value.int .u8 (b.toNat : Int)
def nb (L : List UInt8) : List Int := L.map fun b => (b.toNat : Int)
theorem bc_nb (L : List UInt8) : bc L = (nb L).map (.int .u8) := by simp [bc, nb]
theorem nb_len (L : List UInt8) : (nb L).length = L.length := by simp [nb]
theorem nb_all (L : List UInt8) : AllB (nb L) := by
  intro b hb
  obtain ⟨c, _, rfl⟩ := List.mem_map.1 hb
  have := UInt8.toNat_lt c
  omega
def un (xs : List Int) : List UInt8 := xs.map fun n => UInt8.ofNat n.toNat
theorem nb_un {xs : List Int} (h : AllB xs) : nb (un xs) = xs := by
  unfold nb un
  rw [List.map_map]
  conv => rhs; rw [← List.map_id xs]
  apply List.map_congr_left
  intro x hx
  have := h x hx
  simp only [Function.comp_apply, id_eq, UInt8.toNat_ofNat']
  omega

structure BySt (w0 w : World) (a : Option Addr) (l c : Nat) (L : List UInt8) : Prop where
  len : l = L.length
  own : w.ownsRow 0 5 1 (.slice a l c) l (bc L)
  kept : Kept NoB w0 w
  fresh : ∀ k, (Value.slice a l c).ownBlock = some k → w0.heap.size ≤ k
theorem BySt.nil (w : World) : BySt w w none 0 0 [] := ⟨rfl, World.ownsRow_nil _ _ _ _, Kept.refl _ _, fun k hk => by simp [Value.ownBlock] at hk⟩
theorem BySt.on {w0 w w' : World} {a : Option Addr} {l c : Nat} {L : List UInt8} (h : BySt w0 w a l c L) (hk : Kept NoB w w') : BySt w0 w' a l c L := ⟨h.len, hk.row h.own (fun _ _ h => h), h.kept.trans hk, h.fresh⟩
theorem BySt.reads {w0 w : World} {a : Option Addr} {l c : Nat} {L : List UInt8} (h : BySt w0 w a l c L) : Reads w a (nb L) := by
  have ho := h.own
  have hl := h.len
  subst hl
  rw [bc_nb] at ho
  have e := nb_len L
  rw [← e] at ho
  exact own_reads ho rfl
theorem BySt.cap {w0 w : World} {a : Option Addr} {l c : Nat} {L : List UInt8} (h : BySt w0 w a l c L) : l ≤ c ∧ c ≤ maxLen ∧ (a = none → c = 0) := ⟨(own_cap h.own).1, (own_cap h.own).2, own_nil h.own⟩
theorem kv_shape {w : World} {base e s : Nat} {v : Value} {n : Nat} {xs : List Value} (h : w.ownsRow base e s v n xs) : ∃ ao cap, v = .slice ao n cap := by
  rcases h.2 with ⟨rfl, rfl⟩ | ⟨g, cap, cur, rfl, _⟩
  · exact ⟨none, 0, rfl⟩
  · exact ⟨_, cap, rfl⟩
theorem BySt.grow {w0 w w' : World} {a : Option Addr} {l c n : Nat} {L M : List UInt8} {v : Value} (h : BySt w0 w a l c L) (ho : w'.ownsRow 0 5 1 v (l + n) (bc L ++ bc M)) (hn : n = M.length) (hg : w.grownBy w' (Value.slice a l c).ownBlock)
    (hf : ∀ k, v.ownBlock = some k → (Value.slice a l c).ownBlock = some k ∨ w.heap.size ≤ k) : ∃ a2 c2, v = .slice a2 (l + n) c2 ∧ BySt w0 w' a2 (l + n) c2 (L ++ M) := by
  obtain ⟨a2, c2, rfl⟩ := kv_shape ho
  refine ⟨a2, c2, rfl, by rw [List.length_append, h.len, hn], by simpa [bc] using ho, h.kept.grown hg (fun k hk e => by have := h.fresh k e; omega), ?_⟩
  intro k hk
  rcases hf k hk with e | e
  · exact h.fresh k e
  · have := h.kept.size; omega
theorem wpList_by_row {w : World} {ops : Array Oper} {rest : List Oper} {o : Oper} {act : Act} {Q : Exit → Act → World → Prop} (hgd : o.guard = none) (s x : Operand)
    (ho : o.op = .call { callee := .builtin .append, args := #[s, x], argTypes := #[22, 22] })
    {w0 : World} {a : Option Addr} {l c : Nat} {L : List UInt8} (hS : BySt w0 w a l c L) (hs : act.eval s = .slice a l c) (ad : Addr) (cx m : Nat) (M : List UInt8) (hm : m = M.length) (hx : act.eval x = .slice (some ad) m cx) (hr : Reads w (some ad) (nb M)) (hn : l + m ≤ 100000000)
    (h : ∀ a2 c2 w', BySt w0 w' a2 (l + m) c2 (L ++ M) → wpList Tryz.prog ops Q rest (act.put o.dst (.slice a2 (l + m) c2)) w') : wpList Tryz.prog ops Q (o :: rest) act w := by
  obtain ⟨i0, hi, hz0, hz1, hz2⟩ := info_parts info5
  refine wpList_app w hgd s x 22 ho 5 i0 (.int .u8 0) 1 1 Tryz.underlying22 hi hz0 hz1 hz2 rfl (by decide) _ l (bc L) hs hS.own ad m cx (bc M) hx (by simp [bc, hm]) ?_ ?_ (by unfold maxLen; omega) (by omega) ?_
  · rw [bc_nb]; exact reads_news hr
  · rw [bc_nb]; exact news_one _
  intro v' w' h2 h3 h4
  obtain ⟨a2, c2, rfl, hb⟩ := hS.grow h2 hm h3 h4
  exact h _ _ _ hb

end Go.Proofs.YtfmjfgmbjdhogaaGreatDoor

namespace Go.Proofs.YtfmjfgmbjdhogaaGreatDoor
open Go.RowKit
set_option linter.unusedVariables false
set_option linter.unusedSimpArgs false

theorem run_app_str (w : World) (t tx ty : TypeId) (ht : Tryz.prog.underlying t = some (.slice 5)) (hk : Tryz.prog.underlying tx = some .string) (v : Value) (n : Nat) (xs : List Value) (hown : w.ownsRow 0 5 1 v n xs)
    (s : ByteArray) (h0 : 0 < s.size) (hn : n + s.size ≤ 100000000) :
    ∃ v' w', (Builtin.append_ #[t, tx] ty #[v, .string s]).run Tryz.prog w = .ok v' w' ∧ w'.ownsRow 0 5 1 v' (n + s.size) (xs ++ byteCells s) ∧ w.grownBy w' v.ownBlock ∧
      (∀ k, v'.ownBlock = some k → v.ownBlock = some k ∨ w.heap.size ≤ k) := by
  obtain ⟨i, hi, hz, hsz, hby⟩ := info_parts info5
  have hbl := byteCells_length s
  have hlen : (xs ++ byteCells s).length = (n + s.size) * 1 := by rw [List.length_append, hown.1, hbl]; omega
  rcases hown.2 with ⟨rfl, rfl⟩ | ⟨g, c, cur, rfl, hbg, hg, hnc, hcm, hcs, htake⟩
  · have hx : xs = [] := List.eq_nil_of_length_eq_zero (by simpa using hown.1)
    subst hx
    have hr := run_append_nil_string (P := Tryz.prog) w t tx ty 5 i (.int .u8 0) ht hk hi hz s h0 (by omega) (by rw [hby]; omega)
    have hge := grownCap_ge w s.size 0 5
    have hcm2 : grownCap w s.size 0 5 ≤ maxLen := grownCap_le_maxLen w s.size 0 5 (by unfold maxLen; omega)
    rw [Nat.zero_add]
    refine ⟨_, _, hr, ⟨by simpa using hlen, .inr ⟨w.heap.size, _, _, rfl, Nat.zero_le _, heap_alloc_new w.drew _, hge, hcm2, ?_, ?_⟩⟩, ⟨rfl, rfl, rfl, by simp, fun k hk _ => heap_alloc_old w.drew _ hk⟩, fun k hk => .inr (by simp [Value.ownBlock] at hk; omega)⟩
    · have hcc : (Value.int .u8 0).cells.size = 1 := rfl
      have e : s.data.size = s.size := rfl
      simp only [Array.size_append, Array.size_map, size_zeroCells, hcc, e]
      omega
    · rw [Array.toList_append, Array.toList_map, List.nil_append]
      have e : (s.size * 1) = (s.data.toList.map fun b => Value.int .u8 (b.toNat : Int)).length := by rw [← hbl]; simp [byteCells]
      rw [e, List.take_left]
      rfl
  · by_cases hroom : n + s.size ≤ c
    · have hfit : n * i.size + (byteCells s).length ≤ cur.size := by rw [hcs, hsz, hbl]; omega
      have hst := run_storeCells_at Tryz.prog g (n * i.size) 5 (byteCells s) 0 cur w hg (by simpa using hfit) (by intro v hv; obtain ⟨_, _, rfl⟩ := List.mem_map.1 hv; rfl)
      simp only [Nat.add_zero] at hst
      obtain ⟨row, hrow⟩ : ∃ row, row = (cur.toList.take (n * 1) ++ byteCells s ++ cur.toList.drop (n * 1 + (byteCells s).length)).toArray := ⟨_, rfl⟩
      have hsrc := Go.Src.ofString (P := Tryz.prog) w hk s
      have hrun : (Builtin.append_ #[t, tx] ty #[.slice (some ⟨g, 0, none⟩) n c, .string s]).run Tryz.prog w = .ok (.slice (some ⟨g, 0, none⟩) (n + s.size) c) (w.setRow g row) := by
        rw [hsz] at hst
        rw [← hrow] at hst
        simp at hst
        have h2 := hsrc.cells
        have h3 := hsrc.len
        simp [Builtin.append_, run_underlying ht, run_underlying hk, sizeOf, typeInfo, hi, h3, hroom, hsz, h2, Addr.add_lit, hst]
      have hrs : row.size = c * 1 := by
        rw [hrow]
        simp only [List.size_toArray, List.length_append, List.length_take, List.length_drop, Array.length_toList, hbl]
        omega
      have hrt : row.toList.take ((n + s.size) * 1) = xs ++ byteCells s := by
        rw [hrow, List.toList_toArray, htake, ← hlen]
        exact List.take_left
      exact ⟨_, _, hrun, ⟨hlen, .inr ⟨g, c, row, rfl, hbg, setRow_heap w g cur _ _ _ hg, hroom, hcm, hrs, hrt⟩⟩, ⟨rfl, rfl, rfl, by simp, fun k hk _ => setRow_other w g k _ (fun e => by subst e; simp [Value.ownBlock] at *)⟩, fun k hk => .inl (by simpa [Value.ownBlock] using hk)⟩
    · have hnew : ∀ j u, xs[j]? = some u → w.drew.cell? ((⟨g, 0, none⟩ : Addr).add j) = some u := hown.cells (g := g) rfl
      have hold := run_firstCells_some (P := Tryz.prog) w.drew 1 n ⟨g, 0, none⟩ n c xs hown.1 hnew
      have hsrc := Go.Src.ofString (P := Tryz.prog) w hk s
      have hr := run_append_grow_src (P := Tryz.prog) w t tx ty 5 i (.int .u8 0) ht hi hz (some ⟨g, 0, none⟩) n c xs (by rw [hsz]; exact hold) (.string s) s.size (byteCells s) (by rw [hsz]; exact hsrc) (by omega) (by omega)
        (by rw [hby]; exact growslice_fits (by omega) (by omega))
      have hge := grownCap_ge w (n + s.size) c 5
      have hcm2 : grownCap w (n + s.size) c 5 ≤ maxLen := grownCap_le_maxLen w (n + s.size) c 5 (by unfold maxLen; omega)
      refine ⟨_, _, hr, ⟨hlen, .inr ⟨w.heap.size, _, _, rfl, Nat.zero_le _, heap_alloc_new w.drew _, hge, hcm2, ?_, ?_⟩⟩, ⟨rfl, rfl, rfl, by simp, fun k hk _ => heap_alloc_old w.drew _ hk⟩, fun k hk => .inr (by simp [Value.ownBlock] at hk; omega)⟩
      · have h1 := hown.1
        have hcc : (Value.int .u8 0).cells.size = 1 := rfl
        simp only [Array.size_append, List.size_toArray, size_zeroCells, hcc, hlen]
        omega
      · rw [Array.toList_append, List.toList_toArray, ← hlen, List.take_left]

theorem wpList_app_str {w : World} {ops : Array Oper} {rest : List Oper} {o : Oper} {a : Act} {Q : Exit → Act → World → Prop} (hgd : o.guard = none) (s x : Operand) (t tx : TypeId)
    (ho : o.op = .call { callee := .builtin .append, args := #[s, x], argTypes := #[t, tx] }) (ht : Tryz.prog.underlying t = some (.slice 5)) (hk : Tryz.prog.underlying tx = some .string)
    (v : Value) (n : Nat) (xs : List Value) (hs : a.eval s = v) (hown : w.ownsRow 0 5 1 v n xs) (str : ByteArray) (hx : a.eval x = .string str) (h0 : 0 < str.size) (hn : n + str.size ≤ 100000000)
    (h : ∀ v' w', w'.ownsRow 0 5 1 v' (n + str.size) (xs ++ byteCells str) → w.grownBy w' v.ownBlock → (∀ k, v'.ownBlock = some k → v.ownBlock = some k ∨ w.heap.size ≤ k) → wpList Tryz.prog ops Q rest (a.put o.dst v') w') : wpList Tryz.prog ops Q (o :: rest) a w :=
  wpList_plain hgd fun _ hK => by
    obtain ⟨v', w', hr, h2, h3, h4⟩ := run_app_str w t tx o.type ht hk v n xs hown str h0 hn
    unfold Oper.wp execOp
    simp only [ho, resolve, invoke, builtin, Sem.run_bind, Sem.run_pure, Result.andThen_ok, List.map_toArray, List.map_cons, List.map_nil, hs, hx, hr]
    exact hK _ _ (h v' w' h2 h3 h4)
end Go.Proofs.YtfmjfgmbjdhogaaGreatDoor

namespace Go.Proofs.YtfmjfgmbjdhogaaGreatDoor

def poly : Nat := 3988292384
def step1 (r : Nat) : Nat := if r % 2 = 1 then r / 2 ^^^ poly else r / 2
def steps : Nat → Nat → Nat
  | 0, r => r
  | n + 1, r => step1 (steps n r)
def upd (r b : Nat) : Nat := r / 256 ^^^ steps 8 (r % 256 ^^^ b)
def flip (c : Nat) : Nat := 4294967295 - c
def regOf (r : Nat) (bs : List Nat) : Nat := bs.foldl upd r
def crcOf (c : Nat) (bs : List Nat) : Nat := flip (regOf (flip c) bs)

theorem poly_lt : poly < 4294967296 := by decide
theorem step1_lt (r : Nat) (h : r < 4294967296) : step1 r < 4294967296 := by
  unfold step1
  split
  · exact Nat.xor_lt_two_pow (n := 32) (by omega) poly_lt
  · omega
theorem steps_lt (n r : Nat) (h : r < 4294967296) : steps n r < 4294967296 := by
  induction n with
  | zero => exact h
  | succ n ih => exact step1_lt _ ih
theorem upd_lt (r b : Nat) (hr : r < 4294967296) (hb : b < 256) : upd r b < 4294967296 := by
  unfold upd
  have h1 : r % 256 ^^^ b < 256 := Nat.xor_lt_two_pow (n := 8) (Nat.mod_lt _ (by decide)) hb
  exact Nat.xor_lt_two_pow (n := 32) (by omega) (steps_lt 8 _ (by omega))
theorem regOf_lt (bs : List Nat) (r : Nat) (hr : r < 4294967296) (hb : ∀ b ∈ bs, b < 256) : regOf r bs < 4294967296 := by
  induction bs generalizing r with
  | nil => exact hr
  | cons b t ih => exact ih (upd r b) (upd_lt r b hr (hb b (by simp))) (fun x hx => hb x (by simp [hx]))
theorem regOf_append (r : Nat) (a b : List Nat) : regOf r (a ++ b) = regOf (regOf r a) b := List.foldl_append
theorem flip_flip (c : Nat) (h : c < 4294967296) : flip (flip c) = c := by unfold flip; omega
theorem flip_lt (c : Nat) : flip c < 4294967296 := by unfold flip; omega
theorem crcOf_lt (c : Nat) (bs : List Nat) : crcOf c bs < 4294967296 := flip_lt _
theorem crcOf_append (c : Nat) (a b : List Nat) (ha : ∀ x ∈ a, x < 256) : crcOf c (a ++ b) = crcOf (crcOf c a) b := by
  unfold crcOf
  rw [regOf_append, flip_flip _ (regOf_lt a _ (flip_lt _) ha)]
theorem crcOf_nil (c : Nat) (h : c < 4294967296) : crcOf c [] = c := flip_flip c h

end Go.Proofs.YtfmjfgmbjdhogaaGreatDoor

namespace Go.Proofs.YtfmjfgmbjdhogaaGreatDoor

def revN : Nat → Nat → Nat
  | 0, _ => 0
  | n + 1, v => 2 * revN n v + v / 2 ^ n % 2

theorem revN_bit (n v i : Nat) : (revN n v).testBit i = (decide (i < n) && v.testBit (n - 1 - i)) := by
  induction n generalizing i with
  | zero => simp [revN]
  | succ n ih =>
    have hb : v / 2 ^ n % 2 < 2 := Nat.mod_lt _ (by decide)
    cases i with
    | zero =>
      have e : (v / 2 ^ n).testBit 0 = v.testBit n := by rw [Nat.testBit_div_two_pow]; simp
      rw [← show v.testBit n = v.testBit (n + 1 - 1 - 0) from by simp, ← e]
      simp only [revN, Nat.testBit_zero]
      have : (2 * revN n v + v / 2 ^ n % 2) % 2 = v / 2 ^ n % 2 := by omega
      rw [this]; simp
    | succ i =>
      have : (2 * revN n v + v / 2 ^ n % 2) / 2 = revN n v := by omega
      simp only [revN, Nat.testBit_succ, this, ih]
      have e : n - 1 - i = n + 1 - 1 - (i + 1) := by omega
      rw [e]; simp
theorem revN_lt (n v : Nat) : revN n v < 2 ^ n := by
  induction n with
  | zero => simp [revN]
  | succ n ih =>
    have hb : v / 2 ^ n % 2 < 2 := Nat.mod_lt _ (by decide)
    simp only [revN, Nat.pow_succ]; omega
theorem revN_revN (n v : Nat) (h : v < 2 ^ n) : revN n (revN n v) = v := by
  apply Nat.eq_of_testBit_eq
  intro i
  rw [revN_bit, revN_bit]
  by_cases hi : i < n
  · have e : n - 1 - (n - 1 - i) = i := by omega
    simp [hi, e]; omega
  · have : v.testBit i = false := Nat.testBit_lt_two_pow (Nat.lt_of_lt_of_le h (Nat.pow_le_pow_right (by decide) (by omega)))
    simp [hi, this]

end Go.Proofs.YtfmjfgmbjdhogaaGreatDoor

namespace Go.Proofs.YtfmjfgmbjdhogaaGreatDoor
open Go.RowKit
set_option linter.unusedVariables false

def nats (bs : List Int) : List Nat := bs.map Int.toNat
theorem and1_u32 (r : Nat) (h : r < 4294967296) : bits .and .u32 (r : Int) 1 = ((r % 2 : Nat) : Int) := by
  have := u32_and_nat r 1 h (by decide)
  rw [nat_mask1] at this
  exact this
end Go.Proofs.YtfmjfgmbjdhogaaGreatDoor
