/-
  Rows of pairs of texts that are read, or are the call's own; rows of bytes of the call's own that grow.
-/
import Derived.Test.YtclcgiochjibjaaGreatDoorPaxC
import Derived.Test.YtclcgiochjibjaaGreatDoorAppS
namespace Go.Proofs.YtclcgiochjibjaaGreatDoor
open Go.RowKit
set_option linter.unusedVariables false
set_option maxRecDepth 20000
set_option linter.unusedSimpArgs false

/-- Bytes as cells, and as numbers. -/
def bc (L : List UInt8) : List Value := L.map fun b => Value.int .u8 (b.toNat : Int)
def nb (L : List UInt8) : List Int := L.map fun b => (b.toNat : Int)
theorem bc_nb (L : List UInt8) : bc L = (nb L).map (.int .u8) := by simp [bc, nb]
theorem nb_len (L : List UInt8) : (nb L).length = L.length := by simp [nb]
theorem nb_all (L : List UInt8) : AllB (nb L) := by
  intro b hb
  obtain ⟨c, _, rfl⟩ := List.mem_map.1 hb
  have := UInt8.toNat_lt c
  omega
theorem nb_str (L : List UInt8) : strOfNums (nb L) = strB L := strOf_bytes L
theorem byteCells_strB (L : List UInt8) : byteCells (strB L) = bc L := rfl
/-- Numbers that are bytes, as bytes. -/
def un (xs : List Int) : List UInt8 := xs.map fun n => UInt8.ofNat n.toNat
theorem nb_un {xs : List Int} (h : AllB xs) : nb (un xs) = xs := by
  unfold nb un
  rw [List.map_map]
  conv => rhs; rw [← List.map_id xs]
  apply List.map_congr_left
  intro x hx
  have := h x hx
  simp only [Function.comp_apply, id_eq, UInt8.toNat_ofNat']
  omega

/-- A row of bytes of the call's own. -/
structure BySt (w0 w : World) (a : Option Addr) (l c : Nat) (L : List UInt8) : Prop where
  len : l = L.length
  own : w.ownsRow 0 5 1 (.slice a l c) l (bc L)
  kept : Kept NoB w0 w
  fresh : ∀ k, (Value.slice a l c).ownBlock = some k → w0.heap.size ≤ k
theorem BySt.nil (w : World) : BySt w w none 0 0 [] := ⟨rfl, World.ownsRow_nil _ _ _ _, Kept.refl _ _, fun k hk => by simp [Value.ownBlock] at hk⟩
theorem BySt.on {w0 w w' : World} {a : Option Addr} {l c : Nat} {L : List UInt8} (h : BySt w0 w a l c L) (hk : Kept NoB w w') : BySt w0 w' a l c L := ⟨h.len, hk.row h.own (fun _ _ h => h), h.kept.trans hk, h.fresh⟩
theorem BySt.reads {w0 w : World} {a : Option Addr} {l c : Nat} {L : List UInt8} (h : BySt w0 w a l c L) : Reads w a (nb L) := by
  have ho := h.own
  have hl := h.len
  subst hl
  rw [bc_nb] at ho
  have e := nb_len L
  rw [← e] at ho
  exact own_reads ho rfl
theorem BySt.cap {w0 w : World} {a : Option Addr} {l c : Nat} {L : List UInt8} (h : BySt w0 w a l c L) : l ≤ c ∧ c ≤ maxLen ∧ (a = none → c = 0) := ⟨(own_cap h.own).1, (own_cap h.own).2, own_nil h.own⟩
theorem kv_shape {w : World} {base e s : Nat} {v : Value} {n : Nat} {xs : List Value} (h : w.ownsRow base e s v n xs) : ∃ ao cap, v = .slice ao n cap := by
  rcases h.2 with ⟨rfl, rfl⟩ | ⟨g, cap, cur, rfl, _⟩
  · exact ⟨none, 0, rfl⟩
  · exact ⟨_, cap, rfl⟩
theorem BySt.grow {w0 w w' : World} {a : Option Addr} {l c n : Nat} {L M : List UInt8} {v : Value} (h : BySt w0 w a l c L) (ho : w'.ownsRow 0 5 1 v (l + n) (bc L ++ bc M)) (hn : n = M.length) (hg : w.grownBy w' (Value.slice a l c).ownBlock)
    (hf : ∀ k, v.ownBlock = some k → (Value.slice a l c).ownBlock = some k ∨ w.heap.size ≤ k) : ∃ a2 c2, v = .slice a2 (l + n) c2 ∧ BySt w0 w' a2 (l + n) c2 (L ++ M) := by
  obtain ⟨a2, c2, rfl⟩ := kv_shape ho
  refine ⟨a2, c2, rfl, by rw [List.length_append, h.len, hn], by simpa [bc] using ho, h.kept.grown hg (fun k hk e => by have := h.fresh k e; omega), ?_⟩
  intro k hk
  rcases hf k hk with e | e
  · exact h.fresh k e
  · have := h.kept.size; omega
theorem wpList_by_str {w : World} {ops : Array Oper} {rest : List Oper} {o : Oper} {act : Act} {Q : Exit → Act → World → Prop} (hgd : o.guard = none) (s x : Operand)
    (ho : o.op = .call { callee := .builtin .append, args := #[s, x], argTypes := #[23, 9] })
    {w0 : World} {a : Option Addr} {l c : Nat} {L : List UInt8} (hS : BySt w0 w a l c L) (hs : act.eval s = .slice a l c) (X : ByteArray) (M : List UInt8) (hX : X = strB M) (hx : act.eval x = .string X) (h0 : M ≠ []) (hn : l + M.length ≤ 100000000)
    (h : ∀ a2 c2 w', BySt w0 w' a2 (l + M.length) c2 (L ++ M) → wpList Tryz.prog ops Q rest (act.put o.dst (.slice a2 (l + M.length) c2)) w') : wpList Tryz.prog ops Q (o :: rest) act w := by
  subst hX
  have hsz := strB_size M
  have h00 : 0 < M.length := by cases M with | nil => exact absurd rfl h0 | cons _ _ => simp
  refine wpList_app_str hgd s x 23 9 ho Tryz.underlying23 Tryz.underlying9 _ l (bc L) hs hS.own (strB M) hx (by omega) (by omega) ?_
  intro v' w' h2 h3 h4
  rw [byteCells_strB, hsz] at h2
  obtain ⟨a2, c2, rfl, hb⟩ := hS.grow h2 rfl h3 h4
  rw [hsz] at *
  exact h _ _ _ hb
theorem wpList_by_row {w : World} {ops : Array Oper} {rest : List Oper} {o : Oper} {act : Act} {Q : Exit → Act → World → Prop} (hgd : o.guard = none) (s x : Operand)
    (ho : o.op = .call { callee := .builtin .append, args := #[s, x], argTypes := #[23, 23] })
    {w0 : World} {a : Option Addr} {l c : Nat} {L : List UInt8} (hS : BySt w0 w a l c L) (hs : act.eval s = .slice a l c) (ad : Addr) (cx m : Nat) (M : List UInt8) (hm : m = M.length) (hx : act.eval x = .slice (some ad) m cx) (hr : Reads w (some ad) (nb M)) (hn : l + m ≤ 100000000)
    (h : ∀ a2 c2 w', BySt w0 w' a2 (l + m) c2 (L ++ M) → wpList Tryz.prog ops Q rest (act.put o.dst (.slice a2 (l + m) c2)) w') : wpList Tryz.prog ops Q (o :: rest) act w := by
  obtain ⟨i0, hi, hz0, hz1, hz2⟩ := info_parts info5
  refine wpList_app w hgd s x 23 ho 5 i0 (.int .u8 0) 1 1 Tryz.underlying23 hi hz0 hz1 hz2 rfl (by decide) _ l (bc L) hs hS.own ad m cx (bc M) hx (by simp [bc, hm]) ?_ ?_ (by unfold maxLen; omega) (by omega) ?_
  · rw [bc_nb]; exact reads_news hr
  · rw [bc_nb]; exact news_one _
  intro v' w' h2 h3 h4
  obtain ⟨a2, c2, rfl, hb⟩ := hS.grow h2 hm h3 h4
  exact h _ _ _ hb

theorem cells_kv : Tryz.prog.cellsOf 28 = 2 := by kernel_rfl
theorem infoK : (Tryz.prog.info? 28).map (fun i => (i.zero, i.size, i.bytes)) = some (some (.agg #[.string ⟨#[]⟩, .string ⟨#[]⟩]), 2, 32) := by kernel_rfl
def kvs (p : KVb) : ByteArray × ByteArray := (strB p.1, strB p.2)
/-- A row of pairs is read. -/
def RdK (w : World) (n : Nat) (ao : Option Addr) (rs : List KVb) : Prop :=
  ∀ i, i < rs.length → ∃ b off, ao = some ⟨b, off, none⟩ ∧ b < n ∧ w.cell? ⟨b, off + i * 2, none⟩ = some (.string (strB (rs.getD i ([], [])).1)) ∧ w.cell? ⟨b, off + (i * 2 + 1), none⟩ = some (.string (strB (rs.getD i ([], [])).2))
theorem RdK.kept {w w' : World} {n : Nat} {ao : Option Addr} {rs : List KVb} (h : RdK w n ao rs) (hk : Kept NoB w w') : RdK w' n ao rs := by
  intro i hi
  obtain ⟨b, off, h1, h2, h3, h4⟩ := h i hi
  exact ⟨b, off, h1, h2, hk.cell h3, hk.cell h4⟩
theorem RdK.room {w : World} {n m : Nat} {ao : Option Addr} {rs : List KVb} (h : RdK w n ao rs) (hm : n ≤ m) : RdK w m ao rs := by
  intro i hi
  obtain ⟨b, off, h1, h2, h3⟩ := h i hi
  exact ⟨b, off, h1, by omega, h3⟩
theorem kvs_open {w : World} {v : Value} (h : Arg w 22 v) :
    ∃ (ao : Option Addr) (cap : Nat) (rs : List KVb), v = .slice ao rs.length cap ∧ RdK w w.heap.size ao rs ∧ rs.length ≤ cap ∧ cap ≤ maxLen ∧ (ao = none → cap = 0) ∧ (∀ p ∈ rs, p.1.length ≤ maxLen ∧ p.2.length ≤ maxLen) := by
  obtain ⟨ao, len, cap, rfl, hl, hm, hn, hc⟩ := h.slice Tryz.underlying22
  rw [cells_kv] at hc
  have key : ∀ i, ∃ p : KVb, (p.1.length ≤ maxLen ∧ p.2.length ≤ maxLen) ∧ (∀ x, ao = some x → i < len → w.cell? (x.add (i * 2)) = some (.string (strB p.1)) ∧ w.cell? (x.add (i * 2 + 1)) = some (.string (strB p.2))) := by
    intro i
    by_cases hi : i < len
    · cases ao with
      | none => exact ⟨([], []), ⟨by simp, by simp⟩, (fun x hx => by cases hx)⟩
      | some x =>
        obtain ⟨cs, hr, hcl, hcc⟩ := hc x rfl i hi
        obtain ⟨_, hf⟩ := hr.struct Tryz.underlying28
        match cs, hcl with
        | [c0, c1], _ =>
          have i64c : Tryz.prog.cellsOf 9 = 1 := by kernel_rfl
          have r0 := hf 0 _ rfl
          have r1 := hf 1 _ rfl
          simp [i64c] at r0 r1
          obtain ⟨a, ea, wa⟩ := r0.string Tryz.underlying9
          obtain ⟨b, eb, wb⟩ := r1.string Tryz.underlying9
          simp at ea eb
          subst ea eb
          have e1 : a.data.toList.length = a.size := by rw [Array.length_toList]; rfl
          have e2 : b.data.toList.length = b.size := by rw [Array.length_toList]; rfl
          refine ⟨(a.data.toList, b.data.toList), ⟨by simp only; omega, by simp only; omega⟩, ?_⟩
          intro y hy _
          cases hy
          simp only [strB_of]
          exact ⟨by simpa using hcc 0 (by simp), by simpa using hcc 1 (by simp)⟩
    · exact ⟨([], []), ⟨by simp, by simp⟩, (fun x _ h => absurd h hi)⟩
  obtain ⟨f, hf⟩ := choose1 key
  refine ⟨ao, cap, (List.range len).map f, by simp, ?_, by simpa using hl, hm, (fun h => (hn h).2), ?_⟩
  · intro i hi
    have hil : i < len := by simpa using hi
    cases ao with
    | none => have := (hn rfl).1; omega
    | some x =>
      have hcell := (hf i).2 x rfl hil
      obtain ⟨b, off, spot⟩ := x
      have hs : spot = none := by
        have := World.cell?_spot ((hf 0).2 _ rfl (by omega)).1
        simpa [Addr.add] using this
      subst hs
      rw [addr_add, addr_add] at hcell
      rw [range_getD f len i ([], []) hil]
      exact ⟨b, off, rfl, World.block_lt_of_cell? w _ hcell.1, hcell.1, hcell.2⟩
  · intro z hz
    obtain ⟨i, _, rfl⟩ := List.mem_map.1 hz
    exact (hf i).1

/-- The cells of pairs. -/
def kcells (rs : List KVb) : List Value := rs.flatMap fun p => [.string (strB p.1), .string (strB p.2)]
theorem kcells_len (rs : List KVb) : (kcells rs).length = rs.length * 2 := by
  induction rs with
  | nil => rfl
  | cons p r ih => simp [kcells] at ih ⊢; omega
theorem kcells_at : ∀ (rs : List KVb) (i : Nat), i < rs.length → (kcells rs)[i * 2]? = some (.string (strB (rs.getD i ([], [])).1)) ∧ (kcells rs)[i * 2 + 1]? = some (.string (strB (rs.getD i ([], [])).2)) := by
  intro rs
  induction rs with
  | nil => intro i hi; simp at hi
  | cons p r ih =>
    intro i hi
    have e : kcells (p :: r) = .string (strB p.1) :: .string (strB p.2) :: kcells r := by simp [kcells]
    rw [e]
    cases i with
    | zero => exact ⟨rfl, rfl⟩
    | succ i =>
      have hi' : i < r.length := by simpa using hi
      obtain ⟨h1, h2⟩ := ih i hi'
      rw [show (i + 1) * 2 = i * 2 + 1 + 1 by omega]
      refine ⟨?_, ?_⟩
      · simpa using h1
      · rw [List.getElem?_cons_succ, List.getElem?_cons_succ]; simpa using h2
/-- A row of pairs of the call's own. -/
structure KvSt (w0 w : World) (a : Option Addr) (l c : Nat) (rs : List KVb) : Prop where
  len : l = rs.length
  own : w.ownsRow 0 28 2 (.slice a l c) l (kcells rs)
  kept : Kept NoB w0 w
  fresh : ∀ k, (Value.slice a l c).ownBlock = some k → w0.heap.size ≤ k
theorem keptRow2 {S : Nat → Prop} {a b : World} (h : Kept S a b) {base e size n : Nat} {v : Value} {xs : List Value} (ho : a.ownsRow base e size v n xs) (hs : ∀ k, v.ownBlock = some k → ¬ S k) : b.ownsRow base e size v n xs := h.row ho hs
theorem KvSt.nil (w : World) : KvSt w w none 0 0 [] := ⟨rfl, World.ownsRow_nil _ _ _ _, Kept.refl _ _, fun k hk => by simp [Value.ownBlock] at hk⟩
theorem KvSt.on {w0 w w' : World} {a : Option Addr} {l c : Nat} {rs : List KVb} (h : KvSt w0 w a l c rs) (hk : Kept NoB w w') : KvSt w0 w' a l c rs := ⟨h.len, hk.row h.own (fun _ _ h => h), h.kept.trans hk, h.fresh⟩
theorem KvSt.reads {w0 w : World} {a : Option Addr} {l c : Nat} {rs : List KVb} (h : KvSt w0 w a l c rs) : RdK w w.heap.size a rs := by
  intro i hi
  have hl := h.len
  rcases h.own.2 with ⟨_, hz⟩ | ⟨g, cc, cur, hv, _⟩
  · omega
  · simp at hv
    obtain ⟨rfl, rfl⟩ := hv
    obtain ⟨h1, h2⟩ := kcells_at rs i hi
    have hc1 : w.cell? ⟨g, i * 2, none⟩ = some (.string (strB (rs.getD i ([], [])).1)) := by
      rw [← h1]; exact h.own.cellAt (i * 2) (by omega)
    have hc2 : w.cell? ⟨g, i * 2 + 1, none⟩ = some (.string (strB (rs.getD i ([], [])).2)) := by
      rw [← h2]; exact h.own.cellAt (i * 2 + 1) (by omega)
    exact ⟨g, 0, rfl, World.block_lt_of_cell? w _ hc1, by rw [Nat.zero_add]; exact hc1, by rw [Nat.zero_add]; exact hc2⟩
theorem wpList_kv1 {ops : Array Oper} {rest : List Oper} {o : Oper} {act : Act} {w : World} {Q : Exit → Act → World → Prop} (hgd : o.guard = none) (s x : Operand)
    (ho : o.op = .call { callee := .builtin .append, args := #[s, x], argTypes := #[22, 22] })
    {w0 : World} {a : Option Addr} {l c : Nat} {rs : List KVb} (hS : KvSt w0 w a l c rs) (hs : act.eval s = .slice a l c)
    (g cx : Nat) (p : KVb) (hx : act.eval x = .slice (some ⟨g, 0, none⟩) 1 cx) (h0 : w.cell? ⟨g, 0, none⟩ = some (.string (strB p.1))) (h1 : w.cell? ⟨g, 1, none⟩ = some (.string (strB p.2))) (hn : l ≤ 1000000)
    (h : ∀ a2 c2 w', KvSt w0 w' a2 (l + 1) c2 (rs ++ [p]) → wpList Tryz.prog ops Q rest (act.put o.dst (.slice a2 (l + 1) c2)) w') : wpList Tryz.prog ops Q (o :: rest) act w := by
  obtain ⟨i0, hi, hz0, hz1, hz2⟩ := info_parts infoK
  refine wpList_app w hgd s x 22 ho 28 i0 (.agg #[.string ⟨#[]⟩, .string ⟨#[]⟩]) 2 32 Tryz.underlying22 hi hz0 hz1 hz2 rfl (by decide) _ l (kcells rs) hs hS.own ⟨g, 0, none⟩ 1 cx [.string (strB p.1), .string (strB p.2)] hx rfl ?_ ?_ (by unfold maxLen; omega) (by omega) ?_
  · intro j u hu
    rw [addr_add, Nat.zero_add]
    match j with
    | 0 => simp at hu; subst hu; exact h0
    | 1 => simp at hu; subst hu; exact h1
    | j + 2 => simp at hu
  · intro u hu
    simp at hu
    rcases hu with rfl | rfl <;> rfl
  intro v' w' h2 h3 h4
  obtain ⟨a2, c2, rfl⟩ := kv_shape h2
  refine h _ _ _ ⟨by rw [List.length_append, hS.len]; rfl, by simpa [kcells] using h2, hS.kept.grown h3 (fun k hk e => by have := hS.fresh k e; omega), ?_⟩
  intro k hk
  rcases h4 k hk with h | h
  · exact hS.fresh k h
  · have := hS.kept.size; omega
end Go.Proofs.YtclcgiochjibjaaGreatDoor
