/-
  A tree of files on paper: bytes written.
  A tree of files in memory: which file; bytes written.
  A tree of files in memory: one node with other data.
  A tree of files in memory: nodes with other names, other marks; a node gone.
  append onto an own row that is there already, of as many elements as one likes, also of none; one element taken out of a row.
  Rows of pieces: slices.Replace of some by one; slices.Delete of the last ones.
-/
import Derived.Test.YtgbakogihkdddaaGreatDoorMx8
namespace Go.Proofs.YtgbakogihkdddaaGreatDoor
set_option linter.unusedVariables false
set_option linter.unusedSimpArgs false

/-- How many of n places from a on are so. -/
def cntD (f : Int → Bool) (a : Int) : Nat → Nat
  | 0 => 0
  | n + 1 => (if f a then 1 else 0) + cntD f (a + 1) n
theorem cnt_congr {f g : Int → Bool} : ∀ (n : Nat) (a : Int), (∀ x, a ≤ x → x < a + n → f x = g x) → cntD f a n = cntD g a n
  | 0, a, h => rfl
  | n + 1, a, h => by
    unfold cntD
    rw [h a (Int.le_refl _) (by push_cast; omega), cnt_congr n (a + 1) (fun x h1 h2 => h x (by omega) (by push_cast; omega))]
theorem cnt_add (f : Int → Bool) : ∀ (m n : Nat) (a : Int), cntD f a (m + n) = cntD f a m + cntD f (a + m) n
  | 0, n, a => by simp [cntD]
  | m + 1, n, a => by
    have e : m + 1 + n = (m + n) + 1 := by omega
    have e2 : a + ((m + 1 : Nat) : Int) = a + 1 + (m : Int) := by push_cast; omega
    rw [e, e2]
    show (if f a then 1 else 0) + cntD f (a + 1) (m + n) = (if f a then 1 else 0) + cntD f (a + 1) m + cntD f (a + 1 + m) n
    rw [cnt_add f m n (a + 1)]
    omega
theorem cnt_all {f : Int → Bool} : ∀ (n : Nat) (a : Int), (∀ x, a ≤ x → x < a + n → f x = true) → cntD f a n = n
  | 0, a, h => rfl
  | n + 1, a, h => by
    unfold cntD
    rw [h a (Int.le_refl _) (by push_cast; omega), cnt_all n (a + 1) (fun x h1 h2 => h x (by omega) (by push_cast; omega))]
    simp; omega
theorem cnt_none {f : Int → Bool} : ∀ (n : Nat) (a : Int), (∀ x, a ≤ x → x < a + n → f x = false) → cntD f a n = 0
  | 0, a, h => rfl
  | n + 1, a, h => by
    unfold cntD
    rw [h a (Int.le_refl _) (by push_cast; omega), cnt_none n (a + 1) (fun x h1 h2 => h x (by omega) (by push_cast; omega))]
    simp
theorem cnt_or {f g : Int → Bool} : ∀ (n : Nat) (a : Int), (∀ x, f x = true → g x = false) → cntD (fun x => f x || g x) a n = cntD f a n + cntD g a n
  | 0, a, h => rfl
  | n + 1, a, h => by
    unfold cntD
    rw [cnt_or n (a + 1) h]
    have := h a
    cases hf : f a <;> cases hg : g a <;> simp_all <;> omega
/-- An interval. -/
def ivD (s e x : Int) : Bool := decide (s ≤ x) && decide (x < e)
theorem cnt_iv (s : Int) (m : Nat) (hs : 0 ≤ s) (N : Nat) (hN : s + m ≤ N) : cntD (ivD s (s + m)) 0 N = m := by
  obtain ⟨k, rfl⟩ : ∃ k : Nat, (k : Int) = s := ⟨s.toNat, by omega⟩
  have e : N = k + (m + (N - k - m)) := by omega
  rw [e, cnt_add, cnt_add, cnt_none k 0 (fun x h1 h2 => by simp [ivD]; omega), cnt_all m _ (fun x h1 h2 => by simp [ivD]; omega), cnt_none (N - k - m) _ (fun x h1 h2 => by simp [ivD]; omega)]
  omega
theorem size_cnt : ∀ {l : List Fp}, OkD l → ∀ N : Nat, (∀ p ∈ l, endP p ≤ N) → sizeD l = cntD (isD l) 0 N
  | [], h, N, hN => by
    rw [cnt_none N 0 (fun x _ _ => by simp [isD])]
    rfl
  | p :: t, h, N, hN => by
    have hp := h.each p (by simp)
    have ht : OkD t := ⟨fun q hq => h.each q (by simp [hq]), (List.pairwise_cons.1 h.apart).2⟩
    have hpt := (List.pairwise_cons.1 h.apart).1
    have e : cntD (isD (p :: t)) 0 N = cntD (fun x => ivD p.1 (p.1 + p.2.length) x || isD t x) 0 N := by
      congr 1
    rw [e, cnt_or N 0 (fun x hx => ?_), cnt_iv p.1 p.2.length hp.1 N (hN p (by simp)), ← size_cnt ht N (fun q hq => hN q (by simp [hq])), sizeD_cons]
    unfold isD
    rw [List.any_eq_false]
    intro q hq
    have := hpt q hq
    unfold endP at this
    simp [ivD] at hx
    simp
    intro h1
    unfold endP
    omega
theorem fit_cnt (f : Int → Bool) : ∀ (s : Nat) (k : Int) (room : Nat), (fitB f s k room).2 + cntD f k (fitB f s k room).1 = (fitB f s k room).1
  | 0, k, room => by simp [fitB, cntD]
  | s + 1, k, room => by
    unfold fitB
    by_cases hf : f k = true
    · rw [if_pos hf]
      have := fit_cnt f s (k + 1) room
      simp only
      conv => lhs; rhs; unfold cntD
      rw [if_pos hf]
      omega
    · rw [if_neg hf]
      cases room with
      | zero => simp [cntD]
      | succ r =>
        have := fit_cnt f s (k + 1) r
        simp only
        conv => lhs; rhs; unfold cntD
        rw [if_neg hf]
        omega
theorem put_is {l : List Fp} (h : OkD l) (k : Int) (b : List UInt8) (hk : 0 ≤ k) (hb : b ≠ []) (x : Int) : isD (putP l k b) x = (ivD k (k + b.length) x || isD l x) := by
  rw [Bool.eq_iff_iff, isD_has]
  simp only [Bool.or_eq_true, isD_has]
  constructor
  · rintro ⟨c, hc⟩
    rcases (put_has h k b hk hb x c).1 hc with ⟨h1, h2⟩ | ⟨_, h2⟩
    · left
      have := (List.getElem?_eq_some_iff.1 h2).1
      simp [ivD]; omega
    · exact .inr ⟨c, h2⟩
  · intro hx
    by_cases hi : k ≤ x ∧ x < k + b.length
    · have hlt : (x - k).toNat < b.length := by omega
      exact ⟨b[(x - k).toNat], (put_has h k b hk hb x _).2 (.inl ⟨hi.1, List.getElem?_eq_getElem hlt⟩)⟩
    · rcases hx with hx | ⟨c, hx⟩
      · simp [ivD] at hx; omega
      · exact ⟨c, (put_has h k b hk hb x c).2 (.inr ⟨by omega, hx⟩)⟩
theorem put_size {l : List Fp} (h : OkD l) (k : Int) (b : List UInt8) (hk : 0 ≤ k) (hb : b ≠ []) (hmost : k + b.length ≤ 1099511627776) :
    sizeD (putP l k b) + cntD (isD l) k b.length = sizeD l + b.length := by
  obtain ⟨K, rfl⟩ : ∃ K : Nat, (K : Int) = k := ⟨k.toNat, by omega⟩
  obtain ⟨N, hN⟩ : ∃ N : Nat, N = 1099511627776 := ⟨_, rfl⟩
  have hK : K + b.length ≤ N := by omega
  have h2 := put_ok h K b hk hb hmost
  rw [size_cnt h N (fun p hp => by have := (h.each p hp).2.2; omega), size_cnt h2 N (fun p hp => by have := (h2.each p hp).2.2; omega)]
  clear hN hmost h2
  have e : N = K + (b.length + (N - K - b.length)) := by omega
  rw [e, cnt_add, cnt_add, cnt_add, cnt_add]
  have o1 : cntD (isD (putP l K b)) 0 K = cntD (isD l) 0 K := cnt_congr K 0 (fun x h1 h2 => by
    have q : ivD (K : Int) (K + b.length) x = false := by simp [ivD]; omega
    rw [put_is h K b hk hb, q]; rfl)
  have o2 : cntD (isD (putP l K b)) (0 + K) b.length = b.length := cnt_all b.length _ (fun x h1 h2 => by
    have q : ivD (K : Int) (K + b.length) x = true := by simp [ivD]; omega
    rw [put_is h K b hk hb, q]; rfl)
  have o3 : cntD (isD (putP l K b)) (0 + K + b.length) (N - K - b.length) = cntD (isD l) (0 + K + b.length) (N - K - b.length) := cnt_congr _ _ (fun x h1 h2 => by
    have q : ivD (K : Int) (K + b.length) x = false := by simp [ivD]; omega
    rw [put_is h K b hk hb, q]; rfl)
  rw [o1, o2, o3]
  simp only [Int.zero_add]
  omega
theorem put_inside {l : List Fp} (h : OkD l) (k : Int) (b : List UInt8) (hk : 0 ≤ k) (hb : b ≠ []) (hmost : k + b.length ≤ 1099511627776) (s : Int) (hs : ∀ p ∈ l, endP p ≤ s) : ∀ p ∈ putP l k b, endP p ≤ max s (k + b.length) := by
  intro p hp
  have h2 := put_ok h k b hk hb hmost
  have hq := h2.each p hp
  have hl : 0 < p.2.length := List.length_pos_iff.2 hq.2.1
  have hx : isD (putP l k b) (endP p - 1) = true := by
    unfold isD
    rw [List.any_eq_true]
    refine ⟨p, hp, ?_⟩
    simp
    unfold endP
    omega
  rw [put_is h k b hk hb] at hx
  simp only [Bool.or_eq_true] at hx
  rcases hx with hx | hx
  · simp [ivD] at hx; omega
  · unfold isD at hx
    rw [List.any_eq_true] at hx
    obtain ⟨q, hq2, hq3⟩ := hx
    simp at hq3
    have := hs q hq2
    omega

/-- Bytes b written into node i at k, some of them new. -/
def wrN (n : NdP) (c k : Int) (b : List UInt8) : NdP := { n with data := putP n.data k b, v := { n.v with size := max n.v.size (k + b.length), change := c } }
def writeT (T : FsP) (i : Int) (n : NdP) (k : Int) (b : List UInt8) (fresh : Nat) : FsP :=
  { T with clock := T.clock + 1, used := T.used + (fresh : Int), nd := updN T.nd i (some (wrN n (T.clock + 1) k b)) }
def fitP (T : FsP) (n : NdP) (k : Int) (b : List UInt8) : Nat × Nat := fitB (isD n.data) b.length k (T.quota - T.used).toNat
def writeP (T : FsP) (i k : Int) (b : List UInt8) : FsP × Int :=
  match T.nd i with
  | none => (T, 10)
  | some n =>
    if n.v.kind = 1 then
      if k < 0 ∨ 1099511627776 - (b.length : Int) < k then (T, 1) else
      (if (fitP T n k b).1 = 0 then T else writeT T i n k (b.take (fitP T n k b).1) (fitP T n k b).2, if (fitP T n k b).1 < b.length then 5 else 0)
    else (T, 13)

theorem writeT_ok {T : FsP} (h : OkT T) {i : Int} {n : NdP} (hn : T.nd i = some n) (h1 : n.v.kind = 1) (k : Int) (b : List UInt8) (hk : 0 ≤ k) (hks : k + b.length ≤ 1099511627776) (h0 : (fitP T n k b).1 ≠ 0) :
    OkT (writeT T i n k (b.take (fitP T n k b).1) (fitP T n k b).2) := by
  have on := h.node i n hn
  obtain ⟨f, hf⟩ : ∃ f, f = (fitP T n k b).1 := ⟨_, rfl⟩
  obtain ⟨r, hr⟩ : ∃ r, r = (fitP T n k b).2 := ⟨_, rfl⟩
  have hle := fitB_le (isD n.data) b.length k (T.quota - T.used).toNat
  have hct := fit_cnt (isD n.data) b.length k (T.quota - T.used).toNat
  unfold fitP at hf hr h0
  rw [← hf, ← hr] at hle hct
  rw [← hf] at h0
  unfold fitP
  rw [← hf, ← hr]
  clear hf hr
  obtain ⟨b', hb'⟩ : ∃ b', b' = b.take f := ⟨_, rfl⟩
  have hbl : b'.length = f := by rw [hb', List.length_take]; omega
  rw [← hb']
  have hbn : b' ≠ [] := fun e => by rw [e] at hbl; simp at hbl; omega
  have hmost : k + (b'.length : Int) ≤ 1099511627776 := by rw [hbl]; omega
  have hps := put_size on.data k b' hk hbn hmost
  rw [hbl] at hps
  have hroom := h.room
  refine same_ok h hn rfl rfl rfl rfl (put_ok on.data k b' hk hbn hmost) (fun e => absurd h1 e) (put_inside on.data k b' hk hbn hmost n.v.size on.inside) ?_ rfl on.mode on.user on.group on.time ⟨rfl, rfl, rfl⟩ ?_ ?_
  · have := on.size
    show 0 ≤ max n.v.size (k + (b'.length : Int)) ∧ max n.v.size (k + (b'.length : Int)) ≤ 1099511627776
    omega
  · show T.used + (r : Int) + (sizeD n.data : Nat) = T.used + (sizeD (putP n.data k b') : Nat)
    omega
  · omega
end Go.Proofs.YtgbakogihkdddaaGreatDoor

namespace Go.Proofs.YtgbakogihkdddaaGreatDoor
open Go.RowKit
set_option linter.unusedVariables false
set_option linter.unusedSimpArgs false
set_option maxRecDepth 20000

def fileE (T : FsP) (i : Int) : Int := match T.nd i with | none => 10 | some n => if n.v.kind = 1 then 0 else 13
set_option maxHeartbeats 1000000 in
theorem file_in {L : Nat → Lab} {B : Int → Option Nat} {mb : Nat} {S : Nat → Prop} {w : World} {f : Nat} {T : FsP} (h : FsIn L B mb S w f T) (i : Int) (hi : -9223372036854775808 ≤ i ∧ i ≤ 9223372036854775807) :
    Calls Tryz.prog 28 #[.pointer (some ⟨f, 0, none⟩), .int .i64 i] w fun e w' =>
      e = .returned (.tuple #[ptrV (if fileE T i = 0 then B i else none), .int .i64 (fileE T i)]) ∧ Kept NoB w w' := by
  obtain ⟨c0, c1, c2, c3, c4⟩ := h.cells
  have HT := Lib.hid h.tab
  cases hn : T.nd i with
  | none =>
    have hB := h.gone hn
    have hp : fileE T i = 10 := by unfold fileE; rw [hn]
    rw [hp]
    clear h hp hn
    go_enter Tryz.func28, Tryz.ntmps28
    go_wp2_with (at_lookup; refine wpList_nodes_ok rfl _ _ rfl HT.out rfl rfl hi ?_; rw [hB, ptrV_none])
    go_ret2
    exact ⟨rfl, Kept.refl _ _⟩
  | some n =>
    obtain ⟨b, m, a, c, qs, hB, hN⟩ := h.at hn
    have k0 := hN.cell 0
    have hp : fileE T i = if n.v.kind = 1 then 0 else 13 := by unfold fileE; rw [hn]
    rw [hp, hB]
    simp [ndC, nvC] at k0
    obtain ⟨kd, hkd⟩ : ∃ kd, kd = n.v.kind := ⟨_, rfl⟩
    rw [← hkd] at k0 ⊢
    clear h hp hn hN hkd
    go_enter Tryz.func28, Tryz.ntmps28
    by_cases h6 : kd = 1
    · subst h6
      go_wp2_with (at_lookup; refine wpList_nodes_ok rfl _ _ rfl HT.out rfl rfl hi ?_; rw [hB, ptrV_some])
      go_ret2
      exact ⟨rfl, Kept.refl _ _⟩
    · have h6' : (kd == 1) = false := by simpa using h6
      rw [if_neg h6]
      go_wp2_with (at_lookup; refine wpList_nodes_ok rfl _ _ rfl HT.out rfl rfl hi ?_; rw [hB, ptrV_some])
      go_ret2
      exact ⟨rfl, Kept.refl _ _⟩

/-- Pieces, and their bytes, in rows of their own. -/
structure DatO (w : World) (a : Option Addr) (c : Nat) (qs : List FpQ) : Prop where
  own : w.ownsRow 0 40 2 (.slice a qs.length c) qs.length (fcells qs)
  each : ∀ q ∈ qs, w.ownsRow 0 5 1 (.slice q.2.1 q.1.2.length q.2.2) q.1.2.length (bc q.1.2)
  apart : qs.Pairwise (fun p q => ∀ k, (Value.slice p.2.1 p.1.2.length p.2.2).ownBlock = some k → (Value.slice q.2.1 q.1.2.length q.2.2).ownBlock ≠ some k)
/-- The blocks of some pieces' bytes. -/
def BytB (qs : List FpQ) : Nat → Prop := fun k => ∃ q ∈ qs, (Value.slice q.2.1 q.1.2.length q.2.2).ownBlock = some k
/-- What comes of put. -/
def PutP (w : World) (D : Nat) (cs : Array Value) (a : Option Addr) (c : Nat) (qs : List FpQ) (k : Int) (bs : List UInt8) (e : Ending) (w' : World) : Prop :=
  e = .returned (.tuple #[]) ∧ ∃ (a' : Option Addr) (c' : Nat) (qs' : List FpQ), qs'.map Prod.fst = putP (qs.map Prod.fst) k bs ∧ w'.heap[D]? = some (.cells (cs.setIfInBounds 13 (.slice a' qs'.length c')) 63 (0, 0)) ∧ DatO w' a' c' qs' ∧
    (∀ j, (Value.slice a' qs'.length c').ownBlock = some j → (Value.slice a qs.length c).ownBlock = some j ∨ w.heap.size ≤ j) ∧ (∀ j, BytB qs' j → BytB qs j ∨ w.heap.size ≤ j) ∧
    Kept (fun j => j = D ∨ (Value.slice a qs.length c).ownBlock = some j ∨ BytB qs j) w w'
/-- Bytes bs are put into pieces l at k. -/
def PutOk (l : List Fp) (k : Int) (bs : List UInt8) : Prop :=
  ∀ (D : Nat) (cs : Array Value) (a : Option Addr) (c : Nat) (qs : List FpQ) (ab : Option Addr) (cb : Nat) (w : World), qs.map Prod.fst = l → w.heap[D]? = some (.cells cs 63 (0, 0)) → cs[13]? = some (.slice a qs.length c) → DatO w a c qs → OkD l →
    (∀ j, BytB qs j → j ≠ D ∧ ∀ x, ab = some x → x.block ≠ j) → (∀ x, ab = some x → x.block ≠ D ∧ (Value.slice a qs.length c).ownBlock ≠ some x.block) → 0 ≤ k → bs ≠ [] → k + (bs.length : Int) ≤ 1099511627776 → Reads w ab (nb bs) → qs.length ≤ 1099511627776 →
    Calls Tryz.prog 30 #[.pointer (some ⟨D, 13, none⟩), .int .i64 k, .slice ab bs.length cb] w (PutP w D cs a c qs k bs)
theorem row_byt {w : World} {a : Option Addr} {c : Nat} {qs : List FpQ} (hd : DatO w a c qs) {j : Nat} (hj : BytB qs j) : (Value.slice a qs.length c).ownBlock ≠ some j := fun e => by
  obtain ⟨y, hy1, hy2⟩ := hj
  have h8 := hd.each y hy1
  rcases hd.own.2 with ⟨q1, q2⟩ | ⟨g, cc, cur, q1, _, q2, _⟩
  · rw [q1] at e; cases e
  · rw [q1] at e
    have e2 : g = j := by injection e
    exact row2_ne h8 (by rw [e2] at q2; exact q2) (by decide) j hy2 rfl
theorem bytes_rd {w : World} {a : Option Addr} {c : Nat} {qs : List FpQ} (h : DatO w a c qs) : RdD w a (qs.map Prod.fst) := by
  have hst : DatSt (fun k => if (Value.slice a qs.length c).ownBlock = some k then Lab.row 0 else Lab.byt 0) 0 w a qs.length c qs :=
    ⟨rfl, h.own, fun k hk => if_pos hk, h.each, fun q hq k hk => if_neg (row_byt h ⟨q, hq, hk⟩), h.apart⟩
  exact hst.rd
theorem putOk_free {l : List Fp} {k : Int} {bs : List UInt8} (hfree : touchP l k (k + bs.length) = []) : PutOk l k bs := by
  intro D cs a c qs ab cb w hl hD h13 hd hok hx hy hk hb hkb hrb hlen
  subst hl
  refine (put_free D cs a c qs k bs ab cb w hD h13 hd.own (bytes_rd hd) hok hk hb hkb hfree hrb hlen (by omega)).mono ?_
  rintro e w' ⟨rfl, a', c', q, hq, h1, h2, h3, h4, h5, h6, h7⟩
  have hA := ahead_le (qs.map Prod.fst) k
  obtain ⟨A, hAe⟩ : ∃ A, A = (aheadP (qs.map Prod.fst) k).length := ⟨_, rfl⟩
  rw [← hAe] at h2 hA
  have hlq : (qs.take A ++ q :: qs.drop A).length = qs.length + 1 := by simp at hA ⊢; omega
  have hpm : ∀ x, x ∈ qs.take A ++ q :: qs.drop A → x = q ∨ x ∈ qs := fun x hx => by
    simp only [List.mem_append, List.mem_cons] at hx
    rcases hx with hx | hx | hx
    · exact .inr (List.mem_of_mem_take hx)
    · exact .inl hx
    · exact .inr (List.mem_of_mem_drop hx)
  have hold : ∀ j, BytB qs j → j < w.heap.size := fun j ⟨q, hq, hj⟩ => ((hd.each q hq).lt j hj).2
  have hbk : ∀ j, BytB qs j → ¬ OrB (OneB D) (OwnB (.slice a qs.length c)) j := fun j hj e => by
    rcases e with e | e
    · exact (hx j hj).1 e
    · exact row_byt hd hj e
  have hq2 : q.1.2.length = bs.length := by rw [hq]
  refine ⟨rfl, a', c', qs.take A ++ q :: qs.drop A, ?_, ?_, ⟨?_, ?_, ?_⟩, ?_, ?_, ?_⟩
  · have hs := split3 (qs.map Prod.fst) k (k + bs.length)
    rw [hfree, List.nil_append] at hs
    unfold putP
    rw [hfree, join_none, List.map_append, List.map_cons, hq]
    have h8 : (qs.map Prod.fst).take A = aheadP (qs.map Prod.fst) k := by
      conv => lhs; rw [hs]
      rw [hAe, List.take_left']
      rfl
    have h9 : (qs.map Prod.fst).drop A = behindP (qs.map Prod.fst) k (k + bs.length) := by
      conv => lhs; rw [hs]
      rw [hAe, List.drop_left']
      rfl
    rw [List.map_take, List.map_drop, h8, h9]
  · rw [hlq]; exact h1
  · rw [hlq]; exact h2
  · intro x hx2
    rcases hpm x hx2 with rfl | hx3
    · rw [hq2]
      have : x.1.2 = bs := by rw [hq]
      rw [this]; exact h3
    · exact h7.row (hd.each x hx3) (fun j hj => hbk j ⟨x, hx3, hj⟩)
  · have hqf : ∀ x ∈ qs, ∀ j, (Value.slice x.2.1 x.1.2.length x.2.2).ownBlock = some j → (Value.slice q.2.1 q.1.2.length q.2.2).ownBlock ≠ some j := fun x hx2 j hj e => by
      rw [hq2] at e
      have h8 := h4 j e
      have h9 := hold j ⟨x, hx2, hj⟩
      omega
    rw [List.pairwise_append]
    refine ⟨hd.apart.sublist (List.take_sublist _ _), ?_, ?_⟩
    · rw [List.pairwise_cons]
      refine ⟨fun x hx2 j hj e => hqf x (List.mem_of_mem_drop hx2) j e hj, hd.apart.sublist (List.drop_sublist _ _)⟩
    · intro x hx2 y hy2 j hj
      rw [List.mem_cons] at hy2
      rcases hy2 with rfl | hy2
      · exact hqf x (List.mem_of_mem_take hx2) j hj
      · have h8 := hd.apart
        rw [← List.take_append_drop A qs, List.pairwise_append] at h8
        exact h8.2.2 x hx2 y hy2 j hj
  · intro j hj
    rw [hlq] at hj
    exact h5 j hj
  · rintro j ⟨x, hx2, hj⟩
    rcases hpm x hx2 with rfl | hx3
    · rw [hq2] at hj; exact .inr (h4 j hj)
    · exact .inl ⟨x, hx3, hj⟩
  · exact h7.mono (fun j _ e => by
      rcases e with e | e
      · exact .inl e
      · exact .inr (.inl e))
end Go.Proofs.YtgbakogihkdddaaGreatDoor

namespace Go.Proofs.YtgbakogihkdddaaGreatDoor
open Go.RowKit
set_option linter.unusedVariables false
set_option linter.unusedSimpArgs false

theorem data_done {L : Nat → Lab} {B : Int → Option Nat} {mb : Nat} {S : Nat → Prop} {w w' : World} {f : Nat} {T T' : FsP} (h : FsIn L B mb S w f T) {i : Int} {n n' : NdP} {D : Nat} {m : Option Nat} {a a' : Option Addr} {c c' : Nat} {qs qs' : List FpQ} {K : Nat → Prop}
    (hB : B i = some D) (hN : NdSt L i w D n m a c qs) (ok' : OkT T') (hnd : T'.nd = updN T.nd i (some n')) (hcnt : T'.cnt = T.cnt) (hkind : n'.v.kind = n.v.kind) (hnames : n'.names = n.names) (hk : Kept K w w')
    (hK : ∀ j, K j → j < w.heap.size → j = f ∨ j = D ∨ L j = .row i ∨ L j = .byt i) (obj' : w'.heap[f]? = some (.cells (fsC mb T').toArray 66 (0, 0))) (nd' : w'.heap[D]? = some (.cells (ndC n' m a' c').toArray 63 (0, 0)))
    (dat : DatO w' a' c' qs') (hq : qs'.map Prod.fst = n'.data) (hrow : ∀ j, (Value.slice a' qs'.length c').ownBlock = some j → L j = .row i ∨ w.heap.size ≤ j) (hbyt : ∀ j, BytB qs' j → L j = .byt i ∨ w.heap.size ≤ j) :
    FsSt (Grow S w w') w' f T' ∧ Kept S w w' := by
  have hlf := h.labf
  have hlm := h.labm
  have hlD := hN.lab
  have hS : ∀ j x, L j = x → x ≠ .no → S j ∧ j < w.heap.size := fun j x => h.low
  have hk2 : Kept (fun j => K j ∧ j < w.heap.size) w w' := hk.mono (fun j hj e => ⟨e, hj⟩)
  have hlen : qs'.length = n'.data.length := by rw [← hq]; simp
  obtain ⟨L', hL'⟩ : ∃ L' : Nat → Lab, L' = fun j => if w.heap.size ≤ j then (if (Value.slice a' qs'.length c').ownBlock = some j then .row i else if j < w'.heap.size then .byt i else .no) else L j := ⟨_, rfl⟩
  have hold : ∀ j, j < w.heap.size → L' j = L j := fun j hj => by rw [hL']; exact if_neg (by omega)
  have hL1 : ∀ j x, L j = x → x ≠ .no → L' j = x := fun j x e hx => by rw [hold j (hS j x e hx).2]; exact e
  have hrow2 : ∀ j, (Value.slice a' qs'.length c').ownBlock = some j → L' j = .row i := fun j hj => by
    rcases Nat.lt_or_ge j w.heap.size with h1 | h1
    · rw [hold j h1]
      rcases hrow j hj with h2 | h2
      · exact h2
      · omega
    · rw [hL']
      show (if w.heap.size ≤ j then _ else _) = _
      rw [if_pos h1, if_pos hj]
  have hbyt2 : ∀ j, BytB qs' j → L' j = .byt i := fun j hj => by
    rcases Nat.lt_or_ge j w.heap.size with h1 | h1
    · rw [hold j h1]
      rcases hbyt j hj with h2 | h2
      · exact h2
      · omega
    · rw [hL']
      show (if w.heap.size ≤ j then _ else _) = _
      rw [if_pos h1, if_neg (row_byt dat hj), if_pos (by obtain ⟨q, hq, e⟩ := hj; exact ((dat.each q hq).lt j e).2)]
  have hno : ∀ j x, L j = x → x ≠ .no → x ≠ .fs → x ≠ .nd i → x ≠ .row i → x ≠ .byt i → ¬ K j := fun j x e h0 h1 h2 h3 h4 hj => by
    rcases hK j hj (hS j x e h0).2 with e2 | e2 | e2 | e2
    · subst e2; rw [hlf] at e; exact h1 e.symm
    · subst e2; rw [hlD] at e; exact h2 e.symm
    · rw [e2] at e; exact h3 e.symm
    · rw [e2] at e; exact h4 e.symm
  refine ⟨⟨L', B, mb, FsIn.rebuild h ok' hk2 obj' ?_ ?_ hL1 ?_ ?_⟩, hk.mono (fun j hj e => ?_)⟩
  · rw [hcnt]
    exact MapF.kept h.tab hk (hno mb _ hlm (by simp) (by simp) (by simp) (by simp) (by simp))
  · intro x
    rw [hnd]
    by_cases e : x = i
    · subst e; rw [updN_same, hB]; rfl
    · rw [updN_other _ _ e]; exact h.dom x
  · intro x nx bx hx hbx
    rw [hnd] at hx
    by_cases e : x = i
    · subst e
      rw [updN_same] at hx
      cases hx
      rw [hB] at hbx
      cases hbx
      right
      refine ⟨m, a', c', qs', nd', hL1 _ _ hlD (by simp), fun h6 => ?_, fun h6 => hN.plain (by rw [← hkind]; exact h6), ⟨by rw [hlen], by rw [← hlen]; exact dat.own, fun j hj => hrow2 j (by rw [hlen]; exact hj), dat.each, fun q hq j hj => hbyt2 j ⟨q, hq, hj⟩, dat.apart⟩, hq⟩
      rw [hkind] at h6
      obtain ⟨mb2, e1, e2, e3⟩ := hN.dir h6
      refine ⟨mb2, e1, hL1 _ _ e2 (by simp), ?_⟩
      rw [hnames]
      exact MapF.kept e3 hk (hno mb2 _ e2 (by simp) (by simp) (by simp) (by simp) (by simp))
    · rw [updN_other _ _ e] at hx
      refine .inl ⟨hx, hbx, fun j ⟨hj, hj2⟩ => ?_⟩
      have e' : i ≠ x := fun q => e q.symm
      rcases hK j hj hj2 with e2 | e2 | e2 | e2
      · rw [e2, hlf]; simp
      · rw [e2, hlD]; simp [e']
      · rw [e2]; simp [e']
      · rw [e2]; simp [e']
  · intro j hj
    rcases Nat.lt_or_ge j w.heap.size with h1 | h1
    · have h2 := h.own j (fun x ex => by rw [← ex, ← hold j h1]; exact hj _ rfl)
      exact ⟨.inl h2.1, Nat.lt_of_lt_of_le h1 hk.size⟩
    · have h2 : j < w'.heap.size := by
        rcases Nat.lt_or_ge j w'.heap.size with h3 | h3
        · exact h3
        · exfalso
          refine hj _ rfl ?_
          rw [hL']
          show (if w.heap.size ≤ j then _ else _) = _
          rw [if_pos h1, if_neg (fun e => by have := (dat.own.lt j e).2; omega), if_neg (by omega)]
      exact ⟨.inr ⟨h1, h2⟩, h2⟩
  · rcases hK j e hj with e2 | e2 | e2 | e2
    · rw [e2]; exact (hS f _ hlf (by simp)).1
    · rw [e2]; exact (hS D _ hlD (by simp)).1
    · exact (hS j _ e2 (by simp)).1
    · exact (hS j _ e2 (by simp)).1
end Go.Proofs.YtgbakogihkdddaaGreatDoor

namespace Go.Proofs.YtgbakogihkdddaaGreatDoor
open Go.RowKit
set_option linter.unusedVariables false
set_option linter.unusedSimpArgs false

theorem nodes_done {L : Nat → Lab} {B B' : Int → Option Nat} {mb : Nat} {S : Nat → Prop} {w w' : World} {f : Nat} {T T' : FsP} (h : FsIn L B mb S w f T) {K : Nat → Prop} (ok' : OkT T') (hk : Kept K w w')
    (hK : ∀ j, K j → j < w.heap.size → L j ≠ .no ∧ ∀ i, L j ≠ .row i ∧ L j ≠ .byt i) (obj' : w'.heap[f]? = some (.cells (fsC mb T').toArray 66 (0, 0))) (tab' : NodesAt w' mb B' T'.cnt)
    (dom' : ∀ i, (B' i).isSome = (T'.nd i).isSome) (sub : ∀ i b, B' i = some b → B i = some b)
    (node' : ∀ i b n', B' i = some b → T'.nd i = some n' → ∃ n, T.nd i = some n ∧ ((n' = n ∧ ∀ j, K j → j < w.heap.size → L j ≠ .nd i ∧ L j ≠ .nm i) ∨
      (n'.data = n.data ∧ n'.v.kind = n.v.kind ∧ ∀ m a c, w.heap[b]? = some (.cells (ndC n m a c).toArray 63 (0, 0)) → w'.heap[b]? = some (.cells (ndC n' m a c).toArray 63 (0, 0)) ∧ (n.v.kind = 6 → ∀ mb2, m = some mb2 → NamesAt w mb2 n.names → L mb2 = .nm i → NamesAt w' mb2 n'.names)))) :
    FsSt (Grow S w w') w' f T' ∧ Kept S w w' := by
  have hk2 : Kept (fun j => K j ∧ j < w.heap.size) w w' := hk.mono (fun j hj e => ⟨e, hj⟩)
  refine ⟨⟨L, B', mb, FsIn.rebuild h ok' hk2 obj' tab' dom' (fun k x e _ => e) ?_ ?_⟩, hk.mono (fun j hj e => ?_)⟩
  · intro i n' b hn' hb'
    obtain ⟨n, hn, hor⟩ := node' i b n' hb' hn'
    have hb := sub i b hb'
    rcases hor with ⟨rfl, hK2⟩ | ⟨hd, hkd, hm⟩
    · exact .inl ⟨hn, hb, fun j ⟨hj, hj2⟩ => ⟨(hK2 j hj hj2).1, (hK2 j hj hj2).2, ((hK j hj hj2).2 i).1, ((hK j hj hj2).2 i).2⟩⟩
    · right
      obtain ⟨m, a, c, qs, hN⟩ := h.node i n b hn hb
      obtain ⟨h1, h2⟩ := hm m a c hN.obj
      refine ⟨m, a, c, qs, h1, hN.lab, fun h6 => ?_, fun h6 => hN.plain (by rw [← hkd]; exact h6), ?_, by rw [hd]; exact hN.data⟩
      · rw [hkd] at h6
        obtain ⟨mb2, e1, e2, e3⟩ := hN.dir h6
        exact ⟨mb2, e1, e2, h2 h6 mb2 e1 e3 e2⟩
      · have := hN.dat.kept hk2 (fun j e hj => ((hK j hj.1 hj.2).2 i).1 e) (fun j e hj => ((hK j hj.1 hj.2).2 i).2 e)
        rw [← hd] at this
        exact this
  · intro j hj
    have := h.own j hj
    exact ⟨.inl this.1, Nat.lt_of_lt_of_le this.2 hk.size⟩
  · exact (h.own j (fun x ex => by rw [← ex]; exact (hK j e hj).1)).1
end Go.Proofs.YtgbakogihkdddaaGreatDoor

namespace Go.Proofs.YtgbakogihkdddaaGreatDoor
open Go.RowKit
set_option linter.unusedVariables false
set_option linter.unusedSimpArgs false
set_option maxRecDepth 20000

theorem run_app_src0 {P : Program} (w : World) (t tx ty e : TypeId) (i : TypeInfo) (z : Value) (size bytes : Nat) (ht : P.underlying t = some (.slice e)) (hi : P.info? e = some i) (hz : i.zero = some z)
    (hsize : i.size = size) (hby : i.bytes = bytes) (hzs : z.cells.size = size) (hsz : 0 < size) (g n c : Nat) (xs : List Value) (hown : w.ownsRow 0 e size (.slice (some ⟨g, 0, none⟩) n c) n xs)
    (x : Value) (m : Nat) (news : List Value) (hsrc : Src P size tx x m news w) (hl : news.length = m * size) (h1 : ∀ u ∈ news, u.oneCell' = true)
    (h63 : n + m ≤ maxLen) (hbytes : (n + m) * bytes ≤ 140737488355328) :
    ∃ v' w', (Builtin.append_ #[t, tx] ty #[.slice (some ⟨g, 0, none⟩) n c, x]).run P w = .ok v' w' ∧ w'.ownsRow 0 e size v' (n + m) (xs ++ news) ∧ w.grownBy w' (some g) ∧
      ∃ g' c', v' = .slice (some ⟨g', 0, none⟩) (n + m) c' ∧ (g' = g ∨ w.heap.size ≤ g') := by
  rcases Nat.eq_zero_or_pos m with hm | hm
  · subst hm
    have hnews : news = [] := List.eq_nil_of_length_eq_zero (by omega)
    subst hnews
    rcases hown.2 with ⟨h, _⟩ | ⟨g', c', cur, hv, hbg, hg, hnc, hcm, hcs, htake⟩
    · cases h
    · simp only [Value.slice.injEq, Option.some.injEq, Addr.mk.injEq, and_true, true_and] at hv
      obtain ⟨rfl, rfl⟩ := hv
      have hroom : n + 0 ≤ c := by omega
      have hlen : (xs ++ []).length = (n + 0) * size := by rw [List.append_nil, hown.1]; simp
      have hst := run_storeCells_at P g (n * size) e [] 0 cur w hg (by simp [hcs]; exact Nat.mul_le_mul_right _ hnc) (fun u hu => by cases hu)
      simp only [Nat.add_zero] at hst
      obtain ⟨row, hrow⟩ : ∃ row, row = (cur.toList.take (n * size) ++ [] ++ cur.toList.drop (n * size + ([] : List Value).length)).toArray := ⟨_, rfl⟩
      have hrun : (Builtin.append_ #[t, tx] ty #[.slice (some ⟨g, 0, none⟩) n c, x]).run P w = .ok (.slice (some ⟨g, 0, none⟩) (n + 0) c) (w.setRow g row) := by
        rw [← hrow] at hst
        have h2 := hsrc.cells
        have h3 := hsrc.len
        rcases hsrc.kind with ⟨e', hk⟩ | hk <;> simp [Builtin.append_, run_underlying ht, run_underlying hk, sizeOf, typeInfo, hi, h3, hnc, hsize, h2, Addr.add_lit, hst]
      have hrs : row.size = c * size := by
        rw [hrow]
        simp only [List.size_toArray, List.length_append, List.length_take, List.length_drop, Array.length_toList, List.length_nil]
        have := Nat.mul_le_mul_right size hnc
        omega
      have hrt : row.toList.take ((n + 0) * size) = xs ++ [] := by
        rw [hrow, List.toList_toArray, htake, ← hlen, List.append_assoc]
        simp
      exact ⟨_, _, hrun, ⟨hlen, .inr ⟨g, c, row, rfl, hbg, setRow_heap w g cur _ _ _ hg, hroom, hcm, hrs, hrt⟩⟩, ⟨rfl, rfl, rfl, by simp, fun k hk hne => setRow_other w g k _ (fun e => by subst e; exact hne rfl)⟩, g, c, rfl, .inl rfl⟩
  · obtain ⟨v', w', a1, a2, a3, a4⟩ := run_app_src w t tx ty e i z size bytes ht hi hz hsize hby hzs hsz _ n xs hown x m news hsrc hl h1 hm h63 hbytes
    rcases a2.2 with ⟨rfl, h0⟩ | ⟨g', c', cur, rfl, _⟩
    · omega
    · refine ⟨_, w', a1, a2, a3, g', c', rfl, ?_⟩
      rcases a4 g' rfl with e | e
      · exact .inl (by simpa [Value.ownBlock] using e.symm)
      · exact .inr e
/-- A piece of a row of elements of 'size' cells, sliced: its cells. -/
theorem slice_src {P : Program} (t e : TypeId) (size : Nat) (hk : P.underlying t = some (.slice e)) (g n c l h : Nat) (xs : List Value) (hxl : xs.length = n * size) (h1 : ∀ u ∈ xs, u.oneCell' = true) (hl : l ≤ h) (hh : h ≤ n)
    (W : World) (hcell : ∀ j u, xs[j]? = some u → W.cell? ⟨g, j, none⟩ = some u) (q : Addr) (c' : Nat) (hq : q = ⟨g, l * size, none⟩ ∨ h = l) : Src P size t (.slice (some q) (h - l) c') (h - l) ((xs.drop (l * size)).take ((h - l) * size)) W := by
  have hle : l * size ≤ h * size := Nat.mul_le_mul_right _ hl
  have hle2 : h * size ≤ n * size := Nat.mul_le_mul_right _ hh
  have hlen : ((xs.drop (l * size)).take ((h - l) * size)).length = (h - l) * size := by
    rw [List.length_take, List.length_drop, hxl, Nat.sub_mul]; omega
  refine Src.ofSlice W hk q (h - l) c' _ hlen (fun j u hj => ?_) (fun u hu => h1 u (List.mem_of_mem_drop (List.mem_of_mem_take hu)))
  rw [List.getElem?_take] at hj
  split at hj
  · rename_i hlt
    rw [List.getElem?_drop] at hj
    rcases hq with rfl | rfl
    · rw [Addr.add_lit]; exact hcell _ _ hj
    · simp at hlt
  · cases hj
theorem sliced_some (g c l h s : Nat) (hl : l ≤ h) (hc : h ≤ c) : ∃ q, sliced (some ⟨g, 0, none⟩) l h c s = .slice (some q) (h - l) (c - l) ∧ (q = ⟨g, l * s, none⟩ ∨ h = l) ∧ q.block = g := by
  by_cases hcl : c = l
  · refine ⟨⟨g, 0, none⟩, ?_, .inr (by omega), rfl⟩
    unfold sliced
    rw [if_pos hcl]
  · refine ⟨⟨g, l * s, none⟩, ?_, .inl rfl, rfl⟩
    unfold sliced
    rw [if_neg hcl]
    rw [Option.map_some, Addr.add_lit, Nat.zero_add]
theorem slice_upto {P : Program} {t : TypeId} {s : Nat} (ht : P.underlying t = some (.slice (P.elem t))) (hs : ∀ W : World, (sizeOf (P.elem t)).run P W = .ok s W) (g n c h : Nat) (hh : h ≤ n) (hc : n ≤ c) :
    ∃ q, (∀ W, (Instr.slice t (.slice (some ⟨g, 0, none⟩) n c) none (some (.int .i64 (h : Int))) none).run P W = .ok (.slice (some q) h c) W) ∧ (q = ⟨g, 0, none⟩ ∨ h = 0) := by
  obtain ⟨q, h1, h2, _⟩ := sliced_some g c 0 h s (Nat.zero_le _) (by omega)
  refine ⟨q, fun W => ?_, by rw [Nat.zero_mul] at h2; exact h2⟩
  rw [run_slice_h (P := P) (w := W) t (some ⟨g, 0, none⟩) n c ht .i64 (h : Int) (by omega) (by omega), hs]
  simp only [Result.andThen, Int.toNat_natCast]
  rw [h1]; rfl
theorem slice_from {P : Program} {t : TypeId} {s : Nat} (ht : P.underlying t = some (.slice (P.elem t))) (hs : ∀ W : World, (sizeOf (P.elem t)).run P W = .ok s W) (g n c l : Nat) (hl : l ≤ n) (hc : n ≤ c) :
    ∃ q c', (∀ W, (Instr.slice t (.slice (some ⟨g, 0, none⟩) n c) (some (.int .i64 (l : Int))) none none).run P W = .ok (.slice (some q) (n - l) c') W) ∧ (q = ⟨g, l * s, none⟩ ∨ n = l) := by
  obtain ⟨q, h1, h2, _⟩ := sliced_some g c l n s hl hc
  refine ⟨q, c - l, fun W => ?_, h2⟩
  rw [run_slice_l (P := P) (w := W) t (some ⟨g, 0, none⟩) n c ht .i64 (l : Int) (by omega) (by omega), hs]
  simp only [Result.andThen, Int.toNat_natCast]
  rw [h1]
theorem kept_on2 {S S' : Nat → Prop} {a b c : World} (h : Kept S a b) (k : Kept S' b c) (hs : ∀ i, i < a.heap.size → S' i → S i) : Kept S a c :=
  ⟨k.os.trans h.os, k.tape.trans h.tape, k.output.trans h.output, Nat.le_trans h.size k.size, fun i hi hne => (k.block i (Nat.lt_of_lt_of_le hi h.size) (fun e => hne (hs i hi e))).trans (h.block i hi hne)⟩
/-- append at a step of a region that draws its order, where what it does is known. -/
theorem step_app_known {ops : Array Oper} {o : Oper} {a : Act} {w : World} {K : Act → World → Prop} {Q : Exit → Act → World → Prop} {E : Prop} (hg : o.guard = none) (s x : Operand) (t t' : TypeId) (hop : o.op = Op.call { callee := Callee.builtin Builtin.append, args := #[s, x], argTypes := #[t, t'] })
    (vx vy : Value) (hs : a.eval s = vx) (hx : a.eval x = vy) (v : Value) (w' : World) (hr : (Builtin.append_ #[t, t'] o.type #[vx, vy]).run Tryz.prog w = .ok v w') (hK : K (a.put o.dst v) w') :
    if Region.wanted o (yielded ops a.tmps) = true then Oper.wp Tryz.prog o a w K Q else E := by
  have hw : Region.wanted o (yielded ops a.tmps) = true := by simp [Region.wanted, hg]
  rw [if_pos hw]
  unfold Oper.wp execOp
  simp only [hop, resolve, invoke, builtin, Sem.run_bind, Sem.run_pure, Result.andThen_ok, List.map_toArray, List.map_cons, List.map_nil, hs, hx, hr]
  exact hK
end Go.Proofs.YtgbakogihkdddaaGreatDoor

namespace Go.Proofs.YtgbakogihkdddaaGreatDoor
open Go.RowKit
set_option linter.unusedVariables false
set_option linter.unusedSimpArgs false
set_option maxRecDepth 20000

/-- append onto a row with room, exactly. -/
theorem run_app_room {P : Program} {ty : TypeId} (w : World) (t tx e : TypeId) (i : TypeInfo) (size : Nat) (ht : P.underlying t = some (.slice e)) (hi : P.info? e = some i) (hsize : i.size = size) (g n c : Nat) (cur : Array Value) (te : TypeId)
    (hg : w.heap[g]? = some (.cells cur te (0, 0))) (x : Value) (m : Nat) (news : List Value) (hsrc : Src P size tx x m news w) (hl : news.length = m * size) (h1 : ∀ u ∈ news, u.oneCell' = true) (hroom : n + m ≤ c) (hfit : n * size + news.length ≤ cur.size) :
    (Builtin.append_ #[t, tx] ty #[.slice (some ⟨g, 0, none⟩) n c, x]).run P w = .ok (.slice (some ⟨g, 0, none⟩) (n + m) c) (w.setRow g (cur.toList.take (n * size) ++ news ++ cur.toList.drop (n * size + news.length)).toArray) := by
  have hst := run_storeCells_at P g (n * size) te news 0 cur w hg (by simpa using hfit) h1
  simp only [Nat.add_zero] at hst
  have h2 := hsrc.cells
  have h3 := hsrc.len
  rcases hsrc.kind with ⟨e', hk⟩ | hk <;> simp [Builtin.append_, run_underlying ht, run_underlying hk, sizeOf, typeInfo, hi, h3, hroom, hsize, h2, Addr.add_lit, hst]
theorem zeroFp (w : World) : (zeroValue 40).run Tryz.prog w = .ok (.agg #[.int .i64 0, .slice none 0 0]) w := by kernel_rfl
theorem zc_one (n : Nat) : ∀ v ∈ (Builtin.zeroCells (Value.agg #[.int .i64 0, .slice none 0 0]).cells n).toList, v.oneCell' = true := by
  intro v hv
  simp only [Builtin.zeroCells, Array.toList_map, List.mem_map] at hv
  obtain ⟨i, _, rfl⟩ := hv
  have : i % 2 = 0 ∨ i % 2 = 1 := by omega
  rcases this with e | e <;> simp [Value.cells, e] <;> rfl
/-- clear of the elements from o on. -/
theorem run_clear2 (w : World) (g o m c : Nat) (cur : Array Value) (hg : w.heap[g]? = some (.cells cur 40 (0, 0))) (hfit : (o + m) * 2 ≤ cur.size) (q : Addr) (hq : q = ⟨g, o * 2, none⟩ ∨ m = 0) :
    ∃ (cur' : Array Value) (w' : World), (∀ ty, (Builtin.clear_ #[61] ty #[.slice (some q) m c]).run Tryz.prog w = .ok (.tuple #[]) w') ∧ w'.heap[g]? = some (.cells cur' 40 (0, 0)) ∧ cur'.size = cur.size ∧ cur'.toList.take (o * 2) = cur.toList.take (o * 2) ∧ Kept (OneB g) w w' := by
  rcases Nat.eq_zero_or_pos m with hm | hm
  · subst hm
    refine ⟨cur, w, fun ty => ?_, hg, rfl, rfl, Kept.refl _ _⟩
    simp [Builtin.clear_, run_underlying Tryz.underlying61]
  · rcases hq with rfl | h0
    · have hzs : (Builtin.zeroCells (Value.agg #[.int .i64 0, .slice none 0 0]).cells m).toList.length = m * 2 := by
        rw [Array.length_toList, size_zeroCells]; rfl
      have hst := run_storeCells_at Tryz.prog g (o * 2) 40 (Builtin.zeroCells (Value.agg #[.int .i64 0, .slice none 0 0]).cells m).toList 0 cur w hg (by rw [hzs]; omega) (zc_one m)
      simp only [Nat.add_zero] at hst
      obtain ⟨r, hr⟩ : ∃ r, r = (cur.toList.take (o * 2) ++ (Builtin.zeroCells (Value.agg #[.int .i64 0, .slice none 0 0]).cells m).toList ++ cur.toList.drop (o * 2 + (Builtin.zeroCells (Value.agg #[.int .i64 0, .slice none 0 0]).cells m).toList.length)).toArray := ⟨_, rfl⟩
      rw [← hr] at hst
      have hol : (cur.toList.take (o * 2)).length = o * 2 := by rw [List.length_take, Array.length_toList]; omega
      refine ⟨r, w.setRow g r, fun ty => ?_, setRow_heap _ _ _ _ _ _ hg, ?_, ?_, Kept.setRow (S := OneB g) (Kept.refl _ w) (.inl rfl) _⟩
      · obtain ⟨k, rfl⟩ : ∃ k, m = k + 1 := ⟨m - 1, by omega⟩
        simp [Builtin.clear_, run_underlying Tryz.underlying61, zeroFp, hst]
      · rw [hr]
        simp only [List.size_toArray, List.length_append, hzs, List.length_take, List.length_drop, Array.length_toList]
        omega
      · rw [hr, List.toList_toArray, List.append_assoc]
        exact List.take_left' hol
    · omega
/-- What comes of Replace, and of Delete: the same row, shorter. -/
def RepP (w : World) (g n c : Nat) (xs : List Value) (e : Ending) (w' : World) : Prop :=
  e = .returned (.slice (some ⟨g, 0, none⟩) n c) ∧ w'.ownsRow 0 40 2 (.slice (some ⟨g, 0, none⟩) n c) n xs ∧ Kept (OneB g) w w'
theorem repP_of {w w' : World} {g n c : Nat} {xs : List Value} {cur : Array Value} (hg : w'.heap[g]? = some (.cells cur 40 (0, 0))) (hs : cur.size = c * 2) (hnc : n ≤ c) (hcm : c ≤ maxLen) (hx : cur.toList.take (n * 2) = xs) (hk : Kept (OneB g) w w') : RepP w g n c xs (.returned (.slice (some ⟨g, 0, none⟩) n c)) w' := by
  refine ⟨rfl, ⟨?_, .inr ⟨g, c, cur, rfl, Nat.zero_le _, hg, hnc, hcm, hs, hx⟩⟩, hk⟩
  rw [← hx, List.length_take, Array.length_toList, hs]; omega

set_option maxHeartbeats 4000000 in
/-- The last ones replaced by one. -/
theorem replace_end (g n c i : Nat) (xs : List Value) (w : World) (cu : Array Value) (hi : i < n) (hnc : n ≤ c) (hcm : c ≤ maxLen) (hg : w.heap[g]? = some (.cells cu 40 (0, 0))) (hcs : cu.size = c * 2) (hxs : cu.toList.take (n * 2) = xs) (vb : Nat) (z : Int) (bo : Option Addr) (m bc : Nat)
    (hv : w.heap[vb]? = some (.cells #[.int .i64 z, .slice bo m bc] 40 (0, 0))) (hvg : vb ≠ g) (hn : n ≤ 1099511627776) :
    Calls Tryz.prog 52 #[.slice (some ⟨g, 0, none⟩) n c, .int .i64 (i : Int), .int .i64 (n : Int), .slice (some ⟨vb, 0, none⟩) 1 1] w (RepP w g (i + 1) c (xs.take (i * 2) ++ [.int .i64 z, .slice bo m bc])) := by
  obtain ⟨i0, hi0, hz0, hz1, hz2⟩ := info_parts infoFp
  have hsrc : Src Tryz.prog 2 35 (.slice (some ⟨vb, 0, none⟩) 1 1) 1 [.int .i64 z, .slice bo m bc] w := Src.ofSlice w Tryz.underlying35 ⟨vb, 0, none⟩ 1 1 _ rfl (fun j u hj => by rw [Addr.add_lit, Nat.zero_add, obj_cell hv]; simpa using hj) (two_one z bo m bc)
  have hr5 := run_app_room (P := Tryz.prog) (ty := 61) w 61 35 40 i0 2 Tryz.underlying61 hi0 hz1 g i c cu 40 hg _ 1 _ hsrc rfl (two_one z bo m bc) (by omega) (by rw [hcs]; simp; omega)
  obtain ⟨r3, hr3⟩ : ∃ r3, r3 = (cu.toList.take (i * 2) ++ [Value.int .i64 z, Value.slice bo m bc] ++ cu.toList.drop (i * 2 + 2)).toArray := ⟨_, rfl⟩
  obtain ⟨w3, hw3⟩ : ∃ w3, w3 = w.setRow g r3 := ⟨_, rfl⟩
  have hr5' : (Builtin.append_ #[61, 35] 61 #[.slice (some ⟨g, 0, none⟩) i c, .slice (some ⟨vb, 0, none⟩) 1 1]).run Tryz.prog w = .ok (.slice (some ⟨g, 0, none⟩) (i + 1) c) w3 := by rw [hw3, hr3]; exact hr5
  have o3 : w3.heap[g]? = some (.cells r3 40 (0, 0)) := by rw [hw3]; exact setRow_heap _ _ _ _ _ _ hg
  have k3 : Kept (OneB g) w w3 := by rw [hw3]; exact Kept.setRow (S := OneB g) (Kept.refl _ w) (.inl rfl) _
  have hil : (cu.toList.take (i * 2)).length = i * 2 := by rw [List.length_take, Array.length_toList, hcs]; omega
  have r3s : r3.size = c * 2 := by rw [hr3]; simp only [List.size_toArray, List.length_append, hil, List.length_drop, Array.length_toList, hcs, List.length_cons, List.length_nil]; omega
  have ht3 : r3.toList.take ((i + 1) * 2) = xs.take (i * 2) ++ [.int .i64 z, .slice bo m bc] := by
    have e1 : cu.toList.take (i * 2) = xs.take (i * 2) := by rw [← hxs, List.take_take]; congr 1; omega
    rw [hr3, List.toList_toArray, e1]
    have el : (xs.take (i * 2) ++ [Value.int .i64 z, Value.slice bo m bc]).length = (i + 1) * 2 := by rw [← e1]; simp only [List.length_append, hil, List.length_cons, List.length_nil]; omega
    rw [← el, List.take_left]
  have hc63 : (c : Int) ≤ 9223372036854775807 := by unfold maxLen at hcm; omega
  have hne : ¬ (i : Int) = (n : Int) := by omega
  have hne2 : ((i : Int) == (n : Int)) = false := by simpa using hne
  have HR5 := Lib.hid hr5'
  have hin : (i : Int) ≤ (n : Int) := by omega
  have hnc2 : (n : Int) ≤ (c : Int) := by omega
  by_cases hlt : i + 1 < n
  · obtain ⟨q, hsl, hq⟩ : ∃ q : Addr, (∀ W, (Instr.slice 61 (.slice (some ⟨g, 0, none⟩) n c) (some (.int .i64 ((i : Int) + 1))) none none).run Tryz.prog W = .ok (.slice (some q) (n - (i + 1)) (c - (i + 1))) W) ∧ (q = ⟨g, (i + 1) * 2, none⟩ ∨ n - (i + 1) = 0) := by
      obtain ⟨q, h1, h2, _⟩ := sliced_some g c (i + 1) n 2 (by omega) hnc
      refine ⟨q, fun W => ?_, by rcases h2 with e | e; exact .inl e; exact .inr (by omega)⟩
      rw [run_slice_l (P := Tryz.prog) (w := W) 61 (some ⟨g, 0, none⟩) n c (by kernel_rfl) .i64 ((i : Int) + 1) (by omega) (by omega)]
      have hs : (sizeOf (Tryz.prog.elem 61)).run Tryz.prog W = .ok 2 W := by kernel_rfl
      rw [hs]
      simp only [Result.andThen]
      rw [show ((i : Int) + 1).toNat = i + 1 by omega, h1]
    obtain ⟨r4, w4, hcl, o4, s4, t4, k4⟩ := run_clear2 w3 g (i + 1) (n - (i + 1)) (c - (i + 1)) r3 o3 (by rw [r3s]; omega) q hq
    have HDone : Hid (RepP w g (i + 1) c (xs.take (i * 2) ++ [.int .i64 z, .slice bo m bc]) (.returned (.slice (some ⟨g, 0, none⟩) (i + 1) c)) w4) := Lib.hid (repP_of o4 (by rw [s4, r3s]) (by omega) hcm (by rw [t4, ht3]) (k3.trans k4))
    have hlt2 : (i : Int) + 1 < (n : Int) := by omega
    clear hr5 hr5' hr3 hw3 o3 k3 hil r3s ht3 o4 s4 t4 k4 hq hg hv hcs hxs hsrc hne
    go_enter Tryz.func52, Tryz.ntmps52
    go_upto_region 7 with (first | (at_builtin; refine Lib.wpList_append_run _ rfl (.tmp 32) (.tmp 33) 61 35 rfl _ _ rfl rfl _ _ HR5.out ?_) | fail)
    go_wp2
    go_ret
    exact HDone.out
  · have he : i + 1 = n := by omega
    have HDone : Hid (RepP w g (i + 1) c (xs.take (i * 2) ++ [.int .i64 z, .slice bo m bc]) (.returned (.slice (some ⟨g, 0, none⟩) (i + 1) c)) w3) := Lib.hid (repP_of o3 r3s (by omega) hcm ht3 k3)
    have hlt2 : ¬ (i : Int) + 1 < (n : Int) := by omega
    clear hr5 hr5' hr3 hw3 o3 k3 hil r3s ht3 hg hv hcs hxs hsrc hne he
    go_enter Tryz.func52, Tryz.ntmps52
    go_wp2_with (at_builtin; refine Lib.wpList_append_run _ rfl (.tmp 32) (.tmp 33) 61 35 rfl _ _ rfl rfl _ _ HR5.out ?_)
    go_ret
    exact HDone.out
theorem slice_l2 (g n c l : Nat) (hl : l ≤ n) (hnc : n ≤ c) : ∃ q : Addr, (∀ W, (Instr.slice 61 (.slice (some ⟨g, 0, none⟩) n c) (some (.int .i64 (l : Int))) none none).run Tryz.prog W = .ok (.slice (some q) (n - l) (c - l)) W) ∧ (q = ⟨g, l * 2, none⟩ ∨ n - l = 0) := by
  obtain ⟨q, h1, h2, _⟩ := sliced_some g c l n 2 hl hnc
  refine ⟨q, fun W => ?_, by rcases h2 with e | e; exact .inl e; exact .inr (by omega)⟩
  rw [run_slice_l (P := Tryz.prog) (w := W) 61 (some ⟨g, 0, none⟩) n c (by kernel_rfl) .i64 (l : Int) (by omega) (by omega)]
  have hs : (sizeOf (Tryz.prog.elem 61)).run Tryz.prog W = .ok 2 W := by kernel_rfl
  rw [hs]
  simp only [Result.andThen, Int.toNat_natCast]
  rw [h1]

set_option maxHeartbeats 4000000 in
/-- Some in the middle replaced by one. -/
theorem replace_mid (g n c i j : Nat) (xs : List Value) (w : World) (cu : Array Value) (hi : i < j) (hj : j < n) (hnc : n ≤ c) (hcm : c ≤ maxLen) (hg : w.heap[g]? = some (.cells cu 40 (0, 0))) (hcs : cu.size = c * 2) (hxs : cu.toList.take (n * 2) = xs) (h1x : ∀ v ∈ xs, v.oneCell' = true) (vb : Nat) (z : Int) (bo : Option Addr) (m bc : Nat)
    (hv : w.heap[vb]? = some (.cells #[.int .i64 z, .slice bo m bc] 40 (0, 0))) (hvg : vb ≠ g) (hn : n ≤ 1099511627776) (tot : Nat) (htot : tot = i + 1 + (n - j)) :
    Calls Tryz.prog 52 #[.slice (some ⟨g, 0, none⟩) n c, .int .i64 (i : Int), .int .i64 (j : Int), .slice (some ⟨vb, 0, none⟩) 1 1] w (RepP w g tot c (xs.take (i * 2) ++ [.int .i64 z, .slice bo m bc] ++ xs.drop (j * 2))) := by
  obtain ⟨ys, hys⟩ : ∃ ys, ys = xs.take (i * 2) ++ [Value.int .i64 z, Value.slice bo m bc] ++ xs.drop (j * 2) := ⟨_, rfl⟩
  rw [← hys]
  have hxl : xs.length = n * 2 := by rw [← hxs, List.length_take, Array.length_toList, hcs]; omega
  have hdl : (xs.drop (j * 2)).length = (n - j) * 2 := by rw [List.length_drop, hxl]; omega
  have htn : tot ≤ n := by omega
  obtain ⟨r3, hr3⟩ : ∃ r3, r3 = (cu.toList.take (i * 2) ++ [Value.int .i64 z, Value.slice bo m bc] ++ cu.toList.drop (i * 2 + 2)).toArray := ⟨_, rfl⟩
  obtain ⟨wd, hwd⟩ : ∃ wd : World, wd = w.drew := ⟨_, rfl⟩
  have kd : Kept NoB w wd := by rw [hwd]; exact (Kept.refl _ _).drew
  have hgd := kd.obj hg id
  have hvd := kd.obj hv id
  obtain ⟨w3, hw3⟩ : ∃ w3, w3 = wd.setRow g r3 := ⟨_, rfl⟩
  have hmin : Nat.min 1 (tot - i) = 1 := Nat.min_eq_left (by omega)
  have hrA : (Builtin.copy_ #[61, 35] 3 #[.slice (some ⟨g, i * 2, none⟩) (tot - i) (c - i), .slice (some ⟨vb, 0, none⟩) 1 1]).run Tryz.prog wd = .ok (goInt 1) w3 := by
    have := run_copy_row2 wd 61 35 3 40 g (i * 2) (tot - i) (c - i) ⟨vb, 0, none⟩ 1 1 cu _ [Value.int .i64 z, Value.slice bo m bc] Tryz.underlying61 infoFp2 hgd (by rw [hmin]; rfl) (fun k v hk => by rw [Addr.add_lit, Nat.zero_add, obj_cell hvd]; simpa using hk) (by simp; omega) (two_one z bo m bc)
    rw [hmin] at this
    rw [hw3, hr3]; exact this
  have o3 : w3.heap[g]? = some (.cells r3 40 (0, 0)) := by rw [hw3]; exact setRow_heap _ _ _ _ _ _ hgd
  have k3 : Kept (OneB g) w w3 := by rw [hw3, hwd]; exact Kept.setRow (S := OneB g) ((Kept.refl _ w).drew) (.inl rfl) _
  have hil : (cu.toList.take (i * 2)).length = i * 2 := by rw [List.length_take, Array.length_toList, hcs]; omega
  have r3s : r3.size = c * 2 := by rw [hr3]; simp only [List.size_toArray, List.length_append, hil, List.length_drop, Array.length_toList, hcs, List.length_cons, List.length_nil]; omega
  have e1 : cu.toList.take (i * 2) = xs.take (i * 2) := by rw [← hxs, List.take_take]; congr 1; omega
  have hal : (xs.take (i * 2) ++ [Value.int .i64 z, Value.slice bo m bc]).length = (i + 1) * 2 := by rw [← e1]; simp only [List.length_append, hil, List.length_cons, List.length_nil]; omega
  have ht3 : r3.toList.take ((i + 1) * 2) = xs.take (i * 2) ++ [.int .i64 z, .slice bo m bc] := by
    rw [hr3, List.toList_toArray, e1, ← hal, List.take_left]
  have hd3 : ∀ k v, (xs.drop (j * 2))[k]? = some v → r3.toList[j * 2 + k]? = some v := fun k v hk => by
    rw [List.getElem?_drop, ← hxs, List.getElem?_take] at hk
    split at hk
    · rw [hr3, List.toList_toArray, List.getElem?_append_right (by simp only [List.length_append, hil, List.length_cons, List.length_nil]; omega), List.getElem?_drop]
      simp only [List.length_append, hil, List.length_cons, List.length_nil]
      rw [show i * 2 + 2 + (j * 2 + k - (i * 2 + (0 + 1 + 1))) = j * 2 + k by omega]
      exact hk
    · cases hk
  have hm2 : Nat.min (n - j) (n - j) = n - j := Nat.min_self _
  obtain ⟨r4, hr4⟩ : ∃ r4, r4 = (r3.toList.take ((i + 1) * 2) ++ xs.drop (j * 2) ++ r3.toList.drop ((i + 1) * 2 + (xs.drop (j * 2)).length)).toArray := ⟨_, rfl⟩
  obtain ⟨w4, hw4⟩ : ∃ w4, w4 = w3.drew.setRow g r4 := ⟨_, rfl⟩
  have hrB : (Builtin.copy_ #[61, 61] 3 #[.slice (some ⟨g, (i + 1) * 2, none⟩) (n - j) (c - (i + 1)), .slice (some ⟨g, j * 2, none⟩) (n - j) (c - j)]).run Tryz.prog w3.drew = .ok (goInt ((n - j : Nat) : Int)) w4 := by
    have hcc : ∀ (k : Nat) (v : Value), (xs.drop (j * 2))[k]? = some v → w3.drew.cell? ((⟨g, j * 2, none⟩ : Addr).add k) = some v := fun k v hk => by
      rw [Addr.add_lit]
      show w3.cell? ⟨g, j * 2 + k, none⟩ = some v
      rw [obj_cell o3, ← Array.getElem?_toList]
      exact hd3 k v hk
    have := run_copy_row2 w3.drew 61 61 3 40 g ((i + 1) * 2) (n - j) (c - (i + 1)) ⟨g, j * 2, none⟩ (n - j) (c - j) r3 _ (xs.drop (j * 2)) Tryz.underlying61 infoFp2 o3 (by rw [hm2]; exact hdl) hcc (by rw [hdl, r3s]; omega) (fun v hv => h1x v (List.mem_of_mem_drop hv))
    rw [hm2] at this
    rw [hw4, hr4]; exact this
  have o4 : w4.heap[g]? = some (.cells r4 40 (0, 0)) := by rw [hw4]; exact setRow_heap _ _ _ _ _ _ o3
  have k4 : Kept (OneB g) w3 w4 := by rw [hw4]; exact Kept.setRow (S := OneB g) ((Kept.refl _ w3).drew) (.inl rfl) _
  have r4s : r4.size = c * 2 := by rw [hr4]; simp only [List.size_toArray, List.length_append, List.length_take, List.length_drop, Array.length_toList, r3s, hdl]; omega
  have ht4 : r4.toList.take (tot * 2) = xs.take (i * 2) ++ [.int .i64 z, .slice bo m bc] ++ xs.drop (j * 2) := by
    rw [hr4, List.toList_toArray, ht3]
    have el : (xs.take (i * 2) ++ [Value.int .i64 z, Value.slice bo m bc] ++ xs.drop (j * 2)).length = tot * 2 := by rw [List.length_append, hal, hdl]; omega
    rw [← el, List.take_left]
  obtain ⟨q, hsl, hq⟩ := slice_l2 g n c tot htn hnc
  obtain ⟨r5, w5, hcl, o5, s5, t5, k5⟩ := run_clear2 w4 g tot (n - tot) (c - tot) r4 o4 (by rw [r4s]; omega) q hq
  have HDone : Hid (RepP w g tot c ys (.returned (.slice (some ⟨g, 0, none⟩) tot c)) w5) := Lib.hid (repP_of o5 (by rw [s5, r4s]) (by omega) hcm (by rw [t5, ht4, hys]) ((k3.trans k4).trans k5))
  have hc63 : (c : Int) ≤ 9223372036854775807 := by unfold maxLen at hcm; omega
  have hne : ¬ (i : Int) = (j : Int) := by omega
  have hne2 : ((i : Int) == (j : Int)) = false := by simpa using hne
  have hne3 : ((j : Int) == (n : Int)) = false := by simp; omega
  have hjn : ¬ (j : Int) = (n : Int) := by omega
  have hsum : (i : Int) + 1 + ((n - j : Nat) : Int) = (tot : Int) := by omega
  have hb1 : ¬ (c : Int) < (tot : Int) := by omega
  have hb2 : (i : Int) + 1 ≤ (j : Int) := by omega
  have hb3 : ¬ c = i := by omega
  have hb4 : ¬ c = j := by omega
  have hb5 : ¬ c = i + 1 := by omega
  have hb6 : tot - (i + 1) = n - j := by omega
  have hb7 : (i : Int) + 1 ≤ (tot : Int) := by omega
  have hb8 : (i : Int) ≤ (tot : Int) := by omega
  have hb9 : ((i : Int) + 1).toNat = i + 1 := by omega
  have hw1 : IntKind.i64.wrap ((i : Int) + 1) = (i : Int) + 1 := by rw [IntKind.wrap_i64]; omega
  have HSum := Lib.hid hsum
  have HWd := Lib.hid hwd
  have hin : (i : Int) ≤ (j : Int) := by omega
  have hjn2 : (j : Int) ≤ (n : Int) := by omega
  have htc : (tot : Int) ≤ (c : Int) := by omega
  have htn2 : (tot : Int) ≤ (n : Int) := by omega
  clear hys hxl hdl hr3 hgd hvd hw3 hmin o3 k3 hil r3s e1 hal ht3 hd3 hm2 hr4 hw4 o4 k4 r4s ht4 hq o5 s5 t5 k5 hg hv hcs hxs h1x hsum hwd kd hne hjn htot
  go_enter Tryz.func52, Tryz.ntmps52
  go_upto_region 9 with fail
  go_region
  rw [HSum.out, ← HWd.out]
  go_upto_region 18 with fail
  go_region
  go_wp2
  go_ret
  exact HDone.out
/-- Some pieces replaced by one. -/
theorem replace_any (a : Option Addr) (n c i j : Nat) (qs : List FpQ) (q : FpQ) (w : World) (hn : n = qs.length) (hown : w.ownsRow 0 40 2 (.slice a n c) n (fcells qs)) (hi : i < j) (hj : j ≤ n) (vb : Nat)
    (hv : w.heap[vb]? = some (.cells #[.int .i64 q.1.1, .slice q.2.1 q.1.2.length q.2.2] 40 (0, 0))) (hvg : (Value.slice a n c).ownBlock ≠ some vb) (hnm : n ≤ 1099511627776) :
    ∃ g, a = some ⟨g, 0, none⟩ ∧ Calls Tryz.prog 52 #[.slice a n c, .int .i64 (i : Int), .int .i64 (j : Int), .slice (some ⟨vb, 0, none⟩) 1 1] w (RepP w g (i + 1 + (n - j)) c (fcells (qs.take i ++ q :: qs.drop j))) := by
  rcases hown.2 with ⟨h1, h2⟩ | ⟨g, cc, cu, h1, _, hg, hnc, hcm, hcs, htk⟩
  · omega
  · simp only [Value.slice.injEq, true_and] at h1
    obtain ⟨rfl, rfl⟩ := h1
    refine ⟨g, rfl, ?_⟩
    have hvg' : vb ≠ g := fun e => hvg (by rw [e]; rfl)
    have e2 : fcells (qs.take i ++ q :: qs.drop j) = (fcells qs).take (i * 2) ++ [.int .i64 q.1.1, .slice q.2.1 q.1.2.length q.2.2] ++ (fcells qs).drop (j * 2) := by
      rw [fcells_take, fcells_drop, fcells_app, fcells_cons]; simp
    rw [e2]
    rcases Nat.lt_or_ge j n with hlt | hge
    · exact replace_mid g n c i j (fcells qs) w cu hi hlt hnc hcm hg hcs htk (fcells_one qs) vb _ _ _ _ hv hvg' hnm _ rfl
    · obtain rfl : j = n := by omega
      have hl := fcells_len qs
      have e3 : (fcells qs).drop (j * 2) = [] := List.drop_eq_nil_of_le (by omega)
      rw [e3, List.append_nil, Nat.sub_self, Nat.add_zero]
      exact replace_end g j c i (fcells qs) w cu hi hnc hcm hg hcs htk vb _ _ _ _ hv hvg' hnm

set_option maxHeartbeats 4000000 in
/-- The last pieces taken away. -/
theorem delete_any (a : Option Addr) (n c i : Nat) (qs : List FpQ) (w : World) (hn : n = qs.length) (hown : w.ownsRow 0 40 2 (.slice a n c) n (fcells qs)) (hi : i ≤ n) (hnm : n ≤ 1099511627776) :
    Calls Tryz.prog 100 #[.slice a n c, .int .i64 (i : Int), .int .i64 (n : Int)] w fun e w' => e = .returned (.slice a i c) ∧ w'.ownsRow 0 40 2 (.slice a i c) i (fcells (qs.take i)) ∧ Kept (OwnB (.slice a n c)) w w' := by
  have hc : n ≤ c ∧ c ≤ maxLen ∧ (a = none → c = 0) := by
    rcases hown.2 with ⟨h1, h2⟩ | ⟨g, cc, cur, h1, _, _, h2, h3, _⟩
    · simp at h1; exact ⟨by omega, by unfold maxLen; omega, fun _ => h1.2.2⟩
    · simp at h1; obtain ⟨rfl, rfl⟩ := h1; exact ⟨h2, h3, fun e => by cases e⟩
  have hc63 : (c : Int) ≤ 9223372036854775807 := by have := hc.2.1; unfold maxLen at this; omega
  have hnc2 : (n : Int) ≤ (c : Int) := by omega
  have hin : (i : Int) ≤ (n : Int) := by omega
  rcases Nat.lt_or_ge i n with hlt | hge
  · rcases hown.2 with ⟨h1, h2⟩ | ⟨g, cc, cu, h1, _, hg, hnc, hcm, hcs, htk⟩
    · omega
    · simp only [Value.slice.injEq, true_and] at h1
      obtain ⟨rfl, rfl⟩ := h1
      have hne2 : ((i : Int) == (n : Int)) = false := by simp; omega
      obtain ⟨i0, hi0, hz0, hz1, hz2⟩ := info_parts infoFp
      obtain ⟨q, hsl, hq⟩ := slice_l2 g n c n (Nat.le_refl _) hnc
      rw [Nat.sub_self] at hsl
      obtain ⟨wd, hwd⟩ : ∃ wd : World, wd = w.drew := ⟨_, rfl⟩
      have kd : Kept NoB w wd := by rw [hwd]; exact (Kept.refl _ _).drew
      have hgd := kd.obj hg id
      have hsrc : Src Tryz.prog 2 61 (.slice (some q) 0 (c - n)) 0 [] wd := Src.ofSlice wd Tryz.underlying61 q 0 (c - n) [] rfl (fun j u hj => by simp at hj) (fun u hu => by cases hu)
      have hr5 := run_app_room (P := Tryz.prog) (ty := 61) wd 61 61 40 i0 2 Tryz.underlying61 hi0 hz1 g i c cu 40 hgd _ 0 [] hsrc rfl (fun u hu => by cases hu) (by omega) (by rw [hcs]; simp; omega)
      obtain ⟨r3, hr3⟩ : ∃ r3, r3 = (cu.toList.take (i * 2) ++ [] ++ cu.toList.drop (i * 2 + ([] : List Value).length)).toArray := ⟨_, rfl⟩
      have hr3c : r3 = cu := by rw [hr3]; simp
      obtain ⟨w3, hw3⟩ : ∃ w3, w3 = wd.setRow g r3 := ⟨_, rfl⟩
      rw [← hr3, ← hw3, Nat.add_zero] at hr5
      have o3 : w3.heap[g]? = some (.cells r3 40 (0, 0)) := by rw [hw3]; exact setRow_heap _ _ _ _ _ _ hgd
      have k3 : Kept (OneB g) w w3 := by rw [hw3, hwd]; exact Kept.setRow (S := OneB g) ((Kept.refl _ w).drew) (.inl rfl) _
      obtain ⟨q2, hsl2, hq2⟩ : ∃ q : Addr, (∀ W, (Instr.slice 61 (.slice (some ⟨g, 0, none⟩) i c) (some (.int .i64 (i : Int))) (some (.int .i64 (n : Int))) none).run Tryz.prog W = .ok (.slice (some q) (n - i) (c - i)) W) ∧ (q = ⟨g, i * 2, none⟩ ∨ n - i = 0) := by
        obtain ⟨q, h1, h2, _⟩ := sliced_some g c i n 2 (by omega) hnc
        refine ⟨q, fun W => ?_, by rcases h2 with e | e; exact .inl e; exact .inr (by omega)⟩
        rw [run_slice_lh (P := Tryz.prog) (w := W) 61 (some ⟨g, 0, none⟩) i c (by kernel_rfl) .i64 .i64 (i : Int) (n : Int) (by omega) (by omega) (by omega)]
        have hs : (sizeOf (Tryz.prog.elem 61)).run Tryz.prog W = .ok 2 W := by kernel_rfl
        rw [hs]
        simp only [Result.andThen, Int.toNat_natCast]
        rw [h1]
      obtain ⟨r4, w4, hcl, o4, s4, t4, k4⟩ := run_clear2 w3 g i (n - i) (c - i) r3 o3 (by rw [hr3c, hcs]; omega) q2 hq2
      have HDone : Hid (w4.ownsRow 0 40 2 (.slice (some ⟨g, 0, none⟩) i c) i (fcells (qs.take i)) ∧ Kept (OwnB (.slice (some ⟨g, 0, none⟩) n c)) w w4) := Lib.hid (by
        refine ⟨⟨?_, .inr ⟨g, c, r4, rfl, Nat.zero_le _, o4, by omega, hcm, by rw [s4, hr3c]; exact hcs, ?_⟩⟩, (k3.trans k4).mono (fun k hk e => by unfold OneB at e; rw [e]; rfl)⟩
        · have := fcells_len (qs.take i); rw [this, List.length_take]; rw [← hn]; congr 1; omega
        · rw [t4, hr3c, ← fcells_take, ← htk, List.take_take]; congr 1; omega)
      have HR5 := Lib.hid hr5
      have HWd := Lib.hid hwd
      have HN := Lib.hid hn
      have hic : (i : Int) ≤ (c : Int) := by omega
      have hi0' : (0 : Int) ≤ (i : Int) := by omega
      have hn0' : (0 : Int) ≤ (n : Int) := by omega
      clear hn hown hg hcs htk hgd kd hsrc hr5 hr3 hr3c hw3 o3 k3 o4 s4 t4 k4 hq hq2 hwd hc
      go_enter Tryz.func100, Tryz.ntmps100
      go_upto_region 5 with fail
      rw [HWd.out] at HR5
      go_region_law (refine step_app_known rfl (.tmp 22) (.tmp 25) 61 61 rfl _ _ rfl rfl _ _ HR5.out ?_)
      go_simp
      go_wp2
      go_ret
      exact ⟨rfl, HDone.out⟩
  · obtain rfl : i = n := by omega
    have HDone : Hid (w.ownsRow 0 40 2 (.slice a i c) i (fcells (qs.take i))) := Lib.hid (by rw [List.take_of_length_le (by omega)]; exact hown)
    clear hown hn
    go_enter Tryz.func100, Tryz.ntmps100
    go_wp2
    go_ret
    exact ⟨rfl, HDone.out, Kept.refl _ _⟩
end Go.Proofs.YtgbakogihkdddaaGreatDoor
