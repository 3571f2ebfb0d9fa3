/-
  A tree of files on paper: bytes written.
  A tree of files in memory: which file; bytes written.
  A tree of files in memory: one node with other data.
  A tree of files in memory: nodes with other names, other marks; a node gone.
-/
import Derived.Test.YtjjgadanobeamaaGreatDoorMt13
namespace Go.Proofs.YtjjgadanobeamaaGreatDoor
set_option linter.unusedVariables false
set_option linter.unusedSimpArgs false

def cntD (f : Int → Bool) (a : Int) : Nat → Nat
  | 0 => 0
  | n + 1 => (if f a then 1 else 0) + cntD f (a + 1) n
theorem cnt_congr {f g : Int → Bool} : ∀ (n : Nat) (a : Int), (∀ x, a ≤ x → x < a + n → f x = g x) → cntD f a n = cntD g a n
  | 0, a, h => rfl
  | n + 1, a, h => by
    unfold cntD
    rw [h a (Int.le_refl _) (by push_cast; omega), cnt_congr n (a + 1) (fun x h1 h2 => h x (by omega) (by push_cast; omega))]
theorem cnt_add (f : Int → Bool) : ∀ (m n : Nat) (a : Int), cntD f a (m + n) = cntD f a m + cntD f (a + m) n
  | 0, n, a => by simp [cntD]
  | m + 1, n, a => by
    have e : m + 1 + n = (m + n) + 1 := by omega
    have e2 : a + ((m + 1 : Nat) : Int) = a + 1 + (m : Int) := by push_cast; omega
    rw [e, e2]
    show (if f a then 1 else 0) + cntD f (a + 1) (m + n) = (if f a then 1 else 0) + cntD f (a + 1) m + cntD f (a + 1 + m) n
    rw [cnt_add f m n (a + 1)]
    omega
theorem cnt_all {f : Int → Bool} : ∀ (n : Nat) (a : Int), (∀ x, a ≤ x → x < a + n → f x = true) → cntD f a n = n
  | 0, a, h => rfl
  | n + 1, a, h => by
    unfold cntD
    rw [h a (Int.le_refl _) (by push_cast; omega), cnt_all n (a + 1) (fun x h1 h2 => h x (by omega) (by push_cast; omega))]
    simp; omega
theorem cnt_none {f : Int → Bool} : ∀ (n : Nat) (a : Int), (∀ x, a ≤ x → x < a + n → f x = false) → cntD f a n = 0
  | 0, a, h => rfl
  | n + 1, a, h => by
    unfold cntD
    rw [h a (Int.le_refl _) (by push_cast; omega), cnt_none n (a + 1) (fun x h1 h2 => h x (by omega) (by push_cast; omega))]
    simp
theorem cnt_or {f g : Int → Bool} : ∀ (n : Nat) (a : Int), (∀ x, f x = true → g x = false) → cntD (fun x => f x || g x) a n = cntD f a n + cntD g a n
  | 0, a, h => rfl
  | n + 1, a, h => by
    unfold cntD
    rw [cnt_or n (a + 1) h]
    have := h a
    cases hf : f a <;> cases hg : g a <;> simp_all <;> omega
def ivD (s e x : Int) : Bool := decide (s ≤ x) && decide (x < e)
theorem cnt_iv (s : Int) (m : Nat) (hs : 0 ≤ s) (N : Nat) (hN : s + m ≤ N) : cntD (ivD s (s + m)) 0 N = m := by
  obtain ⟨k, rfl⟩ : ∃ k : Nat, (k : Int) = s := ⟨s.toNat, by omega⟩
  have e : N = k + (m + (N - k - m)) := by omega
  rw [e, cnt_add, cnt_add, cnt_none k 0 (fun x h1 h2 => by simp [ivD]; omega), cnt_all m _ (fun x h1 h2 => by simp [ivD]; omega), cnt_none (N - k - m) _ (fun x h1 h2 => by simp [ivD]; omega)]
  omega
theorem size_cnt : ∀ {l : List Fp}, OkD l → ∀ N : Nat, (∀ p ∈ l, endP p ≤ N) → sizeD l = cntD (isD l) 0 N
  | [], h, N, hN => by
    rw [cnt_none N 0 (fun x _ _ => by simp [isD])]
    rfl
  | p :: t, h, N, hN => by
    have hp := h.each p (by simp)
    have ht : OkD t := ⟨fun q hq => h.each q (by simp [hq]), (List.pairwise_cons.1 h.apart).2⟩
    have hpt := (List.pairwise_cons.1 h.apart).1
    have e : cntD (isD (p :: t)) 0 N = cntD (fun x => ivD p.1 (p.1 + p.2.length) x || isD t x) 0 N := by
      congr 1
    rw [e, cnt_or N 0 (fun x hx => ?_), cnt_iv p.1 p.2.length hp.1 N (hN p (by simp)), ← size_cnt ht N (fun q hq => hN q (by simp [hq])), sizeD_cons]
    unfold isD
    rw [List.any_eq_false]
    intro q hq
    have := hpt q hq
    unfold endP at this
    simp [ivD] at hx
    simp
    intro h1
    unfold endP
    omega
theorem fit_cnt (f : Int → Bool) : ∀ (s : Nat) (k : Int) (room : Nat), (fitB f s k room).2 + cntD f k (fitB f s k room).1 = (fitB f s k room).1
  | 0, k, room => by simp [fitB, cntD]
  | s + 1, k, room => by
    unfold fitB
    by_cases hf : f k = true
    · rw [if_pos hf]
      have := fit_cnt f s (k + 1) room
      simp only
      conv => lhs; rhs; unfold cntD
      rw [if_pos hf]
      omega
    · rw [if_neg hf]
      cases room with
      | zero => simp [cntD]
      | succ r =>
        have := fit_cnt f s (k + 1) r
        simp only
        conv => lhs; rhs; unfold cntD
        rw [if_neg hf]
        omega
theorem put_is {l : List Fp} (h : OkD l) (k : Int) (b : List UInt8) (hk : 0 ≤ k) (hb : b ≠ []) (x : Int) : isD (putP l k b) x = (ivD k (k + b.length) x || isD l x) := by
  rw [Bool.eq_iff_iff, isD_has]
  simp only [Bool.or_eq_true, isD_has]
  constructor
  · rintro ⟨c, hc⟩
    rcases (put_has h k b hk hb x c).1 hc with ⟨h1, h2⟩ | ⟨_, h2⟩
    · left
      have := (List.getElem?_eq_some_iff.1 h2).1
      simp [ivD]; omega
    · exact .inr ⟨c, h2⟩
  · intro hx
    by_cases hi : k ≤ x ∧ x < k + b.length
    · have hlt : (x - k).toNat < b.length := by omega
      exact ⟨b[(x - k).toNat], (put_has h k b hk hb x _).2 (.inl ⟨hi.1, List.getElem?_eq_getElem hlt⟩)⟩
    · rcases hx with hx | ⟨c, hx⟩
      · simp [ivD] at hx; omega
      · exact ⟨c, (put_has h k b hk hb x c).2 (.inr ⟨by omega, hx⟩)⟩
theorem put_size {l : List Fp} (h : OkD l) (k : Int) (b : List UInt8) (hk : 0 ≤ k) (hb : b ≠ []) (hmost : k + b.length ≤ 1099511627776) :
    sizeD (putP l k b) + cntD (isD l) k b.length = sizeD l + b.length := by
  obtain ⟨K, rfl⟩ : ∃ K : Nat, (K : Int) = k := ⟨k.toNat, by omega⟩
  obtain ⟨N, hN⟩ : ∃ N : Nat, N = 1099511627776 := ⟨_, rfl⟩
  have hK : K + b.length ≤ N := by omega
  have h2 := put_ok h K b hk hb hmost
  rw [size_cnt h N (fun p hp => by have := (h.each p hp).2.2; omega), size_cnt h2 N (fun p hp => by have := (h2.each p hp).2.2; omega)]
  clear hN hmost h2
  have e : N = K + (b.length + (N - K - b.length)) := by omega
  rw [e, cnt_add, cnt_add, cnt_add, cnt_add]
  have o1 : cntD (isD (putP l K b)) 0 K = cntD (isD l) 0 K := cnt_congr K 0 (fun x h1 h2 => by
    have q : ivD (K : Int) (K + b.length) x = false := by simp [ivD]; omega
    rw [put_is h K b hk hb, q]; rfl)
  have o2 : cntD (isD (putP l K b)) (0 + K) b.length = b.length := cnt_all b.length _ (fun x h1 h2 => by
    have q : ivD (K : Int) (K + b.length) x = true := by simp [ivD]; omega
    rw [put_is h K b hk hb, q]; rfl)
  have o3 : cntD (isD (putP l K b)) (0 + K + b.length) (N - K - b.length) = cntD (isD l) (0 + K + b.length) (N - K - b.length) := cnt_congr _ _ (fun x h1 h2 => by
    have q : ivD (K : Int) (K + b.length) x = false := by simp [ivD]; omega
    rw [put_is h K b hk hb, q]; rfl)
  rw [o1, o2, o3]
  simp only [Int.zero_add]
  omega
theorem put_inside {l : List Fp} (h : OkD l) (k : Int) (b : List UInt8) (hk : 0 ≤ k) (hb : b ≠ []) (hmost : k + b.length ≤ 1099511627776) (s : Int) (hs : ∀ p ∈ l, endP p ≤ s) : ∀ p ∈ putP l k b, endP p ≤ max s (k + b.length) := by
  intro p hp
  have h2 := put_ok h k b hk hb hmost
  have hq := h2.each p hp
  have hl : 0 < p.2.length := List.length_pos_iff.2 hq.2.1
  have hx : isD (putP l k b) (endP p - 1) = true := by
    unfold isD
    rw [List.any_eq_true]
    refine ⟨p, hp, ?_⟩
    simp
    unfold endP
    omega
  rw [put_is h k b hk hb] at hx
  simp only [Bool.or_eq_true] at hx
  rcases hx with hx | hx
  · simp [ivD] at hx; omega
  · unfold isD at hx
    rw [List.any_eq_true] at hx
    obtain ⟨q, hq2, hq3⟩ := hx
    simp at hq3
    have := hs q hq2
    omega

def wrN (n : NdP) (c k : Int) (b : List UInt8) : NdP := { n with data := putP n.data k b, v := { n.v with size := max n.v.size (k + b.length), change := c } }
def writeT (T : FsP) (i : Int) (n : NdP) (k : Int) (b : List UInt8) (fresh : Nat) : FsP :=
  { T with clock := T.clock + 1, used := T.used + (fresh : Int), nd := updN T.nd i (some (wrN n (T.clock + 1) k b)) }
def fitP (T : FsP) (n : NdP) (k : Int) (b : List UInt8) : Nat × Nat := fitB (isD n.data) b.length k (T.quota - T.used).toNat
def writeP (T : FsP) (i k : Int) (b : List UInt8) : FsP × Int :=
  match T.nd i with
  | none => (T, 10)
  | some n =>
    if n.v.kind = 1 then
      if k < 0 ∨ 1099511627776 - (b.length : Int) < k then (T, 1) else
      (if (fitP T n k b).1 = 0 then T else writeT T i n k (b.take (fitP T n k b).1) (fitP T n k b).2, if (fitP T n k b).1 < b.length then 5 else 0)
    else (T, 13)

theorem writeT_ok {T : FsP} (h : OkT T) {i : Int} {n : NdP} (hn : T.nd i = some n) (h1 : n.v.kind = 1) (k : Int) (b : List UInt8) (hk : 0 ≤ k) (hks : k + b.length ≤ 1099511627776) (h0 : (fitP T n k b).1 ≠ 0) :
    OkT (writeT T i n k (b.take (fitP T n k b).1) (fitP T n k b).2) := by
  have on := h.node i n hn
  obtain ⟨f, hf⟩ : ∃ f, f = (fitP T n k b).1 := ⟨_, rfl⟩
  obtain ⟨r, hr⟩ : ∃ r, r = (fitP T n k b).2 := ⟨_, rfl⟩
  have hle := fitB_le (isD n.data) b.length k (T.quota - T.used).toNat
  have hct := fit_cnt (isD n.data) b.length k (T.quota - T.used).toNat
  unfold fitP at hf hr h0
  rw [← hf, ← hr] at hle hct
  rw [← hf] at h0
  unfold fitP
  rw [← hf, ← hr]
  clear hf hr
  obtain ⟨b', hb'⟩ : ∃ b', b' = b.take f := ⟨_, rfl⟩
  have hbl : b'.length = f := by rw [hb', List.length_take]; omega
  rw [← hb']
  have hbn : b' ≠ [] := fun e => by rw [e] at hbl; simp at hbl; omega
  have hmost : k + (b'.length : Int) ≤ 1099511627776 := by rw [hbl]; omega
  have hps := put_size on.data k b' hk hbn hmost
  rw [hbl] at hps
  have hroom := h.room
  refine same_ok h hn rfl rfl rfl rfl (put_ok on.data k b' hk hbn hmost) (fun e => absurd h1 e) (put_inside on.data k b' hk hbn hmost n.v.size on.inside) ?_ rfl on.mode on.user on.group on.time ⟨rfl, rfl, rfl⟩ ?_ ?_
  · have := on.size
    show 0 ≤ max n.v.size (k + (b'.length : Int)) ∧ max n.v.size (k + (b'.length : Int)) ≤ 1099511627776
    omega
  · show T.used + (r : Int) + (sizeD n.data : Nat) = T.used + (sizeD (putP n.data k b') : Nat)
    omega
  · omega
end Go.Proofs.YtjjgadanobeamaaGreatDoor

namespace Go.Proofs.YtjjgadanobeamaaGreatDoor
open Go.RowKit
set_option linter.unusedVariables false
set_option linter.unusedSimpArgs false
set_option maxRecDepth 20000

def fileE (T : FsP) (i : Int) : Int := match T.nd i with | none => 10 | some n => if n.v.kind = 1 then 0 else 13
set_option maxHeartbeats 1000000 in
theorem file_in {L : Nat → Lab} {B : Int → Option Nat} {mb : Nat} {S : Nat → Prop} {w : World} {f : Nat} {T : FsP} (h : FsIn L B mb S w f T) (i : Int) (hi : -9223372036854775808 ≤ i ∧ i ≤ 9223372036854775807) :
    Calls Tryz.prog 19 #[.pointer (some ⟨f, 0, none⟩), .int .i64 i] w fun e w' =>
      e = .returned (.tuple #[ptrV (if fileE T i = 0 then B i else none), .int .i64 (fileE T i)]) ∧ Kept NoB w w' := by
  obtain ⟨c0, c1, c2, c3, c4⟩ := h.cells
  have HT := Lib.hid h.tab
  cases hn : T.nd i with
  | none =>
    have hB := h.gone hn
    have hp : fileE T i = 10 := by unfold fileE; rw [hn]
    rw [hp]
    clear h hp hn
    go_enter Tryz.func19, Tryz.ntmps19
    go_wp2_with (at_lookup; refine wpList_nodes_ok rfl _ _ rfl HT.out rfl rfl hi ?_; rw [hB, ptrV_none])
    go_ret2
    exact ⟨rfl, Kept.refl _ _⟩
  | some n =>
    obtain ⟨b, m, a, c, qs, hB, hN⟩ := h.at hn
    have k0 := hN.cell 0
    have hp : fileE T i = if n.v.kind = 1 then 0 else 13 := by unfold fileE; rw [hn]
    rw [hp, hB]
    simp [ndC, nvC] at k0
    obtain ⟨kd, hkd⟩ : ∃ kd, kd = n.v.kind := ⟨_, rfl⟩
    rw [← hkd] at k0 ⊢
    clear h hp hn hN hkd
    go_enter Tryz.func19, Tryz.ntmps19
    by_cases h6 : kd = 1
    · subst h6
      go_wp2_with (at_lookup; refine wpList_nodes_ok rfl _ _ rfl HT.out rfl rfl hi ?_; rw [hB, ptrV_some])
      go_ret2
      exact ⟨rfl, Kept.refl _ _⟩
    · have h6' : (kd == 1) = false := by simpa using h6
      rw [if_neg h6]
      go_wp2_with (at_lookup; refine wpList_nodes_ok rfl _ _ rfl HT.out rfl rfl hi ?_; rw [hB, ptrV_some])
      go_ret2
      exact ⟨rfl, Kept.refl _ _⟩

structure DatO (w : World) (a : Option Addr) (c : Nat) (qs : List FpQ) : Prop where
  own : w.ownsRow 0 69 2 (.slice a qs.length c) qs.length (fcells qs)
  each : ∀ q ∈ qs, w.ownsRow 0 5 1 (.slice q.2.1 q.1.2.length q.2.2) q.1.2.length (bc q.1.2)
  apart : qs.Pairwise (fun p q => ∀ k, (Value.slice p.2.1 p.1.2.length p.2.2).ownBlock = some k → (Value.slice q.2.1 q.1.2.length q.2.2).ownBlock ≠ some k)
def BytB (qs : List FpQ) : Nat → Prop := fun k => ∃ q ∈ qs, (Value.slice q.2.1 q.1.2.length q.2.2).ownBlock = some k
def PutP (w : World) (D : Nat) (cs : Array Value) (a : Option Addr) (c : Nat) (qs : List FpQ) (k : Int) (bs : List UInt8) (e : Ending) (w' : World) : Prop :=
  e = .returned (.tuple #[]) ∧ ∃ (a' : Option Addr) (c' : Nat) (qs' : List FpQ), qs'.map Prod.fst = putP (qs.map Prod.fst) k bs ∧ w'.heap[D]? = some (.cells (cs.setIfInBounds 13 (.slice a' qs'.length c')) 48 (0, 0)) ∧ DatO w' a' c' qs' ∧
    (∀ j, (Value.slice a' qs'.length c').ownBlock = some j → (Value.slice a qs.length c).ownBlock = some j ∨ w.heap.size ≤ j) ∧ (∀ j, BytB qs' j → BytB qs j ∨ w.heap.size ≤ j) ∧
    Kept (fun j => j = D ∨ (Value.slice a qs.length c).ownBlock = some j ∨ BytB qs j) w w'
def PutOk (l : List Fp) (k : Int) (bs : List UInt8) : Prop :=
  ∀ (D : Nat) (cs : Array Value) (a : Option Addr) (c : Nat) (qs : List FpQ) (ab : Option Addr) (cb : Nat) (w : World), qs.map Prod.fst = l → w.heap[D]? = some (.cells cs 48 (0, 0)) → cs[13]? = some (.slice a qs.length c) → DatO w a c qs → OkD l →
    (∀ j, BytB qs j → j ≠ D ∧ ∀ x, ab = some x → x.block ≠ j) → (∀ x, ab = some x → x.block ≠ D ∧ (Value.slice a qs.length c).ownBlock ≠ some x.block) → 0 ≤ k → bs ≠ [] → k + (bs.length : Int) ≤ 1099511627776 → Reads w ab (nb bs) → qs.length ≤ 1099511627776 →
    Calls Tryz.prog 22 #[.pointer (some ⟨D, 13, none⟩), .int .i64 k, .slice ab bs.length cb] w (PutP w D cs a c qs k bs)
theorem row_byt {w : World} {a : Option Addr} {c : Nat} {qs : List FpQ} (hd : DatO w a c qs) {j : Nat} (hj : BytB qs j) : (Value.slice a qs.length c).ownBlock ≠ some j := fun e => by
  obtain ⟨y, hy1, hy2⟩ := hj
  have h8 := hd.each y hy1
  rcases hd.own.2 with ⟨q1, q2⟩ | ⟨g, cc, cur, q1, _, q2, _⟩
  · rw [q1] at e; cases e
  · rw [q1] at e
    have e2 : g = j := by injection e
    exact row2_ne h8 (by rw [e2] at q2; exact q2) (by decide) j hy2 rfl
theorem bytes_rd {w : World} {a : Option Addr} {c : Nat} {qs : List FpQ} (h : DatO w a c qs) : RdD w a (qs.map Prod.fst) := by
  have hst : DatSt (fun k => if (Value.slice a qs.length c).ownBlock = some k then Lab.row 0 else Lab.byt 0) 0 w a qs.length c qs :=
    ⟨rfl, h.own, fun k hk => if_pos hk, h.each, fun q hq k hk => if_neg (row_byt h ⟨q, hq, hk⟩), h.apart⟩
  exact hst.rd
theorem putOk_free {l : List Fp} {k : Int} {bs : List UInt8} (hfree : touchP l k (k + bs.length) = []) : PutOk l k bs := by
  intro D cs a c qs ab cb w hl hD h13 hd hok hx hy hk hb hkb hrb hlen
  subst hl
  refine (put_free D cs a c qs k bs ab cb w hD h13 hd.own (bytes_rd hd) hok hk hb hkb hfree hrb hlen (by omega)).mono ?_
  rintro e w' ⟨rfl, a', c', q, hq, h1, h2, h3, h4, h5, h6, h7⟩
  have hA := ahead_le (qs.map Prod.fst) k
  obtain ⟨A, hAe⟩ : ∃ A, A = (aheadP (qs.map Prod.fst) k).length := ⟨_, rfl⟩
  rw [← hAe] at h2 hA
  have hlq : (qs.take A ++ q :: qs.drop A).length = qs.length + 1 := by simp at hA ⊢; omega
  have hpm : ∀ x, x ∈ qs.take A ++ q :: qs.drop A → x = q ∨ x ∈ qs := fun x hx => by
    simp only [List.mem_append, List.mem_cons] at hx
    rcases hx with hx | hx | hx
    · exact .inr (List.mem_of_mem_take hx)
    · exact .inl hx
    · exact .inr (List.mem_of_mem_drop hx)
  have hold : ∀ j, BytB qs j → j < w.heap.size := fun j ⟨q, hq, hj⟩ => ((hd.each q hq).lt j hj).2
  have hbk : ∀ j, BytB qs j → ¬ OrB (OneB D) (OwnB (.slice a qs.length c)) j := fun j hj e => by
    rcases e with e | e
    · exact (hx j hj).1 e
    · exact row_byt hd hj e
  have hq2 : q.1.2.length = bs.length := by rw [hq]
  refine ⟨rfl, a', c', qs.take A ++ q :: qs.drop A, ?_, ?_, ⟨?_, ?_, ?_⟩, ?_, ?_, ?_⟩
  · have hs := split3 (qs.map Prod.fst) k (k + bs.length)
    rw [hfree, List.nil_append] at hs
    unfold putP
    rw [hfree, join_none, List.map_append, List.map_cons, hq]
    have h8 : (qs.map Prod.fst).take A = aheadP (qs.map Prod.fst) k := by
      conv => lhs; rw [hs]
      rw [hAe, List.take_left']
      rfl
    have h9 : (qs.map Prod.fst).drop A = behindP (qs.map Prod.fst) k (k + bs.length) := by
      conv => lhs; rw [hs]
      rw [hAe, List.drop_left']
      rfl
    rw [List.map_take, List.map_drop, h8, h9]
  · rw [hlq]; exact h1
  · rw [hlq]; exact h2
  · intro x hx2
    rcases hpm x hx2 with rfl | hx3
    · rw [hq2]
      have : x.1.2 = bs := by rw [hq]
      rw [this]; exact h3
    · exact h7.row (hd.each x hx3) (fun j hj => hbk j ⟨x, hx3, hj⟩)
  · have hqf : ∀ x ∈ qs, ∀ j, (Value.slice x.2.1 x.1.2.length x.2.2).ownBlock = some j → (Value.slice q.2.1 q.1.2.length q.2.2).ownBlock ≠ some j := fun x hx2 j hj e => by
      rw [hq2] at e
      have h8 := h4 j e
      have h9 := hold j ⟨x, hx2, hj⟩
      omega
    rw [List.pairwise_append]
    refine ⟨hd.apart.sublist (List.take_sublist _ _), ?_, ?_⟩
    · rw [List.pairwise_cons]
      refine ⟨fun x hx2 j hj e => hqf x (List.mem_of_mem_drop hx2) j e hj, hd.apart.sublist (List.drop_sublist _ _)⟩
    · intro x hx2 y hy2 j hj
      rw [List.mem_cons] at hy2
      rcases hy2 with rfl | hy2
      · exact hqf x (List.mem_of_mem_take hx2) j hj
      · have h8 := hd.apart
        rw [← List.take_append_drop A qs, List.pairwise_append] at h8
        exact h8.2.2 x hx2 y hy2 j hj
  · intro j hj
    rw [hlq] at hj
    exact h5 j hj
  · rintro j ⟨x, hx2, hj⟩
    rcases hpm x hx2 with rfl | hx3
    · rw [hq2] at hj; exact .inr (h4 j hj)
    · exact .inl ⟨x, hx3, hj⟩
  · exact h7.mono (fun j _ e => by
      rcases e with e | e
      · exact .inl e
      · exact .inr (.inl e))
end Go.Proofs.YtjjgadanobeamaaGreatDoor

namespace Go.Proofs.YtjjgadanobeamaaGreatDoor
open Go.RowKit
set_option linter.unusedVariables false
set_option linter.unusedSimpArgs false

theorem data_done {L : Nat → Lab} {B : Int → Option Nat} {mb : Nat} {S : Nat → Prop} {w w' : World} {f : Nat} {T T' : FsP} (h : FsIn L B mb S w f T) {i : Int} {n n' : NdP} {D : Nat} {m : Option Nat} {a a' : Option Addr} {c c' : Nat} {qs qs' : List FpQ} {K : Nat → Prop}
    (hB : B i = some D) (hN : NdSt L i w D n m a c qs) (ok' : OkT T') (hnd : T'.nd = updN T.nd i (some n')) (hcnt : T'.cnt = T.cnt) (hkind : n'.v.kind = n.v.kind) (hnames : n'.names = n.names) (hk : Kept K w w')
    (hK : ∀ j, K j → j < w.heap.size → j = f ∨ j = D ∨ L j = .row i ∨ L j = .byt i) (obj' : w'.heap[f]? = some (.cells (fsC mb T').toArray 51 (0, 0))) (nd' : w'.heap[D]? = some (.cells (ndC n' m a' c').toArray 48 (0, 0)))
    (dat : DatO w' a' c' qs') (hq : qs'.map Prod.fst = n'.data) (hrow : ∀ j, (Value.slice a' qs'.length c').ownBlock = some j → L j = .row i ∨ w.heap.size ≤ j) (hbyt : ∀ j, BytB qs' j → L j = .byt i ∨ w.heap.size ≤ j) :
    FsSt (Grow S w w') w' f T' ∧ Kept S w w' := by
  have hlf := h.labf
  have hlm := h.labm
  have hlD := hN.lab
  have hS : ∀ j x, L j = x → x ≠ .no → S j ∧ j < w.heap.size := fun j x => h.low
  have hk2 : Kept (fun j => K j ∧ j < w.heap.size) w w' := hk.mono (fun j hj e => ⟨e, hj⟩)
  have hlen : qs'.length = n'.data.length := by rw [← hq]; simp
  obtain ⟨L', hL'⟩ : ∃ L' : Nat → Lab, L' = fun j => if w.heap.size ≤ j then (if (Value.slice a' qs'.length c').ownBlock = some j then .row i else if j < w'.heap.size then .byt i else .no) else L j := ⟨_, rfl⟩
  have hold : ∀ j, j < w.heap.size → L' j = L j := fun j hj => by rw [hL']; exact if_neg (by omega)
  have hL1 : ∀ j x, L j = x → x ≠ .no → L' j = x := fun j x e hx => by rw [hold j (hS j x e hx).2]; exact e
  have hrow2 : ∀ j, (Value.slice a' qs'.length c').ownBlock = some j → L' j = .row i := fun j hj => by
    rcases Nat.lt_or_ge j w.heap.size with h1 | h1
    · rw [hold j h1]
      rcases hrow j hj with h2 | h2
      · exact h2
      · omega
    · rw [hL']
      show (if w.heap.size ≤ j then _ else _) = _
      rw [if_pos h1, if_pos hj]
  have hbyt2 : ∀ j, BytB qs' j → L' j = .byt i := fun j hj => by
    rcases Nat.lt_or_ge j w.heap.size with h1 | h1
    · rw [hold j h1]
      rcases hbyt j hj with h2 | h2
      · exact h2
      · omega
    · rw [hL']
      show (if w.heap.size ≤ j then _ else _) = _
      rw [if_pos h1, if_neg (row_byt dat hj), if_pos (by obtain ⟨q, hq, e⟩ := hj; exact ((dat.each q hq).lt j e).2)]
  have hno : ∀ j x, L j = x → x ≠ .no → x ≠ .fs → x ≠ .nd i → x ≠ .row i → x ≠ .byt i → ¬ K j := fun j x e h0 h1 h2 h3 h4 hj => by
    rcases hK j hj (hS j x e h0).2 with e2 | e2 | e2 | e2
    · subst e2; rw [hlf] at e; exact h1 e.symm
    · subst e2; rw [hlD] at e; exact h2 e.symm
    · rw [e2] at e; exact h3 e.symm
    · rw [e2] at e; exact h4 e.symm
  refine ⟨⟨L', B, mb, FsIn.rebuild h ok' hk2 obj' ?_ ?_ hL1 ?_ ?_⟩, hk.mono (fun j hj e => ?_)⟩
  · rw [hcnt]
    exact MapF.kept h.tab hk (hno mb _ hlm (by simp) (by simp) (by simp) (by simp) (by simp))
  · intro x
    rw [hnd]
    by_cases e : x = i
    · subst e; rw [updN_same, hB]; rfl
    · rw [updN_other _ _ e]; exact h.dom x
  · intro x nx bx hx hbx
    rw [hnd] at hx
    by_cases e : x = i
    · subst e
      rw [updN_same] at hx
      cases hx
      rw [hB] at hbx
      cases hbx
      right
      refine ⟨m, a', c', qs', nd', hL1 _ _ hlD (by simp), fun h6 => ?_, fun h6 => hN.plain (by rw [← hkind]; exact h6), ⟨by rw [hlen], by rw [← hlen]; exact dat.own, fun j hj => hrow2 j (by rw [hlen]; exact hj), dat.each, fun q hq j hj => hbyt2 j ⟨q, hq, hj⟩, dat.apart⟩, hq⟩
      rw [hkind] at h6
      obtain ⟨mb2, e1, e2, e3⟩ := hN.dir h6
      refine ⟨mb2, e1, hL1 _ _ e2 (by simp), ?_⟩
      rw [hnames]
      exact MapF.kept e3 hk (hno mb2 _ e2 (by simp) (by simp) (by simp) (by simp) (by simp))
    · rw [updN_other _ _ e] at hx
      refine .inl ⟨hx, hbx, fun j ⟨hj, hj2⟩ => ?_⟩
      have e' : i ≠ x := fun q => e q.symm
      rcases hK j hj hj2 with e2 | e2 | e2 | e2
      · rw [e2, hlf]; simp
      · rw [e2, hlD]; simp [e']
      · rw [e2]; simp [e']
      · rw [e2]; simp [e']
  · intro j hj
    rcases Nat.lt_or_ge j w.heap.size with h1 | h1
    · have h2 := h.own j (fun x ex => by rw [← ex, ← hold j h1]; exact hj _ rfl)
      exact ⟨.inl h2.1, Nat.lt_of_lt_of_le h1 hk.size⟩
    · have h2 : j < w'.heap.size := by
        rcases Nat.lt_or_ge j w'.heap.size with h3 | h3
        · exact h3
        · exfalso
          refine hj _ rfl ?_
          rw [hL']
          show (if w.heap.size ≤ j then _ else _) = _
          rw [if_pos h1, if_neg (fun e => by have := (dat.own.lt j e).2; omega), if_neg (by omega)]
      exact ⟨.inr ⟨h1, h2⟩, h2⟩
  · rcases hK j e hj with e2 | e2 | e2 | e2
    · rw [e2]; exact (hS f _ hlf (by simp)).1
    · rw [e2]; exact (hS D _ hlD (by simp)).1
    · exact (hS j _ e2 (by simp)).1
    · exact (hS j _ e2 (by simp)).1
end Go.Proofs.YtjjgadanobeamaaGreatDoor

namespace Go.Proofs.YtjjgadanobeamaaGreatDoor
open Go.RowKit
set_option linter.unusedVariables false
set_option linter.unusedSimpArgs false

theorem nodes_done {L : Nat → Lab} {B B' : Int → Option Nat} {mb : Nat} {S : Nat → Prop} {w w' : World} {f : Nat} {T T' : FsP} (h : FsIn L B mb S w f T) {K : Nat → Prop} (ok' : OkT T') (hk : Kept K w w')
    (hK : ∀ j, K j → j < w.heap.size → L j ≠ .no ∧ ∀ i, L j ≠ .row i ∧ L j ≠ .byt i) (obj' : w'.heap[f]? = some (.cells (fsC mb T').toArray 51 (0, 0))) (tab' : NodesAt w' mb B' T'.cnt)
    (dom' : ∀ i, (B' i).isSome = (T'.nd i).isSome) (sub : ∀ i b, B' i = some b → B i = some b)
    (node' : ∀ i b n', B' i = some b → T'.nd i = some n' → ∃ n, T.nd i = some n ∧ ((n' = n ∧ ∀ j, K j → j < w.heap.size → L j ≠ .nd i ∧ L j ≠ .nm i) ∨
      (n'.data = n.data ∧ n'.v.kind = n.v.kind ∧ ∀ m a c, w.heap[b]? = some (.cells (ndC n m a c).toArray 48 (0, 0)) → w'.heap[b]? = some (.cells (ndC n' m a c).toArray 48 (0, 0)) ∧ (n.v.kind = 6 → ∀ mb2, m = some mb2 → NamesAt w mb2 n.names → L mb2 = .nm i → NamesAt w' mb2 n'.names)))) :
    FsSt (Grow S w w') w' f T' ∧ Kept S w w' := by
  have hk2 : Kept (fun j => K j ∧ j < w.heap.size) w w' := hk.mono (fun j hj e => ⟨e, hj⟩)
  refine ⟨⟨L, B', mb, FsIn.rebuild h ok' hk2 obj' tab' dom' (fun k x e _ => e) ?_ ?_⟩, hk.mono (fun j hj e => ?_)⟩
  · intro i n' b hn' hb'
    obtain ⟨n, hn, hor⟩ := node' i b n' hb' hn'
    have hb := sub i b hb'
    rcases hor with ⟨rfl, hK2⟩ | ⟨hd, hkd, hm⟩
    · exact .inl ⟨hn, hb, fun j ⟨hj, hj2⟩ => ⟨(hK2 j hj hj2).1, (hK2 j hj hj2).2, ((hK j hj hj2).2 i).1, ((hK j hj hj2).2 i).2⟩⟩
    · right
      obtain ⟨m, a, c, qs, hN⟩ := h.node i n b hn hb
      obtain ⟨h1, h2⟩ := hm m a c hN.obj
      refine ⟨m, a, c, qs, h1, hN.lab, fun h6 => ?_, fun h6 => hN.plain (by rw [← hkd]; exact h6), ?_, by rw [hd]; exact hN.data⟩
      · rw [hkd] at h6
        obtain ⟨mb2, e1, e2, e3⟩ := hN.dir h6
        exact ⟨mb2, e1, e2, h2 h6 mb2 e1 e3 e2⟩
      · have := hN.dat.kept hk2 (fun j e hj => ((hK j hj.1 hj.2).2 i).1 e) (fun j e hj => ((hK j hj.1 hj.2).2 i).2 e)
        rw [← hd] at this
        exact this
  · intro j hj
    have := h.own j hj
    exact ⟨.inl this.1, Nat.lt_of_lt_of_le this.2 hk.size⟩
  · exact (h.own j (fun x ex => by rw [← ex]; exact (hK j e hj).1)).1
end Go.Proofs.YtjjgadanobeamaaGreatDoor
