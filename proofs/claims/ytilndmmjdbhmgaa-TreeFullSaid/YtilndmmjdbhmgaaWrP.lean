/-
  A tree of files on paper: bytes written.
-/
import Derived.Test.YtilndmmjdbhmgaaTrU
import Derived.Test.YtilndmmjdbhmgaaFitP
namespace Go.Proofs.Ytilndmmjdbhmgaa
set_option linter.unusedVariables false
set_option linter.unusedSimpArgs false

/-- How many of n places from a on are so. -/
def cntD (f : Int → Bool) (a : Int) : Nat → Nat
  | 0 => 0
  | n + 1 => (if f a then 1 else 0) + cntD f (a + 1) n
theorem cnt_congr {f g : Int → Bool} : ∀ (n : Nat) (a : Int), (∀ x, a ≤ x → x < a + n → f x = g x) → cntD f a n = cntD g a n
  | 0, a, h => rfl
  | n + 1, a, h => by
    unfold cntD
    rw [h a (Int.le_refl _) (by push_cast; omega), cnt_congr n (a + 1) (fun x h1 h2 => h x (by omega) (by push_cast; omega))]
theorem cnt_add (f : Int → Bool) : ∀ (m n : Nat) (a : Int), cntD f a (m + n) = cntD f a m + cntD f (a + m) n
  | 0, n, a => by simp [cntD]
  | m + 1, n, a => by
    have e : m + 1 + n = (m + n) + 1 := by omega
    have e2 : a + ((m + 1 : Nat) : Int) = a + 1 + (m : Int) := by push_cast; omega
    rw [e, e2]
    show (if f a then 1 else 0) + cntD f (a + 1) (m + n) = (if f a then 1 else 0) + cntD f (a + 1) m + cntD f (a + 1 + m) n
    rw [cnt_add f m n (a + 1)]
    omega
theorem cnt_all {f : Int → Bool} : ∀ (n : Nat) (a : Int), (∀ x, a ≤ x → x < a + n → f x = true) → cntD f a n = n
  | 0, a, h => rfl
  | n + 1, a, h => by
    unfold cntD
    rw [h a (Int.le_refl _) (by push_cast; omega), cnt_all n (a + 1) (fun x h1 h2 => h x (by omega) (by push_cast; omega))]
    simp; omega
theorem cnt_none {f : Int → Bool} : ∀ (n : Nat) (a : Int), (∀ x, a ≤ x → x < a + n → f x = false) → cntD f a n = 0
  | 0, a, h => rfl
  | n + 1, a, h => by
    unfold cntD
    rw [h a (Int.le_refl _) (by push_cast; omega), cnt_none n (a + 1) (fun x h1 h2 => h x (by omega) (by push_cast; omega))]
    simp
theorem cnt_or {f g : Int → Bool} : ∀ (n : Nat) (a : Int), (∀ x, f x = true → g x = false) → cntD (fun x => f x || g x) a n = cntD f a n + cntD g a n
  | 0, a, h => rfl
  | n + 1, a, h => by
    unfold cntD
    rw [cnt_or n (a + 1) h]
    have := h a
    cases hf : f a <;> cases hg : g a <;> simp_all <;> omega
/-- An interval. -/
def ivD (s e x : Int) : Bool := decide (s ≤ x) && decide (x < e)
theorem cnt_iv (s : Int) (m : Nat) (hs : 0 ≤ s) (N : Nat) (hN : s + m ≤ N) : cntD (ivD s (s + m)) 0 N = m := by
  obtain ⟨k, rfl⟩ : ∃ k : Nat, (k : Int) = s := ⟨s.toNat, by omega⟩
  have e : N = k + (m + (N - k - m)) := by omega
  rw [e, cnt_add, cnt_add, cnt_none k 0 (fun x h1 h2 => by simp [ivD]; omega), cnt_all m _ (fun x h1 h2 => by simp [ivD]; omega), cnt_none (N - k - m) _ (fun x h1 h2 => by simp [ivD]; omega)]
  omega
theorem size_cnt : ∀ {l : List Fp}, OkD l → ∀ N : Nat, (∀ p ∈ l, endP p ≤ N) → sizeD l = cntD (isD l) 0 N
  | [], h, N, hN => by
    rw [cnt_none N 0 (fun x _ _ => by simp [isD])]
    rfl
  | p :: t, h, N, hN => by
    have hp := h.each p (by simp)
    have ht : OkD t := ⟨fun q hq => h.each q (by simp [hq]), (List.pairwise_cons.1 h.apart).2⟩
    have hpt := (List.pairwise_cons.1 h.apart).1
    have e : cntD (isD (p :: t)) 0 N = cntD (fun x => ivD p.1 (p.1 + p.2.length) x || isD t x) 0 N := by
      congr 1
    rw [e, cnt_or N 0 (fun x hx => ?_), cnt_iv p.1 p.2.length hp.1 N (hN p (by simp)), ← size_cnt ht N (fun q hq => hN q (by simp [hq])), sizeD_cons]
    unfold isD
    rw [List.any_eq_false]
    intro q hq
    have := hpt q hq
    unfold endP at this
    simp [ivD] at hx
    simp
    intro h1
    unfold endP
    omega
theorem fit_cnt (f : Int → Bool) : ∀ (s : Nat) (k : Int) (room : Nat), (fitB f s k room).2 + cntD f k (fitB f s k room).1 = (fitB f s k room).1
  | 0, k, room => by simp [fitB, cntD]
  | s + 1, k, room => by
    unfold fitB
    by_cases hf : f k = true
    · rw [if_pos hf]
      have := fit_cnt f s (k + 1) room
      simp only
      conv => lhs; rhs; unfold cntD
      rw [if_pos hf]
      omega
    · rw [if_neg hf]
      cases room with
      | zero => simp [cntD]
      | succ r =>
        have := fit_cnt f s (k + 1) r
        simp only
        conv => lhs; rhs; unfold cntD
        rw [if_neg hf]
        omega
theorem put_is {l : List Fp} (h : OkD l) (k : Int) (b : List UInt8) (hk : 0 ≤ k) (hb : b ≠ []) (x : Int) : isD (putP l k b) x = (ivD k (k + b.length) x || isD l x) := by
  rw [Bool.eq_iff_iff, isD_has]
  simp only [Bool.or_eq_true, isD_has]
  constructor
  · rintro ⟨c, hc⟩
    rcases (put_has h k b hk hb x c).1 hc with ⟨h1, h2⟩ | ⟨_, h2⟩
    · left
      have := (List.getElem?_eq_some_iff.1 h2).1
      simp [ivD]; omega
    · exact .inr ⟨c, h2⟩
  · intro hx
    by_cases hi : k ≤ x ∧ x < k + b.length
    · have hlt : (x - k).toNat < b.length := by omega
      exact ⟨b[(x - k).toNat], (put_has h k b hk hb x _).2 (.inl ⟨hi.1, List.getElem?_eq_getElem hlt⟩)⟩
    · rcases hx with hx | ⟨c, hx⟩
      · simp [ivD] at hx; omega
      · exact ⟨c, (put_has h k b hk hb x c).2 (.inr ⟨by omega, hx⟩)⟩
theorem put_size {l : List Fp} (h : OkD l) (k : Int) (b : List UInt8) (hk : 0 ≤ k) (hb : b ≠ []) (hmost : k + b.length ≤ 1099511627776) :
    sizeD (putP l k b) + cntD (isD l) k b.length = sizeD l + b.length := by
  obtain ⟨K, rfl⟩ : ∃ K : Nat, (K : Int) = k := ⟨k.toNat, by omega⟩
  obtain ⟨N, hN⟩ : ∃ N : Nat, N = 1099511627776 := ⟨_, rfl⟩
  have hK : K + b.length ≤ N := by omega
  have h2 := put_ok h K b hk hb hmost
  rw [size_cnt h N (fun p hp => by have := (h.each p hp).2.2; omega), size_cnt h2 N (fun p hp => by have := (h2.each p hp).2.2; omega)]
  clear hN hmost h2
  have e : N = K + (b.length + (N - K - b.length)) := by omega
  rw [e, cnt_add, cnt_add, cnt_add, cnt_add]
  have o1 : cntD (isD (putP l K b)) 0 K = cntD (isD l) 0 K := cnt_congr K 0 (fun x h1 h2 => by
    have q : ivD (K : Int) (K + b.length) x = false := by simp [ivD]; omega
    rw [put_is h K b hk hb, q]; rfl)
  have o2 : cntD (isD (putP l K b)) (0 + K) b.length = b.length := cnt_all b.length _ (fun x h1 h2 => by
    have q : ivD (K : Int) (K + b.length) x = true := by simp [ivD]; omega
    rw [put_is h K b hk hb, q]; rfl)
  have o3 : cntD (isD (putP l K b)) (0 + K + b.length) (N - K - b.length) = cntD (isD l) (0 + K + b.length) (N - K - b.length) := cnt_congr _ _ (fun x h1 h2 => by
    have q : ivD (K : Int) (K + b.length) x = false := by simp [ivD]; omega
    rw [put_is h K b hk hb, q]; rfl)
  rw [o1, o2, o3]
  simp only [Int.zero_add]
  omega
theorem put_inside {l : List Fp} (h : OkD l) (k : Int) (b : List UInt8) (hk : 0 ≤ k) (hb : b ≠ []) (hmost : k + b.length ≤ 1099511627776) (s : Int) (hs : ∀ p ∈ l, endP p ≤ s) : ∀ p ∈ putP l k b, endP p ≤ max s (k + b.length) := by
  intro p hp
  have h2 := put_ok h k b hk hb hmost
  have hq := h2.each p hp
  have hl : 0 < p.2.length := List.length_pos_iff.2 hq.2.1
  have hx : isD (putP l k b) (endP p - 1) = true := by
    unfold isD
    rw [List.any_eq_true]
    refine ⟨p, hp, ?_⟩
    simp
    unfold endP
    omega
  rw [put_is h k b hk hb] at hx
  simp only [Bool.or_eq_true] at hx
  rcases hx with hx | hx
  · simp [ivD] at hx; omega
  · unfold isD at hx
    rw [List.any_eq_true] at hx
    obtain ⟨q, hq2, hq3⟩ := hx
    simp at hq3
    have := hs q hq2
    omega

/-- Bytes b written into node i at k, some of them new. -/
def wrN (n : NdP) (c k : Int) (b : List UInt8) : NdP := { n with data := putP n.data k b, v := { n.v with size := max n.v.size (k + b.length), change := c } }
def writeT (T : FsP) (i : Int) (n : NdP) (k : Int) (b : List UInt8) (fresh : Nat) : FsP :=
  { T with clock := T.clock + 1, used := T.used + (fresh : Int), nd := updN T.nd i (some (wrN n (T.clock + 1) k b)) }
def fitP (T : FsP) (n : NdP) (k : Int) (b : List UInt8) : Nat × Nat := fitB (isD n.data) b.length k (T.quota - T.used).toNat
def writeP (T : FsP) (i k : Int) (b : List UInt8) : FsP × Int :=
  match T.nd i with
  | none => (T, 10)
  | some n =>
    if n.v.kind = 1 then
      if k < 0 ∨ 1099511627776 - (b.length : Int) < k then (T, 1) else
      (if (fitP T n k b).1 = 0 then T else writeT T i n k (b.take (fitP T n k b).1) (fitP T n k b).2, if (fitP T n k b).1 < b.length then 5 else 0)
    else (T, 13)

theorem writeT_ok {T : FsP} (h : OkT T) {i : Int} {n : NdP} (hn : T.nd i = some n) (h1 : n.v.kind = 1) (k : Int) (b : List UInt8) (hk : 0 ≤ k) (hks : k + b.length ≤ 1099511627776) (h0 : (fitP T n k b).1 ≠ 0) :
    OkT (writeT T i n k (b.take (fitP T n k b).1) (fitP T n k b).2) := by
  have on := h.node i n hn
  obtain ⟨f, hf⟩ : ∃ f, f = (fitP T n k b).1 := ⟨_, rfl⟩
  obtain ⟨r, hr⟩ : ∃ r, r = (fitP T n k b).2 := ⟨_, rfl⟩
  have hle := fitB_le (isD n.data) b.length k (T.quota - T.used).toNat
  have hct := fit_cnt (isD n.data) b.length k (T.quota - T.used).toNat
  unfold fitP at hf hr h0
  rw [← hf, ← hr] at hle hct
  rw [← hf] at h0
  unfold fitP
  rw [← hf, ← hr]
  clear hf hr
  obtain ⟨b', hb'⟩ : ∃ b', b' = b.take f := ⟨_, rfl⟩
  have hbl : b'.length = f := by rw [hb', List.length_take]; omega
  rw [← hb']
  have hbn : b' ≠ [] := fun e => by rw [e] at hbl; simp at hbl; omega
  have hmost : k + (b'.length : Int) ≤ 1099511627776 := by rw [hbl]; omega
  have hps := put_size on.data k b' hk hbn hmost
  rw [hbl] at hps
  have hroom := h.room
  refine same_ok h hn rfl rfl rfl rfl (put_ok on.data k b' hk hbn hmost) (fun e => absurd h1 e) (put_inside on.data k b' hk hbn hmost n.v.size on.inside) ?_ rfl on.mode on.user on.group on.time ⟨rfl, rfl, rfl⟩ ?_ ?_
  · have := on.size
    show 0 ≤ max n.v.size (k + (b'.length : Int)) ∧ max n.v.size (k + (b'.length : Int)) ≤ 1099511627776
    omega
  · show T.used + (r : Int) + (sizeD n.data : Nat) = T.used + (sizeD (putP n.data k b') : Nat)
    omega
  · omega
end Go.Proofs.Ytilndmmjdbhmgaa
