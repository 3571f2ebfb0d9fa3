/-
  A tree of files on paper: one node that turns, and a name that is moved, keep what always holds.
-/
import Derived.Test.YtilndmmjdbhmgaaTrS
namespace Go.Proofs.Ytilndmmjdbhmgaa
set_option linter.unusedVariables false
set_option linter.unusedSimpArgs false

/-- One node turns, but for its kind and names. -/
theorem same_ok {T : FsP} (h : OkT T) {i : Int} {n n' : NdP} {used' : Int} (hn : T.nd i = some n) (h1 : n'.names = n.names) (h2 : n'.par = n.par) (h3 : n'.v.kind = n.v.kind) (h4 : n'.v.links = n.v.links)
    (h5 : OkD n'.data) (h6 : n'.v.kind ≠ 1 → n'.data = []) (h7 : ∀ p ∈ n'.data, endP p ≤ n'.v.size) (h8 : 0 ≤ n'.v.size ∧ n'.v.size ≤ 1099511627776) (h9 : n'.v.change = T.clock + 1)
    (h10 : 0 ≤ n'.v.mode ∧ n'.v.mode ≤ 4095) (h11 : 0 ≤ n'.v.user ∧ n'.v.user ≤ 2147483647) (h12 : 0 ≤ n'.v.group ∧ n'.v.group ≤ 2147483647) (h13 : -9223372036854775808 ≤ n'.v.time ∧ n'.v.time ≤ 9223372036854775807)
    (h14 : n'.v.major = n.v.major ∧ n'.v.minor = n.v.minor ∧ n'.v.tgt = n.v.tgt) (h15 : used' + (sizeD n.data : Nat) = T.used + (sizeD n'.data : Nat)) (h16 : used' ≤ T.quota) :
    OkT { T with clock := T.clock + 1, used := used', nd := updN T.nd i (some n') } := by
  have on := h.node i n hn
  have hN := h.next
  have hC := h.clock
  have hsum : ∀ g : Option NdP → Nat, sumN (updN T.nd i (some n')) g (T.next + 1).toNat + g (some n) = sumN T.nd g (T.next + 1).toNat + g (some n') := by
    intro g
    have e2 := sumN_upd T.nd g (some n') i (T.next + 1).toNat (by have := on.low; omega) (by have := on.high; omega)
    rw [hn] at e2
    exact e2
  have hlk : ∀ x, sumN (updN T.nd i (some n')) (gLink x) (T.next + 1).toNat = sumN T.nd (gLink x) (T.next + 1).toNat := by
    intro x
    have := hsum (gLink x)
    rw [gLink_some, gLink_some, h1] at this
    omega
  have hex : ∀ x a, T.nd x = some a → ∃ a', updN T.nd i (some n') x = some a' ∧ a'.v.kind = a.v.kind ∧ a'.par = a.par ∧ a'.names = a.names := by
    intro x a hx
    by_cases hxi : x = i
    · subst hxi
      rw [hn] at hx; cases hx
      exact ⟨n', updN_same _ _ _, h3, h2, h1⟩
    · exact ⟨a, by rw [updN_other _ _ hxi]; exact hx, rfl, rfl, rfl⟩
  have hstep : ∀ x a, T.nd x = some a → OkNd { T with clock := T.clock + 1, used := used', nd := updN T.nd i (some n') } x a := by
    intro x a hx
    refine (h.node x a hx).step (Int.le_refl _) (by simp only; omega) ?_ ?_ (hlk x)
    · intro p _ b hb
      obtain ⟨b', e1, e2, e3, _⟩ := hex p.2 b hb
      exact ⟨b', e1, e2, fun _ => e3⟩
    · rintro b hb hbk ⟨k, hkm⟩
      obtain ⟨b', e1, e2, e3, e4⟩ := hex _ b hb
      exact ⟨b', e1, by rw [e2]; exact hbk, k, by rw [e4]; exact hkm⟩
  refine ⟨?_, ?_, ⟨hN.1, by show T.next ≤ T.clock + 1 + 1; omega⟩, by show 0 ≤ T.clock + 1; omega, h.quota, ?_, h16, ?_, h.most, ?_⟩
  · obtain ⟨r, hr, hr6, hrp⟩ := h.root
    obtain ⟨a', e1, e2, e3, _⟩ := hex 1 r hr
    exact ⟨a', e1, by rw [e2]; exact hr6, by rw [e3]; exact hrp⟩
  · intro x a hx
    by_cases hxi : x = i
    · subst hxi
      have hx' : some n' = some a := by rw [← hx]; exact (updN_same _ _ _).symm
      cases hx'
      have o := hstep x n hn
      refine ⟨o.low, o.high, by rw [h1]; exact o.sorted, by rw [h1]; exact o.names, (fun e => by rw [h1]; exact o.file (by rw [← h3]; exact e)), h5, h6, h7, h8, ?_, by rw [h4]; exact o.links, by rw [h4]; exact o.most, by rw [h9]; show 0 ≤ T.clock + 1 ∧ T.clock + 1 ≤ T.clock + 1; omega, h10, h11, h12, h13, by rw [h3]; exact o.kind, by rw [h14.1, h14.2.1]; exact o.dev, by rw [h14.2.2]; exact o.tgt, ?_, by rw [h1]; exact o.few⟩
      · intro hk hx1
        rw [h2]
        exact o.par (by rw [← h3]; exact hk) hx1
      · intro hk
        rw [h4]; exact o.one (by rw [← h3]; exact hk)
    · exact hstep x a (by rw [← hx]; exact (updN_other _ _ hxi).symm)
  · have e1 := hsum gSize
    have e3 := h.used
    show used' = (sumN (updN T.nd i (some n')) gSize (T.next + 1).toNat : Nat)
    have e4 : gSize (some n) = sizeD n.data := rfl
    have e5 : gSize (some n') = sizeD n'.data := rfl
    omega
  · have e1 := hsum gOne
    have e3 := h.cnt
    show T.cnt = sumN (updN T.nd i (some n')) gOne (T.next + 1).toNat
    have e4 : gOne (some n) = 1 := rfl
    have e5 : gOne (some n') = 1 := rfl
    omega
  · obtain ⟨r, hr⟩ := h.rank
    refine ⟨r, ?_⟩
    intro x a hx hk6 hx1
    by_cases hxi : x = i
    · subst hxi
      have hx' : some n' = some a := by rw [← hx]; exact (updN_same _ _ _).symm
      cases hx'
      rw [h2]
      exact hr x n hn (by rw [← h3]; exact hk6) hx1
    · exact hr x a (by rw [← hx]; exact (updN_other _ _ hxi).symm) hk6 hx1

/-- x is top, or a directory below it. -/
inductive Up (T : FsP) (top : Int) : Int → Prop where
  | self : Up T top top
  | step (x : Int) (n : NdP) : T.nd x = some n → n.v.kind = 6 → x ≠ 1 → Up T top n.par → Up T top x
def moved (c : Int) (dst : Int) (m : NdP) : NdP := { setChange c m with par := if m.v.kind = 6 then dst else m.par }
def cutN (T : FsP) (dir : Int) (d : NdP) (part : List UInt8) : Int → Option NdP := updN T.nd dir (some (named (T.clock + 1) d (delK d.names part)))
def moveT (T : FsP) (dir : Int) (d : NdP) (part : List UInt8) (dst : Int) (e : NdP) (asn : List UInt8) (ino : Int) (m : NdP) : FsP :=
  { T with clock := T.clock + 1, nd := updN (updN (cutN T dir d part) dst (some (if dst = dir then named (T.clock + 1) d (putK (delK d.names part) asn ino) else named (T.clock + 1) e (putK e.names asn ino)))) ino (some (moved (T.clock + 1) dst m)) }
open Classical in
noncomputable def moveP (T : FsP) (dir : Int) (part : List UInt8) (dst : Int) (asn : List UInt8) : FsP × Int :=
  if placeE T dir part = 10 ∨ placeE T dst asn = 10 then (T, 10)
  else if placeE T dir part = 12 ∨ placeE T dst asn = 12 then (T, 12)
  else if placeE T dir part = 9 ∨ placeE T dst asn = 9 then (T, 9)
  else match T.nd dir, T.nd dst with
    | some d, some e =>
      match getK d.names part with
      | none => (T, 10)
      | some ino =>
        if (getK e.names asn).isSome then (T, 11)
        else match T.nd ino with
          | some m => if m.v.kind = 6 ∧ Up T ino dst then (T, 13) else (moveT T dir d part dst e asn ino m, 0)
          | none => (T, 10)
    | _, _ => (T, 10)
end Go.Proofs.Ytilndmmjdbhmgaa
