/-
  A tree of files in memory: does a directory lead up to another one?
-/
import Derived.Test.YtpkdfkndmgijjaaFsT
namespace Go.Proofs.Ytpkdfkndmgijjaa
open Go.RowKit
set_option linter.unusedVariables false
set_option linter.unusedSimpArgs false
set_option maxRecDepth 20000

theorem up_step {T : FsP} {top x : Int} {n : NdP} (hn : T.nd x = some n) (h6 : n.v.kind = 6) (h1 : x ≠ 1) (ht : x ≠ top) : Up T top n.par ↔ Up T top x := by
  constructor
  · exact fun h => Up.step x n hn h6 h1 h
  · intro h
    cases h with
    | self => exact absurd rfl ht
    | step _ n' hn' _ _ h2 =>
      rw [hn] at hn'
      cases hn'
      exact h2
theorem up_root {T : FsP} {top : Int} (ht : (1 : Int) ≠ top) : ¬ Up T top 1 := by
  intro h
  generalize hx : (1 : Int) = x at h
  cases h with
  | self => exact ht hx
  | step _ n' hn' _ h1 h2 => exact h1 hx.symm
/-- What comes of leadsUpTo. -/
def LeadP (T : FsP) (top dir : Int) (w : World) (e : Ending) (w' : World) : Prop := ∃ r : Bool, e = .returned (.bool r) ∧ (r = true ↔ Up T top dir) ∧ w' = w
/-- A loop's variable holds a directory. -/
structure LeadS (T : FsP) (top dir x : Int) : Prop where
  nd : ∃ n, T.nd x = some n ∧ n.v.kind = 6
  up : Up T top x ↔ Up T top dir

set_option maxHeartbeats 2000000 in
theorem leads_in {L : Nat → Lab} {B : Int → Option Nat} {mb : Nat} {S : Nat → Prop} {w : World} {f : Nat} {T : FsP} (h : FsIn L B mb S w f T) (dir top : Int) {d : NdP} (hd : T.nd dir = some d) (h6 : d.v.kind = 6) (htop : -9223372036854775808 ≤ top ∧ top ≤ 9223372036854775807) (hclk : T.clock + 1 ≤ 4611686018427387904) :
    Calls Try.prog 52 #[.pointer (some ⟨f, 0, none⟩), .int .i64 dir, .int .i64 top] w (LeadP T top dir w) := by
  obtain ⟨r, hr⟩ := h.ok.rank
  obtain ⟨c0, c1, c2, c3, c4⟩ := h.cells
  have HA := Lib.hid h
  have HR := Lib.hid hr
  have HD : Hid (LeadS T top dir dir) := Lib.hid ⟨⟨d, hd, h6⟩, Iff.rfl⟩
  have hrg : ∀ x n, T.nd x = some n → -9223372036854775808 ≤ x ∧ x ≤ 9223372036854775807 := fun x n hn => by
    have := (h.ok.node x n hn).low; have := (h.ok.node x n hn).high; have := h.ok.next; omega
  have hdr := hrg dir d hd
  have HRg := Lib.hid hrg
  clear h hr hd h6 c1 c2 c3 c4 hrg
  go_enter Try.func52, Try.ntmps52
  go_wp2
  go_loopw [1] (fun v1 wr => ∃ x : Int, v1 = .int .i64 x ∧ -9223372036854775808 ≤ x ∧ x ≤ 9223372036854775807 ∧ wr = w ∧ Hid (LeadS T top dir x)) (fun v1 _ => r (intOf v1))
  case atStart => exact ⟨dir, rfl, hdr.1, hdr.2, rfl, HD⟩
  case round =>
    obtain ⟨x, rfl, hx1, hx2, rfl, HL⟩ := hrel
    have h := HA.out
    have HT := Lib.hid h.tab
    by_cases ht : x = top
    · have hup : Hid (true = true ↔ Up T top dir) := Lib.hid ⟨fun _ => HL.out.up.1 (by rw [ht]; exact Up.self), fun _ => rfl⟩
      subst ht
      clear h
      go_wp2
      go_ret
      exact ⟨true, rfl, by simpa using hup.out, rfl⟩
    · have ht' : (x != top) = true := by simpa using ht
      by_cases h1 : x = 1
      · have hup : Hid (false = true ↔ Up T top dir) := Lib.hid ⟨fun e => (by cases e), fun e => absurd (HL.out.up.2 e) (by rw [h1]; exact up_root (by rw [← h1]; exact ht))⟩
        have h1t : ((1 : Int) == top) = false := by rw [← h1]; simpa using ht
        subst h1
        clear h
        go_wp2
        go_ret
        exact ⟨false, rfl, hup.out, rfl⟩
      · have h1' : (x != 1) = true := by simpa using h1
        obtain ⟨n, hn, hn6⟩ := HL.out.nd
        obtain ⟨b, m, a, c, qs, hB, hN⟩ := h.at hn
        have k12 : wr.cell? ⟨b, 12, none⟩ = some (.int .i64 n.par) := by rw [hN.cell 12]; rfl
        obtain ⟨e, he, he6, _⟩ := (h.ok.node x n hn).par hn6 h1
        have hpr := HRg.out _ e he
        have hlt := HR.out x n hn hn6 h1
        have HL2 : Hid (LeadS T top dir n.par) := Lib.hid ⟨⟨e, he, he6⟩, (up_step hn hn6 h1 ht).trans HL.out.up⟩
        obtain ⟨p, hp⟩ : ∃ p, p = n.par := ⟨_, rfl⟩
        rw [← hp] at k12 hpr hlt HL2
        clear h hN hn hn6 he he6 hp
        go_wp2_with (at_lookup; refine wpList_nodes_at rfl _ _ rfl HT.out rfl rfl ⟨hx1, hx2⟩ ?_; rw [hB, ptrV_some])
        go_roundw
        case rel => exact ⟨p, rfl, hpr.1, hpr.2, trivial, HL2⟩
        case measure => exact hlt
end Go.Proofs.Ytpkdfkndmgijjaa
