/-
  An entry on paper; how it is made in a tree, on paper.
  What was said of directories last, on paper.
  Rows of pieces that are read; sparse.Ok, written, Holes.
  sparse.Ok, written, Holes, pad, appendNumber.
  entry.Ok: may an entry without names be?
-/
import Derived.Test.YtgbakogihkdddaaGreatDoorMx15
namespace Go.Proofs.YtgbakogihkdddaaGreatDoor
set_option linter.unusedVariables false
set_option linter.unusedSimpArgs false
set_option maxRecDepth 20000

/-- An entry. -/
structure EntV where
  kind : Int
  name : List UInt8
  link : List UInt8
  mode : Int
  user : Int
  group : Int
  time : Int
  major : Int
  minor : Int
  size : Int
  pcs : List Pc
def dirK (k : Int) : Bool := k == 6 || k == 8
def linkK (k : Int) : Bool := k == 2 || k == 3
def devK (k : Int) : Bool := k == 4 || k == 5
/-- A text of a path or a link. -/
def okTx (s : List UInt8) : Bool := !s.isEmpty && (decide ((s.length : Int) ≤ 4096) && !decide (0 ≤ Lib.indexByte s 0))
def inW (a b : Int) : Bool := decide (0 ≤ a) && decide (a ≤ b)
def okTxs (E : EntV) : Bool := okTx E.name && !(dirK E.kind && Lib.hasSuffix E.name [47]) && (if linkK E.kind = true then okTx E.link else E.link.isEmpty)
def okNu (E : EntV) : Bool :=
  (decide (1 ≤ E.kind) && decide (E.kind ≤ 8)) && (if devK E.kind = true then inW E.major 1048575 && inW E.minor 1048575 else decide (E.major = 0) && decide (E.minor = 0)) && (inW E.mode 4095 && inW E.user 2147483647 && inW E.group 2147483647)
def okFi (E : EntV) : Bool := if E.kind = 1 then okS E.size E.pcs else decide (E.size = 0) && E.pcs.isEmpty
/-- An entry without names may be. -/
def okE (E : EntV) : Bool := okTxs E && okNu E && okFi E
/-- What of an entry is a node's own. -/
def nodeE (E : EntV) : NodeV := ⟨if E.kind = 8 then 6 else E.kind, E.mode, E.user, E.group, E.time, if E.kind = 3 then strB E.link else ⟨#[]⟩, E.major, E.minor, 0, 0, 0⟩
def wayN : NodeV := ⟨6, 493, 0, 0, 0, ⟨#[]⟩, 0, 0, 0, 0, 0⟩
/-- The way to a directory; what is missing on it is made. -/
def wayP : FsP → Int → List (List UInt8) → FsP × Int × Int
  | T, dir, [] => (T, dir, 0)
  | T, dir, p :: r =>
    if (findP T dir p).2 = 0 then wayP T (findP T dir p).1 r
    else if (findP T dir p).2 = 10 then
      (if (makeP T dir p wayN).2.2 = 0 then wayP (makeP T dir p wayN).1 (makeP T dir p wayN).2.1 r else ((makeP T dir p wayN).1, 0, (makeP T dir p wayN).2.2))
    else (T, 0, (findP T dir p).2)
/-- Where an entry goes. -/
structure SpotV where
  dir : Int
  last : List UInt8
  ino : Int
  there : Bool
  isDir : Bool
def spotAt (T : FsP) (dir : Int) (last : List UInt8) : Option SpotV × Int :=
  if (findP T dir last).2 = 10 then (some ⟨dir, last, 0, false, false⟩, 0)
  else if (findP T dir last).2 = 0 then (some ⟨dir, last, (findP T dir last).1, true, decide ((statP T (findP T dir last).1).1.kind = 6)⟩, 0)
  else (none, (findP T dir last).2)
def spotP (T : FsP) (dir : Int) (pre : List (List UInt8)) (last : List UInt8) : FsP × Option SpotV × Int :=
  if (wayP T dir pre).2.2 = 0 then ((wayP T dir pre).1, spotAt (wayP T dir pre).1 (wayP T dir pre).2.1 last) else ((wayP T dir pre).1, none, (wayP T dir pre).2.2)
def clearP (T : FsP) (P : SpotV) : FsP × Int := if P.there = false then (T, 0) else if P.isDir = true then (T, 13) else removeP T P.dir P.last
def putDirP (T : FsP) (P : SpotV) (E : EntV) : FsP × Int :=
  if P.isDir = true then setP T P.ino (nodeE E)
  else if (clearP T P).2 = 0 then ((makeP (clearP T P).1 P.dir P.last (nodeE E)).1, (makeP (clearP T P).1 P.dir P.last (nodeE E)).2.2) else clearP T P
def putNameQ (T : FsP) (P : SpotV) (ino : Int) : FsP × Int :=
  if (statP T ino).2 = 0 then
    (if (statP T ino).1.kind = 6 then (T, 13)
     else if P.there = true ∧ P.ino = ino then (T, 0)
     else if (clearP T P).2 = 0 then linkP (clearP T P).1 P.dir P.last ino else clearP T P)
  else (T, (statP T ino).2)
def putNameP (T : FsP) (P : SpotV) (top : Int) (link : List (List UInt8)) : FsP × Int :=
  if (downP T top link).2 = 0 then putNameQ T P (downP T top link).1 else (T, (downP T top link).2)
def writesP : FsP → Int → List Pc → FsP × Int
  | T, ino, [] => (T, 0)
  | T, ino, p :: r => if (writeP T ino p.1 p.2).2 = 0 then writesP (writeP T ino p.1 p.2).1 ino r else writeP T ino p.1 p.2
def fillP (T : FsP) (ino : Int) (E : EntV) : FsP × Int := if (growP T ino E.size).2 = 0 then writesP (growP T ino E.size).1 ino E.pcs else growP T ino E.size
def putOtherQ (M : FsP × Int × Int) (E : EntV) : FsP × Int := if M.2.2 = 0 ∧ E.kind = 1 then fillP M.1 M.2.1 E else (M.1, M.2.2)
def putOtherP (T : FsP) (P : SpotV) (E : EntV) : FsP × Int :=
  if (clearP T P).2 = 0 then putOtherQ (makeP (clearP T P).1 P.dir P.last (nodeE E)) E else clearP T P
def topP (T : FsP) (dir : Int) (E : EntV) : FsP × Int :=
  if dirK E.kind = true then
    (if (statP T dir).2 = 0 then (if (statP T dir).1.kind = 6 then setP T dir (nodeE E) else (T, 12)) else (T, (statP T dir).2))
  else (T, 9)
def putP3 (T : FsP) (dir : Int) (P : SpotV) (E : EntV) (link : List (List UInt8)) : FsP × Int :=
  if dirK E.kind = true then putDirP T P E else if E.kind = 2 then putNameP T P dir link else putOtherP T P E
/-- The parts of a hard link's link. -/
def linkP2 (E : EntV) : Option (List (List UInt8)) := if E.kind = 2 then (match partsOf E.link with | some (a :: r) => some (a :: r) | _ => none) else some []
def spotQ (X : FsP × Option SpotV × Int) (dir : Int) (E : EntV) (link : List (List UInt8)) : FsP × Int :=
  match X.2.1 with
  | some P => putP3 X.1 dir P E link
  | none => (X.1, X.2.2)
def partQ (T : FsP) (dir : Int) (E : EntV) (link ps : List (List UInt8)) : FsP × Int :=
  match ps with
  | [] => topP T dir E
  | p :: r => spotQ (spotP T dir ((p :: r).dropLast) ((p :: r).getLastD [])) dir E link
/-- An entry is made. -/
def oneP (T : FsP) (dir : Int) (E : EntV) : FsP × Int :=
  if okE E = true then
    match partsOf E.name with
    | none => (T, 9)
    | some ps => match linkP2 E with
      | none => (T, 9)
      | some lk => partQ T dir E lk ps
  else (T, 1)
/-- Which directory an entry that went well is. -/
def dirOf (T : FsP) (dir : Int) (E : EntV) : Option Int :=
  if dirK E.kind = true then
    match partsOf E.name with
    | none => none
    | some ps => if (downP T dir ps).2 = 0 then some (downP T dir ps).1 else none
  else none
/-- What was said of directories last: the numbers in order, and which entry said it. -/
abbrev Said := List (Int × Nat)
def putSaid : Said → Int → Nat → Said
  | [], i, E => [(i, E)]
  | (j, X) :: r, i, E => if i < j then (i, E) :: (j, X) :: r else if i = j then (i, E) :: r else (j, X) :: putSaid r i E
def saidN (S : Said) (T : FsP) (dir : Int) (E : EntV) (j : Nat) : Said := match dirOf T dir E with | some i => putSaid S i j | none => S
/-- Entries are made one by one, up to the first that is wrong. -/
def goE : FsP → Int → Said → Nat → List EntV → FsP × Said × Nat × Int
  | T, dir, S, n, [] => (T, S, n, 0)
  | T, dir, S, n, E :: r => if (oneP T dir E).2 = 0 then goE (oneP T dir E).1 dir (saidN S (oneP T dir E).1 dir E n) (n + 1) r else ((oneP T dir E).1, S, n, (oneP T dir E).2)
def ownE (E : EntV) : NodeV := ⟨0, E.mode, E.user, E.group, E.time, ⟨#[]⟩, 0, 0, 0, 0, 0⟩
def noE : EntV := ⟨0, [], [], 0, 0, 0, 0, 0, 0, 0, []⟩
def setsP (l : List EntV) : FsP → Said → FsP
  | T, [] => T
  | T, p :: r => setsP l (setP T p.1 (ownE (l.getD p.2 noE))).1 r
def allE (T : FsP) (dir : Int) (l : List EntV) : FsP × Nat × Int := (setsP l (goE T dir [] 0 l).1 (goE T dir [] 0 l).2.1, (goE T dir [] 0 l).2.2)

/-! ### the clock and the quota -/
def Tame (n : Nat) (T T' : FsP) : Prop := T'.quota = T.quota ∧ T.clock ≤ T'.clock ∧ T'.clock ≤ T.clock + n
theorem Tame.refl (T : FsP) : Tame 0 T T := ⟨rfl, by omega, by omega⟩
theorem Tame.mono {n m : Nat} {T T' : FsP} (h : Tame n T T') (hm : n ≤ m) : Tame m T T' := ⟨h.1, h.2.1, by have := h.2.2; omega⟩
theorem Tame.trans {n m : Nat} {T T' T'' : FsP} (h : Tame n T T') (h2 : Tame m T' T'') : Tame (n + m) T T'' := ⟨h2.1.trans h.1, by have := h.2; have := h2.2; omega, by have := h.2; have := h2.2; omega⟩
theorem tame0 (T : FsP) : Tame 1 T T := ⟨rfl, by omega, by omega⟩
theorem tame1 {T T' : FsP} (hq : T'.quota = T.quota) (hc : T'.clock = T.clock + 1) : Tame 1 T T' := ⟨hq, by omega, by omega⟩
theorem tame_make (T : FsP) (dir : Int) (part : List UInt8) (v : NodeV) : Tame 1 T (makeP T dir part v).1 := by
  unfold makeP
  repeat' split
  all_goals first | exact tame0 T | exact tame1 rfl rfl
theorem tame_link (T : FsP) (dir : Int) (part : List UInt8) (ino : Int) : Tame 1 T (linkP T dir part ino).1 := by
  unfold linkP
  repeat' split
  all_goals first | exact tame0 T | exact tame1 rfl rfl
theorem tame_set (T : FsP) (i : Int) (v : NodeV) : Tame 1 T (setP T i v).1 := by
  unfold setP
  repeat' split
  all_goals first | exact tame0 T | exact tame1 rfl rfl
theorem tame_remove (T : FsP) (dir : Int) (part : List UInt8) : Tame 1 T (removeP T dir part).1 := by
  unfold removeP removeT
  repeat' split
  all_goals first | exact tame0 T | exact tame1 rfl rfl
theorem tame_write (T : FsP) (i k : Int) (b : List UInt8) : Tame 1 T (writeP T i k b).1 := by
  unfold writeP
  repeat' split
  all_goals first | exact tame0 T | exact tame1 rfl rfl | (dsimp only; split <;> first | exact tame0 T | exact tame1 rfl rfl)
theorem tame_grow (T : FsP) (i s : Int) : Tame 1 T (growP T i s).1 := by
  unfold growP
  repeat' split
  all_goals first | exact tame0 T | exact tame1 rfl rfl
theorem tame_way : ∀ (ps : List (List UInt8)) (T : FsP) (dir : Int), Tame ps.length T (wayP T dir ps).1
  | [], T, dir => Tame.refl T
  | p :: r, T, dir => by
    unfold wayP
    split
    · exact (tame_way r T _).mono (by simp)
    · split
      · split
        · exact ((tame_make T dir p wayN).trans (tame_way r _ _)).mono (by simp; omega)
        · exact (tame_make T dir p wayN).mono (by simp)
      · exact (Tame.refl T).mono (by simp)
theorem tame_clear (T : FsP) (P : SpotV) : Tame 1 T (clearP T P).1 := by
  unfold clearP
  split
  · exact (Tame.refl T).mono (by omega)
  · split
    · exact (Tame.refl T).mono (by omega)
    · exact tame_remove T _ _
theorem tame_putDir (T : FsP) (P : SpotV) (E : EntV) : Tame 2 T (putDirP T P E).1 := by
  unfold putDirP
  split
  · exact (tame_set T _ _).mono (by omega)
  · split
    · exact (tame_clear T P).trans (tame_make _ _ _ _)
    · exact (tame_clear T P).mono (by omega)
theorem tame_putName (T : FsP) (P : SpotV) (top : Int) (lk : List (List UInt8)) : Tame 2 T (putNameP T P top lk).1 := by
  unfold putNameP
  split
  · unfold putNameQ
    split
    · split
      · exact (Tame.refl T).mono (by omega)
      · split
        · exact (Tame.refl T).mono (by omega)
        · split
          · exact (tame_clear T P).trans (tame_link _ _ _ _)
          · exact (tame_clear T P).mono (by omega)
    · exact (Tame.refl T).mono (by omega)
  · exact (Tame.refl T).mono (by omega)
theorem tame_writes : ∀ (l : List Pc) (T : FsP) (i : Int), Tame l.length T (writesP T i l).1
  | [], T, i => Tame.refl T
  | p :: r, T, i => by
    unfold writesP
    split
    · exact ((tame_write T i p.1 p.2).trans (tame_writes r _ _)).mono (by simp; omega)
    · exact (tame_write T i p.1 p.2).mono (by simp)
theorem tame_fill (T : FsP) (i : Int) (E : EntV) : Tame (E.pcs.length + 1) T (fillP T i E).1 := by
  unfold fillP
  split
  · exact ((tame_grow T i E.size).trans (tame_writes E.pcs _ _)).mono (by omega)
  · exact (tame_grow T i E.size).mono (by omega)
theorem tame_putOther (T : FsP) (P : SpotV) (E : EntV) : Tame (E.pcs.length + 3) T (putOtherP T P E).1 := by
  unfold putOtherP
  split
  · unfold putOtherQ
    split
    · exact (((tame_clear T P).trans (tame_make _ _ _ _)).trans (tame_fill _ _ E)).mono (by omega)
    · exact ((tame_clear T P).trans (tame_make _ _ _ _)).mono (by omega)
  · exact (tame_clear T P).mono (by omega)
theorem tame_top (T : FsP) (dir : Int) (E : EntV) : Tame 1 T (topP T dir E).1 := by
  unfold topP
  split
  · split
    · split
      · exact tame_set T _ _
      · exact (Tame.refl T).mono (by omega)
    · exact (Tame.refl T).mono (by omega)
  · exact (Tame.refl T).mono (by omega)
theorem tame_put3 (T : FsP) (dir : Int) (P : SpotV) (E : EntV) (lk : List (List UInt8)) : Tame (E.pcs.length + 3) T (putP3 T dir P E lk).1 := by
  unfold putP3
  split
  · exact (tame_putDir T P E).mono (by omega)
  · split
    · exact (tame_putName T P dir lk).mono (by omega)
    · exact tame_putOther T P E
theorem spot_fst (T : FsP) (dir : Int) (pre : List (List UInt8)) (last : List UInt8) : (spotP T dir pre last).1 = (wayP T dir pre).1 := by
  unfold spotP
  split <;> rfl
theorem parts_few {l : List UInt8} {ps : List (List UInt8)} (h : partsOf l = some ps) : ps.length ≤ 4097 ∧ (∀ p ∈ ps, p.length ≤ 255 ∧ okN (strB p) = true) := by
  unfold partsOf at h
  split at h
  · cases h
  · rename_i h1
    split at h
    · rename_i h2
      cases h
      constructor
      · have h3 := pieces_len l
        have h4 : (keepP (pieces l)).length ≤ (pieces l).length := List.length_filter_le _ _
        have : l.length ≤ 4096 := by
          simp only [not_or] at h1
          omega
        omega
      · intro p hp
        have h5 : okN (strB p) = true := List.all_eq_true.1 h2 p hp
        refine ⟨?_, h5⟩
        simp only [okN, Bool.and_eq_true, decide_eq_true_eq] at h5
        have := h5.1.1.1.2
        rw [strB_size] at this
        exact this
    · cases h
theorem okE_pcs {E : EntV} (h : okE E = true) : E.pcs.length ≤ 1000 := by
  simp only [okE, Bool.and_eq_true] at h
  have h2 := h.2
  unfold okFi at h2
  split at h2
  · simp only [okS, Bool.and_eq_true, decide_eq_true_eq] at h2
    exact h2.1.2
  · simp only [Bool.and_eq_true, List.isEmpty_iff] at h2
    rw [h2.2]; simp
theorem tame_one (T : FsP) (dir : Int) (E : EntV) : Tame 6000 T (oneP T dir E).1 := by
  unfold oneP
  split
  · rename_i hE
    have hp := okE_pcs hE
    split
    · exact (Tame.refl T).mono (by omega)
    · rename_i ps hps
      have hl := (parts_few hps).1
      split
      · exact (Tame.refl T).mono (by omega)
      · rename_i lk hlk
        unfold partQ
        split
        · exact (tame_top T dir E).mono (by omega)
        · rename_i p r
          have h1 : Tame (p :: r).dropLast.length T (spotP T dir ((p :: r).dropLast) ((p :: r).getLastD [])).1 := by rw [spot_fst]; exact tame_way _ _ _
          have h2 : (p :: r).dropLast.length ≤ 4097 := by rw [List.length_dropLast]; omega
          unfold spotQ
          split
          · exact (h1.trans (tame_put3 _ dir _ E lk)).mono (by omega)
          · exact h1.mono (by omega)
  · exact (Tame.refl T).mono (by omega)
end Go.Proofs.YtgbakogihkdddaaGreatDoor

namespace Go.Proofs.YtgbakogihkdddaaGreatDoor
set_option linter.unusedVariables false
set_option linter.unusedSimpArgs false
set_option maxRecDepth 20000

def getS : Said → Int → Option Nat
  | [], _ => none
  | (j, X) :: r, k => if k = j then some X else getS r k
theorem getS_put : ∀ (S : Said) (i : Int) (E : Nat) (k : Int), getS (putSaid S i E) k = if k = i then some E else getS S k
  | [], i, E, k => rfl
  | (j, X) :: r, i, E, k => by
    unfold putSaid
    split
    · rfl
    · split
      · rename_i h; subst h
        show (if k = i then some E else getS r k) = _
        by_cases hk : k = i
        · rw [if_pos hk, if_pos hk]
        · rw [if_neg hk, if_neg hk]
          show _ = if k = i then some X else getS r k
          rw [if_neg hk]
      · rename_i h1 h2
        show (if k = j then some X else getS (putSaid r i E) k) = _
        rw [getS_put r i E k]
        show _ = if k = i then some E else if k = j then some X else getS r k
        by_cases hk : k = j
        · have : ¬ k = i := by omega
          rw [if_pos hk, if_neg this, if_pos hk]
        · rw [if_neg hk, if_neg hk]
def OkSd (S : Said) : Prop := S.Pairwise (fun p q => p.1 < q.1)
theorem mem_put : ∀ (S : Said) (i : Int) (E : Nat) (p : Int × Nat), p ∈ putSaid S i E → p = (i, E) ∨ p ∈ S
  | [], i, E, p, h => by simp [putSaid] at h; exact .inl h
  | (j, X) :: r, i, E, p, h => by
    unfold putSaid at h
    split at h
    · rcases List.mem_cons.1 h with e | e
      · exact .inl e
      · exact .inr e
    · split at h
      · rcases List.mem_cons.1 h with e | e
        · exact .inl e
        · exact .inr (List.mem_cons_of_mem _ e)
      · rcases List.mem_cons.1 h with e | e
        · exact .inr (by rw [e]; simp)
        · rcases mem_put r i E p e with e | e
          · exact .inl e
          · exact .inr (List.mem_cons_of_mem _ e)
theorem put_sd : ∀ (S : Said) (i : Int) (E : Nat), OkSd S → OkSd (putSaid S i E)
  | [], i, E, h => by simp [putSaid, OkSd]
  | (j, X) :: r, i, E, h => by
    have h1 := (List.pairwise_cons.1 h).1
    have h2 : OkSd r := (List.pairwise_cons.1 h).2
    unfold putSaid
    split
    · rename_i hij
      refine List.pairwise_cons.2 ⟨fun p hp => ?_, h⟩
      rcases List.mem_cons.1 hp with e | e
      · rw [e]; exact hij
      · have := h1 p e; dsimp only at this ⊢; omega
    · split
      · rename_i hij; subst hij
        exact List.pairwise_cons.2 ⟨h1, h2⟩
      · rename_i h3 h4
        refine List.pairwise_cons.2 ⟨fun p hp => ?_, put_sd r i E h2⟩
        rcases mem_put r i E p hp with e | e
        · rw [e]; dsimp only; omega
        · exact h1 p e
theorem getS_iff : ∀ (S : Said) (k : Int), (getS S k).isSome = true ↔ k ∈ S.map Prod.fst
  | [], k => by simp [getS]
  | (j, X) :: r, k => by
    unfold getS
    by_cases h : k = j
    · rw [if_pos h]; simp [h]
    · rw [if_neg h, getS_iff r k]
      simp [h]
theorem getS_mem : ∀ {S : Said} {p : Int × Nat}, OkSd S → p ∈ S → getS S p.1 = some p.2
  | (j, X) :: r, p, h, hp => by
    have h1 := (List.pairwise_cons.1 h).1
    rcases List.mem_cons.1 hp with e | e
    · subst e; show (if j = j then some X else _) = _; rw [if_pos rfl]
    · have := h1 p e
      show (if p.1 = j then some X else getS r p.1) = _
      rw [if_neg (by dsimp only at this; omega)]
      exact getS_mem (List.pairwise_cons.1 h).2 e
theorem put_len : ∀ (S : Said) (i : Int) (E : Nat), OkSd S → (putSaid S i E).length = if (getS S i).isSome then S.length else S.length + 1
  | [], i, E, h => rfl
  | (j, X) :: r, i, E, h => by
    have h1 := (List.pairwise_cons.1 h).1
    have h2 : OkSd r := (List.pairwise_cons.1 h).2
    unfold putSaid
    split
    · rename_i hij
      have : (getS ((j, X) :: r) i).isSome = false := by
        rw [← Bool.not_eq_true, getS_iff]
        intro hm
        simp only [List.map_cons, List.mem_cons, List.mem_map] at hm
        rcases hm with e | ⟨p, hp, e⟩
        · omega
        · have := h1 p hp; dsimp only at this; omega
      rw [this]; rfl
    · split
      · rename_i hij; subst hij
        have : (getS ((i, X) :: r) i).isSome = true := by rw [getS_iff]; simp
        rw [this]; rfl
      · rename_i h3 h4
        have e : getS ((j, X) :: r) i = getS r i := by show (if i = j then some X else getS r i) = _; rw [if_neg h4]
        rw [e, List.length_cons, put_len r i E h2]
        split <;> simp
theorem goE_fit : ∀ (l : List EntV) (T : FsP) (dir : Int) (S : Said) (n : Nat), Tame (6000 * l.length) T (goE T dir S n l).1
  | [], T, dir, S, n => Tame.refl T
  | E :: r, T, dir, S, n => by
    unfold goE
    split
    · exact ((tame_one T dir E).trans (goE_fit r _ dir _ _)).mono (by simp; omega)
    · exact (tame_one T dir E).mono (by simp; omega)
theorem goE_cons (T : FsP) (dir : Int) (S : Said) (n : Nat) (E : EntV) (r : List EntV) : goE T dir S n (E :: r) = if (oneP T dir E).2 = 0 then goE (oneP T dir E).1 dir (saidN S (oneP T dir E).1 dir E n) (n + 1) r else ((oneP T dir E).1, S, n, (oneP T dir E).2) := rfl
theorem drop_getDe (l : List EntV) (i : Nat) (h : i < l.length) : l.drop i = l.getD i noE :: l.drop (i + 1) := by
  rw [List.drop_eq_getElem_cons h]; simp [List.getD, h]
theorem drop_getDsd (l : Said) (i : Nat) (h : i < l.length) : l.drop i = l.getD i (0, 0) :: l.drop (i + 1) := by
  rw [List.drop_eq_getElem_cons h]; simp [List.getD, h]
end Go.Proofs.YtgbakogihkdddaaGreatDoor

namespace Go.Proofs.YtgbakogihkdddaaGreatDoor
open Go.RowKit
set_option linter.unusedVariables false
set_option linter.unusedSimpArgs false
set_option maxRecDepth 20000

/-- Numbers that are bytes, as bytes. -/
def un (xs : List Int) : List UInt8 := xs.map fun n => UInt8.ofNat n.toNat
theorem nb_un {xs : List Int} (h : AllB xs) : nb (un xs) = xs := by
  unfold nb un
  rw [List.map_map]
  conv => rhs; rw [← List.map_id xs]
  apply List.map_congr_left
  intro x hx
  have := h x hx
  simp only [Function.comp_apply, id_eq, UInt8.toNat_ofNat']
  omega
theorem cells_pc : Tryz.prog.cellsOf 40 = 2 := by kernel_rfl
/-- A row of pieces is read; its block is below n. -/
def RdP (w : World) (n : Nat) (ao : Option Addr) (l : List Pc) : Prop :=
  ∀ i, i < l.length → ∃ (b off : Nat) (bo : Option Addr) (bc : Nat), ao = some ⟨b, off, none⟩ ∧ b < n ∧ w.cell? ⟨b, off + i * 2, none⟩ = some (.int .i64 (l.getD i (0, [])).1) ∧
    w.cell? ⟨b, off + (i * 2 + 1), none⟩ = some (.slice bo (l.getD i (0, [])).2.length bc) ∧ Reads w bo (nb (l.getD i (0, [])).2) ∧ (bo = none → bc = 0) ∧ (l.getD i (0, [])).2.length ≤ bc ∧ bc ≤ maxLen
/-- Places that are ints. -/
def IntP (l : List Pc) : Prop := ∀ p ∈ l, -9223372036854775808 ≤ p.1 ∧ p.1 ≤ 9223372036854775807
theorem IntP.at {l : List Pc} (h : IntP l) (i : Nat) (hi : i < l.length) : -9223372036854775808 ≤ (l.getD i (0, [])).1 ∧ (l.getD i (0, [])).1 ≤ 9223372036854775807 := by
  have : l.getD i (0, []) = l[i] := by simp [List.getD, hi]
  rw [this]; exact h _ (List.getElem_mem hi)
theorem RdP.kept {w w' : World} {n : Nat} {ao : Option Addr} {l : List Pc} (h : RdP w n ao l) (hk : Kept NoB w w') : RdP w' n ao l := by
  intro i hi
  obtain ⟨b, off, bo, bc, h1, h2, h3, h4, h5, h6⟩ := h i hi
  exact ⟨b, off, bo, bc, h1, h2, hk.cell h3, hk.cell h4, h5.keptNo hk, h6⟩
theorem RdP.room {w : World} {n m : Nat} {ao : Option Addr} {l : List Pc} (h : RdP w n ao l) (hm : n ≤ m) : RdP w m ao l := by
  intro i hi
  obtain ⟨b, off, bo, bc, h1, h2, h3⟩ := h i hi
  exact ⟨b, off, bo, bc, h1, by omega, h3⟩
theorem pcs_open {w : World} {v : Value} (h : Arg w 35 v) :
    ∃ (ao : Option Addr) (cap : Nat) (l : List Pc), v = .slice ao l.length cap ∧ RdP w w.heap.size ao l ∧ l.length ≤ cap ∧ cap ≤ maxLen ∧ (ao = none → cap = 0) ∧ IntP l := by
  obtain ⟨ao, len, cap, rfl, hl, hm, hn, hc⟩ := h.slice Tryz.underlying35
  rw [cells_pc] at hc
  have key : ∀ i, ∃ p : Pc, (-9223372036854775808 ≤ p.1 ∧ p.1 ≤ 9223372036854775807) ∧ (∀ x, ao = some x → i < len → ∃ (bo : Option Addr) (bc : Nat), w.cell? (x.add (i * 2)) = some (.int .i64 p.1) ∧ w.cell? (x.add (i * 2 + 1)) = some (.slice bo p.2.length bc) ∧ Reads w bo (nb p.2) ∧ (bo = none → bc = 0) ∧ p.2.length ≤ bc ∧ bc ≤ maxLen) := by
    intro i
    by_cases hi : i < len
    · cases ao with
      | none => exact ⟨(0, []), by decide, (fun x hx => by cases hx)⟩
      | some x =>
        obtain ⟨cs, hr, hcl, hcc⟩ := hc x rfl i hi
        obtain ⟨_, hf⟩ := hr.struct Tryz.underlying40
        match cs, hcl with
        | [c0, c1], _ =>
          have i1 : Tryz.prog.cellsOf 3 = 1 := by kernel_rfl
          have i2 : Tryz.prog.cellsOf 22 = 1 := by kernel_rfl
          have r0 := hf 0 _ rfl
          have r1 := hf 1 _ rfl
          simp [i1, i2] at r0 r1
          obtain ⟨z, ez, wz⟩ := r0.int Tryz.underlying3
          obtain ⟨bo, bc, bs, eb, h1, h2, h3, h4, h5⟩ := r1.bytes Tryz.underlying22
          simp at ez eb
          subst ez eb
          have hu := nb_un h4
          have hul : (un bs).length = bs.length := by simp [un]
          refine ⟨(z, un bs), i64_bd wz, ?_⟩
          intro y hy _
          cases hy
          refine ⟨bo, bc, by simpa using hcc 0 (by simp), ?_, by simp only; rw [hu]; exact h3, h5, by simp only; omega, h2⟩
          simp only [hul]
          simpa using hcc 1 (by simp)
    · exact ⟨(0, []), by decide, (fun x _ h => absurd h hi)⟩
  obtain ⟨f, hf⟩ := choose1 key
  refine ⟨ao, cap, (List.range len).map f, by simp, ?_, by simpa using hl, hm, (fun h => (hn h).2), ?_⟩
  · intro i hi
    have hil : i < len := by simpa using hi
    cases ao with
    | none => have := (hn rfl).1; omega
    | some x =>
      obtain ⟨bo, bc, h1, h2, h3, h4, h5⟩ := (hf i).2 x rfl hil
      obtain ⟨b, off, spot⟩ := x
      have hs : spot = none := by
        obtain ⟨_, _, q1, _⟩ := (hf 0).2 _ rfl (by omega)
        have := World.cell?_spot q1
        simpa [Addr.add] using this
      subst hs
      rw [addr_add] at h1 h2
      rw [range_getD f len i (0, []) hil]
      exact ⟨b, off, bo, bc, rfl, World.block_lt_of_cell? w _ h1, h1, h2, h3, h4, h5⟩
  · intro z hz
    obtain ⟨i, _, rfl⟩ := List.mem_map.1 hz
    exact (hf i).1
end Go.Proofs.YtgbakogihkdddaaGreatDoor

namespace Go.Proofs.YtgbakogihkdddaaGreatDoor
open Go.RowKit
set_option linter.unusedVariables false
set_option linter.unusedSimpArgs false

set_option maxRecDepth 20000 in
set_option maxHeartbeats 4000000 in
theorem spok_any (size : Int) (ao : Option Addr) (n cap : Nat) (l : List Pc) (w : World) (h0 : -9223372036854775808 ≤ size) (h1 : size ≤ 9223372036854775807) (hn : n = l.length) (hr : RdP w w.heap.size ao l) (hi : IntP l) (hc : n ≤ cap) (hcm : cap ≤ maxLen) :
    Calls Tryz.prog 80 #[.int .i64 size, .slice ao n cap] w fun e w' => e = .returned (.bool (okS size l)) ∧ Kept NoB w w' := by
  have hok : okS size l = (decide (0 ≤ size) && decide (size ≤ 1099511627776) && decide (l.length ≤ 1000) && okG size 0 l) := rfl
  obtain ⟨R, hR⟩ : ∃ R, R = okS size l := ⟨_, rfl⟩
  rw [← hR] at hok ⊢
  rw [← hn] at hok
  have HOk := Lib.hid hok; have HR := Lib.hid hr; have HN := Lib.hid hn; have HI := Lib.hid hi
  have hcm2 : n ≤ 9223372036854775807 := by unfold maxLen at hcm; omega
  clear hok hR hr hn hi hcm
  by_cases q1 : size < 0
  · have HF : Hid (R = false) := Lib.hid (by rw [HOk.out, decide_eq_false (by omega)]; simp)
    go_enter Tryz.func80, Tryz.ntmps80
    go_wp2
    go_ret
    exact ⟨by rw [HF.out]; rfl, Kept.refl _ _⟩
  by_cases q2 : 1099511627776 < size
  · have HF : Hid (R = false) := Lib.hid (by
      have : decide (size ≤ 1099511627776) = false := decide_eq_false (by omega)
      rw [HOk.out, this]; simp)
    go_enter Tryz.func80, Tryz.ntmps80
    go_wp2
    go_ret
    exact ⟨by rw [HF.out]; rfl, Kept.refl _ _⟩
  by_cases q3 : (1000 : Int) < (n : Int)
  · have HF : Hid (R = false) := Lib.hid (by
      have : decide (n ≤ 1000) = false := decide_eq_false (by omega)
      rw [HOk.out, this]; simp)
    go_enter Tryz.func80, Tryz.ntmps80
    go_wp2
    go_ret
    exact ⟨by rw [HF.out]; rfl, Kept.refl _ _⟩
  have HOk2 : Hid (R = okG size 0 l) := Lib.hid (by
    rw [HOk.out, decide_eq_true (show 0 ≤ size by omega), decide_eq_true (show size ≤ 1099511627776 by omega), decide_eq_true (show n ≤ 1000 by omega)]; rfl)
  have HSt := Lib.hid (fun i (hi : i < n) => (⟨okG_step size l i (by have := HN.out; omega), freeS_take l i (by have := HN.out; omega)⟩ : _ ∧ _))
  have HNo := Lib.hid (fun i => okG_take_no size l i)
  go_enter Tryz.func80, Tryz.ntmps80
  go_wp2
  go_loopw [5, 7, 21] (fun v5 v7 v21 wr => ∃ (i : Nat) (f : Int), v5 = .int .i64 f ∧ v21 = .int .i64 (i : Int) ∧ i ≤ n ∧ 0 ≤ f ∧ f ≤ 1099511627777 ∧ Hid (f = freeS (l.take i) ∧ okG size 0 (l.take i) = true ∧ Kept NoB w wr)) (fun _ _ v21 _ => n - (intOf v21).toNat)
  case atStart => exact ⟨0, 0, rfl, rfl, by omega, by omega, by omega, Lib.hid ⟨by simp [freeS], by simp [okG], Kept.refl _ _⟩⟩
  case round =>
    obtain ⟨i, f, rfl, rfl, hi, hf0, hf1, HS⟩ := hrel
    by_cases hlt : (i : Int) < (n : Int)
    · have hin : i < n := by omega
      obtain ⟨b, off, bo, bc, rfl, hb, c0, c1, _, _, c2, c3⟩ := HR.out i (by have := HN.out; omega)
      have d0 := HS.out.2.2.cell c0
      have d1 := HS.out.2.2.cell c1
      obtain ⟨e1, e2⟩ := HSt.out i hin
      have e3 := HNo.out (i + 1)
      have e4 := HI.out.at i (by have := HN.out; omega)
      obtain ⟨p, hp⟩ : ∃ p, p = l.getD i (0, []) := ⟨_, rfl⟩
      rw [← hp] at d0 d1 e1 e2 e4 c2
      rw [show off + (i * 2 + 1) = off + i * 2 + 1 by omega] at d1
      rw [HS.out.2.1, Bool.true_and, ← HS.out.1] at e1
      obtain ⟨z, hz⟩ : ∃ z, z = p.1 := ⟨_, rfl⟩
      obtain ⟨k, hk⟩ : ∃ k, k = p.2.length := ⟨_, rfl⟩
      have hke : p.2.isEmpty = decide (k = 0) := by rw [hk]; cases p.2 <;> simp
      rw [hke] at e1
      rw [← hz] at d0 e1 e2 e4
      rw [← hk] at d1 e1 e2 c2
      have hkb : k ≤ 9223372036854775807 := by unfold maxLen at c3; omega
      have HK1 := Lib.hid (HS.out.2.2.alloc (.cells #[.int .i64 z, .slice bo k bc] 40))
      have E1 := Lib.hid e1; have E2 := Lib.hid e2; have E3 := Lib.hid e3
      clear c0 c1 c2 c3 e1 e2 e3 hp hz hk hke
      by_cases x1 : k = 0
      · have y1 : ((k : Int) == 0) = true := by simp; omega
        have HF : Hid (R = false) := Lib.hid (by rw [HOk2.out]; exact E3.out (by rw [E1.out, decide_eq_true x1]; simp))
        clear x1
        go_wp2
        go_ret
        exact ⟨by rw [HF.out]; rfl, HK1.out⟩
      have y1 : ((k : Int) == 0) = false := by simp; omega
      by_cases x2 : z < f
      · have HF : Hid (R = false) := Lib.hid (by
          have : decide (f ≤ z) = false := decide_eq_false (by omega)
          rw [HOk2.out]; exact E3.out (by rw [E1.out, this]; simp))
        go_wp2
        go_ret
        exact ⟨by rw [HF.out]; rfl, HK1.out⟩
      by_cases x3 : size - (k : Int) < z
      · have HF : Hid (R = false) := Lib.hid (by
          have : decide (z ≤ size - (k : Int)) = false := decide_eq_false (by omega)
          rw [HOk2.out]; exact E3.out (by rw [E1.out, this]; simp))
        go_wp2
        go_ret
        exact ⟨by rw [HF.out]; rfl, HK1.out⟩
      · have HG : Hid (z + (k : Int) + 1 = freeS (l.take (i + 1)) ∧ okG size 0 (l.take (i + 1)) = true) := Lib.hid ⟨E2.out.symm, by
          rw [E1.out, decide_eq_false x1, decide_eq_true (show f ≤ z by omega), decide_eq_true (show z ≤ size - (k : Int) by omega)]; rfl⟩
        have hb1 : 0 ≤ z + (k : Int) + 1 := by omega
        have hb2 : z + (k : Int) + 1 ≤ 1099511627777 := by omega
        go_wp2
        go_roundw
        case rel => exact ⟨i + 1, z + (k : Int) + 1, by go_num, by go_num, by omega, hb1, hb2, Lib.hid ⟨HG.out.1, HG.out.2, HK1.out⟩⟩
        case measure => simp [intOf]; omega
    · have hie : i = n := by omega
      have HF : Hid (R = true) := Lib.hid (by
        have h := HS.out.2.1
        rw [hie, HN.out, List.take_length] at h
        rw [HOk2.out, h])
      clear hie
      go_wp2
      go_ret
      exact ⟨by rw [HF.out]; rfl, HS.out.2.2⟩

end Go.Proofs.YtgbakogihkdddaaGreatDoor

namespace Go.Proofs.YtgbakogihkdddaaGreatDoor
open Go.RowKit
set_option linter.unusedVariables false
set_option linter.unusedSimpArgs false
set_option maxRecDepth 20000

theorem infoEn : (Tryz.prog.info? 38).map (·.size) = some 12 := by kernel_rfl
/-- An entry's cells; P, N: its pieces and names. -/
def entC (E : EntV) (P N : Value) : List Value := [.int .i64 E.kind, .string (strB E.name), .string (strB E.link), .int .i64 E.mode, .int .i64 E.user, .int .i64 E.group, .int .i64 E.time, .int .i64 E.major, .int .i64 E.minor, .int .i64 E.size, P, N]
/-- Pieces, and no names. -/
structure PN (P N : Value) (E : EntV) (pa : Option Addr) (pc : Nat) (na : Option Addr) (nc : Nat) : Prop where
  p : P = .slice pa E.pcs.length pc
  n : N = .slice na 0 nc
theorem ent_one (E : EntV) (pa na : Option Addr) (pl pc nl nc : Nat) : (entC E (.slice pa pl pc) (.slice na nl nc)).toArray.all (·.oneCell') = true := by simp [entC, Value.oneCell']
theorem load_rowE {ops : Array Oper} {rest : List Oper} {o : Oper} {a : Act} {w : World} {Q : Exit → Act → World → Prop} (hw : Region.wanted o (yielded ops a.tmps) = true) (x : Operand) (ho : o.op = .load 38 x)
    (g : Nat) (hx : a.eval x = .pointer (some ⟨g, 0, none⟩)) (E : EntV) (P N : Value) (hg : w.heap[g]? = some (.cells (entC E P N).toArray 38 (0, 0)))
    (h : wpList Tryz.prog ops Q rest (a.put o.dst (.agg (entC E P N).toArray)) w) : wpList Tryz.prog ops Q (o :: rest) a w :=
  wpList_step fun K hK => by
    simp only [hw, if_true]
    exact wp_load_row 38 x ho g hx 38 (entC E P N).toArray (0, 0) _ hg Tryz.underlying38 rfl infoEn (hK _ _ h)
/-- The entry in a block. -/
theorem ent_boxed (E : EntV) (P N : Value) (w : World) : ∃ w1, w1 = w.alloc (.cells (entC E P N).toArray 38) ∧ w1.heap[w.heap.size]? = some (.cells (entC E P N).toArray 38 (0, 0)) ∧ Kept NoB w w1 :=
  ⟨_, rfl, heap_alloc_new _ _, (Kept.refl NoB w).alloc _⟩

theorem isDirE_any (E : EntV) (P N : Value) (w : World) : Calls Tryz.prog 75 #[.agg (entC E P N).toArray] w fun e w' => e = .returned (.bool (dirK E.kind)) ∧ Kept NoB w w' := by
  obtain ⟨w1, hw1, hob, hk1⟩ := ent_boxed E P N w
  have c0 : w1.cell? ⟨w.heap.size, 0, none⟩ = some (.int .i64 E.kind) := by rw [obj_cell hob]; rfl
  have HW := Lib.hid hw1; have HK := Lib.hid hk1
  clear hw1 hob hk1
  go_enter Tryz.func75, Tryz.ntmps75
  go_upto_region 1 with fail
  rw [← HW.out]
  by_cases h : E.kind = 6
  · have h1 : (E.kind == 6) = true := by simpa using h
    go_wp2
    go_ret
    exact ⟨by unfold dirK; simp [h], HK.out⟩
  · have h1 : (E.kind == 6) = false := by simpa using h
    go_wp2
    go_ret
    exact ⟨by unfold dirK; simp [h], HK.out⟩
theorem isLinkE_any (E : EntV) (P N : Value) (w : World) : Calls Tryz.prog 77 #[.agg (entC E P N).toArray] w fun e w' => e = .returned (.bool (linkK E.kind)) ∧ Kept NoB w w' := by
  obtain ⟨w1, hw1, hob, hk1⟩ := ent_boxed E P N w
  have c0 : w1.cell? ⟨w.heap.size, 0, none⟩ = some (.int .i64 E.kind) := by rw [obj_cell hob]; rfl
  have HW := Lib.hid hw1; have HK := Lib.hid hk1
  clear hw1 hob hk1
  go_enter Tryz.func77, Tryz.ntmps77
  go_upto_region 1 with fail
  rw [← HW.out]
  by_cases h : E.kind = 2
  · have h1 : (E.kind == 2) = true := by simpa using h
    go_wp2
    go_ret
    exact ⟨by unfold linkK; simp [h], HK.out⟩
  · have h1 : (E.kind == 2) = false := by simpa using h
    go_wp2
    go_ret
    exact ⟨by unfold linkK; simp [h], HK.out⟩
theorem isDeviceE_any (E : EntV) (P N : Value) (w : World) : Calls Tryz.prog 78 #[.agg (entC E P N).toArray] w fun e w' => e = .returned (.bool (devK E.kind)) ∧ Kept NoB w w' := by
  obtain ⟨w1, hw1, hob, hk1⟩ := ent_boxed E P N w
  have c0 : w1.cell? ⟨w.heap.size, 0, none⟩ = some (.int .i64 E.kind) := by rw [obj_cell hob]; rfl
  have HW := Lib.hid hw1; have HK := Lib.hid hk1
  clear hw1 hob hk1
  go_enter Tryz.func78, Tryz.ntmps78
  go_upto_region 1 with fail
  rw [← HW.out]
  by_cases h : E.kind = 4
  · have h1 : (E.kind == 4) = true := by simpa using h
    go_wp2
    go_ret
    exact ⟨by unfold devK; simp [h], HK.out⟩
  · have h1 : (E.kind == 4) = false := by simpa using h
    go_wp2
    go_ret
    exact ⟨by unfold devK; simp [h], HK.out⟩
theorem withinE_any (n m : Int) (w : World) : Calls Tryz.prog 79 #[.int .i64 n, .int .i64 m] w fun e w' => e = .returned (.bool (inW n m)) ∧ w' = w := by
  obtain ⟨z, hz⟩ : ∃ z, z = inW n m := ⟨_, rfl⟩
  rw [← hz]
  unfold inW at hz
  go_enter Tryz.func79, Tryz.ntmps79
  by_cases h : 0 ≤ n
  · rw [decide_eq_true h] at hz
    go_wp2
    go_ret
    exact ⟨by first | rfl | (rw [hz]; rfl), rfl⟩
  · rw [decide_eq_false h] at hz
    go_wp2
    go_ret
    exact ⟨by first | rfl | (rw [hz]; rfl), rfl⟩
theorem okText_any (s : List UInt8) (w : World) (hs : s.length ≤ 1000000000) : Calls Tryz.prog 74 #[.string (strB s)] w fun e w' => e = .returned (.bool (okTx s)) ∧ w' = w := by
  have HC := Lib.hid (Tryz.strings_Contains_one (strB s) 0)
  rw [strB_data] at HC
  obtain ⟨z, hz⟩ : ∃ z, z = decide (0 ≤ Lib.indexByte s 0) := ⟨_, rfl⟩
  rw [← hz] at HC
  have HF : Hid (okTx s = (!s.isEmpty && (decide ((s.length : Int) ≤ 4096) && !z))) := Lib.hid (by unfold okTx; rw [hz])
  have hsz := strB_size s
  obtain ⟨X, hX⟩ : ∃ X, X = strB s := ⟨_, rfl⟩
  by_cases h0 : s = []
  · subst h0
    clear hz
    have hX2 : strB ([] : List UInt8) = ⟨#[]⟩ := rfl
    rw [hX2]
    go_enter Tryz.func74, Tryz.ntmps74
    go_wp2
    go_ret
    exact ⟨by rw [HF.out]; rfl, rfl⟩
  have hl0 : ¬ (strB s).toList = [] := by rw [strB_list]; exact h0
  have hl1 : (strB s).toList.isEmpty = false := by simpa using hl0
  have hemp : s.isEmpty = false := by cases s with | nil => exact absurd rfl h0 | cons a r => rfl
  rw [hemp] at HF
  obtain ⟨n, hn⟩ : ∃ n, n = s.length := ⟨_, rfl⟩
  rw [← hn] at hsz HF hs
  rw [← hX] at hsz hl0 hl1 HC ⊢
  clear hX hz hn hemp h0
  by_cases h1 : (n : Int) ≤ 4096
  · have HF2 : Hid (okTx s = !z) := Lib.hid (by rw [HF.out, decide_eq_true h1]; rfl)
    obtain ⟨y, hy⟩ : ∃ y, y = !z := ⟨_, rfl⟩
    rw [← hy] at HF2
    rw [HF2.out]
    clear HF HF2
    cases z
    · subst hy
      go_enter Tryz.func74, Tryz.ntmps74
      go_wp2_with (go_at_call 43; refine (HC.out _).mono ?_; rintro e w2 ⟨rfl, rfl⟩)
      go_ret
      exact ⟨rfl, rfl⟩
    · subst hy
      go_enter Tryz.func74, Tryz.ntmps74
      go_wp2_with (go_at_call 43; refine (HC.out _).mono ?_; rintro e w2 ⟨rfl, rfl⟩)
      go_ret
      exact ⟨rfl, rfl⟩
  · have HF2 : Hid (okTx s = false) := Lib.hid (by rw [HF.out, decide_eq_false h1]; rfl)
    go_enter Tryz.func74, Tryz.ntmps74
    go_wp2_with (go_at_call 43; refine (HC.out _).mono ?_; rintro e w2 ⟨rfl, rfl⟩)
    go_ret
    exact ⟨by rw [HF2.out]; rfl, rfl⟩
end Go.Proofs.YtgbakogihkdddaaGreatDoor
