/-
  A sink of bytes: NewSink, Left, Len, Bytes, Write; within whatever object it lies.
-/
import Derived.Test.YtffoigacpnlkgaaFeedB
import Derived.Deep.RegionLaw
namespace Go.Proofs.Ytffoigacpnlkgaa
open Go.RowKit
set_option linter.unusedVariables false
set_option linter.unusedSimpArgs false

section
variable {P : Program} {ops : Array Oper} {o : Oper} {a : Act} {w : World} {K : Act → World → Prop} {Q : Exit → Act → World → Prop} {E : Prop}
theorem step_app (hg : o.guard = none) (s x : Operand) (t : TypeId) (hop : o.op = Op.call { callee := Callee.builtin Builtin.append, args := #[s, x], argTypes := #[t, t] })
    (e : TypeId) (i : TypeInfo) (z : Value) (size bytes : Nat) (ht : P.underlying t = some (.slice e)) (hi : P.info? e = some i) (hz : i.zero = some z)
    (hsize : i.size = size) (hby : i.bytes = bytes) (hzs : z.cells.size = size) (hsz : 0 < size)
    (v : Value) (n : Nat) (xs : List Value) (hs : a.eval s = v) (hown : w.ownsRow 0 e size v n xs)
    (ad : Addr) (m c : Nat) (news : List Value) (hx : a.eval x = .slice (some ad) m c) (hl : news.length = m * size) (hnews : ∀ j u, news[j]? = some u → w.cell? (ad.add j) = some u) (h1 : ∀ u ∈ news, u.oneCell' = true)
    (h63 : n + m ≤ maxLen) (hbytes : (n + m) * bytes ≤ 140737488355328)
    (hK : ∀ v' w', w'.ownsRow 0 e size v' (n + m) (xs ++ news) → w.grownBy w' v.ownBlock → (∀ k, v'.ownBlock = some k → v.ownBlock = some k ∨ w.heap.size ≤ k) → K (a.put o.dst v') w') :
    if Region.wanted o (yielded ops a.tmps) = true then Oper.wp P o a w K Q else E := by
  have hw : Region.wanted o (yielded ops a.tmps) = true := by simp [Region.wanted, hg]
  rw [if_pos hw]
  obtain ⟨v', w', hr, h2, h3, h4⟩ := run_app (P := P) w e t o.type i z size bytes ht hi hz hsize hby hzs hsz v n xs hown ad m c news hl hnews h1 h63 hbytes
  unfold Oper.wp execOp
  simp only [hop, resolve, invoke, builtin, Sem.run_bind, Sem.run_pure, Result.andThen_ok, List.map_toArray, List.map_cons, List.map_nil, hs, hx, hr]
  exact hK _ _ h2 h3 h4
theorem step_app_none (hg : o.guard = none) (s x : Operand) (t : TypeId) (hop : o.op = Op.call { callee := Callee.builtin Builtin.append, args := #[s, x], argTypes := #[t, t] })
    (e : TypeId) (i : TypeInfo) (size : Nat) (ht : P.underlying t = some (.slice e)) (hi : P.info? e = some i)
    (v : Value) (n : Nat) (xs : List Value) (hs : a.eval s = v) (hown : w.ownsRow 0 e size v n xs) (hx : a.eval x = .slice none 0 0)
    (hK : K (a.put o.dst v) w) :
    if Region.wanted o (yielded ops a.tmps) = true then Oper.wp P o a w K Q else E := by
  have hw : Region.wanted o (yielded ops a.tmps) = true := by simp [Region.wanted, hg]
  rw [if_pos hw]
  have hr := run_append_owned_none (P := P) (w := w) 0 t o.type e i size ht hi v n xs hown
  unfold Oper.wp execOp
  simp only [hop, resolve, invoke, builtin, Sem.run_bind, Sem.run_pure, Result.andThen_ok, List.map_toArray, List.map_cons, List.map_nil, hs, hx, hr]
  exact hK
end

/-- A sink within an object R: its bytes, in a row of its own, and how many it takes at most. -/
structure Snk (w : World) (T : TypeId) (cs : Array Value) (R L : Nat) (ao : Option Addr) (cap : Nat) (bs : List Int) (m : Nat) : Prop where
  obj : w.heap[R]? = some (.cells cs T (0, 0))
  c0 : cs[0]? = some (.slice ao bs.length cap)
  c1 : cs[1]? = some (.int .i64 m)
  own : w.ownsRow 0 5 1 (.slice ao bs.length cap) bs.length (bs.map (.int .u8))
  fr : ∀ k, (Value.slice ao bs.length cap).ownBlock = some k → L ≤ k
  low : L ≤ R
  bl : bs.length ≤ m
  ml : m ≤ 9223372036854775807
  sm : bs.length ≤ 1000000
  ne5 : T ≠ 5
  ball : AllB bs
theorem Snk.kept {S : Nat → Prop} {w w' : World} {T : TypeId} {cs : Array Value} {R L : Nat} {ao : Option Addr} {cap : Nat} {bs : List Int} {m : Nat} (h : Snk w T cs R L ao cap bs m) (hk : Kept S w w') (h1 : ¬ S R) (h2 : ∀ k, (Value.slice ao bs.length cap).ownBlock = some k → ¬ S k) : Snk w' T cs R L ao cap bs m :=
  { h with obj := hk.obj h.obj h1, own := hk.row h.own h2 }
theorem Snk.keptNo {w w' : World} {T : TypeId} {cs : Array Value} {R L : Nat} {ao : Option Addr} {cap : Nat} {bs : List Int} {m : Nat} (h : Snk w T cs R L ao cap bs m) (hk : Kept NoB w w') : Snk w' T cs R L ao cap bs m := h.kept hk (fun h => h) (fun _ _ h => h)

set_option maxHeartbeats 1000000 in
theorem sleft_any (w : World) {T : TypeId} {cs : Array Value} {R L : Nat} {ao : Option Addr} {cap : Nat} {bs : List Int} {m : Nat} (h : Snk w T cs R L ao cap bs m) (r : Nat) (hr : (r : Int) = (m : Int) - bs.length) :
    Calls Try.prog 53 #[.pointer (some ⟨R, 0, none⟩)] w fun e w' => e = .returned (.int .i64 r) ∧ Kept NoB w w' := by
  have c0 : w.cell? ⟨R, 0, none⟩ = some (.slice ao bs.length cap) := by rw [obj_cell h.obj 0, h.c0]
  have c1 : w.cell? ⟨R, 1, none⟩ = some (.int .i64 m) := by rw [obj_cell h.obj 1, h.c1]
  have h1 := h.bl
  have h2 := h.ml
  have h3 := h.sm
  rw [hr]
  clear h hr
  go_enter Try.func53, Try.ntmps53
  go_wp2
  go_quiet (fail)
  go_wp2
  go_ret
  exact ⟨rfl, (Kept.refl _ _).drewN _⟩
set_option maxHeartbeats 1000000 in
theorem slen_any (w : World) {T : TypeId} {cs : Array Value} {R L : Nat} {ao : Option Addr} {cap : Nat} {bs : List Int} {m : Nat} (h : Snk w T cs R L ao cap bs m) :
    Calls Try.prog 51 #[.pointer (some ⟨R, 0, none⟩)] w fun e w' => e = .returned (.int .i64 bs.length) ∧ Kept NoB w w' := by
  have c0 : w.cell? ⟨R, 0, none⟩ = some (.slice ao bs.length cap) := by rw [obj_cell h.obj 0, h.c0]
  clear h
  go_enter Try.func51, Try.ntmps51
  go_wp2
  go_ret
  exact ⟨rfl, Kept.refl _ _⟩
/-- What Bytes tells: a copy, as a string. -/
def ToldB (W : World) (bs : List Int) (e : Ending) (W' : World) : Prop :=
  ∃ ao' cap', e = .returned (.slice ao' bs.length cap') ∧ Hid (Reads W' ao' bs) ∧ Hid (ao' = none → cap' = 0) ∧ Hid ((convert 22 9 (.slice ao' bs.length cap')).run Try.prog W' = .ok (.string (strOfNums bs)) W') ∧ Kept NoB W W'
set_option maxHeartbeats 1000000 in
theorem sbytes_any (w : World) {T : TypeId} {cs : Array Value} {R L : Nat} {ao : Option Addr} {cap : Nat} {bs : List Int} {m : Nat} (h : Snk w T cs R L ao cap bs m) :
    Calls Try.prog 50 #[.pointer (some ⟨R, 0, none⟩)] w (ToldB w bs) := by
  have c0 : w.cell? ⟨R, 0, none⟩ = some (.slice ao bs.length cap) := by rw [obj_cell h.obj 0, h.c0]
  have hr := own_reads h.own rfl
  have hl := h.sm
  clear h
  have HR := Lib.hid hr; clear hr
  go_enter Try.func50, Try.ntmps50
  go_wp2_with (go_at_call 54; refine (clone_any _ _ _ _ HR.out (by omega)).mono ?_; rintro e w1 ⟨ao', cap', rfl, ho, hf, hn, hk⟩)
  go_ret
  have hr' := own_reads ho rfl
  have h0 := own_nil ho
  exact ⟨ao', cap', rfl, hr', h0, conv_reads hr' rfl h0, hk⟩

/-- The bytes that are there behind some parts. -/
def fill (bs : List Int) (m : Nat) (ps : List (List Int)) : List Int := (bs ++ ps.flatten).take m
theorem fill_nil (bs : List Int) (m : Nat) (h : bs.length ≤ m) : fill bs m [] = bs := by simp [fill]; exact List.take_of_length_le h
theorem fill_len (bs : List Int) (m : Nat) (ps : List (List Int)) : (fill bs m ps).length ≤ m := by unfold fill; rw [List.length_take]; omega
theorem take_more (x p : List Int) (m : Nat) : (x.take m) ++ p.take (m - (x.take m).length) = (x ++ p).take m := by
  rw [List.take_append, List.length_take]
  by_cases h : x.length ≤ m
  · rw [Nat.min_eq_right h]
  · rw [Nat.min_eq_left (by omega), Nat.sub_self, show m - x.length = 0 from by omega]
theorem fill_succ (bs : List Int) (m : Nat) (ps : List (List Int)) (j : Nat) (hj : j < ps.length) :
    fill bs m (ps.take (j + 1)) = fill bs m (ps.take j) ++ (ps.getD j []).take (m - (fill bs m (ps.take j)).length) := by
  unfold fill
  rw [flat_succ ps j hj, ← List.append_assoc, take_more]

/-- Behind some parts: the sink, grown. -/
def WrR (w : World) (T : TypeId) (cs0 : Array Value) (R L : Nat) (v0 : Value) (bs' : List Int) (m : Nat) (w' : World) : Prop :=
  ∃ cs ao cap, Snk w' T cs R L ao cap bs' m ∧ cs.size = cs0.size ∧ (∀ i, i ≠ 0 → cs[i]? = cs0[i]?) ∧ Kept (OrB (OneB R) (OwnB v0)) w w' ∧ (∀ k, (Value.slice ao bs'.length cap).ownBlock = some k → v0.ownBlock = some k ∨ w.heap.size ≤ k)
end Go.Proofs.Ytffoigacpnlkgaa
