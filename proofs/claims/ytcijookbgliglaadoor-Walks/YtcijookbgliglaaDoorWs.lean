import Derived.Test.YtcijookbgliglaaDoorWe
import Derived.Test.YtcijookbgliglaaDoorP
/- How states lie in memory while the document's pen reads them. -/
namespace Go.Proofs.YtcijookbgliglaaDoor
open Go.RowKit

def rlCells (xs : List (Pm.Rl × Value × Value)) : List Value := xs.flatMap fun x => [.string x.1.event, x.2.1, .string x.1.goal, x.2.2, .int .i64 (x.1.at_ : Int), .int .i64 (x.1.to_ : Int)]
def RulesR (w : World) (base : Nat) (v : Value) (rs : List Pm.Rl) : Prop :=
  ∃ xs : List (Pm.Rl × Value × Value), xs.map (·.1) = rs ∧ w.ownsRow base 72 6 v xs.length (rlCells xs) ∧ ∀ x ∈ xs, GuardsR w base x.2.1 x.1.guards ∧ ActsR w base x.2.2 x.1.actions
def stCells (ys : List (Pm.St × Value)) : List Value := ys.flatMap fun y => [.string y.1.name, .int .i64 (y.1.nameAt : Int), y.2]
def StatesR (w : World) (base : Nat) (v : Value) (sts : List Pm.St) : Prop :=
  ∃ ys : List (Pm.St × Value), ys.map (·.1) = sts ∧ w.ownsRow base 69 3 v ys.length (stCells ys) ∧ ∀ y ∈ ys, RulesR w base y.2 y.1.rules

theorem RulesR.same {w w' : World} {base : Nat} {v : Value} {rs : List Pm.Rl} (h : RulesR w base v rs) (hb : ∀ k, base ≤ k → k < w.heap.size → w'.heap[k]? = w.heap[k]?) : RulesR w' base v rs := by
  obtain ⟨xs, h1, h2, h3⟩ := h
  exact ⟨xs, h1, ownsRow_same h2 hb, fun x hx => ⟨ownsRow_same (h3 x hx).1 hb, ownsRow_same (h3 x hx).2 hb⟩⟩
theorem RulesR.lower {w : World} {base base' : Nat} {v : Value} {rs : List Pm.Rl} (h : RulesR w base v rs) (hb : base' ≤ base) : RulesR w base' v rs := by
  obtain ⟨xs, h1, h2, h3⟩ := h
  exact ⟨xs, h1, ownsRow_base h2 hb, fun x hx => ⟨ownsRow_base (h3 x hx).1 hb, ownsRow_base (h3 x hx).2 hb⟩⟩
theorem RulesR.setOther {w : World} {base : Nat} {v : Value} {rs : List Pm.Rl} (h : RulesR w base v rs) {p : Addr} {cs : Array Value} {fr : Nat × Nat} (hk : w.heap[p.block]? = some (.cells cs 69 fr)) (u : Value) : RulesR (w.setCell p u) base v rs := by
  obtain ⟨xs, h1, h2, h3⟩ := h
  exact ⟨xs, h1, ownsRow_set_other h2 hk (by decide) u, fun x hx => ⟨ownsRow_set_other (h3 x hx).1 hk (by decide) u, ownsRow_set_other (h3 x hx).2 hk (by decide) u⟩⟩
theorem ownsRow_grown' {w w' : World} {base base' : Nat} {e e' : TypeId} {size size' : Nat} {v v' : Value} {n n' : Nat} {xs xs' : List Value} (h : w.ownsRow base e size v n xs) (h' : w.ownsRow base' e' size' v' n' xs') (hg : w.grownBy w' v'.ownBlock) (hT : e ≠ e') : w'.ownsRow base e size v n xs := by
  refine ⟨h.1, ?_⟩
  rcases h.2 with hn | ⟨g, cap, cur, hv, hb, hh, rest⟩
  · exact .inl hn
  · exact .inr ⟨g, cap, cur, hv, hb, (hg.block g (Array.getElem?_eq_some_iff.1 hh).1 (fun e => own_ne h' hh hT e.symm)).trans hh, rest⟩
theorem RulesR.grown {w w' : World} {base base' : Nat} {v v' : Value} {rs : List Pm.Rl} {size' n' : Nat} {xs' : List Value} (h : RulesR w base v rs) (h' : w.ownsRow base' 69 size' v' n' xs') (hg : w.grownBy w' v'.ownBlock) : RulesR w' base v rs := by
  obtain ⟨xs, h1, h2, h3⟩ := h
  exact ⟨xs, h1, ownsRow_grown' h2 h' hg (by decide), fun x hx => ⟨ownsRow_grown' (h3 x hx).1 h' hg (by decide), ownsRow_grown' (h3 x hx).2 h' hg (by decide)⟩⟩
theorem StatesR.same {w w' : World} {base : Nat} {v : Value} {sts : List Pm.St} (h : StatesR w base v sts) (hb : ∀ k, base ≤ k → k < w.heap.size → w'.heap[k]? = w.heap[k]?) : StatesR w' base v sts := by
  obtain ⟨ys, h1, h2, h3⟩ := h
  exact ⟨ys, h1, ownsRow_same h2 hb, fun y hy => (h3 y hy).same hb⟩
theorem rlCells_snoc (xs : List (Pm.Rl × Value × Value)) (x : Pm.Rl × Value × Value) : rlCells (xs ++ [x]) = rlCells xs ++ [.string x.1.event, x.2.1, .string x.1.goal, x.2.2, .int .i64 (x.1.at_ : Int), .int .i64 (x.1.to_ : Int)] := by simp [rlCells]
theorem stCells_snoc (ys : List (Pm.St × Value)) (y : Pm.St × Value) : stCells (ys ++ [y]) = stCells ys ++ [.string y.1.name, .int .i64 (y.1.nameAt : Int), y.2] := by simp [stCells]
theorem rlCells_length (xs : List (Pm.Rl × Value × Value)) : (rlCells xs).length = xs.length * 6 := by
  induction xs with
  | nil => rfl
  | cons x xs ih => simp only [rlCells, List.flatMap_cons, List.length_append, List.length_cons] at ih ⊢; simp only [List.length_nil]; omega

/-- The state that is being read: wS the world as it began, b the pen's block, X the state's own block. -/
structure StateIn (wS : World) (b : Nat) (s : ByteArray) (w : World) (p : Pm.Pn) (X : Nat) (name : ByteArray) (at_ : Nat) (rv : Value) (rs : List Pm.Rl) : Prop where
  lt : b < wS.heap.size
  kept : Kept b wS w
  pen : PenAt w b s p.g p.bad
  xge : wS.heap.size ≤ X
  box : w.heap[X]? = some (.cells #[.string name, .int .i64 (at_ : Int), rv] 69 (0, 0))
  rules : RulesR w wS.heap.size rv rs

section
variable {wS : World} {b : Nat} {s : ByteArray} {w : World} {p : Pm.Pn} {X : Nat} {name : ByteArray} {at_ : Nat} {rv : Value} {rs : List Pm.Rl}
theorem StateIn.size (h : StateIn wS b s w p X name at_ rv rs) : X < w.heap.size := (Array.getElem?_eq_some_iff.1 h.box).1
theorem StateIn.keptBy (h : StateIn wS b s w p X name at_ rv rs) {w1 : World} {p1 : Pm.Pn} (hk : Kept b w w1) (hp : PenAt w1 b s p1.g p1.bad) : StateIn wS b s w1 p1 X name at_ rv rs :=
  ⟨h.lt, h.kept.trans hk, hp, h.xge, (hk.block _ h.size (by have := h.lt; have := h.xge; omega)).trans h.box, h.rules.same (fun k h1 h2 => hk.block k h2 (by have := h.lt; omega))⟩
theorem StateIn.alloc (h : StateIn wS b s w p X name at_ rv rs) (o : Obj) : StateIn wS b s (w.alloc o) p X name at_ rv rs :=
  h.keptBy ((Kept.refl _ _).alloc o) (h.pen.same (Below.heap_alloc _ _ _ h.pen.lt))
theorem StateIn.boxed (h : StateIn wS b s w p X name at_ rv rs) : w.cell? ⟨X, 0, none⟩ = some (.string name) ∧ w.cell? ⟨X, 1, none⟩ = some (.int .i64 (at_ : Int)) ∧ w.cell? ⟨X, 2, none⟩ = some rv ∧ ∀ o, w.frozen? ⟨X, o, none⟩ = false := by
  have hb := h.box
  simp [World.cell?, World.frozen?, hb]
theorem StateIn.storeR (h : StateIn wS b s w p X name at_ rv rs) {w1 : World} (hg : w.grownBy w1 rv.ownBlock) : w1.cell? ⟨X, 2, none⟩ = some rv ∧ w1.frozen? ⟨X, 2, none⟩ = false := by
  obtain ⟨xs, h1, h2, h3⟩ := h.rules
  have hb := (hg.block _ h.size (fun e => own_ne h2 h.box (by decide) e.symm)).trans h.box
  simp [World.cell?, World.frozen?, hb]
/-- Behind an append onto the rules, and its store. -/
theorem StateIn.addR (h : StateIn wS b s w p X name at_ rv rs) {w1 : World} {v' gv av : Value} {r : Pm.Rl} (hg : w.grownBy w1 rv.ownBlock)
    (hgd : GuardsR w wS.heap.size gv r.guards) (hac : ActsR w wS.heap.size av r.actions)
    {xs : List (Pm.Rl × Value × Value)} (h1 : xs.map (·.1) = rs) (h2 : w.ownsRow wS.heap.size 72 6 rv xs.length (rlCells xs)) (h3 : ∀ x ∈ xs, GuardsR w wS.heap.size x.2.1 x.1.guards ∧ ActsR w wS.heap.size x.2.2 x.1.actions)
    (ho : w1.ownsRow wS.heap.size 72 6 v' (xs.length + 1) (rlCells xs ++ [.string r.event, gv, .string r.goal, av, .int .i64 (r.at_ : Int), .int .i64 (r.to_ : Int)])) :
    StateIn wS b s (w1.setCell ⟨X, 2, none⟩ v') p X name at_ v' (rs ++ [r]) := by
  have hb : w1.heap[X]? = some (.cells #[.string name, .int .i64 (at_ : Int), rv] 69 (0, 0)) := (hg.block _ h.size (fun e => own_ne h2 h.box (by decide) e.symm)).trans h.box
  have hpn : some b ≠ rv.ownBlock := fun e => by have := (World.ownsRow.lt h2 b e.symm).1; have := h.lt; omega
  refine ⟨h.lt, ?_, ?_, h.xge, ?_, ?_⟩
  · exact (h.kept.grown hg (fun k e => (World.ownsRow.lt h2 k e).1)).setNew ⟨_, _, none⟩ (by have := h.xge; simpa using this) v'
  · exact (h.pen.same (hg.block b h.pen.lt hpn)).other _ (by have := h.lt; have := h.xge; simp; omega) v'
  · simp only [World.setCell, Array.getElem?_modify, hb]; simp
  · refine RulesR.setOther (w := w1) ?_ hb v'
    refine ⟨xs ++ [(r, gv, av)], by simp [h1], ?_, ?_⟩
    · rw [rlCells_snoc, List.length_append]; exact ho
    · intro x hx
      rcases List.mem_append.1 hx with hx | hx
      · exact ⟨ownsRow_grown' (h3 x hx).1 h2 hg (by decide), ownsRow_grown' (h3 x hx).2 h2 hg (by decide)⟩
      · simp at hx; subst hx
        exact ⟨ownsRow_grown' hgd h2 hg (by decide), ownsRow_grown' hac h2 hg (by decide)⟩
end
end Go.Proofs.YtcijookbgliglaaDoor
