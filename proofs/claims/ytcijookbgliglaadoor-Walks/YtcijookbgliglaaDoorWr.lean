import Derived.Test.YtcijookbgliglaaDoorWd
import Derived.Test.YtcijookbgliglaaDoorP
/- How rules lie in memory while the document's pen reads them. -/
namespace Go.Proofs.YtcijookbgliglaaDoor
open Go.RowKit

theorem ownsRow_same {w w' : World} {base : Nat} {e : TypeId} {size : Nat} {v : Value} {n : Nat} {xs : List Value} (h : w.ownsRow base e size v n xs)
    (hb : ∀ k, base ≤ k → k < w.heap.size → w'.heap[k]? = w.heap[k]?) : w'.ownsRow base e size v n xs := by
  refine ⟨h.1, ?_⟩
  rcases h.2 with hn | ⟨g, cap, cur, hv, hg, hh, rest⟩
  · exact .inl hn
  · exact .inr ⟨g, cap, cur, hv, hg, (hb g hg (Array.getElem?_eq_some_iff.1 hh).1).trans hh, rest⟩
theorem ownsRow_kept {w w' : World} {b base : Nat} {e : TypeId} {size : Nat} {v : Value} {n : Nat} {xs : List Value} (h : w.ownsRow base e size v n xs) (hk : Kept b w w') (hb : b < base) : w'.ownsRow base e size v n xs :=
  ownsRow_same h (fun k h1 h2 => hk.block k h2 (by omega))
theorem ownsRow_base {w : World} {base base' : Nat} {e : TypeId} {size : Nat} {v : Value} {n : Nat} {xs : List Value} (h : w.ownsRow base e size v n xs) (hb : base' ≤ base) : w.ownsRow base' e size v n xs := by
  refine ⟨h.1, ?_⟩
  rcases h.2 with hn | ⟨g, cap, cur, hv, hg, rest⟩
  · exact .inl hn
  · exact .inr ⟨g, cap, cur, hv, by omega, rest⟩
theorem own_slice {w : World} {base : Nat} {e : TypeId} {size : Nat} {v : Value} {n : Nat} {xs : List Value} (h : w.ownsRow base e size v n xs) : ∃ a m c, v = .slice a m c := by
  rcases h.2 with ⟨rfl, _⟩ | ⟨g, cap, cur, rfl, rest⟩
  · exact ⟨_, _, _, rfl⟩
  · exact ⟨_, _, _, rfl⟩
/-- A row of one element type does not lie in a block of another one. -/
theorem own_ne {w : World} {base : Nat} {e : TypeId} {size : Nat} {v : Value} {n : Nat} {xs : List Value} (h : w.ownsRow base e size v n xs) {k : Nat} {cs : Array Value} {T : TypeId} {fr : Nat × Nat} (hk : w.heap[k]? = some (.cells cs T fr)) (hT : T ≠ e) : v.ownBlock ≠ some k := by
  intro hv
  rcases h.2 with ⟨rfl, _⟩ | ⟨g, cap, cur, rfl, hg, hh, rest⟩
  · simp [Value.ownBlock] at hv
  · simp [Value.ownBlock] at hv
    subst hv
    rw [hh] at hk
    simp at hk
    exact hT hk.2.1.symm
theorem ownsRow_set_other {w : World} {base : Nat} {e : TypeId} {size : Nat} {v : Value} {n : Nat} {xs : List Value} (h : w.ownsRow base e size v n xs) {p : Addr} {cs : Array Value} {T : TypeId} {fr : Nat × Nat} (hk : w.heap[p.block]? = some (.cells cs T fr)) (hT : T ≠ e) (u : Value) : (w.setCell p u).ownsRow base e size v n xs := by
  refine ⟨h.1, ?_⟩
  rcases h.2 with hn | ⟨g, cap, cur, hv, hg, hh, rest⟩
  · exact .inl hn
  · refine .inr ⟨g, cap, cur, hv, hg, ?_, rest⟩
    rw [Below.heap_setCell _ _ _ _ (fun e => ?_)]
    · exact hh
    · rw [← e, hh] at hk
      simp at hk
      exact hT hk.2.1.symm
theorem ownsRow_alloc {w : World} {base : Nat} {e : TypeId} {size : Nat} {v : Value} {n : Nat} {xs : List Value} (h : w.ownsRow base e size v n xs) (o : Obj) : (w.alloc o).ownsRow base e size v n xs :=
  ownsRow_same h (fun _ _ h2 => Below.heap_alloc _ _ _ h2)
theorem ownsRow_grown {w w' : World} {base : Nat} {e e' : TypeId} {size size' : Nat} {v v' : Value} {n n' : Nat} {xs xs' : List Value} (h : w.ownsRow base e size v n xs) (h' : w.ownsRow base e' size' v' n' xs') (hg : w.grownBy w' v'.ownBlock) (hT : e ≠ e') : w'.ownsRow base e size v n xs := by
  refine ⟨h.1, ?_⟩
  rcases h.2 with hn | ⟨g, cap, cur, hv, hb, hh, rest⟩
  · exact .inl hn
  · exact .inr ⟨g, cap, cur, hv, hb, (hg.block g (Array.getElem?_eq_some_iff.1 hh).1 (fun e => own_ne h' hh hT e.symm)).trans hh, rest⟩
theorem Kept.grown {b : Nat} {w0 w w' : World} {row : Option Nat} (h : Kept b w0 w) (hg : w.grownBy w' row) (hr : ∀ k, row = some k → w0.heap.size ≤ k) : Kept b w0 w' :=
  ⟨hg.os.trans h.os, hg.tape.trans h.tape, hg.output.trans h.output, Nat.le_trans h.size hg.size, fun k hk hb => (hg.block k (by have := h.size; omega) (fun e => by have := hr k e.symm; omega)).trans (h.block k hk hb)⟩

def gdCells (gs : List Pm.Gd) : List Value := gs.flatMap fun g => [.string g.word, .bool g.not, .int .i64 (g.at_ : Int)]
def acCells (acs : List Pm.Ac) : List Value := acs.map fun a => .string a.word
theorem gdCells_snoc (gs : List Pm.Gd) (g : Pm.Gd) : gdCells (gs ++ [g]) = gdCells gs ++ [.string g.word, .bool g.not, .int .i64 (g.at_ : Int)] := by simp [gdCells]
theorem acCells_snoc (acs : List Pm.Ac) (a : Pm.Ac) : acCells (acs ++ [a]) = acCells acs ++ [.string a.word] := by simp [acCells]
def GuardsR (w : World) (base : Nat) (v : Value) (gs : List Pm.Gd) : Prop := w.ownsRow base 93 3 v gs.length (gdCells gs)
def ActsR (w : World) (base : Nat) (v : Value) (acs : List Pm.Ac) : Prop := w.ownsRow base 9 1 v acs.length (acCells acs)

/-- The rule that is being read, in the block behind the result's: w0 the world at the call, b the pen's block. -/
structure RuleIn (w0 : World) (b : Nat) (s : ByteArray) (w : World) (p : Pm.Pn) (ev : ByteArray) (gv : Value) (gs : List Pm.Gd) (goal : ByteArray) (av : Value) (acs : List Pm.Ac) (at_ to_ : Nat) : Prop where
  lt : b < w0.heap.size
  kept : Kept b w0 w
  pen : PenAt w b s p.g p.bad
  res : w.heap[w0.heap.size]? = some (.cells #[.string Pm.emp, .slice none 0 0, .string Pm.emp, .slice none 0 0, .int .i64 0, .int .i64 0] 72 (0, 0))
  box : w.heap[w0.heap.size + 1]? = some (.cells #[.string ev, gv, .string goal, av, .int .i64 (at_ : Int), .int .i64 (to_ : Int)] 72 (0, 0))
  guards : GuardsR w w0.heap.size gv gs
  acts : ActsR w w0.heap.size av acs

section
variable {w0 : World} {b : Nat} {s : ByteArray} {w : World} {p : Pm.Pn} {ev : ByteArray} {gv : Value} {gs : List Pm.Gd} {goal : ByteArray} {av : Value} {acs : List Pm.Ac} {at_ to_ : Nat}

theorem RuleIn.size (h : RuleIn w0 b s w p ev gv gs goal av acs at_ to_) : w0.heap.size + 1 < w.heap.size := (Array.getElem?_eq_some_iff.1 h.box).1
theorem RuleIn.keptBy (h : RuleIn w0 b s w p ev gv gs goal av acs at_ to_) {w1 : World} {p1 : Pm.Pn} (hk : Kept b w w1) (hp : PenAt w1 b s p1.g p1.bad) : RuleIn w0 b s w1 p1 ev gv gs goal av acs at_ to_ :=
  ⟨h.lt, h.kept.trans hk, hp, (hk.block _ (by have := h.size; omega) (by have := h.lt; omega)).trans h.res, (hk.block _ h.size (by have := h.lt; omega)).trans h.box, ownsRow_kept h.guards hk h.lt, ownsRow_kept h.acts hk h.lt⟩
theorem RuleIn.alloc (h : RuleIn w0 b s w p ev gv gs goal av acs at_ to_) (o : Obj) : RuleIn w0 b s (w.alloc o) p ev gv gs goal av acs at_ to_ :=
  h.keptBy ((Kept.refl _ _).alloc o) (h.pen.same (Below.heap_alloc _ _ _ h.pen.lt))
theorem RuleIn.setTmp (h : RuleIn w0 b s w p ev gv gs goal av acs at_ to_) (k o : Nat) (hk : w0.heap.size + 1 < k) {cs : Array Value} {fr : Nat × Nat} (hc : w.heap[k]? = some (.cells cs 84 fr)) (v : Value) : RuleIn w0 b s (w.setCell ⟨k, o, none⟩ v) p ev gv gs goal av acs at_ to_ :=
  ⟨h.lt, h.kept.setNew ⟨k, o, none⟩ (by simp; omega) v, h.pen.other _ (by have := h.lt; simp; omega) v, (Below.heap_setCell _ _ _ _ (by simp; omega)).trans h.res, (Below.heap_setCell _ _ _ _ (by simp; omega)).trans h.box,
    ownsRow_set_other h.guards hc (by decide) v, ownsRow_set_other h.acts hc (by decide) v⟩
theorem RuleIn.setBox (h : RuleIn w0 b s w p ev gv gs goal av acs at_ to_) (o : Nat) (v : Value) (ev' : ByteArray) (gv' : Value) (gs' : List Pm.Gd) (goal' : ByteArray) (av' : Value) (acs' : List Pm.Ac) (at' to' : Nat)
    (hc : (#[.string ev, gv, .string goal, av, .int .i64 (at_ : Int), .int .i64 (to_ : Int)] : Array Value).setIfInBounds o v = #[.string ev', gv', .string goal', av', .int .i64 (at' : Int), .int .i64 (to' : Int)])
    (hg : GuardsR w w0.heap.size gv' gs') (ha : ActsR w w0.heap.size av' acs') : RuleIn w0 b s (w.setCell ⟨w0.heap.size + 1, o, none⟩ v) p ev' gv' gs' goal' av' acs' at' to' :=
  ⟨h.lt, h.kept.setNew ⟨_, o, none⟩ (by simp) v, h.pen.other _ (by have := h.lt; simp; omega) v, (Below.heap_setCell _ _ _ _ (by simp)).trans h.res,
    by have hb := h.box; simp only [World.setCell, Array.getElem?_modify, hb]; simp [hc],
    ownsRow_set_other hg h.box (by decide) v, ownsRow_set_other ha h.box (by decide) v⟩
theorem RuleIn.setAt (h : RuleIn w0 b s w p ev gv gs goal av acs at_ to_) (x : Nat) : RuleIn w0 b s (w.setCell ⟨w0.heap.size + 1, 4, none⟩ (.int .i64 (x : Int))) p ev gv gs goal av acs x to_ := h.setBox 4 _ _ _ _ _ _ _ _ _ rfl h.guards h.acts
theorem RuleIn.setTo (h : RuleIn w0 b s w p ev gv gs goal av acs at_ to_) (x : Nat) : RuleIn w0 b s (w.setCell ⟨w0.heap.size + 1, 5, none⟩ (.int .i64 (x : Int))) p ev gv gs goal av acs at_ x := h.setBox 5 _ _ _ _ _ _ _ _ _ rfl h.guards h.acts
theorem RuleIn.setEv (h : RuleIn w0 b s w p ev gv gs goal av acs at_ to_) (x : ByteArray) : RuleIn w0 b s (w.setCell ⟨w0.heap.size + 1, 0, none⟩ (.string x)) p x gv gs goal av acs at_ to_ := h.setBox 0 _ _ _ _ _ _ _ _ _ rfl h.guards h.acts
theorem RuleIn.setGoal (h : RuleIn w0 b s w p ev gv gs goal av acs at_ to_) (x : ByteArray) : RuleIn w0 b s (w.setCell ⟨w0.heap.size + 1, 2, none⟩ (.string x)) p ev gv gs x av acs at_ to_ := h.setBox 2 _ _ _ _ _ _ _ _ _ rfl h.guards h.acts
/-- Behind an append onto the guards, and its store. -/
theorem RuleIn.addG (h : RuleIn w0 b s w p ev gv gs goal av acs at_ to_) {w1 : World} {v' : Value} {gs' : List Pm.Gd} (hg : w.grownBy w1 gv.ownBlock) (ho : GuardsR w1 w0.heap.size v' gs') :
    RuleIn w0 b s (w1.setCell ⟨w0.heap.size + 1, 1, none⟩ v') p ev v' gs' goal av acs at_ to_ := by
  have hne : ∀ k cs fr, w.heap[k]? = some (.cells cs 72 fr) → some k ≠ gv.ownBlock := fun k cs fr hk e => own_ne h.guards hk (by decide) e.symm
  have hpn : some b ≠ gv.ownBlock := fun e => by have := (World.ownsRow.lt h.guards b e.symm).1; have := h.lt; omega
  have hb : w1.heap[w0.heap.size + 1]? = some (.cells #[.string ev, gv, .string goal, av, .int .i64 (at_ : Int), .int .i64 (to_ : Int)] 72 (0, 0)) := (hg.block _ h.size (hne _ _ _ h.box)).trans h.box
  have ha : ActsR w1 w0.heap.size av acs := ownsRow_grown h.acts h.guards hg (by decide)
  refine ⟨h.lt, ?_, ?_, ?_, ?_, ownsRow_set_other ho hb (by decide) v', ownsRow_set_other ha hb (by decide) v'⟩
  · exact (h.kept.grown hg (fun k e => (World.ownsRow.lt h.guards k e).1)).setNew ⟨_, _, none⟩ (by simp) v'
  · exact (h.pen.same (hg.block b h.pen.lt hpn)).other _ (by have := h.lt; simp; omega) v'
  · exact (Below.heap_setCell _ _ _ _ (by simp)).trans ((hg.block _ (by have := h.size; omega) (hne _ _ _ h.res)).trans h.res)
  · simp only [World.setCell, Array.getElem?_modify, hb]; simp
theorem RuleIn.addA (h : RuleIn w0 b s w p ev gv gs goal av acs at_ to_) {w1 : World} {v' : Value} {acs' : List Pm.Ac} (hg : w.grownBy w1 av.ownBlock) (ho : ActsR w1 w0.heap.size v' acs') :
    RuleIn w0 b s (w1.setCell ⟨w0.heap.size + 1, 3, none⟩ v') p ev gv gs goal v' acs' at_ to_ := by
  have hne : ∀ k cs fr, w.heap[k]? = some (.cells cs 72 fr) → some k ≠ av.ownBlock := fun k cs fr hk e => own_ne h.acts hk (by decide) e.symm
  have hpn : some b ≠ av.ownBlock := fun e => by have := (World.ownsRow.lt h.acts b e.symm).1; have := h.lt; omega
  have hb : w1.heap[w0.heap.size + 1]? = some (.cells #[.string ev, gv, .string goal, av, .int .i64 (at_ : Int), .int .i64 (to_ : Int)] 72 (0, 0)) := (hg.block _ h.size (hne _ _ _ h.box)).trans h.box
  have hgd : GuardsR w1 w0.heap.size gv gs := ownsRow_grown h.guards h.acts hg (by decide)
  refine ⟨h.lt, ?_, ?_, ?_, ?_, ownsRow_set_other hgd hb (by decide) v', ownsRow_set_other ho hb (by decide) v'⟩
  · exact (h.kept.grown hg (fun k e => (World.ownsRow.lt h.acts k e).1)).setNew ⟨_, _, none⟩ (by simp) v'
  · exact (h.pen.same (hg.block b h.pen.lt hpn)).other _ (by have := h.lt; simp; omega) v'
  · exact (Below.heap_setCell _ _ _ _ (by simp)).trans ((hg.block _ (by have := h.size; omega) (hne _ _ _ h.res)).trans h.res)
  · simp only [World.setCell, Array.getElem?_modify, hb]; simp
theorem RuleIn.storeG (h : RuleIn w0 b s w p ev gv gs goal av acs at_ to_) {w1 : World} (hg : w.grownBy w1 gv.ownBlock) : w1.cell? ⟨w0.heap.size + 1, 1, none⟩ = some gv ∧ w1.frozen? ⟨w0.heap.size + 1, 1, none⟩ = false := by
  have hb := (hg.block _ h.size (fun e => own_ne h.guards h.box (by decide) e.symm)).trans h.box
  simp [World.cell?, World.frozen?, hb]
theorem RuleIn.storeA (h : RuleIn w0 b s w p ev gv gs goal av acs at_ to_) {w1 : World} (hg : w.grownBy w1 av.ownBlock) : w1.cell? ⟨w0.heap.size + 1, 3, none⟩ = some av ∧ w1.frozen? ⟨w0.heap.size + 1, 3, none⟩ = false := by
  have hb := (hg.block _ h.size (fun e => own_ne h.acts h.box (by decide) e.symm)).trans h.box
  simp [World.cell?, World.frozen?, hb]
theorem RuleIn.resd (h : RuleIn w0 b s w p ev gv gs goal av acs at_ to_) :
    w.cell? ⟨w0.heap.size, 0, none⟩ = some (.string Pm.emp) ∧ w.cell? ⟨w0.heap.size, 1, none⟩ = some (.slice none 0 0) ∧ w.cell? ⟨w0.heap.size, 2, none⟩ = some (.string Pm.emp) ∧ w.cell? ⟨w0.heap.size, 3, none⟩ = some (.slice none 0 0) ∧ w.cell? ⟨w0.heap.size, 4, none⟩ = some (.int .i64 0) ∧ w.cell? ⟨w0.heap.size, 5, none⟩ = some (.int .i64 0) ∧ ∀ o, w.frozen? ⟨w0.heap.size, o, none⟩ = false := by
  have hb := h.res
  simp [World.cell?, World.frozen?, hb]
/-- A store into a block of rules leaves pen, guards and actions. -/
def Left (w0 : World) (b : Nat) (s : ByteArray) (w : World) (p : Pm.Pn) (gv : Value) (gs : List Pm.Gd) (av : Value) (acs : List Pm.Ac) : Prop :=
  b < w0.heap.size ∧ Kept b w0 w ∧ PenAt w b s p.g p.bad ∧ (∃ cs, w.heap[w0.heap.size]? = some (.cells cs 72 (0, 0))) ∧ GuardsR w w0.heap.size gv gs ∧ ActsR w w0.heap.size av acs
theorem RuleIn.left (h : RuleIn w0 b s w p ev gv gs goal av acs at_ to_) : Left w0 b s w p gv gs av acs := ⟨h.lt, h.kept, h.pen, ⟨_, h.res⟩, h.guards, h.acts⟩
theorem Left.set {gv av : Value} {gs : List Pm.Gd} {acs : List Pm.Ac} (h : Left w0 b s w p gv gs av acs) (o : Nat) (v : Value) : Left w0 b s (w.setCell ⟨w0.heap.size, o, none⟩ v) p gv gs av acs := by
  obtain ⟨h1, h2, h3, ⟨cs, h4⟩, h5, h6⟩ := h
  refine ⟨h1, h2.setNew ⟨_, o, none⟩ (by simp) v, h3.other _ (by simp; omega) v, ⟨cs.setIfInBounds o v, ?_⟩, ownsRow_set_other h5 h4 (by decide) v, ownsRow_set_other h6 h4 (by decide) v⟩
  simp only [World.setCell, Array.getElem?_modify, h4]; simp
/-- What the walk reads of the box. -/
theorem RuleIn.boxed (h : RuleIn w0 b s w p ev gv gs goal av acs at_ to_) :
    w.cell? ⟨w0.heap.size + 1, 0, none⟩ = some (.string ev) ∧ w.cell? ⟨w0.heap.size + 1, 1, none⟩ = some gv ∧ w.cell? ⟨w0.heap.size + 1, 2, none⟩ = some (.string goal) ∧ w.cell? ⟨w0.heap.size + 1, 3, none⟩ = some av ∧ w.cell? ⟨w0.heap.size + 1, 4, none⟩ = some (.int .i64 (at_ : Int)) ∧ w.cell? ⟨w0.heap.size + 1, 5, none⟩ = some (.int .i64 (to_ : Int)) ∧ ∀ o, w.frozen? ⟨w0.heap.size + 1, o, none⟩ = false := by
  have hb := h.box
  simp [World.cell?, World.frozen?, hb]
end
end Go.Proofs.YtcijookbgliglaaDoor
