import Derived.Test.YtcijookbgliglaaDoorYh
import Derived.Deep.RegionLaw
/- The walk over the program's state. -/
namespace Go.Proofs.YtcijookbgliglaaDoor
open Go.RowKit

def rlC (xs : List (Pm.Rl × Value × Value)) : List Value := xs.flatMap fun x => [.int .i64 (x.1.at_ : Int), .int .i64 (x.1.eventAt : Int), .string x.1.event, x.2.1, .int .i64 (x.1.to_ : Int), .string x.1.goal, x.2.2]
def RulesC (w : World) (base : Nat) (v : Value) (rs : List Pm.Rl) : Prop :=
  ∃ xs : List (Pm.Rl × Value × Value), xs.map (·.1) = rs ∧ w.ownsRow base 128 7 v xs.length (rlC xs) ∧ ∀ x ∈ xs, GuardsC w base x.2.1 x.1.guards ∧ ActsC w base x.2.2 x.1.actions
theorem rlC_snoc (xs : List (Pm.Rl × Value × Value)) (x : Pm.Rl × Value × Value) : rlC (xs ++ [x]) = rlC xs ++ [.int .i64 (x.1.at_ : Int), .int .i64 (x.1.eventAt : Int), .string x.1.event, x.2.1, .int .i64 (x.1.to_ : Int), .string x.1.goal, x.2.2] := by simp [rlC]
theorem RulesC.same {w w' : World} {base : Nat} {v : Value} {rs : List Pm.Rl} (h : RulesC w base v rs) (hb : ∀ k, base ≤ k → k < w.heap.size → w'.heap[k]? = w.heap[k]?) : RulesC w' base v rs := by
  obtain ⟨xs, h1, h2, h3⟩ := h
  exact ⟨xs, h1, ownsRow_same h2 hb, fun x hx => ⟨ownsRow_same (h3 x hx).1 hb, ownsRow_same (h3 x hx).2 hb⟩⟩
theorem RulesC.lower {w : World} {base base' : Nat} {v : Value} {rs : List Pm.Rl} (h : RulesC w base v rs) (hb : base' ≤ base) : RulesC w base' v rs := by
  obtain ⟨xs, h1, h2, h3⟩ := h
  exact ⟨xs, h1, ownsRow_base h2 hb, fun x hx => ⟨ownsRow_base (h3 x hx).1 hb, ownsRow_base (h3 x hx).2 hb⟩⟩
theorem RulesC.setOther {w : World} {base : Nat} {v : Value} {rs : List Pm.Rl} (h : RulesC w base v rs) {p : Addr} {cs : Array Value} {fr : Nat × Nat} (hk : w.heap[p.block]? = some (.cells cs 124 fr)) (u : Value) : RulesC (w.setCell p u) base v rs := by
  obtain ⟨xs, h1, h2, h3⟩ := h
  exact ⟨xs, h1, ownsRow_set_other h2 hk (by decide) u, fun x hx => ⟨ownsRow_set_other (h3 x hx).1 hk (by decide) u, ownsRow_set_other (h3 x hx).2 hk (by decide) u⟩⟩
theorem RulesC.grown {w w' : World} {base base' : Nat} {v v' : Value} {rs : List Pm.Rl} {size' n' : Nat} {xs' : List Value} (h : RulesC w base v rs) (h' : w.ownsRow base' 124 size' v' n' xs') (hg : w.grownBy w' v'.ownBlock) : RulesC w' base v rs := by
  obtain ⟨xs, h1, h2, h3⟩ := h
  exact ⟨xs, h1, ownsRow_grown' h2 h' hg (by decide), fun x hx => ⟨ownsRow_grown' (h3 x hx).1 h' hg (by decide), ownsRow_grown' (h3 x hx).2 h' hg (by decide)⟩⟩

/-- The state that is being read: in block X, its result's block at w0's end. -/
structure StateC (w0 : World) (b : Nat) (s : ByteArray) (w : World) (p : Pm.Pn) (X : Nat) (at_ nameAt : Nat) (name : ByteArray) (rv : Value) (rs : List Pm.Rl) : Prop where
  lt : b < w0.heap.size
  kept : Kept b w0 w
  rd : RdAt w b s p.g
  xge : w0.heap.size < X
  res : w.heap[w0.heap.size]? = some (.cells #[.int .i64 0, .int .i64 0, .string Pm.emp, .slice none 0 0] 124 (0, 0))
  box : w.heap[X]? = some (.cells #[.int .i64 (at_ : Int), .int .i64 (nameAt : Int), .string name, rv] 124 (0, 0))
  rules : RulesC w w0.heap.size rv rs
section
variable {w0 : World} {b : Nat} {s : ByteArray} {w : World} {p : Pm.Pn} {X at_ nameAt : Nat} {name : ByteArray} {rv : Value} {rs : List Pm.Rl}
theorem StateC.size (h : StateC w0 b s w p X at_ nameAt name rv rs) : X < w.heap.size := (Array.getElem?_eq_some_iff.1 h.box).1
theorem StateC.size0 (h : StateC w0 b s w p X at_ nameAt name rv rs) : w0.heap.size < w.heap.size := (Array.getElem?_eq_some_iff.1 h.res).1
theorem StateC.keptBy (h : StateC w0 b s w p X at_ nameAt name rv rs) {w1 : World} {p1 : Pm.Pn} (hk : Kept b w w1) (hp : RdAt w1 b s p1.g) : StateC w0 b s w1 p1 X at_ nameAt name rv rs :=
  ⟨h.lt, h.kept.trans hk, hp, h.xge, (hk.block _ h.size0 (by have := h.lt; omega)).trans h.res, (hk.block _ h.size (by have := h.lt; have := h.xge; omega)).trans h.box, h.rules.same (fun k h1 h2 => hk.block k h2 (by have := h.lt; omega))⟩
theorem StateC.alloc (h : StateC w0 b s w p X at_ nameAt name rv rs) (o : Obj) : StateC w0 b s (w.alloc o) p X at_ nameAt name rv rs := h.keptBy ((Kept.refl _ _).alloc o) (h.rd.alloc o)
theorem StateC.drew (h : StateC w0 b s w p X at_ nameAt name rv rs) : StateC w0 b s w.drew p X at_ nameAt name rv rs := h.keptBy (Kept.refl _ _).drew (h.rd.same rfl)
theorem StateC.boxed (h : StateC w0 b s w p X at_ nameAt name rv rs) : w.cell? ⟨X, 0, none⟩ = some (.int .i64 (at_ : Int)) ∧ w.cell? ⟨X, 1, none⟩ = some (.int .i64 (nameAt : Int)) ∧ w.cell? ⟨X, 2, none⟩ = some (.string name) ∧ w.cell? ⟨X, 3, none⟩ = some rv ∧ ∀ o, w.frozen? ⟨X, o, none⟩ = false := by
  have hb := h.box
  simp [World.cell?, World.frozen?, hb]
theorem StateC.resd (h : StateC w0 b s w p X at_ nameAt name rv rs) : w.cell? ⟨w0.heap.size, 0, none⟩ = some (.int .i64 0) ∧ w.cell? ⟨w0.heap.size, 1, none⟩ = some (.int .i64 0) ∧ w.cell? ⟨w0.heap.size, 2, none⟩ = some (.string Pm.emp) ∧ w.cell? ⟨w0.heap.size, 3, none⟩ = some (.slice none 0 0) ∧ ∀ o, w.frozen? ⟨w0.heap.size, o, none⟩ = false := by
  have hb := h.res
  simp [World.cell?, World.frozen?, hb]
theorem StateC.storeR (h : StateC w0 b s w p X at_ nameAt name rv rs) {w1 : World} (hg : w.grownBy w1 rv.ownBlock) : w1.cell? ⟨X, 3, none⟩ = some rv ∧ w1.frozen? ⟨X, 3, none⟩ = false := by
  obtain ⟨xs, h1, h2, h3⟩ := h.rules
  have hb := (hg.block _ h.size (fun e => own_ne h2 h.box (by decide) e.symm)).trans h.box
  simp [World.cell?, World.frozen?, hb]
theorem StateC.addR (h : StateC w0 b s w p X at_ nameAt name rv rs) {w1 : World} {v' gv av : Value} {r : Pm.Rl} (hg : w.grownBy w1 rv.ownBlock)
    (hgd : GuardsC w w0.heap.size gv r.guards) (hac : ActsC w w0.heap.size av r.actions)
    {xs : List (Pm.Rl × Value × Value)} (h1 : xs.map (·.1) = rs) (h2 : w.ownsRow w0.heap.size 128 7 rv xs.length (rlC xs)) (h3 : ∀ x ∈ xs, GuardsC w w0.heap.size x.2.1 x.1.guards ∧ ActsC w w0.heap.size x.2.2 x.1.actions)
    (ho : w1.ownsRow w0.heap.size 128 7 v' (xs.length + 1) (rlC xs ++ [.int .i64 (r.at_ : Int), .int .i64 (r.eventAt : Int), .string r.event, gv, .int .i64 (r.to_ : Int), .string r.goal, av])) :
    StateC w0 b s (w1.setCell ⟨X, 3, none⟩ v') p X at_ nameAt name v' (rs ++ [r]) := by
  have hb : w1.heap[X]? = some (.cells #[.int .i64 (at_ : Int), .int .i64 (nameAt : Int), .string name, rv] 124 (0, 0)) := (hg.block _ h.size (fun e => own_ne h2 h.box (by decide) e.symm)).trans h.box
  have hpn : some b ≠ rv.ownBlock := fun e => by have := (World.ownsRow.lt h2 b e.symm).1; have := h.lt; omega
  refine ⟨h.lt, ?_, ?_, h.xge, ?_, ?_, ?_⟩
  · exact (h.kept.grown hg (fun k e => (World.ownsRow.lt h2 k e).1)).setNew ⟨_, _, none⟩ (by have := h.xge; simp; omega) v'
  · exact (h.rd.same (hg.block b h.rd.lt hpn)).other _ (by have := h.lt; have := h.xge; simp; omega) v'
  · exact (Below.heap_setCell _ _ _ _ (by have := h.xge; simp; omega)).trans ((hg.block _ h.size0 (fun e => own_ne h2 h.res (by decide) e.symm)).trans h.res)
  · simp only [World.setCell, Array.getElem?_modify, hb]; simp
  · refine RulesC.setOther (w := w1) ?_ hb v'
    refine ⟨xs ++ [(r, gv, av)], by simp [h1], ?_, ?_⟩
    · rw [rlC_snoc, List.length_append]; exact ho
    · intro x hx
      rcases List.mem_append.1 hx with hx | hx
      · exact ⟨ownsRow_grown' (h3 x hx).1 h2 hg (by decide), ownsRow_grown' (h3 x hx).2 h2 hg (by decide)⟩
      · simp at hx; subst hx
        exact ⟨ownsRow_grown' hgd h2 hg (by decide), ownsRow_grown' hac h2 hg (by decide)⟩
end

theorem Tryd.underlyingRulesC : Tryd.prog.underlying 122 = some (.slice 128) := by kernel_rfl
theorem Tryd.infoRuleC : (Tryd.prog.info? 128).map (fun i => (i.zero, i.size, i.bytes)) = some (some (.agg #[.int .i64 0, .int .i64 0, .string ByteArray.empty, .slice none 0 0, .int .i64 0, .string ByteArray.empty, .slice none 0 0]), 7, 104) := by kernel_rfl
theorem cell_seven_new (w : World) (a b c d e f g : Value) (t : TypeId) (k : Nat) (hk : k = w.heap.size) : ∀ j u, [a, b, c, d, e, f, g][j]? = some u → (w.alloc (.cells #[a, b, c, d, e, f, g] t)).cell? ((⟨k, 0, none⟩ : Addr).add j) = some u := by
  subst hk
  intro j u hj
  match j, hj with
  | 0, hj => simp at hj; subst hj; simp [Addr.add]
  | 1, hj => simp at hj; subst hj; simp [Addr.add]
  | 2, hj => simp at hj; subst hj; simp [Addr.add]
  | 3, hj => simp at hj; subst hj; simp [Addr.add]
  | 4, hj => simp at hj; subst hj; simp [Addr.add]
  | 5, hj => simp at hj; subst hj; simp [Addr.add]
  | 6, hj => simp at hj; subst hj; simp [Addr.add]
  | j + 7, hj => simp at hj
theorem one7 {t t' : ByteArray} {a a' : Option Addr} {n c n' c' : Nat} {x y z : Int} : ∀ u ∈ [Value.int .i64 x, .int .i64 y, .string t, .slice a n c, .int .i64 z, .string t', .slice a' n' c'], u.oneCell' = true := by
  intro u hu; simp at hu; rcases hu with rfl | rfl | rfl | rfl | rfl | rfl | rfl <;> rfl
/-- append onto a row of the call's own, as one step of a region that draws. -/
theorem step_append_own {P : Program} {ops : Array Oper} {o : Oper} {a : Act} {w : World} {K : Act → World → Prop} {Q : Exit → Act → World → Prop} {E : Prop}
    (hgd : o.guard = none) (s x : Operand) (t : TypeId) (ho : o.op = .call { callee := .builtin .append, args := #[s, x], argTypes := #[t, t] })
    (base : Nat) (e : TypeId) (i : TypeInfo) (z : Value) (size bytes : Nat) (ht : P.underlying t = some (.slice e)) (hi : P.info? e = some i) (hz : i.zero = some z)
    (hsize : i.size = size) (hby : i.bytes = bytes) (hzs : z.cells.size = size) (hsz : 0 < size)
    (v : Value) (n : Nat) (xs : List Value) (hs : a.eval s = v) (hown : w.ownsRow base e size v n xs)
    (ad : Addr) (m c : Nat) (news : List Value) (hx : a.eval x = .slice (some ad) m c) (hl : news.length = m * size) (hnews : ∀ j u, news[j]? = some u → w.cell? (ad.add j) = some u) (h1 : ∀ u ∈ news, u.oneCell' = true)
    (h63 : n + m ≤ maxLen) (hbytes : (n + m) * bytes ≤ 140737488355328) (hbase : base ≤ w.heap.size)
    (h : ∀ v' w', w'.ownsRow base e size v' (n + m) (xs ++ news) → w.grownBy w' v.ownBlock → (v' = .slice none 0 0 ↔ v = .slice none 0 0 ∧ m = 0) → K (a.put o.dst v') w') :
    if Region.wanted o (yielded ops a.tmps) = true then Oper.wp P o a w K Q else E := by
  have hw : Region.wanted o (yielded ops a.tmps) = true := by simp [Region.wanted, hgd]
  rw [if_pos hw]
  exact wp_append_own w s x t ho base e i z size bytes ht hi hz hsize hby hzs hsz v n xs hs hown ad m c news hx hl hnews h1 h63 hbytes hbase h
end Go.Proofs.YtcijookbgliglaaDoor
