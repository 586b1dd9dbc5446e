import Derived.Test.YtcijookbgliglaaDoorZD
import Derived.Maps.OwnSet
import Derived.Maps.OwnOps
import Derived.Maps.AppendAt
import Derived.Deep.OwnRows
import Derived.Laws.OwnMore
/- The columns of a machine: its map of events, and the walk over the program's addColumn. -/
namespace Go.Proofs.YtcijookbgliglaaDoor
open Go.RowKit Go.Maps Go.ChangeMaps Go.WideMaps

theorem Tryd.underlyingStr : Tryd.prog.underlying 9 = some .string := by kernel_rfl
theorem Tryd.underlyingInt : Tryd.prog.underlying 3 = some (.int .i64) := by kernel_rfl
theorem Tryd.underlyingCols : Tryd.prog.underlying 105 = some (.map 9 3) := by kernel_rfl
theorem colsLaw : Keyed Tryd.prog 9 := string_keyed Tryd.underlyingStr
theorem zeroInt (w : World) : (zeroValue 3).run Tryd.prog w = .ok (.int .i64 0) w := by kernel_rfl

def kl (s : ByteArray) : Lit := .string s.data.toList
theorem kl_ne {s t : ByteArray} (h : s ≠ t) : kl s ≠ kl t := by
  intro e
  unfold kl at e
  simp only [Lit.string.injEq] at e
  apply h
  cases s; cases t
  simp at e
  simp [e]
theorem kl_ok (s : ByteArray) : WideAt.IsKeyLit (kl s) := by
  unfold kl; simp [WideAt.IsKeyLit]
open Classical in
noncomputable def addC (cols : List ByteArray) (s : ByteArray) : List ByteArray := if s ∈ cols then cols else cols ++ [s]

/-- Block b is a map that leads from each column's event to its number. -/
def ColsC (w : World) (b : Nat) (cols : List ByteArray) : Prop :=
  ∃ D : DataW Unit, w.ownsMap Tryd.prog 9 (plainElem Tryd.prog 3) b cols.length D ∧ Maps.size D = cols.length ∧ (∀ s, Maps.has D (kl s) = true ↔ s ∈ cols) ∧ ∀ (i : Nat) (h : i < cols.length), D.atKey (kl cols[i]) (.lit (.int .i64 0)) = .lit (.int .i64 (i : Int))
theorem ColsC.made (w : World) : ColsC (w.alloc (.map #[] 0)) w.heap.size [] :=
  ⟨.map [], World.ownsMap_made _ _ _ _, rfl, fun s => by simp [Maps.has], fun i h => by simp at h⟩
theorem ColsC.kept {w w' : World} {b : Nat} {cols : List ByteArray} {row : Option Nat} (h : ColsC w b cols) (hg : w.grownBy w' row) (hne : some b ≠ row) : ColsC w' b cols := by
  obtain ⟨D, h1, h2⟩ := h
  exact ⟨D, h1.kept hg hne, h2⟩
theorem ColsC.below {w w' : World} {b : Nat} {cols : List ByteArray} (h : ColsC w b cols) (hb : Below w.heap.size w w') : ColsC w' b cols :=
  h.kept (row := none) ⟨hb.os, hb.tape, hb.output, hb.size, fun k hk _ => hb.block k hk⟩ (by simp)
theorem ColsC.lt {w : World} {b : Nat} {cols : List ByteArray} (h : ColsC w b cols) : b < w.heap.size := by
  obtain ⟨D, h1, _⟩ := h; exact h1.lt
theorem ColsC.put {w w' : World} {b : Nat} {cols : List ByteArray} {s : ByteArray} {D : DataW Unit} (ho : w.ownsMap Tryd.prog 9 (plainElem Tryd.prog 3) b cols.length D) (hz : Maps.size D = cols.length) (hh : ∀ s, Maps.has D (kl s) = true ↔ s ∈ cols) (ha : ∀ (i : Nat) (h : i < cols.length), D.atKey (kl cols[i]) (.lit (.int .i64 0)) = .lit (.int .i64 (i : Int)))
    (hs : s ∉ cols) (ho' : w'.ownsMap Tryd.prog 9 (plainElem Tryd.prog 3) b (cols.length + 1) (D.put (kl s) (.lit (.int .i64 (cols.length : Int))))) : ColsC w' b (cols ++ [s]) := by
  have hn : Maps.has D (kl s) = false := by
    cases e : Maps.has D (kl s)
    · rfl
    · exact absurd ((hh s).1 e) hs
  refine ⟨_, by rw [List.length_append]; exact ho', ?_, ?_, ?_⟩
  · rw [size_put (ho.tidy colsLaw), hn, hz]; simp
  · intro t
    by_cases e : t = s
    · subst e
      rw [has_put_same ho.isMap (kl_ok _)]; simp
    · rw [has_put_other (kl_ne e), hh t]; simp [e]
  · intro i hi
    rw [List.length_append] at hi
    simp at hi
    by_cases e : i < cols.length
    · rw [List.getElem_append_left e, atKey_put_other (kl_ne (fun h => hs (by rw [← h]; exact List.getElem_mem e)))]
      exact ha i e
    · have : i = cols.length := by omega
      subst this
      rw [List.getElem_append_right (Nat.le_refl _)]
      simp only [Nat.sub_self, List.getElem_cons_zero]
      exact atKey_put_same ho.isMap (kl_ok _) _ _

set_option maxRecDepth 100000 in
set_option maxHeartbeats 2000000 in
theorem addCol_any (w : World) (X b : Nat) (cols : List ByteArray) (s : ByteArray) (a0 a2 : Option Addr) (n0 c0 n2 c2 : Nat) (hX : w.heap[X]? = some (.cells #[.slice a0 n0 c0, .map (some b), .slice a2 n2 c2] 108 (0, 0))) (hc : ColsC w b cols) (hl : cols.length ≤ 301) (hs : s.size ≤ 301) :
    Calls Tryd.prog 49 #[.pointer (some ⟨X, 0, none⟩), .string s] w fun e w' => e = .returned (.tuple #[]) ∧ ColsC w' b (addC cols s) ∧ w.grownBy w' (some b) := by
  obtain ⟨D, ho, hz, hh, ha⟩ := hc
  have hkey : keyOf Tryd.prog 9 (.string s) = some (kl s) := keyOf_string_mk Tryd.underlyingStr (by unfold maxLen; omega)
  obtain ⟨x0, x1, x2, -⟩ := blk3 hX
  have hXl : X < w.heap.size := (Array.getElem?_eq_some_iff.1 hX).1
  have HO := hide ho
  have HZ := hide hz
  have HH := hide hh
  have HA := hide ha
  have HX := hide hX
  clear ho hz hh ha hX
  cases hq : Maps.has D (kl s)
  · have hns : s ∉ cols := fun e => by rw [(HH.out s).2 e] at hq; cases hq
    have hln := HO.out.drew.len Tryd.underlyingCols 3
    rw [HZ.out] at hln
    obtain ⟨w', hrun, hown', hturn⟩ := HO.out.drew.store (val := .int .i64 (cols.length : Int)) colsLaw Tryd.underlyingCols (by unfold maxLen; omega) hkey (plainElem_int Tryd.underlyingInt (WalkArith.wf_i64 (by omega)))
    have HC := hide (ColsC.put HO.out HZ.out HH.out HA.out hns hown')
    have HG := hide hturn.grown
    have hadd : addC cols s = cols ++ [s] := if_neg hns
    clear hns hown' hturn
    go_enter Tryd.func49, Tryd.ntmps49
    go_wp2_with (first | (at_lookup; refine wpList_lookup_own_ok_int _ rfl _ _ 105 rfl 9 3 .i64 colsLaw Tryd.underlyingCols Tryd.underlyingInt (zeroInt _) b cols.length D rfl HO.out _ _ rfl hkey ?_; intro c hat hwc))
    go_region
    all_goals
      go_end0
      refine ⟨rfl, ?_, ?_⟩
      · rw [hadd]; exact HC.out
      · exact ⟨HG.out.os, HG.out.tape, HG.out.output, HG.out.size, HG.out.block⟩
  · have hns : s ∈ cols := (HH.out s).1 hq
    have hadd : addC cols s = cols := if_pos hns
    clear hns
    go_enter Tryd.func49, Tryd.ntmps49
    go_wp2_with (first | (at_lookup; refine wpList_lookup_own_ok_int _ rfl _ _ 105 rfl 9 3 .i64 colsLaw Tryd.underlyingCols Tryd.underlyingInt (zeroInt _) b cols.length D rfl HO.out _ _ rfl hkey ?_; intro c hat hwc))
    go_end0
    refine ⟨rfl, ?_, World.grownBy.refl _ _⟩
    rw [hadd]
    exact ⟨D, HO.out, HZ.out, HH.out, HA.out⟩
end Go.Proofs.YtcijookbgliglaaDoor

/- A row of the table of steps: how it lies in memory while the program lays it out. -/
namespace Go.Proofs.YtcijookbgliglaaDoor
open Go.RowKit

abbrev Se := Nat × Pm.Rl
def stpC (sts : List Pm.St) (xs : List (Se × Value × Value)) : List Value := xs.flatMap fun x => [.int .i64 (x.1.1 : Int), x.2.1, .int .i64 (goalOf sts x.1.2.goal), x.2.2]
theorem stpC_snoc (sts : List Pm.St) (xs : List (Se × Value × Value)) (x : Se × Value × Value) : stpC sts (xs ++ [x]) = stpC sts xs ++ [.int .i64 (x.1.1 : Int), x.2.1, .int .i64 (goalOf sts x.1.2.goal), x.2.2] := by simp [stpC]
def StepsC (w : World) (base : Nat) (sts : List Pm.St) (v : Value) (es : List Se) : Prop :=
  ∃ xs : List (Se × Value × Value), xs.map (·.1) = es ∧ w.ownsRow base 100 4 v xs.length (stpC sts xs) ∧ ∀ x ∈ xs, CondsC w base x.2.1 x.1.2.guards ∧ ActsR w base x.2.2 x.1.2.actions
theorem StepsC.same {w w' : World} {base : Nat} {sts : List Pm.St} {v : Value} {es : List Se} (h : StepsC w base sts v es) (hb : ∀ k, base ≤ k → k < w.heap.size → w'.heap[k]? = w.heap[k]?) : StepsC w' base sts v es := by
  obtain ⟨xs, h1, h2, h3⟩ := h
  exact ⟨xs, h1, ownsRow_same h2 hb, fun x hx => ⟨ownsRow_same (h3 x hx).1 hb, ownsRow_same (h3 x hx).2 hb⟩⟩
theorem ownsRow_apart {w w' : World} {base : Nat} {e : TypeId} {size : Nat} {v : Value} {n : Nat} {xs : List Value} {row : Option Nat} (h : w.ownsRow base e size v n xs) (hg : w.grownBy w' row) (hne : ∀ k, v.ownBlock = some k → row ≠ some k) : w'.ownsRow base e size v n xs := by
  refine ⟨h.1, ?_⟩
  rcases h.2 with hn | ⟨g, cap, cur, hv, hb, hh, rest⟩
  · exact .inl hn
  · exact .inr ⟨g, cap, cur, hv, hb, (hg.block g (Array.getElem?_eq_some_iff.1 hh).1 (fun e => hne g (by rw [hv]; rfl) e.symm)).trans hh, rest⟩

/-- Block g is a row of n columns; column i has the steps ess i. -/
def RowC (w : World) (base : Nat) (sts : List Pm.St) (g n : Nat) (ess : Nat → List Se) : Prop :=
  ∃ vs : List Value, vs.length = n ∧ base ≤ g ∧ w.heap[g]? = some (.cells vs.toArray 103 (0, 0)) ∧ (∀ (i : Nat) (h : i < vs.length), StepsC w base sts vs[i] (ess i)) ∧
    ∀ (i j : Nat) (hi : i < vs.length) (hj : j < vs.length) (k : Nat), i ≠ j → vs[i].ownBlock = some k → vs[j].ownBlock ≠ some k
theorem RowC.same {w w' : World} {base : Nat} {sts : List Pm.St} {g n : Nat} {ess : Nat → List Se} (h : RowC w base sts g n ess) (hb : ∀ k, base ≤ k → k < w.heap.size → w'.heap[k]? = w.heap[k]?) : RowC w' base sts g n ess := by
  obtain ⟨vs, h1, h2, h3, h4, h5⟩ := h
  exact ⟨vs, h1, h2, (hb g h2 (Array.getElem?_eq_some_iff.1 h3).1).trans h3, fun i hi => (h4 i hi).same hb, h5⟩
theorem RowC.made {w : World} {base : Nat} (sts : List Pm.St) {g n : Nat} (hb : base ≤ g) (h : w.heap[g]? = some (.cells (List.replicate n (.slice none 0 0)).toArray 103 (0, 0))) : RowC w base sts g n (fun _ => []) := by
  refine ⟨List.replicate n (.slice none 0 0), by simp, hb, h, ?_, ?_⟩
  · intro i hi
    rw [List.getElem_replicate]
    exact ⟨[], rfl, ⟨rfl, .inl ⟨rfl, rfl⟩⟩, fun x hx => by simp at hx⟩
  · intro i j hi hj k _ he
    rw [List.getElem_replicate] at he
    cases he
/-- Behind an append onto a column, and its store. -/
theorem RowC.add {w : World} {base : Nat} {sts : List Pm.St} {g n : Nat} {ess : Nat → List Se} {vs : List Value} (h1 : vs.length = n) (h2 : base ≤ g) (h3 : w.heap[g]? = some (.cells vs.toArray 103 (0, 0))) (h4 : ∀ (i : Nat) (h : i < vs.length), StepsC w base sts vs[i] (ess i))
    (h5 : ∀ (i j : Nat) (hi : i < vs.length) (hj : j < vs.length) (k : Nat), i ≠ j → vs[i].ownBlock = some k → vs[j].ownBlock ≠ some k)
    {i : Nat} (hi : i < vs.length) {w1 : World} (hg : w.grownBy w1 vs[i].ownBlock) {v' gv av : Value} {e : Se} {xs : List (Se × Value × Value)} (hx1 : xs.map (·.1) = ess i) (hx2 : w.ownsRow base 100 4 vs[i] xs.length (stpC sts xs)) (hx3 : ∀ x ∈ xs, CondsC w base x.2.1 x.1.2.guards ∧ ActsR w base x.2.2 x.1.2.actions)
    (hgv : CondsC w base gv e.2.guards) (hav : ActsR w base av e.2.actions) (ho : w1.ownsRow base 100 4 v' (xs.length + 1) (stpC sts xs ++ [.int .i64 (e.1 : Int), gv, .int .i64 (goalOf sts e.2.goal), av])) (hl : v'.ownBlock = vs[i].ownBlock ∨ v'.ownBlock = some w.heap.size) :
    RowC (w1.setCell ⟨g, i, none⟩ v') base sts g n (fun j => if j = i then ess i ++ [e] else ess j) ∧ w1.cell? ⟨g, i, none⟩ = some vs[i] ∧ w1.frozen? ⟨g, i, none⟩ = false := by
  have hgl : g < w.heap.size := (Array.getElem?_eq_some_iff.1 h3).1
  have hb1 : w1.heap[g]? = some (.cells vs.toArray 103 (0, 0)) := (hg.block g hgl (fun e' => own_ne hx2 h3 (by decide) e'.symm)).trans h3
  refine ⟨⟨vs.set i v', by simp [h1], h2, ?_, ?_, ?_⟩, ?_, ?_⟩
  · simp only [World.setCell, Array.getElem?_modify, hb1]; simp
  · intro j hj0
    have hj : j < vs.length := by simpa using hj0
    by_cases e' : j = i
    · subst e'
      rw [List.getElem_set_self]; show StepsC _ _ _ _ (if _ then _ else _); rw [if_pos rfl]
      refine ⟨xs ++ [(e, gv, av)], by simp [hx1], ?_, ?_⟩
      · rw [stpC_snoc, List.length_append]
        exact ownsRow_set_other ho hb1 (by decide) v'
      · intro x hx
        rcases List.mem_append.1 hx with hx | hx
        · exact ⟨ownsRow_set_other (ownsRow_grown (hx3 x hx).1 hx2 hg (by decide)) hb1 (by decide) v', ownsRow_set_other (ownsRow_grown (hx3 x hx).2 hx2 hg (by decide)) hb1 (by decide) v'⟩
        · simp at hx; subst hx
          exact ⟨ownsRow_set_other (ownsRow_grown hgv hx2 hg (by decide)) hb1 (by decide) v', ownsRow_set_other (ownsRow_grown hav hx2 hg (by decide)) hb1 (by decide) v'⟩
    · rw [List.getElem_set_ne (fun h => e' h.symm)]; show StepsC _ _ _ _ (if _ then _ else _); rw [if_neg e']
      obtain ⟨ys, y1, y2, y3⟩ := h4 j hj
      refine ⟨ys, y1, ownsRow_set_other (ownsRow_apart y2 hg (fun k hk => ?_)) hb1 (by decide) v', fun x hx => ⟨ownsRow_set_other (ownsRow_grown (y3 x hx).1 hx2 hg (by decide)) hb1 (by decide) v', ownsRow_set_other (ownsRow_grown (y3 x hx).2 hx2 hg (by decide)) hb1 (by decide) v'⟩⟩
      exact h5 j i hj hi k e' hk
  · intro p q hp0 hq0 k hpq
    have hp : p < vs.length := by simpa using hp0
    have hq : q < vs.length := by simpa using hq0
    have hold : ∀ (p : Nat) (hp : p < vs.length) (k : Nat), vs[p].ownBlock = some k → k < w.heap.size := fun p hp k hk => by
      obtain ⟨ys, _, y2, _⟩ := h4 p hp
      exact (World.ownsRow.lt y2 k hk).2
    by_cases ep : p = i
    · subst ep
      rw [List.getElem_set_self, List.getElem_set_ne hpq]
      intro hk hk2
      rcases hl with hl | hl
      · rw [hl] at hk; exact h5 _ _ hi hq k hpq hk hk2
      · rw [hl] at hk; have := hold q hq k hk2; simp at hk; omega
    · rw [List.getElem_set_ne (fun h => ep h.symm)]
      intro hk
      by_cases eq : q = i
      · subst eq
        rw [List.getElem_set_self]
        intro hk2
        rcases hl with hl | hl
        · rw [hl] at hk2; exact h5 _ _ hp hi k hpq hk hk2
        · rw [hl] at hk2; have := hold p hp k hk; simp at hk2; omega
      · rw [List.getElem_set_ne (fun h => eq h.symm)]
        exact h5 p q hp hq k hpq hk
  · simp [World.cell?, hb1, hi]
  · simp [World.frozen?, hb1]
end Go.Proofs.YtcijookbgliglaaDoor

/- The walk over the program's row. -/
namespace Go.Proofs.YtcijookbgliglaaDoor
open Go.RowKit Go.Maps Go.WideMaps

theorem step_append_own_at {P : Program} {ops : Array Oper} {o : Oper} {a : Act} {w : World} {K : Act → World → Prop} {Q : Exit → Act → World → Prop} {E : Prop}
    (hgd : o.guard = none) (s x : Operand) (t : TypeId) (ho : o.op = .call { callee := .builtin .append, args := #[s, x], argTypes := #[t, t] })
    (base : Nat) (e : TypeId) (i : TypeInfo) (z : Value) (size bytes : Nat) (ht : P.underlying t = some (.slice e)) (hi : P.info? e = some i) (hz : i.zero = some z)
    (hsize : i.size = size) (hby : i.bytes = bytes) (hzs : z.cells.size = size) (hsz : 0 < size)
    (v : Value) (n : Nat) (xs : List Value) (hs : a.eval s = v) (hown : w.ownsRow base e size v n xs)
    (ad : Addr) (m c : Nat) (news : List Value) (hx : a.eval x = .slice (some ad) m c) (hl : news.length = m * size) (hnews : ∀ j u, news[j]? = some u → w.cell? (ad.add j) = some u) (h1 : ∀ u ∈ news, u.oneCell' = true)
    (h63 : n + m ≤ maxLen) (hbytes : (n + m) * bytes ≤ 140737488355328) (hbase : base ≤ w.heap.size)
    (h : ∀ v' w', w'.ownsRow base e size v' (n + m) (xs ++ news) → w.grownBy w' v.ownBlock → (v'.ownBlock = v.ownBlock ∨ v'.ownBlock = some w.heap.size) → K (a.put o.dst v') w') :
    if Region.wanted o (yielded ops a.tmps) = true then Oper.wp P o a w K Q else E := by
  have hw : Region.wanted o (yielded ops a.tmps) = true := by simp [Region.wanted, hgd]
  rw [if_pos hw]
  obtain ⟨v', w', hr, h2, h3, h4, h5⟩ := run_append_own_at (P := P) w base t o.type e i z size bytes ht hi hz hsize hby hzs hsz v n xs hown ad m c news hl hnews h1 h63 hbytes hbase
  unfold Oper.wp execOp
  simp only [ho, resolve, invoke, builtin, Sem.run_bind, Sem.run_pure, Result.andThen_ok, List.map_toArray, List.map_cons, List.map_nil, hs, hx, hr]
  exact h v' w' h2 h3 h5

theorem ColsC.look {w : World} {b : Nat} {cols : List ByteArray} (h : ColsC w b cols) (i : Nat) (hi : i < cols.length) (hs : cols[i].size ≤ 301) : (Instr.lookup 105 (.map (some b)) (.string cols[i]) false).run Tryd.prog w = .ok (.int .i64 (i : Int)) w := by
  obtain ⟨D, ho, _, _, ha⟩ := h
  obtain ⟨c, hrun, hat, _⟩ := ho.lookup_int colsLaw Tryd.underlyingCols Tryd.underlyingInt (zeroInt _) (keyOf_string_mk Tryd.underlyingStr (s := cols[i]) (by unfold maxLen; omega))
  have := ha i hi
  unfold kl at this
  rw [hat] at this
  simp at this
  rw [hrun, this]
theorem ColsC.lenC {w : World} {b : Nat} {cols : List ByteArray} (h : ColsC w b cols) (ty : TypeId) : (Builtin.len_ #[105] ty #[.map (some b)]).run Tryd.prog w = .ok (.int .i64 (cols.length : Int)) w := by
  obtain ⟨D, ho, hz, _⟩ := h
  rw [ho.len Tryd.underlyingCols, hz]
theorem ColsC.inj {w : World} {b : Nat} {cols : List ByteArray} (h : ColsC w b cols) {i j : Nat} (hi : i < cols.length) (hj : j < cols.length) (he : cols[i] = cols[j]) : i = j := by
  obtain ⟨D, _, _, _, ha⟩ := h
  have h1 := ha i hi
  have h2 := ha j hj
  rw [he, h2] at h1
  simp at h1
  omega

/-- The steps of column i, of the first k rules. -/
def rowTo (cols : List ByteArray) (rs : List Pm.Rl) (k : Nat) (i : Nat) : List Se := ((rs.take k).zipIdx.filter (fun p => decide (cols[i]? = some p.1.event))).map (fun p => (p.2, p.1))
theorem rowTo_step {w : World} {b : Nat} {cols : List ByteArray} (h : ColsC w b cols) (rs : List Pm.Rl) (k : Nat) (hk : k < rs.length) (i0 : Nat) (hi : i0 < cols.length) (he : cols[i0] = rs[k].event) :
    rowTo cols rs (k + 1) = fun j => if j = i0 then rowTo cols rs k i0 ++ [(k, rs[k])] else rowTo cols rs k j := by
  funext j
  have hst : rowTo cols rs (k + 1) j = rowTo cols rs k j ++ (([(rs[k], k)] : List (Pm.Rl × Nat)).filter (fun p => decide (cols[j]? = some p.1.event))).map (fun p => (p.2, p.1)) := by
    unfold rowTo
    rw [List.take_succ_eq_append_getElem hk, List.zipIdx_append, List.filter_append, List.map_append]
    congr 3
    simp [List.length_take]
    omega
  rw [hst]
  by_cases e : j = i0
  · subst e
    rw [if_pos rfl]
    simp [List.getElem?_eq_getElem hi, he]
  · rw [if_neg e]
    have hne : cols[j]? ≠ some rs[k].event := by
      intro hc
      obtain ⟨hj, hc⟩ := List.getElem?_eq_some_iff.1 hc
      exact e (h.inj hj hi (by rw [hc, he]))
    simp [hne]

theorem Tryd.underlyingRow : Tryd.prog.underlying 130 = some (.slice 103) := by kernel_rfl
theorem Tryd.infoRow : (Tryd.prog.info? 103).map (fun i => (i.zero, i.size, i.bytes)) = some (some (.slice none 0 0), 1, 24) := by kernel_rfl
theorem Tryd.underlyingSteps : Tryd.prog.underlying 103 = some (.slice 100) := by kernel_rfl
theorem Tryd.infoStep : (Tryd.prog.info? 100).map (fun i => (i.zero, i.size, i.bytes)) = some (some (.agg #[.int .i64 0, .slice none 0 0, .int .i64 0, .slice none 0 0]), 4, 64) := by kernel_rfl
theorem one4S {a a' : Option Addr} {n c n' c' : Nat} {x y : Int} : ∀ u ∈ [Value.int .i64 x, .slice a n c, .int .i64 y, .slice a' n' c'], u.oneCell' = true := by
  intro u hu; simp at hu; rcases hu with rfl | rfl | rfl | rfl <;> rfl
end Go.Proofs.YtcijookbgliglaaDoor
