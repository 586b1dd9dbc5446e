import Derived.Test.YtcijookbgliglaaDoorZq
/- A machine: how it lies in memory while the program lays it out. -/
namespace Go.Proofs.YtcijookbgliglaaDoor
open Go.RowKit Go.Maps

structure LayIn (w0 w : World) (sts : List Pm.St) (sv : Value) (nm : List ByteArray) (cols : List ByteArray) (tv : Value) (gs : List Nat) (ess : Nat → Nat → List Se) : Prop where
  below : Below w0.heap.size w0 w
  box : w.heap[w0.heap.size + 1]? = some (.cells #[sv, .map (some w0.heap.size), tv] 108 (0, 0))
  cols_ : ColsC w w0.heap.size cols
  names : w.ownsRow w0.heap.size 9 1 sv nm.length (nm.map Value.string)
  table : w.ownsRow w0.heap.size 130 1 tv gs.length (gs.map fun g => Value.slice (some ⟨g, 0, none⟩) cols.length cols.length)
  rows : ∀ (i : Nat) (h : i < gs.length), RowC w w0.heap.size sts gs[i] cols.length (ess i)
section
variable {w0 w : World} {sts : List Pm.St} {sv : Value} {nm cols : List ByteArray} {tv : Value} {gs : List Nat} {ess : Nat → Nat → List Se}

theorem LayIn.size (h : LayIn w0 w sts sv nm cols tv gs ess) : w0.heap.size + 1 < w.heap.size := (Array.getElem?_eq_some_iff.1 h.box).1
theorem LayIn.by_ (h : LayIn w0 w sts sv nm cols tv gs ess) {w' : World} (hb : Below w.heap.size w w') : LayIn w0 w' sts sv nm cols tv gs ess :=
  ⟨h.below.trans (hb.mono h.below.size), (hb.block _ h.size).trans h.box, h.cols_.below hb, ownsRow_same h.names (fun k _ h2 => hb.block k h2), ownsRow_same h.table (fun k _ h2 => hb.block k h2), fun i hi => (h.rows i hi).same (fun k _ h2 => hb.block k h2)⟩
theorem LayIn.alloc (h : LayIn w0 w sts sv nm cols tv gs ess) (o : Obj) : LayIn w0 (w.alloc o) sts sv nm cols tv gs ess := h.by_ ((Below.refl _ _).alloc (Nat.le_refl _) o)
theorem colsC_set {w : World} {b : Nat} {cols : List ByteArray} (h : ColsC w b cols) {a : Addr} (ha : b ≠ a.block) (u : Value) : ColsC (w.setCell a u) b cols := by
  obtain ⟨D, h1, h2⟩ := h
  exact ⟨D, h1.setCell ha u, h2⟩
theorem colsC_no {w : World} {b : Nat} {cols : List ByteArray} (h : ColsC w b cols) {base : Nat} {e : TypeId} {size : Nat} {v : Value} {n : Nat} {xs : List Value} (ho : w.ownsRow base e size v n xs) : v.ownBlock ≠ some b := by
  intro hv
  obtain ⟨D, ⟨es, clock, hb, _⟩, _⟩ := h
  rcases ho.2 with ⟨rfl, _⟩ | ⟨g, cap, cur, rfl, hg, hh, rest⟩
  · simp [Value.ownBlock] at hv
  · simp [Value.ownBlock] at hv
    subst hv
    rw [hb] at hh
    cases hh
theorem LayIn.addName (h : LayIn w0 w sts sv nm cols tv [] ess) {w1 : World} {v' : Value} {s : ByteArray} (hg : w.grownBy w1 sv.ownBlock) (ho : w1.ownsRow w0.heap.size 9 1 v' (nm.length + 1) (nm.map Value.string ++ [.string s])) :
    LayIn w0 (w1.setCell ⟨w0.heap.size + 1, 0, none⟩ v') sts v' (nm ++ [s]) cols tv [] ess := by
  have hb : w1.heap[w0.heap.size + 1]? = some (.cells #[sv, .map (some w0.heap.size), tv] 108 (0, 0)) := (hg.block _ h.size (fun e => own_ne h.names h.box (by decide) e.symm)).trans h.box
  refine ⟨?_, ?_, ?_, ?_, ?_, fun i hi => by simp at hi⟩
  · exact (h.below.grown hg h.below.size (fun k e => (World.ownsRow.lt h.names k e).1)).setCell (by simp) v'
  · simp only [World.setCell, Array.getElem?_modify, hb]; simp
  · exact colsC_set (h.cols_.kept hg (fun e => colsC_no h.cols_ h.names e.symm)) (by simp) v'
  · rw [List.map_append, List.length_append]
    exact ownsRow_set_other ho hb (by decide) v'
  · exact ownsRow_set_other (ownsRow_grown h.table h.names hg (by decide)) hb (by decide) v'
theorem LayIn.setCols (h : LayIn w0 w sts sv nm cols tv [] ess) {w1 : World} {cols' : List ByteArray} (hg : w.grownBy w1 (some w0.heap.size)) (hc : ColsC w1 w0.heap.size cols') : LayIn w0 w1 sts sv nm cols' tv [] ess := by
  refine ⟨?_, ?_, hc, ?_, ?_, fun i hi => by simp at hi⟩
  · exact h.below.grown hg h.below.size (fun k e => by simp at e; omega)
  · exact (hg.block _ h.size (by simp)).trans h.box
  · exact ownsRow_apart h.names hg (fun k hk e => by simp at e; subst e; exact colsC_no h.cols_ h.names hk)
  · exact ownsRow_apart h.table hg (fun k hk e => by simp at e; subst e; exact colsC_no h.cols_ h.table hk)
theorem RowC.grown {base g n : Nat} {ess : Nat → List Se} (h : RowC w base sts g n ess) {e : TypeId} {size m : Nat} {v : Value} {xs : List Value} {w1 : World} (ho : w.ownsRow base e size v m xs) (hg : w.grownBy w1 v.ownBlock) (h1 : 103 ≠ e) (h2 : 100 ≠ e) (h3 : 134 ≠ e) (h4 : 9 ≠ e) : RowC w1 base sts g n ess := by
  obtain ⟨vs, a1, a2, a3, a4, a5⟩ := h
  refine ⟨vs, a1, a2, (hg.block g (Array.getElem?_eq_some_iff.1 a3).1 (fun e' => own_ne ho a3 h1 e'.symm)).trans a3, fun i hi => ?_, a5⟩
  obtain ⟨ys, y1, y2, y3⟩ := a4 i hi
  exact ⟨ys, y1, ownsRow_grown y2 ho hg h2, fun x hx => ⟨ownsRow_grown (y3 x hx).1 ho hg h3, ownsRow_grown (y3 x hx).2 ho hg h4⟩⟩
theorem RowC.setOther {base g n : Nat} {ess : Nat → List Se} (h : RowC w base sts g n ess) {p : Addr} {cs : Array Value} {T : TypeId} {fr : Nat × Nat} (hk : w.heap[p.block]? = some (.cells cs T fr)) (h1 : T ≠ 103) (h2 : T ≠ 100) (h3 : T ≠ 134) (h4 : T ≠ 9) (u : Value) : RowC (w.setCell p u) base sts g n ess := by
  obtain ⟨vs, a1, a2, a3, a4, a5⟩ := h
  refine ⟨vs, a1, a2, (Below.heap_setCell _ _ _ _ (fun e => ?_)).trans a3, fun i hi => ?_, a5⟩
  · rw [← e, a3] at hk
    simp at hk
    exact h1 hk.2.1.symm
  · obtain ⟨ys, y1, y2, y3⟩ := a4 i hi
    exact ⟨ys, y1, ownsRow_set_other y2 hk h2 u, fun x hx => ⟨ownsRow_set_other (y3 x hx).1 hk h3 u, ownsRow_set_other (y3 x hx).2 hk h4 u⟩⟩
theorem LayIn.addRow (h : LayIn w0 w sts sv nm cols tv gs ess) {w1 : World} {v' : Value} {g : Nat} (hr : RowC w w0.heap.size sts g cols.length (ess gs.length)) (hg : w.grownBy w1 tv.ownBlock) (ho : w1.ownsRow w0.heap.size 130 1 v' (gs.length + 1) (gs.map (fun g => Value.slice (some ⟨g, 0, none⟩) cols.length cols.length) ++ [.slice (some ⟨g, 0, none⟩) cols.length cols.length])) :
    LayIn w0 (w1.setCell ⟨w0.heap.size + 1, 2, none⟩ v') sts sv nm cols v' (gs ++ [g]) ess := by
  have hb : w1.heap[w0.heap.size + 1]? = some (.cells #[sv, .map (some w0.heap.size), tv] 108 (0, 0)) := (hg.block _ h.size (fun e => own_ne h.table h.box (by decide) e.symm)).trans h.box
  refine ⟨?_, ?_, ?_, ?_, ?_, ?_⟩
  · exact (h.below.grown hg h.below.size (fun k e => (World.ownsRow.lt h.table k e).1)).setCell (by simp) v'
  · simp only [World.setCell, Array.getElem?_modify, hb]; simp
  · exact colsC_set (h.cols_.kept hg (fun e => colsC_no h.cols_ h.table e.symm)) (by simp) v'
  · exact ownsRow_set_other (ownsRow_grown h.names h.table hg (by decide)) hb (by decide) v'
  · rw [List.map_append, List.length_append]
    exact ownsRow_set_other ho hb (by decide) v'
  · intro i hi
    rw [List.length_append] at hi
    simp at hi
    by_cases e : i < gs.length
    · rw [List.getElem_append_left e]
      exact ((h.rows i e).grown h.table hg (by decide) (by decide) (by decide) (by decide)).setOther hb (by decide) (by decide) (by decide) (by decide) v'
    · have : i = gs.length := by omega
      subst this
      rw [List.getElem_append_right (Nat.le_refl _)]
      simp only [Nat.sub_self, List.getElem_cons_zero]
      exact (hr.grown h.table hg (by decide) (by decide) (by decide) (by decide)).setOther hb (by decide) (by decide) (by decide) (by decide) v'
theorem LayIn.storeN (h : LayIn w0 w sts sv nm cols tv gs ess) {w1 : World} (hg : w.grownBy w1 sv.ownBlock) : w1.cell? ⟨w0.heap.size + 1, 0, none⟩ = some sv ∧ w1.frozen? ⟨w0.heap.size + 1, 0, none⟩ = false := by
  have hb := (hg.block _ h.size (fun e => own_ne h.names h.box (by decide) e.symm)).trans h.box
  simp [World.cell?, World.frozen?, hb]
theorem LayIn.storeT (h : LayIn w0 w sts sv nm cols tv gs ess) {w1 : World} (hg : w.grownBy w1 tv.ownBlock) : w1.cell? ⟨w0.heap.size + 1, 2, none⟩ = some tv ∧ w1.frozen? ⟨w0.heap.size + 1, 2, none⟩ = false := by
  have hb := (hg.block _ h.size (fun e => own_ne h.table h.box (by decide) e.symm)).trans h.box
  simp [World.cell?, World.frozen?, hb]
end
end Go.Proofs.YtcijookbgliglaaDoor

/- The walk over the program's layOut. -/
namespace Go.Proofs.YtcijookbgliglaaDoor
open Go.RowKit Go.Maps

noncomputable def evs (l : List Pm.Rl) (c : List ByteArray) : List ByteArray := l.foldl (fun c r => addC c r.event) c
noncomputable def colsTo (sts : List Pm.St) : List ByteArray := sts.foldl (fun c st => evs st.rules c) []
theorem addC_len (c : List ByteArray) (s : ByteArray) : (addC c s).length ≤ c.length + 1 := by
  unfold addC; split <;> simp
theorem addC_mem (c : List ByteArray) (s t : ByteArray) (h : t ∈ c) : t ∈ addC c s := by
  unfold addC; split
  · exact h
  · exact List.mem_append.2 (.inl h)
theorem addC_self (c : List ByteArray) (s : ByteArray) : s ∈ addC c s := by
  unfold addC; split
  · assumption
  · simp
theorem evs_len : ∀ (l : List Pm.Rl) (c : List ByteArray), (evs l c).length ≤ c.length + l.length
  | [], c => by simp [evs]
  | r :: t, c => by
    have h1 := evs_len t (addC c r.event)
    have h2 := addC_len c r.event
    simp only [evs, List.foldl_cons] at h1 ⊢
    simp only [List.length_cons]
    omega
theorem evs_mem : ∀ (l : List Pm.Rl) (c : List ByteArray) (t : ByteArray), t ∈ c → t ∈ evs l c
  | [], _, _, h => h
  | r :: l, c, t, h => evs_mem l _ t (addC_mem c r.event t h)
theorem evs_self : ∀ (l : List Pm.Rl) (c : List ByteArray) (r : Pm.Rl), r ∈ l → r.event ∈ evs l c
  | [], _, _, h => by simp at h
  | q :: l, c, r, h => by
    rcases List.mem_cons.1 h with rfl | h
    · exact evs_mem l _ _ (addC_self c r.event)
    · exact evs_self l _ r h
theorem evs_snoc (l : List Pm.Rl) (r : Pm.Rl) (c : List ByteArray) : evs (l ++ [r]) c = addC (evs l c) r.event := by simp [evs, List.foldl_append]
theorem colsTo_snoc (l : List Pm.St) (st : Pm.St) : colsTo (l ++ [st]) = evs st.rules (colsTo l) := by simp [colsTo, List.foldl_append]
def total (sts : List Pm.St) : Nat := (sts.map fun st => st.rules.length).sum
theorem total_take (sts : List Pm.St) (k : Nat) (h : k < sts.length) : total (sts.take k) + sts[k].rules.length ≤ total sts := by
  have h1 : total (sts.take (k + 1)) = total (sts.take k) + sts[k].rules.length := by
    unfold total; rw [List.take_succ_eq_append_getElem h, List.map_append, List.sum_append]; rfl
  have h2 : total sts = total (sts.take (k + 1)) + total (sts.drop (k + 1)) := by
    unfold total
    rw [← List.sum_append, ← List.map_append, List.take_append_drop]
  omega
theorem colsTo_len : ∀ (n : Nat) (sts : List Pm.St), sts.length = n → (colsTo sts).length ≤ total sts
  | 0, sts, h => by rw [List.eq_nil_of_length_eq_zero h]; simp [colsTo, total]
  | n + 1, sts, h => by
    have hlt : n < sts.length := by omega
    have e : sts = sts.take n ++ [sts[n]] := by rw [← List.take_succ_eq_append_getElem hlt, List.take_of_length_le (by omega)]
    have h1 := colsTo_len n (sts.take n) (by rw [List.length_take]; omega)
    have h2 := total_take sts n hlt
    have h3 : colsTo sts = evs sts[n].rules (colsTo (sts.take n)) := by
      have := colsTo_snoc (sts.take n) sts[n]
      rw [← e] at this; exact this
    have h4 := evs_len sts[n].rules (colsTo (sts.take n))
    rw [h3]
    omega
theorem foldl_mem : ∀ (l : List Pm.St) (c : List ByteArray) (t : ByteArray), t ∈ c → t ∈ l.foldl (fun c st => evs st.rules c) c
  | [], _, _, h => h
  | st :: l, c, t, h => foldl_mem l _ t (evs_mem st.rules c t h)
theorem foldl_self : ∀ (l : List Pm.St) (c : List ByteArray) (st : Pm.St) (r : Pm.Rl), st ∈ l → r ∈ st.rules → r.event ∈ l.foldl (fun c st => evs st.rules c) c
  | [], _, _, _, h, _ => by simp at h
  | q :: l, c, st, r, h, hr => by
    rcases List.mem_cons.1 h with rfl | h
    · exact foldl_mem l _ _ (evs_self st.rules c r hr)
    · exact foldl_self l _ st r h hr
noncomputable def essOf (sts : List Pm.St) (i : Nat) : Nat → List Se := match sts[i]? with
  | some st => rowTo (colsTo sts) st.rules st.rules.length
  | none => fun _ => []
theorem LayIn.start (w : World) (sts : List Pm.St) (ess : Nat → Nat → List Se) : LayIn w ((w.alloc (.map #[] 0)).alloc (.cells #[.slice none 0 0, .map (some w.heap.size), .slice none 0 0] 108)) sts (.slice none 0 0) [] [] (.slice none 0 0) [] ess := by
  refine ⟨((Below.refl _ _).alloc (Nat.le_refl _) _).alloc (by simp) _, ?_, ?_, ⟨rfl, .inl ⟨rfl, rfl⟩⟩, ⟨rfl, .inl ⟨rfl, rfl⟩⟩, fun i hi => by simp at hi⟩
  · have := heap_alloc_new (w.alloc (.map #[] 0)) (.cells #[.slice none 0 0, .map (some w.heap.size), .slice none 0 0] 108)
    simpa using this
  · exact (ColsC.made w).below ((Below.refl _ _).alloc (Nat.le_refl _) _)
theorem Tryd.underlyingTable : Tryd.prog.underlying 106 = some (.slice 130) := by kernel_rfl
theorem Tryd.infoTable : (Tryd.prog.info? 130).map (fun i => (i.zero, i.size, i.bytes)) = some (some (.slice none 0 0), 1, 24) := by kernel_rfl
theorem one1T {a : Option Addr} {n c : Nat} : ∀ u ∈ [Value.slice a n c], u.oneCell' = true := by
  intro u hu; simp at hu; subst hu; rfl
end Go.Proofs.YtcijookbgliglaaDoor
