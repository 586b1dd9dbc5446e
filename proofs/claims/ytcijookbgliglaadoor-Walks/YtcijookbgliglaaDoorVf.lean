import Derived.Test.YtcijookbgliglaaDoorVe
/- What a walk answers, in memory; the walk over the program's Walk. -/
namespace Go.Proofs.YtcijookbgliglaaDoor
open Go.RowKit

/-- Block g has room for n answers; the first ones are written. -/
def TakIn (w : World) (g n : Nat) (sts : List Pm.St) (xs : List (Pm.Tk × Value)) : Prop :=
  ∃ cs : Array Value, w.heap[g]? = some (.cells cs 42 (0, 0)) ∧ cs.size = n * 3 ∧ ∀ (j : Nat) (hj : j < xs.length), cs[j * 3]? = some (.int .i64 xs[j].1.rule) ∧ cs[j * 3 + 1]? = some (.string (Pm.stateW sts xs[j].1.row)) ∧ cs[j * 3 + 2]? = some xs[j].2
theorem TakIn.same {w w' : World} {g n : Nat} {sts : List Pm.St} {xs : List (Pm.Tk × Value)} (h : TakIn w g n sts xs) (e : w'.heap[g]? = w.heap[g]?) : TakIn w' g n sts xs := by
  obtain ⟨cs, h1, h2, h3⟩ := h
  exact ⟨cs, e.trans h1, h2, h3⟩
theorem TakIn.lt {w : World} {g n : Nat} {sts : List Pm.St} {xs : List (Pm.Tk × Value)} (h : TakIn w g n sts xs) : g < w.heap.size := by
  obtain ⟨cs, h1, _⟩ := h
  exact (Array.getElem?_eq_some_iff.1 h1).1
theorem TakIn.below {w w' : World} {g n : Nat} {sts : List Pm.St} {xs : List (Pm.Tk × Value)} (h : TakIn w g n sts xs) (hb : Below w.heap.size w w') : TakIn w' g n sts xs := h.same (hb.block g h.lt)
theorem TakIn.cells {w : World} {g n : Nat} {sts : List Pm.St} {xs : List (Pm.Tk × Value)} (h : TakIn w g n sts xs) (j : Nat) (hj : j < xs.length) : w.cell? ⟨g, j * 3, none⟩ = some (.int .i64 xs[j].1.rule) ∧ w.cell? ⟨g, j * 3 + 1, none⟩ = some (.string (Pm.stateW sts xs[j].1.row)) ∧ w.cell? ⟨g, j * 3 + 2, none⟩ = some xs[j].2 := by
  obtain ⟨cs, h1, h2, h3⟩ := h
  obtain ⟨e1, e2, e3⟩ := h3 j hj
  simp [World.cell?, h1, e1, e2, e3]
theorem TakIn.store {w : World} {g n : Nat} {sts : List Pm.St} {xs : List (Pm.Tk × Value)} (h : TakIn w g n sts xs) {k : Nat} (hk : k < n) : ∃ u0 u1 u2, w.cell? ⟨g, k * 3, none⟩ = some u0 ∧ w.cell? ⟨g, k * 3 + 1, none⟩ = some u1 ∧ w.cell? ⟨g, k * 3 + 2, none⟩ = some u2 ∧ ∀ o, w.frozen? ⟨g, o, none⟩ = false := by
  obtain ⟨cs, h1, h2, h3⟩ := h
  have i0 : k * 3 < cs.size := by omega
  have i1 : k * 3 + 1 < cs.size := by omega
  have i2 : k * 3 + 2 < cs.size := by omega
  refine ⟨cs[k * 3], cs[k * 3 + 1], cs[k * 3 + 2], ?_, ?_, ?_, ?_⟩ <;> simp [World.cell?, World.frozen?, h1, i0, i1, i2]
theorem TakIn.add {w : World} {g n : Nat} {sts : List Pm.St} {xs : List (Pm.Tk × Value)} (h : TakIn w g n sts xs) (x : Pm.Tk × Value) (k : Nat) (hx : xs.length = k) (hk : k < n) :
    TakIn (((w.setCell ⟨g, k * 3, none⟩ (.int .i64 x.1.rule)).setCell ⟨g, k * 3 + 1, none⟩ (.string (Pm.stateW sts x.1.row))).setCell ⟨g, k * 3 + 2, none⟩ x.2) g n sts (xs ++ [x]) := by
  obtain ⟨cs, h1, h2, h3⟩ := h
  subst hx
  refine ⟨((cs.setIfInBounds (xs.length * 3) (.int .i64 x.1.rule)).setIfInBounds (xs.length * 3 + 1) (.string (Pm.stateW sts x.1.row))).setIfInBounds (xs.length * 3 + 2) x.2, ?_, by simp [h2], ?_⟩
  · simp [World.setCell, Array.getElem?_modify, h1]
  · intro j hj
    rw [List.length_append] at hj
    simp at hj
    simp only [Array.getElem?_setIfInBounds, Array.size_setIfInBounds]
    by_cases e : j < xs.length
    · rw [List.getElem_append_left e]
      obtain ⟨e1, e2, e3⟩ := h3 j e
      refine ⟨?_, ?_, ?_⟩
      · rw [if_neg (by omega), if_neg (by omega), if_neg (by omega)]; exact e1
      · rw [if_neg (by omega), if_neg (by omega), if_neg (by omega)]; exact e2
      · rw [if_neg (by omega), if_neg (by omega), if_neg (by omega)]; exact e3
    · have : j = xs.length := by omega
      subst this
      rw [List.getElem_append_right (Nat.le_refl _)]
      simp only [Nat.sub_self, List.getElem_cons_zero]
      have i0 : xs.length * 3 < cs.size := by omega
      have i1 : xs.length * 3 + 1 < cs.size := by omega
      have i2 : xs.length * 3 + 2 < cs.size := by omega
      refine ⟨?_, ?_, ?_⟩
      · rw [if_neg (by omega), if_neg (by omega)]; simp [i0]
      · rw [if_neg (by omega)]; simp [i1]
      · simp [i2]

/-- No two answers share a list. -/
def Apart (xs : List (Pm.Tk × Value)) : Prop := ∀ (i j : Nat) (hi : i < xs.length) (hj : j < xs.length) (k : Nat), i ≠ j → xs[i].2.ownBlock = some k → xs[j].2.ownBlock ≠ some k
theorem Apart.add {xs : List (Pm.Tk × Value)} (h : Apart xs) (x : Pm.Tk × Value) (N : Nat) (h1 : ∀ y ∈ xs, ∀ k, y.2.ownBlock = some k → k < N) (h2 : ∀ k, x.2.ownBlock = some k → N ≤ k) : Apart (xs ++ [x]) := by
  intro i j hi hj k hij
  rw [List.length_append] at hi hj
  simp at hi hj
  by_cases ei : i < xs.length
  · rw [List.getElem_append_left ei]
    by_cases ej : j < xs.length
    · rw [List.getElem_append_left ej]; exact h i j ei ej k hij
    · have : j = xs.length := by omega
      subst this
      rw [List.getElem_append_right (Nat.le_refl _)]
      simp only [Nat.sub_self, List.getElem_cons_zero]
      intro e1 e2
      have := h1 _ (List.getElem_mem ei) k e1
      have := h2 k e2
      omega
  · have : i = xs.length := by omega
    subst this
    rw [List.getElem_append_right (Nat.le_refl _), List.getElem_append_left (by omega)]
    simp only [Nat.sub_self, List.getElem_cons_zero]
    intro e1 e2
    have := h1 _ (List.getElem_mem (by omega)) k e2
    have := h2 k e1
    omega
theorem NewS.kept {w w' : World} {base b : Nat} {v : Value} {l : List ByteArray} (h : NewS w base v l) (hk : Kept b w w') {cs : Array Value} {T : TypeId} {fr : Nat × Nat} (hb : w.heap[b]? = some (.cells cs T fr)) (hT : T ≠ 9) : NewS w' base v l := by
  refine ⟨h.1, ?_⟩
  rcases h.2 with hn | ⟨g, cap, cur, hv, h1, hh, rest⟩
  · exact .inl hn
  · refine .inr ⟨g, cap, cur, hv, h1, (hk.block g (Array.getElem?_eq_some_iff.1 hh).1 (fun e => ?_)).trans hh, rest⟩
    subst e
    rw [hh] at hb
    simp at hb
    exact hT hb.2.1.symm

/-- What a walk answers. -/
def TakC (w : World) (base g : Nat) (sts : List Pm.St) (tks : List Pm.Tk) : Prop :=
  ∃ xs : List (Pm.Tk × Value), xs.map (·.1) = tks ∧ base ≤ g ∧ TakIn w g tks.length sts xs ∧ (∀ x ∈ xs, NewS w base x.2 x.1.acts) ∧ Apart xs
theorem Tryd.underlyingTakens : Tryd.prog.underlying 37 = some (.slice 42) := by kernel_rfl
theorem Tryd.infoTaken : (Tryd.prog.info? 42).map (fun i => (i.zero, i.size, i.bytes)) = some (some (.agg #[.int .i64 0, .string ByteArray.empty, .slice none 0 0]), 3, 48) := by kernel_rfl

set_option maxHeartbeats 400000 in
theorem begin_any (w : World) (X : Nat) :
    Calls Tryd.prog 20 #[.pointer (some ⟨X, 0, none⟩)] w fun e w' => e = .returned (.agg #[.pointer (some ⟨X, 0, none⟩), .int .i64 0]) ∧ Below w.heap.size w w' := by
  go_enter Tryd.func20, Tryd.ntmps20
  go_wp2
  refine bodyPost_ret (v := .agg #[.pointer (some ⟨X, 0, none⟩), .int .i64 0]) (by simp [results, Tryd.results20, go_sem]) rfl ⟨rfl, (Below.refl _ _).alloc (Nat.le_refl _) _⟩

/-- A walk in the midst of its way. -/
structure WalkIn (w0 w : World) (wb g X n : Nat) (sts : List Pm.St) (l : List Hp) : Prop where
  below : Below w0.heap.size w0 w
  walk : WalkAt w wb X (Pm.endRow sts 0 l)
  wb_ : w0.heap.size ≤ wb
  g_ : w0.heap.size ≤ g
  ne : g ≠ wb
  taks : ∃ xs : List (Pm.Tk × Value), xs.map (·.1) = Pm.walkL sts 0 l ∧ TakIn w g n sts xs ∧ (∀ x ∈ xs, NewS w w0.heap.size x.2 x.1.acts) ∧ Apart xs

theorem WalkIn.mid {w0 w : World} {wb g X n : Nat} {sts : List Pm.St} {l : List Hp} (J : WalkIn w0 w wb g X n sts l) (o : Obj) {w6 w7 : World} (hk6 : Kept wb (w.alloc o) w6) (hb7 : Below w6.heap.size w6 w7) :
    Below w0.heap.size w0 w7 ∧ Below w0.heap.size w0 w6 ∧ ∃ xs : List (Pm.Tk × Value), xs.length = l.length ∧ xs.map (·.1) = Pm.walkL sts 0 l ∧ TakIn w7 g n sts xs ∧ (∀ x ∈ xs, NewS w7 w0.heap.size x.2 x.1.acts) ∧ (∀ x ∈ xs, ∀ k, x.2.ownBlock = some k → k < w.heap.size) ∧ Apart xs := by
  obtain ⟨xs, h1, h2, h3, h4⟩ := J.taks
  have hl : xs.length = l.length := by rw [← List.length_map (f := fun x : Pm.Tk × Value => x.1), h1, Pm.walkL_len]
  have hz := J.below.size
  have hb1 : Below w0.heap.size w0 (w.alloc o) := J.below.alloc hz o
  have hz1 := hb1.size
  have hb6 : Below w0.heap.size w0 w6 := hb1.trans (hk6.belowB J.wb_ hz1)
  have hb67 := hb6.trans (hb7.mono hb6.size)
  have hg : w7.heap[g]? = w.heap[g]? := (hb7.block g (by have := hk6.size; have := h2.lt; simp at *; omega)).trans ((hk6.block g (by have := h2.lt; simp; omega) J.ne).trans (Below.heap_alloc _ _ _ h2.lt))
  have hwb : (w.alloc o).heap[wb]? = some (.cells #[.pointer (some ⟨X, 0, none⟩), .int .i64 (Pm.endRow sts 0 l : Int)] 61 (0, 0)) := (Below.heap_alloc _ _ _ J.walk.cells.2.2.1).trans J.walk
  refine ⟨hb67, hb6, xs, hl, h1, h2.same hg, fun x hx => ?_, fun x hx k hk => (World.ownsRow.lt (h3 x hx) k hk).2, h4⟩
  have a1 : NewS (w.alloc o) w0.heap.size x.2 x.1.acts := ownsRow_alloc (h3 x hx) o
  exact (a1.kept hk6 hwb (by decide)).below hb7
theorem WalkIn.step {w0 w : World} {wb g X n : Nat} {sts : List Pm.St} {l : List Hp} (J : WalkIn w0 w wb g X n sts l) (h : Hp) (o : Obj) {w6 w7 : World} {v6 : Value} {tk : Pm.Tk} (htk : tk = Pm.step1 sts (Pm.endRow sts 0 l) h.1 h.2) (k : Nat) (hk : l.length = k)
    (hn6 : NewS w6 (w.heap.size + 1) v6 tk.acts) (hk6 : Kept wb (w.alloc o) w6) (hw6 : WalkAt w6 wb X tk.row) (hb7 : Below w6.heap.size w6 w7) (hl : k < n) :
    WalkIn w0 (((w7.setCell ⟨g, k * 3, none⟩ (.int .i64 tk.rule)).setCell ⟨g, k * 3 + 1, none⟩ (.string (Pm.stateW sts tk.row))).setCell ⟨g, k * 3 + 2, none⟩ v6) wb g X n sts (l ++ [h]) := by
  subst hk
  obtain ⟨hb67, hb6, xs, hxl, h1, h2, h3, h4, h5⟩ := J.mid o hk6 hb7
  have hz := J.below.size
  have h2' := h2
  obtain ⟨cs, hc, _⟩ := h2'
  have hc1 : (w7.setCell ⟨g, l.length * 3, none⟩ (.int .i64 tk.rule)).heap[g]? = some (.cells (cs.setIfInBounds (l.length * 3) (.int .i64 tk.rule)) 42 (0, 0)) := by
    simp [World.setCell, Array.getElem?_modify, hc]
  have hc2 : ((w7.setCell ⟨g, l.length * 3, none⟩ (.int .i64 tk.rule)).setCell ⟨g, l.length * 3 + 1, none⟩ (.string (Pm.stateW sts tk.row))).heap[g]? = some (.cells ((cs.setIfInBounds (l.length * 3) (.int .i64 tk.rule)).setIfInBounds (l.length * 3 + 1) (.string (Pm.stateW sts tk.row))) 42 (0, 0)) := by
    simp [World.setCell, Array.getElem?_modify, hc]
  have keep : ∀ (u : Value) (bs : List ByteArray), NewS w7 w0.heap.size u bs → NewS (((w7.setCell ⟨g, l.length * 3, none⟩ (.int .i64 tk.rule)).setCell ⟨g, l.length * 3 + 1, none⟩ (.string (Pm.stateW sts tk.row))).setCell ⟨g, l.length * 3 + 2, none⟩ v6) w0.heap.size u bs := fun u bs hu =>
    ownsRow_set_other (p := ⟨g, l.length * 3 + 2, none⟩) (ownsRow_set_other (p := ⟨g, l.length * 3 + 1, none⟩) (ownsRow_set_other (p := ⟨g, l.length * 3, none⟩) hu hc (by decide) _) hc1 (by decide) _) hc2 (by decide) _
  refine ⟨((hb67.setCell J.g_ _).setCell J.g_ _).setCell J.g_ _, ?_, J.wb_, J.g_, J.ne, xs ++ [(tk, v6)], ?_, ?_, ?_, ?_⟩
  · have : WalkAt w7 wb X tk.row := hw6.below hb7
    rw [Pm.endRow_snoc, ← htk]
    exact ((Below.heap_setCell _ _ _ _ (fun e => J.ne e.symm)).trans ((Below.heap_setCell _ _ _ _ (fun e => J.ne e.symm)).trans (Below.heap_setCell _ _ _ _ (fun e => J.ne e.symm)))).trans this
  · rw [List.map_append, h1, Pm.walkL_snoc, ← htk]; rfl
  · exact TakIn.add h2 (tk, v6) l.length hxl hl
  · intro x hx
    rcases List.mem_append.1 hx with hx | hx
    · exact keep _ _ (h3 x hx)
    · simp at hx; subst hx
      exact keep _ _ ((hn6.below hb7).base (by omega))
  · exact h5.add _ (w.heap.size + 1) (fun y hy k hk => by have := h4 y hy k hk; omega) (fun k hk => (World.ownsRow.lt hn6 k hk).1)

set_option maxRecDepth 100000 in
set_option maxHeartbeats 4000000 in
theorem walkM_any (w : World) (pb X base : Nat) (sts : List Pm.St) (v : Value) (l : List Hp) (hf : FewM sts) (hp : w.heap[pb]? = some (.cells #[.pointer (some ⟨X, 0, none⟩)] 55 (0, 0))) (hm : MachAt w X base sts) (h : HapsA w v l) (hlen : l.length * 48 ≤ 281474976710656) :
    Calls Tryd.prog 9 #[.pointer (some ⟨pb, 0, none⟩), v] w fun e w' => ∃ g, e = .returned (.slice (some ⟨g, 0, none⟩) l.length l.length) ∧ TakC w' w.heap.size g sts (Pm.walkL sts 0 l) ∧ Below w.heap.size w w' := by
  have HS := hide h
  have HM := hide hm
  have HF := hide hf
  obtain ⟨a, c, rfl, hlc, hcm, hcell⟩ := h
  obtain ⟨iT, hT, hT0, hT1, hT2⟩ := info_parts Tryd.infoTaken
  have hpl : pb < w.heap.size := (Array.getElem?_eq_some_iff.1 hp).1
  have p0 : w.cell? ⟨pb, 0, none⟩ = some (.pointer (some ⟨X, 0, none⟩)) := by simp [World.cell?, hp]
  clear hcell hm hf hp
  go_enter Tryd.func9, Tryd.ntmps9
  go_wp2_with fail
  refine (begin_any w X).mono ?_
  rintro e w1 ⟨rfl, hb1⟩
  have HB1 := hide hb1
  have hz1 := hb1.size
  clear hb1
  go_wp2_with (at_make; go_must (refine wpList_make_full _ rfl _ _ 37 rfl w.heap.size 42 iT (.agg #[.int .i64 0, .string ByteArray.empty, .slice none 0 0]) 3 Tryd.underlyingTakens hT hT0 hT1 .i64 .i64 _ _ l.length rfl rfl rfl rfl (by rw [hT2]; omega) (by unfold maxLen; omega) (by simp; omega) ?_; intro w5 ho5 hg5))
  have hG : (w1.alloc (Obj.cells #[Value.pointer (some ⟨X, 0, none⟩), Value.int .i64 0] 61)).heap.size = w1.heap.size + 1 := by simp
  rw [hG] at ho5
  have hW0 := hide (show WalkIn w w5 w1.heap.size (w1.heap.size + 1) X l.length sts (l.take 0) by
    have hbl := HB1.out.alloc hz1 (.cells #[.pointer (some ⟨X, 0, none⟩), .int .i64 0] 61)
    refine ⟨hbl.grown hg5 (by simp; omega) (fun k e => by cases e), ?_, hz1, by omega, by omega, [], rfl, ?_, fun x hx => by simp at hx, fun i j hi => by simp at hi⟩
    · exact (hg5.block w1.heap.size (by simp) (by simp)).trans (heap_alloc_new w1 _)
    · rcases ho5.2 with ⟨hv, _⟩ | ⟨g', cap, cur, hv, _, hh, _, _, h3, _⟩
      · cases hv
      · simp only [Value.slice.injEq, Option.some.injEq, Addr.mk.injEq] at hv
        obtain ⟨⟨rfl, _⟩, _, rfl⟩ := hv
        exact ⟨cur, hh, h3, fun j hj => by simp at hj⟩)
  clear ho5 hg5 hG
  go_loopg [21] l.length (fun gk i wr => ∃ k : Nat, k + gk = l.length ∧ i = .int .i64 (k : Int) ∧ Hid (WalkIn w wr w1.heap.size (w1.heap.size + 1) X l.length sts (l.take k)))
  case atStart => exact ⟨0, by omega, rfl, hW0⟩
  case round =>
    clear hW0
    obtain ⟨k, hk, rfl, J⟩ := hrel
    have hk1 : k ≤ l.length := by omega
    have E1 := hide hk
    clear hk
    have hltk : (l.take k).length = k := by rw [List.length_take]; omega
    by_cases hlt : k < l.length
    · obtain ⟨a', c', hv, _, _, hcell⟩ := HS.out.below J.out.below (Nat.le_refl _)
      simp only [Value.slice.injEq] at hv
      obtain ⟨rfl, _, rfl⟩ := hv
      obtain ⟨hb, ho, hv, rfl, d0, d1, hst, hz⟩ := hcell k hlt
      have hbl : hb < wr.heap.size := World.block_lt_of_cell? wr _ d0
      have hzr := J.out.below.size
      have hle := Pm.endRow_le sts (l.take k) 0 (Nat.zero_le _)
      have hwb := J.out.walk.cells.2.2.1
      have HBA := hide ((Below.refl wr.heap.size wr).alloc (Nat.le_refl _) (.cells #[.string l[k].1, hv] 63))
      have HMA := hide (HM.out.below (J.out.below.alloc hzr (.cells #[.string l[k].1, hv] 63)))
      have HSA := hide (hst.below HBA.out (Nat.le_refl _))
      have HWA := hide (J.out.walk.below HBA.out)
      obtain ⟨ha, hc, rfl, -⟩ := hst
      clear hcell
      generalize hrw : Pm.endRow sts 0 (l.take k) = row at hle HWA
      have HRW := hide hrw
      clear hrw
      go_wp2_with fail
      refine (stepW_any _ w1.heap.size X base row sts l[k].1 _ l[k].2 hz HF.out HWA.out HMA.out hle HSA.out).mono ?_
      rintro e w6 ⟨v6, rfl, hn6, hk6, hw6⟩
      generalize htk : Pm.step1 sts row l[k].1 l[k].2 = tk at hn6 hw6 ⊢
      have HTK := hide (show tk = Pm.step1 sts (Pm.endRow sts 0 (l.take k)) l[k].1 l[k].2 by rw [HRW.out]; exact htk.symm)
      have hle2 : tk.row ≤ sts.length := by rw [← htk]; exact Pm.step1_le _ _ _ _ hle
      obtain ⟨hB6, -⟩ := (J.out.mid _ hk6 (Below.refl _ _))
      have HM6 := hide (HM.out.below hB6)
      have HN6 := hide (show NewS w6 (wr.heap.size + 1) v6 tk.acts by simpa using hn6)
      have HK6 := hide hk6
      have HW6 := hide hw6
      obtain ⟨va, vn, vc, rfl⟩ := own_slice hn6
      clear htk hn6 hk6 hw6 hB6
      go_wp2_with fail
      refine (state_any w6 w1.heap.size X base tk.row sts HW6.out HM6.out hle2).mono ?_
      rintro e w7 ⟨rfl, hb7⟩
      have HB7 := hide hb7
      obtain ⟨-, -, xs, hxl, -, hT7, -⟩ := J.out.mid _ HK6.out hb7
      obtain ⟨u0, u1, u2, t0, t1, t2, tf⟩ := hT7.store hlt
      have hT7l := hT7.lt
      clear hb7 hT7 hxl
      go_wp2_with fail
      go_roundg (l.length - (k + 1))
      case measure => have := E1.out; omega
      case rel =>
        refine ⟨k + 1, by omega, by go_num, ?_⟩
        have := J.out.step l[k] _ HTK.out k hltk HN6.out HK6.out HW6.out HB7.out hlt
        rw [List.take_succ_eq_append_getElem hlt]
        exact this
    · have hkk : k = l.length := by omega
      subst hkk
      go_wp2
      go_ret
      have hJ := J.out
      rw [List.take_length] at hJ
      obtain ⟨xs, h1, h2, h3, h4⟩ := hJ.taks
      exact ⟨_, rfl, ⟨xs, h1, by omega, by rw [Pm.walkL_len]; exact h2, h3, h4⟩, hJ.below⟩
end Go.Proofs.YtcijookbgliglaaDoor
