import Derived.Test.YtcijookbgliglaaDoorVb
/- A machine that is walked: its rules for an event; the walks over Closed, rules and State. -/
namespace Go.Proofs.YtcijookbgliglaaDoor
open Go.RowKit Go.Maps Go.ChangeMaps Go.WideMaps

/-- The steps of a state that an event asks for. -/
noncomputable def askedE (rs : List Pm.Rl) (ev : ByteArray) : List Se := by
  classical exact (rs.zipIdx.filter (fun p => decide (p.1.event = ev))).map (fun p => (p.2, p.1))
theorem eqB_dec (a b : ByteArray) : Pm.eqB a b = true ↔ a = b := ⟨Pm.eqB_eq, fun h => by rw [h]; simp [Pm.eqB]⟩
theorem asked_first (rs : List Pm.Rl) (ev : ByteArray) (hs : List ByteArray) : ((askedE rs ev).find? fun e => Pm.allMet hs e.2) = Pm.firstAt (Pm.fits hs ev) 0 rs := by
  unfold askedE
  refine Pm.firstAt_filter _ hs _ ?_ rs 0
  intro r i
  unfold Pm.fits
  congr 1
  have := eqB_dec r.event ev
  cases e : Pm.eqB r.event ev
  · rw [e] at this; simp at this; simp [this]
  · rw [e] at this; simp at this; simp [this]
theorem asked_none (sts : List Pm.St) (st : Pm.St) (h : st ∈ sts) (ev : ByteArray) (hn : ev ∉ colsTo sts) : askedE st.rules ev = [] := by
  unfold askedE
  rw [List.map_eq_nil_iff, List.filter_eq_nil_iff]
  intro p hp
  simp only [decide_eq_true_eq]
  intro e
  apply hn
  rw [← e]
  have : p.1 ∈ st.rules := by
    have := List.mem_zipIdx hp
    simp at this
    rw [this.2]; exact List.getElem_mem _
  exact foldl_self sts [] st p.1 h this
theorem asked_ess (sts : List Pm.St) (row : Nat) (h : row < sts.length) (i : Nat) (hi : i < (colsTo sts).length) : essOf sts row i = askedE sts[row].rules (colsTo sts)[i] := by
  rw [essOf_at sts row h]
  unfold rowTo askedE
  rw [List.take_length]
  congr 1
  congr 1
  funext p
  rw [List.getElem?_eq_getElem hi]
  simp only [Option.some.injEq]
  rw [decide_eq_decide]
  exact ⟨fun e => e.symm, fun e => e.symm⟩
theorem goalOf_to (sts : List Pm.St) (g : ByteArray) : goalOf sts g = (Pm.goalTo sts g : Int) := by
  unfold goalOf Pm.goalTo
  rcases Pm.where_bd sts g with h | h
  · rw [h]; simp
  · rw [if_pos h.1, if_pos h.1]; omega

/-- A machine in memory: its box is block X. -/
structure MachAt (w : World) (X base : Nat) (sts : List Pm.St) : Prop where
  ex : ∃ (w1 : World) (sv tv : Value) (gs : List Nat), X = w1.heap.size + 1 ∧ base = w1.heap.size ∧ LayIn w1 w sts sv (sts.map (·.name)) (colsTo sts) tv gs (essOf sts) ∧ gs.length = sts.length
theorem MachAt.below {w w' : World} {X base : Nat} {sts : List Pm.St} (h : MachAt w X base sts) (hb : Below w.heap.size w w') : MachAt w' X base sts := by
  obtain ⟨w1, sv, tv, gs, h1, h2, h3, h4⟩ := h.ex
  exact ⟨⟨w1, sv, tv, gs, h1, h2, h3.by_ hb, h4⟩⟩
/-- What is read of a machine. -/
theorem MachAt.parts {w : World} {X base : Nat} {sts : List Pm.St} (h : MachAt w X base sts) : ∃ (a1 a2 : Option Addr) (c1 c2 : Nat), X < w.heap.size ∧ w.cell? ⟨X, 0, none⟩ = some (.slice a1 sts.length c1) ∧ w.cell? ⟨X, 1, none⟩ = some (.map (some base)) ∧ w.cell? ⟨X, 2, none⟩ = some (.slice a2 sts.length c2) ∧ ColsC w base (colsTo sts) ∧
    sts.length ≤ 9223372036854775807 ∧
    (∀ (i : Nat) (hi : i < sts.length), ∃ g, a1 = some ⟨g, 0, none⟩ ∧ sts.length ≤ c1 ∧ w.cell? ⟨g, i, none⟩ = some (.string sts[i].name)) ∧
    (∀ (i : Nat) (hi : i < sts.length), ∃ g r, a2 = some ⟨g, 0, none⟩ ∧ sts.length ≤ c2 ∧ w.cell? ⟨g, i, none⟩ = some (.slice (some ⟨r, 0, none⟩) (colsTo sts).length (colsTo sts).length) ∧ ∀ (j : Nat) (hj : j < (colsTo sts).length), ∃ a n c, w.cell? ⟨r, j, none⟩ = some (.slice a n c) ∧ StepsC w base sts (.slice a n c) (askedE sts[i].rules (colsTo sts)[j])) := by
  obtain ⟨w1, sv, tv, gs, rfl, rfl, hL, hg⟩ := h.ex
  obtain ⟨a1, n1, c1, rfl⟩ := own_slice hL.names
  obtain ⟨a2, n2, c2, rfl⟩ := own_slice hL.table
  obtain ⟨e1, m1, i1⟩ := own_len hL.names
  obtain ⟨e2, m2, i2⟩ := own_len hL.table
  simp only [List.length_map] at e1 i1 m1
  subst e1
  rw [hg] at e2 i2 m2
  subst e2
  have hb := hL.box
  refine ⟨a1, a2, c1, c2, hL.size, by simp [World.cell?, hb], by simp [World.cell?, hb], by simp [World.cell?, hb], hL.cols_, m1, fun i hi => ?_, fun i hi => ?_⟩
  · obtain ⟨g, rfl, _, _, hc⟩ := i1 (by omega)
    refine ⟨g, rfl, hc, ?_⟩
    exact own_cell hL.names (j := i) (u := .string sts[i].name) (by simp [hi])
  · obtain ⟨g, rfl, _, _, hc⟩ := i2 (by omega)
    have hi' : i < gs.length := by omega
    obtain ⟨vs, v1, v2, v3, v4, v5⟩ := hL.rows i hi'
    refine ⟨g, gs[i], rfl, hc, own_cell hL.table (j := i) (by simp [hi']), fun j hj => ?_⟩
    have hj' : j < vs.length := by omega
    have := v4 j hj'
    rw [asked_ess sts i hi j hj] at this
    obtain ⟨xs, _, x2, _⟩ := this
    obtain ⟨a, n, c, hv⟩ := own_slice x2
    refine ⟨a, n, c, ?_, ?_⟩
    · rw [← hv]; simp [World.cell?, v3, hj']
    · rw [← hv, ← asked_ess sts i hi j hj]; exact v4 j hj'

/-- A walk in memory: block b; it stands in a row of the machine X. -/
def WalkAt (w : World) (b X row : Nat) : Prop := w.heap[b]? = some (.cells #[.pointer (some ⟨X, 0, none⟩), .int .i64 (row : Int)] 61 (0, 0))
theorem WalkAt.cells {w : World} {b X row : Nat} (h : WalkAt w b X row) : w.cell? ⟨b, 0, none⟩ = some (.pointer (some ⟨X, 0, none⟩)) ∧ w.cell? ⟨b, 1, none⟩ = some (.int .i64 (row : Int)) ∧ b < w.heap.size ∧ ∀ o, w.frozen? ⟨b, o, none⟩ = false := by
  have hb : b < w.heap.size := (Array.getElem?_eq_some_iff.1 h).1
  unfold WalkAt at h
  exact ⟨by simp [World.cell?, h], by simp [World.cell?, h], hb, fun o => by simp [World.frozen?, h]⟩
theorem WalkAt.below {w w' : World} {b X row : Nat} (h : WalkAt w b X row) (hb : Below w.heap.size w w') : WalkAt w' b X row := (hb.block b h.cells.2.2.1).trans h
theorem WalkAt.set {w : World} {b X row : Nat} (h : WalkAt w b X row) (r : Nat) : WalkAt (w.setCell ⟨b, 1, none⟩ (.int .i64 (r : Int))) b X r := by
  unfold WalkAt at h ⊢
  simp [World.setCell, Array.getElem?_modify, h]

set_option maxHeartbeats 400000 in
theorem closed_any (w : World) (b X base row : Nat) (sts : List Pm.St) (hw : WalkAt w b X row) (hm : MachAt w X base sts) (_hr : row ≤ sts.length) :
    Calls Tryd.prog 36 #[.pointer (some ⟨b, 0, none⟩)] w fun e w' => e = .returned (.bool (decide (row = sts.length))) ∧ Below w.heap.size w w' := by
  obtain ⟨a1, a2, c1, c2, hX, x0, x1, x2, -, hl, -⟩ := hm.parts
  obtain ⟨q0, q1, hb, -⟩ := hw.cells
  clear hw hm
  by_cases hq : row = sts.length
  · have hq1 : ((row : Int) == (sts.length : Int)) = true := by simp [hq]
    have hq2 : (row : Int) = (sts.length : Int) := by omega
    have HD := hide (show decide (row = sts.length) = true by simp [hq])
    clear hq
    go_enter Tryd.func36, Tryd.ntmps36
    go_wp2_with fail
    go_quiet (fail)
    go_wp2_with fail
    go_ret
    exact ⟨by rw [HD.out]; rfl, below_drewN (Below.refl _ _) _⟩
  · have hq1 : ((row : Int) == (sts.length : Int)) = false := by simp; omega
    have hq2 : ¬ (row : Int) = (sts.length : Int) := by omega
    have HD := hide (show decide (row = sts.length) = false by simp [hq])
    clear hq
    go_enter Tryd.func36, Tryd.ntmps36
    go_wp2_with fail
    go_quiet (fail)
    go_wp2_with fail
    go_ret
    exact ⟨by rw [HD.out]; rfl, below_drewN (Below.refl _ _) _⟩

/-- The steps that are looked through at what happens. -/
noncomputable def askedAt (sts : List Pm.St) (row : Nat) (ev : ByteArray) : List Se := match sts[row]? with
  | none => []
  | some st => askedE st.rules ev
theorem StepsC.nil (w : World) (base : Nat) (sts : List Pm.St) : StepsC w base sts (.slice none 0 0) [] := ⟨[], rfl, ⟨rfl, .inl ⟨rfl, rfl⟩⟩, fun x hx => by simp at hx⟩

set_option maxRecDepth 100000 in
set_option maxHeartbeats 2000000 in
theorem rules_any (w : World) (b X base row : Nat) (sts : List Pm.St) (ev : ByteArray) (hev : ev.size ≤ maxLen) (hw : WalkAt w b X row) (hm : MachAt w X base sts) (hr : row ≤ sts.length) :
    Calls Tryd.prog 38 #[.pointer (some ⟨b, 0, none⟩), .string ev] w fun e w' => Below w.heap.size w w' ∧ ∃ a n c, e = .returned (.slice a n c) ∧ StepsC w base sts (.slice a n c) (askedAt sts row ev) := by
  have HC := hide (closed_any w b X base row sts hw hm hr)
  obtain ⟨a1, a2, c1, c2, hX, x0, x1, x2, hc, hl, hnm, htb⟩ := hm.parts
  obtain ⟨q0, q1, hb, -⟩ := hw.cells
  have HW := hide hw
  have HM := hide hm
  obtain ⟨D, ho, hz, hh, ha⟩ := hc
  have hkey : keyOf Tryd.prog 9 (.string ev) = some (kl ev) := keyOf_string_mk Tryd.underlyingStr hev
  have HO := hide ho
  have HH := hide hh
  have HA := hide ha
  have HTB := hide htb
  clear ho hz hh ha hw hm hnm htb
  cases hq : Maps.has D (kl ev)
  · have HN := hide (show askedAt sts row ev = [] by
      have hns : ev ∉ colsTo sts := fun e => by rw [(HH.out ev).2 e] at hq; cases hq
      unfold askedAt
      cases e : sts[row]? with
      | none => rfl
      | some st => exact asked_none sts st (List.mem_of_getElem? e) ev hns)
    go_enter Tryd.func38, Tryd.ntmps38
    go_wp2_with (first | (at_lookup; refine wpList_lookup_own_ok_int _ rfl _ _ 105 rfl 9 3 .i64 colsLaw Tryd.underlyingCols Tryd.underlyingInt (zeroInt _) base (colsTo sts).length D rfl HO.out _ _ rfl hkey ?_; intro c hat hwc))
    go_ret
    rw [HN.out]
    exact ⟨Below.refl _ _, _, _, _, rfl, StepsC.nil _ _ _⟩
  · have hns : ev ∈ colsTo sts := (HH.out ev).1 hq
    obtain ⟨i, hi, hie⟩ := List.mem_iff_getElem.1 hns
    have hat0 := HA.out i hi
    rw [hie] at hat0
    have HI := hide hie
    clear hns hie
    go_enter Tryd.func38, Tryd.ntmps38
    go_wp2_with (first | (at_lookup; refine wpList_lookup_own_ok_int _ rfl _ _ 105 rfl 9 3 .i64 colsLaw Tryd.underlyingCols Tryd.underlyingInt (zeroInt _) base (colsTo sts).length D rfl HO.out _ _ rfl hkey ?_; intro c hat hwc; obtain rfl : c = (i : Int) := (by rw [hat0] at hat; simpa using hat.symm)))
    refine HC.out.mono ?_
    rintro e w1 ⟨rfl, hb1⟩
    have HB1 := hide hb1
    by_cases hq : row = sts.length
    · have HN := hide (show askedAt sts row ev = [] by unfold askedAt; rw [List.getElem?_eq_none (by omega)])
      rw [show decide (row = sts.length) = true by simp [hq]]
      clear hq hb1
      go_wp2_with fail
      go_ret
      rw [HN.out]
      exact ⟨HB1.out, _, _, _, rfl, StepsC.nil _ _ _⟩
    · rw [show decide (row = sts.length) = false by simp [hq]]
      have hlt : row < sts.length := by omega
      obtain ⟨g, r, rfl, hcap, t0, t1⟩ := HTB.out row hlt
      obtain ⟨a, n, c, t2, hS⟩ := t1 i hi
      have HSS := hide (show StepsC w base sts (.slice a n c) (askedAt sts row ev) by
        unfold askedAt; rw [List.getElem?_eq_getElem hlt]; rw [HI.out] at hS; exact hS)
      have hgl := World.block_lt_of_cell? w _ t0
      have hrl := World.block_lt_of_cell? w _ t2
      have t0' := (hb1.cell (p := ⟨g, row, none⟩) hgl).trans t0
      have t2' := (hb1.cell (p := ⟨r, i, none⟩) hrl).trans t2
      have x2' := (hb1.cell (p := ⟨X, 2, none⟩) hX).trans x2
      have q0' := (hb1.cell (p := ⟨b, 0, none⟩) hb).trans q0
      have q1' := (hb1.cell (p := ⟨b, 1, none⟩) hb).trans q1
      have hX' : X < w1.heap.size := by have := hb1.size; omega
      have hb' : b < w1.heap.size := by have := hb1.size; omega
      have hrow : (row : Int) < (sts.length : Int) := by omega
      have hi' : (i : Int) < ((colsTo sts).length : Int) := by omega
      clear hq hb1 hS t0 t1 t2 x0 x1 x2 q0 q1
      go_wp2_with fail
      go_quiet (fail)
      go_wp2_with fail
      go_ret
      exact ⟨below_drewN HB1.out _, _, _, _, rfl, HSS.out⟩

set_option maxRecDepth 100000 in
set_option maxHeartbeats 1000000 in
theorem state_any (w : World) (b X base row : Nat) (sts : List Pm.St) (hw : WalkAt w b X row) (hm : MachAt w X base sts) (hr : row ≤ sts.length) :
    Calls Tryd.prog 22 #[.pointer (some ⟨b, 0, none⟩)] w fun e w' => e = .returned (.string (Pm.stateW sts row)) ∧ Below w.heap.size w w' := by
  have HC := hide (closed_any w b X base row sts hw hm hr)
  obtain ⟨a1, a2, c1, c2, hX, x0, x1, x2, hc, hl, hnm, htb⟩ := hm.parts
  obtain ⟨q0, q1, hb, -⟩ := hw.cells
  have HNM := hide hnm
  clear hw hm hc hnm htb
  go_enter Tryd.func22, Tryd.ntmps22
  go_wp2_with fail
  refine HC.out.mono ?_
  rintro e w1 ⟨rfl, hb1⟩
  have HB1 := hide hb1
  by_cases hq : row = sts.length
  · have HN := hide (show Pm.stateW sts row = Pm.closedW from Pm.stateW_none (List.getElem?_eq_none (by omega)))
    rw [show decide (row = sts.length) = true by simp [hq]]
    clear hq hb1
    go_wp2_with fail
    go_ret
    rw [HN.out]
    exact ⟨rfl, HB1.out⟩
  · rw [show decide (row = sts.length) = false by simp [hq]]
    have hlt : row < sts.length := by omega
    obtain ⟨g, rfl, hcap, t0⟩ := HNM.out row hlt
    have HN := hide (show Pm.stateW sts row = sts[row].name by unfold Pm.stateW; rw [List.getElem?_eq_getElem hlt])
    have hgl := World.block_lt_of_cell? w _ t0
    have t0' := (hb1.cell (p := ⟨g, row, none⟩) hgl).trans t0
    have x0' := (hb1.cell (p := ⟨X, 0, none⟩) hX).trans x0
    have q0' := (hb1.cell (p := ⟨b, 0, none⟩) hb).trans q0
    have q1' := (hb1.cell (p := ⟨b, 1, none⟩) hb).trans q1
    have hX' : X < w1.heap.size := by have := hb1.size; omega
    have hb' : b < w1.heap.size := by have := hb1.size; omega
    have hrow : (row : Int) < (sts.length : Int) := by omega
    clear hq hb1 t0 x0 x1 x2 q0 q1
    go_wp2_with fail
    go_quiet (fail)
    go_wp2_with fail
    go_ret
    rw [HN.out]
    exact ⟨rfl, below_drewN HB1.out _⟩
end Go.Proofs.YtcijookbgliglaaDoor
