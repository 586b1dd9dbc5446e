import Derived.Test.YtcijookbgliglaaDoorZE
/- The walk over the program's row. -/
namespace Go.Proofs.YtcijookbgliglaaDoor
open Go.RowKit Go.Maps

/-- A rule whose parts are few. -/
def FewR (r : Pm.Rl) : Prop := r.guards.length ≤ 301 ∧ r.actions.length ≤ 301 ∧ r.event.size ≤ 301
def stateV (st : Pm.St) (v : Value) : Value := .agg #[.int .i64 (st.at_ : Int), .int .i64 (st.nameAt : Int), .string st.name, v]

/-- A row, its columns' slices known. -/
def RowV (w : World) (base : Nat) (sts : List Pm.St) (g : Nat) (vs : List Value) (ess : Nat → List Se) : Prop :=
  base ≤ g ∧ w.heap[g]? = some (.cells vs.toArray 103 (0, 0)) ∧ (∀ (i : Nat) (h : i < vs.length), StepsC w base sts vs[i] (ess i)) ∧
    ∀ (i j : Nat) (hi : i < vs.length) (hj : j < vs.length) (k : Nat), i ≠ j → vs[i].ownBlock = some k → vs[j].ownBlock ≠ some k
theorem RowV.same {w w' : World} {base : Nat} {sts : List Pm.St} {g : Nat} {vs : List Value} {ess : Nat → List Se} (h : RowV w base sts g vs ess) (hb : ∀ k, base ≤ k → k < w.heap.size → w'.heap[k]? = w.heap[k]?) : RowV w' base sts g vs ess := by
  obtain ⟨h2, h3, h4, h5⟩ := h
  exact ⟨h2, (hb g h2 (Array.getElem?_eq_some_iff.1 h3).1).trans h3, fun i hi => (h4 i hi).same hb, h5⟩
theorem RowV.below {w w' : World} {base : Nat} {sts : List Pm.St} {g : Nat} {vs : List Value} {ess : Nat → List Se} (h : RowV w base sts g vs ess) {B : Nat} (hb : Below B w w') (hB : w.heap.size ≤ B) : RowV w' base sts g vs ess := h.same (fun k _ h2 => hb.block k (by omega))
theorem RowV.cell {w : World} {base : Nat} {sts : List Pm.St} {g : Nat} {vs : List Value} {ess : Nat → List Se} (h : RowV w base sts g vs ess) {i : Nat} (hi : i < vs.length) : w.cell? ⟨g, i, none⟩ = some vs[i] ∧ g < w.heap.size := by
  obtain ⟨_, h3, _⟩ := h
  exact ⟨by simp [World.cell?, h3, hi], (Array.getElem?_eq_some_iff.1 h3).1⟩
theorem rowTo_len (cols : List ByteArray) (rs : List Pm.Rl) (k i : Nat) : (rowTo cols rs k i).length ≤ k := by
  unfold rowTo
  rw [List.length_map]
  refine Nat.le_trans (List.length_filter_le _ _) ?_
  simp [List.length_take]
  omega

set_option maxRecDepth 100000 in
set_option maxHeartbeats 4000000 in
theorem row_any (w : World) (base X b : Nat) (cols : List ByteArray) (st : Pm.St) (sts : List Pm.St) (a0 a2 a1 a : Option Addr) (n0 c0 n2 c2 n1 c1 n c : Nat)
    (hX : w.heap[X]? = some (.cells #[.slice a0 n0 c0, .map (some b), .slice a2 n2 c2] 108 (0, 0))) (hc : ColsC w b cols) (hcl : cols.length ≤ 301) (hrl : st.rules.length ≤ 301) (hfr : ∀ r ∈ st.rules, FewR r ∧ r.event ∈ cols)
    (h1 : RulesC w base (.slice a1 n1 c1) st.rules) (h : StatesC w base (.slice a n c) sts) :
    Calls Tryd.prog 50 #[.pointer (some ⟨X, 0, none⟩), stateV st (.slice a1 n1 c1), .slice a n c] w fun e w' => ∃ g, e = .returned (.slice (some ⟨g, 0, none⟩) cols.length cols.length) ∧ w.heap.size ≤ g ∧ RowC w' w.heap.size sts g cols.length (rowTo cols st.rules st.rules.length) ∧ Below w.heap.size w w' := by
  obtain ⟨rfl, hM1⟩ := h1.len
  obtain ⟨rfl, hM⟩ := h.len
  obtain ⟨iT, hT, hT0, hT1, hT2⟩ := info_parts Tryd.infoStep
  have hXl : X < w.heap.size := (Array.getElem?_eq_some_iff.1 hX).1
  have hBb := (Below.refl w.heap.size w).alloc (Nat.le_refl _) (.cells #[.int .i64 (st.at_ : Int), .int .i64 (st.nameAt : Int), .string st.name, .slice a1 st.rules.length c1] 124)
  have hln := (hc.below hBb).lenC 3
  have hmk := run_make_row' (P := Tryd.prog) 130 103 (.slice none 0 0) 24 Tryd.underlyingRow Tryd.infoRow rfl .i64 .i64 cols.length (by omega) (by omega)
  obtain ⟨x0, x1, x2, -⟩ := blk3 hX
  have HX := hide hX
  have HC := hide hc
  have HF := hide hfr
  have HR := hide h1
  have HS := hide h
  clear hX hc hfr h1 h
  have HBB := hide (hBb.alloc (by simp) (.cells (madeCells #[.slice none 0 0] cols.length) 103))
  have HMd := hide (heap_alloc_new (w.alloc (.cells #[.int .i64 (st.at_ : Int), .int .i64 (st.nameAt : Int), .string st.name, .slice a1 st.rules.length c1] 124)) (.cells (madeCells #[.slice none 0 0] cols.length) 103))
  clear hBb
  unfold stateV
  go_enter Tryd.func50, Tryd.ntmps50
  go_wp2
  go_loopg [20] st.rules.length (fun gk i wr => ∃ k : Nat, k + gk = st.rules.length ∧ i = .int .i64 (k : Int) ∧ Hid (Below w.heap.size w wr) ∧ Hid (RowC wr w.heap.size sts (w.heap.size + 1) cols.length (rowTo cols st.rules k)))
  case atStart =>
    refine ⟨0, by omega, rfl, HBB, ?_⟩
    refine RowC.made sts (by omega) ?_
    have := HMd.out
    rw [show (madeCells #[.slice none 0 0] cols.length) = (List.replicate cols.length (.slice none 0 0)).toArray from by rw [← toList_madeCells_one]] at this ⊢
    simpa using this
  case round =>
    clear hln hmk HMd HBB
    obtain ⟨k, hk, rfl, HB, HRo⟩ := hrel
    have E1 := hide hk
    clear hk
    have hsz := HB.out.size
    by_cases hlt : k < st.rules.length
    · have hrr := HR.out.below HB.out
      obtain ⟨g2, rfl, hg2, hcap2⟩ := hrr.isAt k hlt
      obtain ⟨b1, m1, d1, b2, m2, d2, e0, e1, e2, e3, e4, e5, e6, hgg, haa⟩ := hrr.at4 k hlt
      obtain ⟨⟨hf1, hf2, hf3⟩, hev⟩ := HF.out st.rules[k] (List.getElem_mem hlt)
      obtain ⟨i0, hi0, hie⟩ := List.getElem_of_mem hev
      obtain ⟨vs, v1, v2, v3, v4, v5⟩ := HRo.out
      have hvi : i0 < vs.length := by omega
      have hv0 : RowV wr w.heap.size sts (w.heap.size + 1) vs (rowTo cols st.rules k) := ⟨v2, v3, v4, v5⟩
      obtain ⟨a3, n3, c3, hv3⟩ : ∃ a n c, vs[i0] = .slice a n c := by
        obtain ⟨xs, hx1, hx2, hx3⟩ := v4 i0 hvi
        exact own_slice hx2
      have y1 := (HB.out.cell (p := ⟨X, 1, none⟩) hXl).trans x1
      have hXw : X < wr.heap.size := by omega
      have hBW := (Below.refl wr.heap.size wr).alloc (Nat.le_refl _) (.cells #[.int .i64 (st.rules[k].at_ : Int), .int .i64 (st.rules[k].eventAt : Int), .string st.rules[k].event, .slice b1 m1 d1, .int .i64 (st.rules[k].to_ : Int), .string st.rules[k].goal, .slice b2 m2 d2] 128)
      have hcW := (HC.out.below HB.out).below hBW
      have hlk : ∀ m, (Instr.lookup 105 (.map (some b)) (.string st.rules[k].event) false).run Tryd.prog ((wr.alloc (.cells #[.int .i64 (st.rules[k].at_ : Int), .int .i64 (st.rules[k].eventAt : Int), .string st.rules[k].event, .slice b1 m1 d1, .int .i64 (st.rules[k].to_ : Int), .string st.rules[k].goal, .slice b2 m2 d2] 128)).drewN m) = .ok (.int .i64 (i0 : Int)) ((wr.alloc (.cells #[.int .i64 (st.rules[k].at_ : Int), .int .i64 (st.rules[k].eventAt : Int), .string st.rules[k].event, .slice b1 m1 d1, .int .i64 (st.rules[k].to_ : Int), .string st.rules[k].goal, .slice b2 m2 d2] 128)).drewN m) := fun m => by
        have h9 : ColsC ((wr.alloc (.cells #[.int .i64 (st.rules[k].at_ : Int), .int .i64 (st.rules[k].eventAt : Int), .string st.rules[k].event, .slice b1 m1 d1, .int .i64 (st.rules[k].to_ : Int), .string st.rules[k].goal, .slice b2 m2 d2] 128)).drewN m) b cols := hcW
        have := h9.look i0 hi0 (by rw [hie]; exact hf3)
        rw [hie] at this; exact this
      have HG := hide (hgg.below hBW)
      have HA := hide (haa.below hBW)
      have HSW := hide ((HS.out.below HB.out).below hBW)
      have HV := hide (hv0.below hBW (Nat.le_refl _))
      have HBW := hide hBW
      clear hgg haa hBW v2 v3 v4 v5 hv0 hcW
      go_upto_region 5 with fail
      go_cut [10] (fun y wc => y = .int .i64 (i0 : Int) ∧ Hid (Below (wr.heap.size + 1) (wr.alloc (.cells #[.int .i64 (st.rules[k].at_ : Int), .int .i64 (st.rules[k].eventAt : Int), .string st.rules[k].event, .slice b1 m1 d1, .int .i64 (st.rules[k].to_ : Int), .string st.rules[k].goal, .slice b2 m2 d2] 128)) wc) ∧ wc.heap.size = wr.heap.size + 1)
      case first =>
        go_quiet (fail)
        go_wp2_with fail
        go_meet
        case rel => exact ⟨rfl, below_drewN (Below.refl _ _) _, by simp⟩
      case rest =>
        obtain ⟨rfl, HBc, hzc⟩ := hcut
        have HGc := hide (ownsRow_same HG.out (fun j _ h2 => HBc.out.block j (by simpa using h2)))
        have HAc := hide (ownsRow_same HA.out (fun j _ h2 => HBc.out.block j (by simpa using h2)))
        have HSc := hide (HSW.out.same (fun j _ h2 => HBc.out.block j (by simpa using h2)))
        have HVc := hide (HV.out.below HBc.out (by simp))
        have HB1 := hide (HB.out.trans ((HBW.out.trans (HBc.out.mono (by simp))).mono hsz))
        clear e0 e1 e2 e3 e4 e5 e6 y1 hlk
        obtain ⟨p0, p1, p2, p3, p4, p5, p6⟩ := blk7 ((HBc.out.block wr.heap.size (by omega)).trans (heap_alloc_new wr (.cells #[.int .i64 (st.rules[k].at_ : Int), .int .i64 (st.rules[k].eventAt : Int), .string st.rules[k].event, .slice b1 m1 d1, .int .i64 (st.rules[k].to_ : Int), .string st.rules[k].goal, .slice b2 m2 d2] 128)))
        obtain ⟨yv, hgw⟩ := HVc.out.cell hvi
        rw [hv3] at yv
        have hzr : wr.heap.size < wc.heap.size := by omega
        have hzw : w.heap.size ≤ wc.drew.heap.size := by show w.heap.size ≤ wc.heap.size; omega
        have hxl : (rowTo cols st.rules k i0).length ≤ k := rowTo_len _ _ _ _
        go_wp2_with fail
        go_region_law ((first
          | (have hvx := HV5.out.below ((Below.refl _ _).alloc (Nat.le_refl _) (.cells #[.int .i64 (k : Int), .slice ga gn gc, .int .i64 (goalOf sts st.rules[k].goal), .slice aa an ac] 100)) (Nat.le_refl _); obtain ⟨xs, hx1, hx2, hx3⟩ := hvx.2.2.1 i0 hvi; have hxs : xs.length ≤ k := (by rw [← List.length_map (f := fun x : Se × Value × Value => x.1), hx1]; exact hxl); have hx4 := hx2; rw [hv3] at hx4; refine step_append_own_at (by rfl) _ _ 103 (by rfl) w.heap.size 100 iT (.agg #[.int .i64 0, .slice none 0 0, .int .i64 0, .slice none 0 0]) 4 64 Tryd.underlyingSteps hT hT0 hT1 hT2 rfl (by decide) _ _ _ (by rfl) hx4 ⟨w5.heap.size, 0, none⟩ 1 1 [.int .i64 (k : Int), .slice ga gn gc, .int .i64 (goalOf sts st.rules[k].goal), .slice aa an ac] (by rfl) rfl (cell_four_new _ _ _ _ _ _ _ rfl) one4S (by unfold maxLen; omega) (by omega) (by simp; omega) ?_; intro v7 w7 ho7 hg7 hl7; obtain ⟨a7, l7, c7, rfl⟩ := own_slice ho7; have hrow : ∀ kk, (Value.slice a3 n3 c3).ownBlock = some kk → w.heap.size ≤ kk := (fun kk e' => (World.ownsRow.lt hx4 kk e').1); have HB7 := hide (((HB1.out.trans (HB5.out.mono (by omega))).alloc (by omega) (.cells #[.int .i64 (k : Int), .slice ga gn gc, .int .i64 (goalOf sts st.rules[k].goal), .slice aa an ac] 100)).grown hg7 (by simp; omega) hrow); have hra := RowC.add (e := (k, st.rules[k])) rfl hvx.1 hvx.2.1 hvx.2.2.1 hvx.2.2.2 hvi (by rw [hv3]; exact hg7) hx1 hx2 hx3 (ownsRow_alloc (ownsRow_base HCD.out hzw) _) (ownsRow_alloc (ownsRow_base HAC.out hzw) _) ho7 (by rw [hv3]; exact hl7); obtain ⟨hr1, hr2, hr3⟩ := hra; rw [hv3] at hr2; have HRN := hide hr1; clear hx1 hx2 hx3 hx4 ho7 hg7 hl7 hvx hr1 hrow hxs)
          | (go_wp2_with (go_at_call 65; refine (step_any _ base st.rules[k] _ _ _ _ _ _ _ _ _ k sts hf1 hf2 ?_ ?_ ?_).mono ?_; exact ownsRow_same HGc.out (fun _ _ _ => rfl); exact ownsRow_same HAc.out (fun _ _ _ => rfl); exact HSc.out.same (fun _ _ _ => rfl); rintro e w5 ⟨gv, av, rfl, hcd, hac, hb5⟩; obtain ⟨ga, gn, gc, rfl⟩ := own_slice hcd; obtain ⟨aa, an, ac, rfl⟩ := own_slice hac; have HCD := hide hcd; have HAC := hide hac; have HB5 := hide ((Below.refl wc.heap.size wc).drew.trans hb5); have HV5 := hide (HVc.out.below HB5.out (Nat.le_refl _)); obtain ⟨z1, z2⟩ := HV5.out.cell hvi; rw [hv3] at z1; have hz5 := HB5.out.size; clear hcd hac hb5))))
        all_goals
          go_wp2_with fail
          go_roundg (st.rules.length - (k + 1))
          case measure => have := E1.out; omega
          case rel =>
            refine ⟨k + 1, by omega, by go_num, HB7.out.setCell (by simp) _, ?_⟩
            rw [rowTo_step HC.out st.rules k hlt i0 hi0 hie]
            have := HRN.out
            rw [show vs.length = cols.length from by assumption] at this
            exact this
    · have hT' : k = st.rules.length := by have := E1.out; omega
      subst hT'
      go_wp2
      go_ret
      exact ⟨_, rfl, by omega, HRo.out, HB.out⟩
end Go.Proofs.YtcijookbgliglaaDoor
