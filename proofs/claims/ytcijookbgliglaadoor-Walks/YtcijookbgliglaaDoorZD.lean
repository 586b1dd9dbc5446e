import Derived.Test.YtcijookbgliglaaDoorZk
/- A rule as the walk needs it: how it lies in memory while the program's step makes it. -/
namespace Go.Proofs.YtcijookbgliglaaDoor
open Go.RowKit

def cdC (gs : List Pm.Gd) : List Value := gs.flatMap fun g => [.string g.word, .bool g.not]
theorem cdC_snoc (gs : List Pm.Gd) (g : Pm.Gd) : cdC (gs ++ [g]) = cdC gs ++ [.string g.word, .bool g.not] := by simp [cdC]
def CondsC (w : World) (base : Nat) (v : Value) (gs : List Pm.Gd) : Prop := w.ownsRow base 134 2 v gs.length (cdC gs)

/-- The step that is being made: w0 the world at the call. -/
structure StepIn (w0 : World) (w : World) (r : Pm.Rl) (v1 v2 : Value) (num goal : Int) (gv : Value) (gs : List Pm.Gd) (av : Value) (acs : List Pm.Ac) : Prop where
  below : Below w0.heap.size w0 w
  box : w.heap[w0.heap.size]? = some (.cells (ruleX r v1 v2) 128 (0, 0))
  res : w.heap[w0.heap.size + 1]? = some (.cells #[.int .i64 0, .slice none 0 0, .int .i64 0, .slice none 0 0] 100 (0, 0))
  sv : w.heap[w0.heap.size + 2]? = some (.cells #[.int .i64 num, gv, .int .i64 goal, av] 100 (0, 0))
  guards : CondsC w w0.heap.size gv gs
  acts : ActsR w w0.heap.size av acs
section
variable {w0 w : World} {r : Pm.Rl} {v1 v2 : Value} {num goal : Int} {gv : Value} {gs : List Pm.Gd} {av : Value} {acs : List Pm.Ac}

theorem StepIn.size (h : StepIn w0 w r v1 v2 num goal gv gs av acs) : w0.heap.size + 2 < w.heap.size := (Array.getElem?_eq_some_iff.1 h.sv).1
theorem StepIn.by_ (h : StepIn w0 w r v1 v2 num goal gv gs av acs) {w' : World} (hb : Below w.heap.size w w') : StepIn w0 w' r v1 v2 num goal gv gs av acs := by
  have hz := h.size
  exact ⟨h.below.trans (hb.mono h.below.size), (hb.block _ (by omega)).trans h.box, (hb.block _ (by omega)).trans h.res, (hb.block _ hz).trans h.sv, ownsRow_same h.guards (fun k _ h2 => hb.block k h2), ownsRow_same h.acts (fun k _ h2 => hb.block k h2)⟩
theorem StepIn.alloc (h : StepIn w0 w r v1 v2 num goal gv gs av acs) (o : Obj) : StepIn w0 (w.alloc o) r v1 v2 num goal gv gs av acs := h.by_ ((Below.refl _ _).alloc (Nat.le_refl _) o)
theorem StepIn.setGoal (h : StepIn w0 w r v1 v2 num goal gv gs av acs) (x : Int) : StepIn w0 (w.setCell ⟨w0.heap.size + 2, 2, none⟩ (.int .i64 x)) r v1 v2 num x gv gs av acs :=
  ⟨h.below.setCell (by simp) _, (Below.heap_setCell _ _ _ _ (by simp)).trans h.box, (Below.heap_setCell _ _ _ _ (by simp)).trans h.res, by have hb := h.sv; simp only [World.setCell, Array.getElem?_modify, hb]; simp,
    ownsRow_set_other h.guards h.sv (by decide) _, ownsRow_set_other h.acts h.sv (by decide) _⟩
theorem StepIn.addG (h : StepIn w0 w r v1 v2 num goal gv gs av acs) {w1 : World} {v' : Value} {gs' : List Pm.Gd} (hg : w.grownBy w1 gv.ownBlock) (ho : CondsC w1 w0.heap.size v' gs') :
    StepIn w0 (w1.setCell ⟨w0.heap.size + 2, 1, none⟩ v') r v1 v2 num goal v' gs' av acs := by
  have hz := h.size
  have hne : ∀ k cs T fr, T ≠ 134 → w.heap[k]? = some (.cells cs T fr) → some k ≠ gv.ownBlock := fun k cs T fr hT hk e => own_ne h.guards hk hT e.symm
  have hb : w1.heap[w0.heap.size + 2]? = some (.cells #[.int .i64 num, gv, .int .i64 goal, av] 100 (0, 0)) := (hg.block _ hz (hne _ _ _ _ (by decide) h.sv)).trans h.sv
  have ha : ActsR w1 w0.heap.size av acs := ownsRow_grown h.acts h.guards hg (by decide)
  refine ⟨?_, ?_, ?_, ?_, ownsRow_set_other ho hb (by decide) v', ownsRow_set_other ha hb (by decide) v'⟩
  · exact (h.below.grown hg h.below.size (fun k e => (World.ownsRow.lt h.guards k e).1)).setCell (by simp) v'
  · exact (Below.heap_setCell _ _ _ _ (by simp)).trans ((hg.block _ (by omega) (hne _ _ _ _ (by decide) h.box)).trans h.box)
  · exact (Below.heap_setCell _ _ _ _ (by simp)).trans ((hg.block _ (by omega) (hne _ _ _ _ (by decide) h.res)).trans h.res)
  · simp only [World.setCell, Array.getElem?_modify, hb]; simp
theorem StepIn.addA (h : StepIn w0 w r v1 v2 num goal gv gs av acs) {w1 : World} {v' : Value} {acs' : List Pm.Ac} (hg : w.grownBy w1 av.ownBlock) (ho : ActsR w1 w0.heap.size v' acs') :
    StepIn w0 (w1.setCell ⟨w0.heap.size + 2, 3, none⟩ v') r v1 v2 num goal gv gs v' acs' := by
  have hz := h.size
  have hne : ∀ k cs T fr, T ≠ 9 → w.heap[k]? = some (.cells cs T fr) → some k ≠ av.ownBlock := fun k cs T fr hT hk e => own_ne h.acts hk hT e.symm
  have hb : w1.heap[w0.heap.size + 2]? = some (.cells #[.int .i64 num, gv, .int .i64 goal, av] 100 (0, 0)) := (hg.block _ hz (hne _ _ _ _ (by decide) h.sv)).trans h.sv
  have ha : CondsC w1 w0.heap.size gv gs := ownsRow_grown h.guards h.acts hg (by decide)
  refine ⟨?_, ?_, ?_, ?_, ownsRow_set_other ha hb (by decide) v', ownsRow_set_other ho hb (by decide) v'⟩
  · exact (h.below.grown hg h.below.size (fun k e => (World.ownsRow.lt h.acts k e).1)).setCell (by simp) v'
  · exact (Below.heap_setCell _ _ _ _ (by simp)).trans ((hg.block _ (by omega) (hne _ _ _ _ (by decide) h.box)).trans h.box)
  · exact (Below.heap_setCell _ _ _ _ (by simp)).trans ((hg.block _ (by omega) (hne _ _ _ _ (by decide) h.res)).trans h.res)
  · simp only [World.setCell, Array.getElem?_modify, hb]; simp
theorem StepIn.storeG (h : StepIn w0 w r v1 v2 num goal gv gs av acs) {w1 : World} (hg : w.grownBy w1 gv.ownBlock) : w1.cell? ⟨w0.heap.size + 2, 1, none⟩ = some gv ∧ w1.frozen? ⟨w0.heap.size + 2, 1, none⟩ = false := by
  have hb := (hg.block _ h.size (fun e => own_ne h.guards h.sv (by decide) e.symm)).trans h.sv
  simp [World.cell?, World.frozen?, hb]
theorem StepIn.storeA (h : StepIn w0 w r v1 v2 num goal gv gs av acs) {w1 : World} (hg : w.grownBy w1 av.ownBlock) : w1.cell? ⟨w0.heap.size + 2, 3, none⟩ = some av ∧ w1.frozen? ⟨w0.heap.size + 2, 3, none⟩ = false := by
  have hb := (hg.block _ h.size (fun e => own_ne h.acts h.sv (by decide) e.symm)).trans h.sv
  simp [World.cell?, World.frozen?, hb]
end
theorem Tryd.underlyingConds : Tryd.prog.underlying 98 = some (.slice 134) := by kernel_rfl
theorem Tryd.infoCond : (Tryd.prog.info? 134).map (fun i => (i.zero, i.size, i.bytes)) = some (some (.agg #[.string ByteArray.empty, .bool false]), 2, 24) := by kernel_rfl
theorem one2D {t : ByteArray} {n : Bool} : ∀ u ∈ [Value.string t, .bool n], u.oneCell' = true := by
  intro u hu; simp at hu; rcases hu with rfl | rfl <;> rfl
def goalOf (sts : List Pm.St) (g : ByteArray) : Int := if 0 ≤ Pm.whereI sts g then Pm.whereI sts g else (sts.length : Int)

theorem ActsC.len {w : World} {base : Nat} {a : Option Addr} {n c : Nat} {gs : List Pm.Ac} (h : ActsC w base (.slice a n c) gs) : n = gs.length ∧ n ≤ 9223372036854775807 := by
  obtain ⟨h1, h2, _⟩ := own_len h
  exact ⟨h1, by omega⟩
theorem ActsC.at4 {w : World} {base : Nat} {g n c : Nat} {gs : List Pm.Ac} (h : ActsC w base (.slice (some ⟨g, 0, none⟩) n c) gs) (i : Nat) (hi : i < gs.length) :
    w.cell? ⟨g, i * 2, none⟩ = some (.int .i64 (gs[i].at_ : Int)) ∧ w.cell? ⟨g, i * 2 + 1, none⟩ = some (.string gs[i].word) := by
  have hfl := flat_get (fun g : Pm.Ac => [.int .i64 (g.at_ : Int), .string g.word]) 2 (fun _ => rfl) gs i
  refine ⟨?_, ?_⟩
  · exact own_cell h (by have := hfl 0 hi (by omega); simpa [acC] using this)
  · exact own_cell h (by have := hfl 1 hi (by omega); simpa [acC] using this)
theorem ActsC.isAt {w : World} {base : Nat} {a : Option Addr} {n c : Nat} {gs : List Pm.Ac} (h : ActsC w base (.slice a n c) gs) (i : Nat) (hi : i < gs.length) : ∃ g, a = some ⟨g, 0, none⟩ ∧ g < w.heap.size ∧ gs.length ≤ c := by
  obtain ⟨_, _, h3⟩ := own_len h
  obtain ⟨g, h4, _, h5, h6⟩ := h3 (by omega)
  exact ⟨g, h4, h5, h6⟩
theorem ActsC.below {w w' : World} {base : Nat} {v : Value} {gs : List Pm.Ac} (h : ActsC w base v gs) (hb : Below w.heap.size w w') : ActsC w' base v gs := ownsRow_same h (fun k _ h2 => hb.block k h2)
end Go.Proofs.YtcijookbgliglaaDoor

/- The walk over the program's step. -/
namespace Go.Proofs.YtcijookbgliglaaDoor
open Go.RowKit

theorem cell_two_new' (w : World) (a b : Value) (t : TypeId) (k : Nat) (hk : k = w.heap.size) : ∀ j u, [a, b][j]? = some u → (w.alloc (.cells #[a, b] t)).cell? ((⟨k, 0, none⟩ : Addr).add j) = some u := by
  subst hk
  obtain ⟨h0, h1, -⟩ := blk2 (heap_alloc_new w (.cells #[a, b] t))
  intro j u hu
  match j, hu with
  | 0, hu => simp at hu; subst hu; exact h0
  | 1, hu => simp at hu; subst hu; exact h1
  | j + 2, hu => simp at hu

def LeftS (w0 w : World) (gv : Value) (gs : List Pm.Gd) (av : Value) (acs : List Pm.Ac) : Prop :=
  Below w0.heap.size w0 w ∧ (∃ cs, w.heap[w0.heap.size + 1]? = some (.cells cs 100 (0, 0))) ∧ CondsC w w0.heap.size gv gs ∧ ActsR w w0.heap.size av acs
theorem LeftS.set {w0 w : World} {gv av : Value} {gs : List Pm.Gd} {acs : List Pm.Ac} (h : LeftS w0 w gv gs av acs) (o : Nat) (v : Value) : LeftS w0 (w.setCell ⟨w0.heap.size + 1, o, none⟩ v) gv gs av acs := by
  obtain ⟨h1, ⟨cs, h4⟩, h5, h6⟩ := h
  refine ⟨h1.setCell (by simp) v, ⟨cs.setIfInBounds o v, ?_⟩, ownsRow_set_other h5 h4 (by decide) v, ownsRow_set_other h6 h4 (by decide) v⟩
  simp only [World.setCell, Array.getElem?_modify, h4]; simp

set_option maxRecDepth 100000 in
set_option maxHeartbeats 4000000 in
theorem step_any (w : World) (base : Nat) (r : Pm.Rl) (a1 a2 a : Option Addr) (n1 c1 n2 c2 n c : Nat) (num : Nat) (sts : List Pm.St) (hgl : r.guards.length ≤ 301) (hal : r.actions.length ≤ 301) (h1 : GuardsC w base (.slice a1 n1 c1) r.guards) (h2 : ActsC w base (.slice a2 n2 c2) r.actions) (h : StatesC w base (.slice a n c) sts) :
    Calls Tryd.prog 65 #[ruleV r (.slice a1 n1 c1) (.slice a2 n2 c2), .int .i64 (num : Int), .slice a n c] w fun e w' => ∃ gv av, e = .returned (.agg #[.int .i64 (num : Int), gv, .int .i64 (goalOf sts r.goal), av]) ∧ CondsC w' w.heap.size gv r.guards ∧ ActsR w' w.heap.size av r.actions ∧ Below w.heap.size w w' := by
  obtain ⟨rfl, hM1⟩ := h1.len
  obtain ⟨rfl, hM2⟩ := h2.len
  obtain ⟨rfl, hM⟩ := h.len
  obtain ⟨iS, hS, hS0, hS1, hS2⟩ := info_parts Tryd.infoString
  obtain ⟨iC, hC, hC0, hC1, hC2⟩ := info_parts Tryd.infoCond
  have J0 : StepIn w (((w.alloc (.cells (ruleX r (.slice a1 r.guards.length c1) (.slice a2 r.actions.length c2)) 128)).alloc (.cells #[.int .i64 0, .slice none 0 0, .int .i64 0, .slice none 0 0] 100)).alloc (.cells #[.int .i64 (num : Int), .slice none 0 0, .int .i64 (sts.length : Int), .slice none 0 0] 100)) r (.slice a1 r.guards.length c1) (.slice a2 r.actions.length c2) num sts.length (.slice none 0 0) [] (.slice none 0 0) [] := by
    refine ⟨(((Below.refl _ _).alloc (Nat.le_refl _) _).alloc (by simp) _).alloc (by simp; omega) _, ?_, ?_, ?_, ?_, ?_⟩
    · exact (Below.heap_alloc _ _ _ (by simp; omega)).trans ((Below.heap_alloc _ _ _ (by simp)).trans (heap_alloc_new w _))
    · exact (Below.heap_alloc _ _ _ (by simp)).trans (by have := heap_alloc_new (w.alloc (.cells (ruleX r (.slice a1 r.guards.length c1) (.slice a2 r.actions.length c2)) 128)) (.cells #[.int .i64 0, .slice none 0 0, .int .i64 0, .slice none 0 0] 100); simpa using this)
    · have := heap_alloc_new ((w.alloc (.cells (ruleX r (.slice a1 r.guards.length c1) (.slice a2 r.actions.length c2)) 128)).alloc (.cells #[.int .i64 0, .slice none 0 0, .int .i64 0, .slice none 0 0] 100)) (.cells #[.int .i64 (num : Int), .slice none 0 0, .int .i64 (sts.length : Int), .slice none 0 0] 100)
      simpa using this
    · exact ⟨rfl, .inl ⟨rfl, rfl⟩⟩
    · exact ⟨rfl, .inl ⟨rfl, rfl⟩⟩
  have J := hide J0
  have HG := hide h1
  have HA := hide h2
  have HS := hide h
  clear h1 h2 h J0
  unfold ruleV
  go_enter Tryd.func65, Tryd.ntmps65
  go_wp2_with fail
  refine (find_any _ base _ _ _ sts r.goal (HS.out.below J.out.below)).mono ?_
  rintro e w2 ⟨rfl, hb2⟩
  have J1 := hide (J.out.by_ hb2)
  obtain ⟨d, hd⟩ : ∃ d, decide (0 ≤ Pm.whereI sts r.goal) = d := ⟨_, rfl⟩
  rw [hd]
  have HD := hide hd
  clear hb2 J hd
  obtain ⟨s0, s1, s2, s3, sf⟩ := blk4 J1.out.sv
  have hz := J1.out.size
  go_upto_if 26 with fail
  go_cut [] (fun wc => Hid (StepIn w wc r (.slice a1 r.guards.length c1) (.slice a2 r.actions.length c2) num (goalOf sts r.goal) (.slice none 0 0) [] (.slice none 0 0) []))
  case first =>
    cases d
    · have hg : goalOf sts r.goal = (sts.length : Int) := by unfold goalOf; rw [if_neg (of_decide_eq_false HD.out)]
      have HGo := hide hg
      clear hg
      go_wp2_with fail
      go_meet
      case rel => show StepIn _ _ _ _ _ _ _ _ _ _ _; rw [HGo.out]; exact J1.out
    · have hg : goalOf sts r.goal = Pm.whereI sts r.goal := by unfold goalOf; rw [if_pos (of_decide_eq_true HD.out)]
      have HGo := hide hg
      clear hg
      go_wp2_with fail
      go_meet
      case rel => show StepIn _ _ _ _ _ _ _ _ _ _ _; rw [HGo.out]; exact J1.out.setGoal _
  case rest =>
    clear s0 s1 s2 s3 sf J1 hz
    have JC := hcut
    clear hcut
    have hz := JC.out.size
    obtain ⟨x0, x1, x2, x3, x4, x5, x6⟩ := blk7 JC.out.box
    go_wp2
    go_loopg [32] r.guards.length (fun gk i wr => ∃ (k : Nat) (a' : Option Addr) (l' c' : Nat), k + gk = r.guards.length ∧ i = .int .i64 (k : Int) ∧ Hid (StepIn w wr r (.slice a1 r.guards.length c1) (.slice a2 r.actions.length c2) num (goalOf sts r.goal) (.slice a' l' c') (r.guards.take k) (.slice none 0 0) []))
    case atStart => exact ⟨0, _, _, _, by omega, rfl, JC⟩
    case round =>
      clear JC x0 x1 x2 x3 x4 x5 x6 hz
      obtain ⟨k, a', l', c', hk, rfl, JC⟩ := hrel
      have E1 := hide hk
      clear hk
      have hz := JC.out.size
      by_cases hlt : k < r.guards.length
      · have hgg := HG.out.below JC.out.below
        obtain ⟨g, rfl, hgg2, hcap⟩ := hgg.isAt k hlt
        obtain ⟨d0, d1, d2⟩ := hgg.at4 k hlt
        obtain ⟨s0, s1, s2, s3, sf⟩ := blk4 JC.out.sv
        have JD := hide ((JC.out.alloc (.cells #[.int .i64 (r.guards[k].at_ : Int), .string r.guards[k].word, .bool r.guards[k].not] 157)).alloc (.cells #[.string r.guards[k].word, .bool r.guards[k].not] 134))
        have hlk : (r.guards.take k).length = k := by rw [List.length_take]; omega
        clear hgg
        go_wp2_with (at_builtin; go_must (refine wpList_append_own _ rfl _ _ 98 rfl w.heap.size 134 iC (.agg #[.string ByteArray.empty, .bool false]) 2 24 Tryd.underlyingConds hC hC0 hC1 hC2 rfl (by decide) _ _ _ rfl JD.out.guards ⟨wr.heap.size + 1, 0, none⟩ 1 1 [.string r.guards[k].word, .bool r.guards[k].not] rfl rfl (cell_two_new' _ _ _ _ _ (by simp)) one2D (by unfold maxLen; omega) (by omega) (by simp; omega) ?_; intro v5 w5 ho5 hg5 _; obtain ⟨a5, m5, l5, rfl⟩ := own_slice ho5; obtain ⟨c5, f5⟩ := JD.out.storeG hg5; have HO5 := hide ho5; have HG5 := hide hg5; clear ho5 hg5))
        have J9 := hide (JD.out.addG (gs' := r.guards.take (k + 1)) HG5.out (by have h := HO5.out; unfold CondsC; rw [List.take_succ_eq_append_getElem hlt, cdC_snoc, List.length_append]; exact h))
        go_roundg (r.guards.length - (k + 1))
        case measure => have := E1.out; omega
        case rel => exact ⟨k + 1, _, _, _, by omega, by go_num, J9⟩
      · have hT : r.guards.take k = r.guards := List.take_of_length_le (by omega)
        rw [hT] at JC
        clear hT
        obtain ⟨x0, x1, x2, x3, x4, x5, x6⟩ := blk7 JC.out.box
        go_wp2
        go_loopg [47] r.actions.length (fun gk i wr => ∃ (k : Nat) (a2' : Option Addr) (l2' c2' : Nat), k + gk = r.actions.length ∧ i = .int .i64 (k : Int) ∧ Hid (StepIn w wr r (.slice a1 r.guards.length c1) (.slice a2 r.actions.length c2) num (goalOf sts r.goal) (.slice a' l' c') r.guards (.slice a2' l2' c2') (r.actions.take k)))
        case atStart => exact ⟨0, _, _, _, by omega, rfl, JC⟩
        case round =>
          clear JC x0 x1 x2 x3 x4 x5 x6 hz
          obtain ⟨q, a2', l2', c2', hq, rfl, JC⟩ := hrel
          have E2 := hide hq
          clear hq
          have hz := JC.out.size
          by_cases hql : q < r.actions.length
          · have hgg := HA.out.below JC.out.below
            obtain ⟨g, rfl, hgg2, hcap⟩ := hgg.isAt q hql
            obtain ⟨d0, d1⟩ := hgg.at4 q hql
            obtain ⟨s0, s1, s2, s3, sf⟩ := blk4 JC.out.sv
            have JD := hide ((JC.out.alloc (.cells #[.int .i64 (r.actions[q].at_ : Int), .string r.actions[q].word] 121)).alloc (.cells #[.string r.actions[q].word] 9))
            have hlk : (r.actions.take q).length = q := by rw [List.length_take]; omega
            clear hgg
            go_wp2_with (at_builtin; go_must (refine wpList_append_own _ rfl _ _ 33 rfl w.heap.size 9 iS (.string ByteArray.empty) 1 16 Tryd.underlyingStrings hS hS0 hS1 hS2 rfl (by decide) _ _ _ rfl JD.out.acts ⟨wr.heap.size + 1, 0, none⟩ 1 1 [.string r.actions[q].word] rfl rfl (cell_one_new' _ _ _ _ (by simp)) one1 (by unfold maxLen; omega) (by omega) (by simp; omega) ?_; intro v5 w5 ho5 hg5 _; obtain ⟨a5, m5, l5, rfl⟩ := own_slice ho5; obtain ⟨c5, f5⟩ := JD.out.storeA hg5; have HO5 := hide ho5; have HG5 := hide hg5; clear ho5 hg5))
            have J9 := hide (JD.out.addA (acs' := r.actions.take (q + 1)) HG5.out (by have h := HO5.out; unfold ActsR; rw [List.take_succ_eq_append_getElem hql, acCells_snoc, List.length_append]; exact h))
            go_roundg (r.actions.length - (q + 1))
            case measure => have := E2.out; omega
            case rel => exact ⟨q + 1, _, _, _, by omega, by go_num, J9⟩
          · have hT : r.actions.take q = r.actions := List.take_of_length_le (by omega)
            rw [hT] at JC
            clear hT
            obtain ⟨s0, s1, s2, s3, sf⟩ := blk4 JC.out.sv
            obtain ⟨r0, r1, r2, r3, rf⟩ := blk4 JC.out.res
            go_wp2_with fail
            have hLf : LeftS w wr (.slice a' l' c') r.guards (.slice a2' l2' c2') r.actions := ⟨JC.out.below, ⟨_, JC.out.res⟩, JC.out.guards, JC.out.acts⟩
            have hL4 := (((hLf.set 0 (.int .i64 (num : Int))).set 1 (.slice a' l' c')).set 2 (.int .i64 (goalOf sts r.goal))).set 3 (.slice a2' l2' c2')
            refine bodyPost_ret (v := .agg #[.int .i64 (num : Int), .slice a' l' c', .int .i64 (goalOf sts r.goal), .slice a2' l2' c2']) (by simp [results, Tryd.results65, go_sem, r0, r1, r2, r3]) rfl ⟨_, _, rfl, hL4.2.2.1, hL4.2.2.2, hL4.1⟩
end Go.Proofs.YtcijookbgliglaaDoor
