import Derived.Test.YtcijookbgliglaaDoorYg
/- The walk over the program's rule. -/
namespace Go.Proofs.YtcijookbgliglaaDoor
open Go.RowKit

structure RuleC (w0 : World) (b : Nat) (s : ByteArray) (w : World) (p : Pm.Pn) (X : Nat) (at_ evAt : Nat) (ev : ByteArray) (gv : Value) (gs : List Pm.Gd) (to_ : Nat) (goal : ByteArray) (av : Value) (acs : List Pm.Ac) : Prop where
  lt : b < w0.heap.size
  kept : Kept b w0 w
  rd : RdAt w b s p.g
  xge : w0.heap.size < X
  res : w.heap[w0.heap.size]? = some (.cells #[.int .i64 0, .int .i64 0, .string Pm.emp, .slice none 0 0, .int .i64 0, .string Pm.emp, .slice none 0 0] 128 (0, 0))
  box : w.heap[X]? = some (.cells #[.int .i64 (at_ : Int), .int .i64 (evAt : Int), .string ev, gv, .int .i64 (to_ : Int), .string goal, av] 128 (0, 0))
  guards : GuardsC w w0.heap.size gv gs
  acts : ActsC w w0.heap.size av acs

section
variable {w0 : World} {b : Nat} {s : ByteArray} {w : World} {p : Pm.Pn} {X at_ evAt : Nat} {ev : ByteArray} {gv : Value} {gs : List Pm.Gd} {to_ : Nat} {goal : ByteArray} {av : Value} {acs : List Pm.Ac}
theorem RuleC.size (h : RuleC w0 b s w p X at_ evAt ev gv gs to_ goal av acs) : X < w.heap.size := (Array.getElem?_eq_some_iff.1 h.box).1
theorem RuleC.size0 (h : RuleC w0 b s w p X at_ evAt ev gv gs to_ goal av acs) : w0.heap.size < w.heap.size := (Array.getElem?_eq_some_iff.1 h.res).1
theorem RuleC.keptBy (h : RuleC w0 b s w p X at_ evAt ev gv gs to_ goal av acs) {w1 : World} {p1 : Pm.Pn} (hk : Kept b w w1) (hp : RdAt w1 b s p1.g) : RuleC w0 b s w1 p1 X at_ evAt ev gv gs to_ goal av acs :=
  ⟨h.lt, h.kept.trans hk, hp, h.xge, (hk.block _ h.size0 (by have := h.lt; omega)).trans h.res, (hk.block _ h.size (by have := h.lt; have := h.xge; omega)).trans h.box, ownsRow_kept h.guards hk h.lt, ownsRow_kept h.acts hk h.lt⟩
theorem RuleC.setBox (h : RuleC w0 b s w p X at_ evAt ev gv gs to_ goal av acs) (o : Nat) (v : Value) {gv' : Value} {gs' : List Pm.Gd} {to' : Nat} {goal' : ByteArray} {av' : Value} {acs' : List Pm.Ac}
    (hc : (#[.int .i64 (at_ : Int), .int .i64 (evAt : Int), .string ev, gv, .int .i64 (to_ : Int), .string goal, av] : Array Value).setIfInBounds o v = #[.int .i64 (at_ : Int), .int .i64 (evAt : Int), .string ev, gv', .int .i64 (to' : Int), .string goal', av'])
    (hg : GuardsC w w0.heap.size gv' gs') (ha : ActsC w w0.heap.size av' acs') : RuleC w0 b s (w.setCell ⟨X, o, none⟩ v) p X at_ evAt ev gv' gs' to' goal' av' acs' :=
  ⟨h.lt, h.kept.setNew ⟨X, o, none⟩ (by have := h.xge; simp; omega) v, h.rd.other _ (by have := h.lt; have := h.xge; simp; omega) v, h.xge, (Below.heap_setCell _ _ _ _ (by have := h.xge; simp; omega)).trans h.res,
    by have hb := h.box; simp only [World.setCell, Array.getElem?_modify, hb]; simp [hc],
    ownsRow_set_other hg h.box (by decide) v, ownsRow_set_other ha h.box (by decide) v⟩
theorem RuleC.setG (h : RuleC w0 b s w p X at_ evAt ev gv gs to_ goal av acs) {v : Value} {gs' : List Pm.Gd} (hg : GuardsC w w0.heap.size v gs') : RuleC w0 b s (w.setCell ⟨X, 3, none⟩ v) p X at_ evAt ev v gs' to_ goal av acs := h.setBox 3 v rfl hg h.acts
theorem RuleC.setA (h : RuleC w0 b s w p X at_ evAt ev gv gs to_ goal av acs) {v : Value} {acs' : List Pm.Ac} (ha : ActsC w w0.heap.size v acs') : RuleC w0 b s (w.setCell ⟨X, 6, none⟩ v) p X at_ evAt ev gv gs to_ goal v acs' := h.setBox 6 v rfl h.guards ha
theorem RuleC.setGoal (h : RuleC w0 b s w p X at_ evAt ev gv gs to_ goal av acs) (n : Nat) (t : ByteArray) : RuleC w0 b s ((w.setCell ⟨X, 4, none⟩ (.int .i64 (n : Int))).setCell ⟨X, 5, none⟩ (.string t)) p X at_ evAt ev gv gs n t av acs :=
  (h.setBox 4 (.int .i64 (n : Int)) (to' := n) (goal' := goal) rfl h.guards h.acts).setBox 5 (.string t) rfl (h.setBox 4 (.int .i64 (n : Int)) (to' := n) (goal' := goal) rfl h.guards h.acts).guards (h.setBox 4 (.int .i64 (n : Int)) (to' := n) (goal' := goal) rfl h.guards h.acts).acts
theorem RuleC.boxed (h : RuleC w0 b s w p X at_ evAt ev gv gs to_ goal av acs) :
    w.cell? ⟨X, 0, none⟩ = some (.int .i64 (at_ : Int)) ∧ w.cell? ⟨X, 1, none⟩ = some (.int .i64 (evAt : Int)) ∧ w.cell? ⟨X, 2, none⟩ = some (.string ev) ∧ w.cell? ⟨X, 3, none⟩ = some gv ∧ w.cell? ⟨X, 4, none⟩ = some (.int .i64 (to_ : Int)) ∧ w.cell? ⟨X, 5, none⟩ = some (.string goal) ∧ w.cell? ⟨X, 6, none⟩ = some av ∧ ∀ o, w.frozen? ⟨X, o, none⟩ = false := by
  have hb := h.box
  simp [World.cell?, World.frozen?, hb]
theorem RuleC.resd (h : RuleC w0 b s w p X at_ evAt ev gv gs to_ goal av acs) :
    w.cell? ⟨w0.heap.size, 0, none⟩ = some (.int .i64 0) ∧ w.cell? ⟨w0.heap.size, 1, none⟩ = some (.int .i64 0) ∧ w.cell? ⟨w0.heap.size, 2, none⟩ = some (.string Pm.emp) ∧ w.cell? ⟨w0.heap.size, 3, none⟩ = some (.slice none 0 0) ∧ w.cell? ⟨w0.heap.size, 4, none⟩ = some (.int .i64 0) ∧ w.cell? ⟨w0.heap.size, 5, none⟩ = some (.string Pm.emp) ∧ w.cell? ⟨w0.heap.size, 6, none⟩ = some (.slice none 0 0) ∧ ∀ o, w.frozen? ⟨w0.heap.size, o, none⟩ = false := by
  have hb := h.res
  simp [World.cell?, World.frozen?, hb]
/-- A store into the result's block leaves reader, guards and actions. -/
def LeftC (w0 : World) (b : Nat) (s : ByteArray) (w : World) (p : Pm.Pn) (gv : Value) (gs : List Pm.Gd) (av : Value) (acs : List Pm.Ac) : Prop :=
  b < w0.heap.size ∧ Kept b w0 w ∧ RdAt w b s p.g ∧ (∃ cs, w.heap[w0.heap.size]? = some (.cells cs 128 (0, 0))) ∧ GuardsC w w0.heap.size gv gs ∧ ActsC w w0.heap.size av acs
theorem RuleC.left (h : RuleC w0 b s w p X at_ evAt ev gv gs to_ goal av acs) : LeftC w0 b s w p gv gs av acs := ⟨h.lt, h.kept, h.rd, ⟨_, h.res⟩, h.guards, h.acts⟩
theorem LeftC.set {gv av : Value} {gs : List Pm.Gd} {acs : List Pm.Ac} (h : LeftC w0 b s w p gv gs av acs) (o : Nat) (v : Value) : LeftC w0 b s (w.setCell ⟨w0.heap.size, o, none⟩ v) p gv gs av acs := by
  obtain ⟨h1, h2, h3, ⟨cs, h4⟩, h5, h6⟩ := h
  refine ⟨h1, h2.setNew ⟨_, o, none⟩ (by simp) v, h3.other _ (by simp; omega) v, ⟨cs.setIfInBounds o v, ?_⟩, ownsRow_set_other h5 h4 (by decide) v, ownsRow_set_other h6 h4 (by decide) v⟩
  simp only [World.setCell, Array.getElem?_modify, h4]; simp
end

set_option maxRecDepth 100000 in
set_option maxHeartbeats 2000000 in
theorem rule_rd (w : World) (b : Nat) (s : ByteArray) (p : Pm.Pn) {r : Pm.Rl} {q : Pm.Pn} (hn : Pm.rule s p = (r, q)) (hs : s.size ≤ 300) (hL : Pm.Live s p) (hp : RdAt w b s p.g) :
    Calls Tryd.prog 73 #[.pointer (some ⟨b, 0, none⟩)] w fun e w' => Go1 b s w q (fun e w' => ∃ a1 n1 c1 a2 n2 c2, e = .returned (.agg #[.int .i64 (r.at_ : Int), .int .i64 (r.eventAt : Int), .string r.event, .slice a1 n1 c1, .int .i64 (r.to_ : Int), .string r.goal, .slice a2 n2 c2]) ∧ GuardsC w' w.heap.size (.slice a1 n1 c1) r.guards ∧ ActsC w' w.heap.size (.slice a2 n2 c2) r.actions) e w' := by
  obtain ⟨⟨g1, q1⟩, hn1⟩ : ∃ n, Pm.need s p Pm.wOn = n := ⟨_, rfl⟩
  obtain ⟨⟨g2, q2⟩, hn2⟩ : ∃ n, Pm.word s q1 = n := ⟨_, rfl⟩
  obtain ⟨⟨h3, q3⟩, hn3⟩ : ∃ n, Pm.skip s q2 Pm.wIf = n := ⟨_, rfl⟩
  obtain ⟨⟨gs4, q4⟩, hn4⟩ : ∃ n, Pm.guardL s (s.size + 1) h3 q3 = n := ⟨_, rfl⟩
  obtain ⟨⟨g5, q5⟩, hn5⟩ : ∃ n, Pm.need s q4 Pm.wGo = n := ⟨_, rfl⟩
  obtain ⟨⟨g6, q6⟩, hn6⟩ : ∃ n, Pm.goal1 s q5 = n := ⟨_, rfl⟩
  obtain ⟨⟨h7, q7⟩, hn7⟩ : ∃ n, Pm.skip s q6 Pm.wDo = n := ⟨_, rfl⟩
  obtain ⟨⟨as8, q8⟩, hn8⟩ : ∃ n, Pm.actL s (s.size + 1) h7 q7 = n := ⟨_, rfl⟩
  obtain ⟨⟨g9, q9⟩, hn9⟩ : ∃ n, Pm.need s q8 [59] = n := ⟨_, rfl⟩
  have hrule := Pm.rule_of hn1 hn2 hn3 hn4 hn5 hn6 hn7 hn8 hn9
  rw [hn] at hrule
  simp only [Prod.mk.injEq] at hrule
  obtain ⟨rfl, rfl⟩ := hrule
  have d8 : ∀ x, Pm.dead q8 = some x → Pm.dead q = some x := fun x h => by have h := Pm.dead_need (s := s) h [59]; rw [hn9] at h; exact h
  have d7 : ∀ x, Pm.dead q7 = some x → Pm.dead q = some x := fun x h => d8 x (by have h := Pm.dead_actL (s := s) (n := s.size + 1) (b := h7) h; rw [hn8] at h; exact h)
  have d6 : ∀ x, Pm.dead q6 = some x → Pm.dead q = some x := fun x h => d7 x (by have h2 := Pm.dead_skip (s := s) h Pm.wDo; rw [hn7] at h2; simp at h2; rw [h2.2]; exact h)
  have d5 : ∀ x, Pm.dead q5 = some x → Pm.dead q = some x := fun x h => d6 x (by have h := Pm.dead_goal1 (s := s) h; rw [hn6] at h; exact h)
  have d4 : ∀ x, Pm.dead q4 = some x → Pm.dead q = some x := fun x h => d5 x (by have h := Pm.dead_need (s := s) h Pm.wGo; rw [hn5] at h; exact h)
  have d3 : ∀ x, Pm.dead q3 = some x → Pm.dead q = some x := fun x h => d4 x (by have h := Pm.dead_guardL (s := s) (n := s.size + 1) (b := h3) h; rw [hn4] at h; exact h)
  have d2 : ∀ x, Pm.dead q2 = some x → Pm.dead q = some x := fun x h => d3 x (by have h2 := Pm.dead_skip (s := s) h Pm.wIf; rw [hn3] at h2; simp at h2; rw [h2.2]; exact h)
  have d1 : ∀ x, Pm.dead q1 = some x → Pm.dead q = some x := fun x h => d2 x (by have h := Pm.dead_word (s := s) h; rw [hn2] at h; exact h)
  have N1 := hide hn1
  have N2 := hide hn2
  have N3 := hide hn3
  have N4 := hide hn4
  have N5 := hide hn5
  have N6 := hide hn6
  have N7 := hide hn7
  have N8 := hide hn8
  have N9 := hide hn9
  have D1 := hide d1
  have D2 := hide d2
  have D3 := hide d3
  have D4 := hide d4
  have D5 := hide d5
  have D6 := hide d6
  have D7 := hide d7
  have D8 := hide d8
  have hlt := hp.lt
  have n1 : ¬ w.heap.size = b := by omega
  have M1 := hide (heap_alloc_new w (.cells #[.int .i64 0, .int .i64 0, .string { data := #[] }, .slice none 0 0, .int .i64 0, .string { data := #[] }, .slice none 0 0] 128))
  have HA := hide (hp.alloc (.cells #[.int .i64 0, .int .i64 0, .string { data := #[] }, .slice none 0 0, .int .i64 0, .string { data := #[] }, .slice none 0 0] 128))
  clear hp hn hn1 hn2 hn3 hn4 hn5 hn6 hn7 hn8 hn9 d1 d2 d3 d4 d5 d6 d7 d8
  have hfd : ∀ (x : Int) (t : ByteArray) (W : World), (Instr.field 121 (.agg #[.int .i64 x, .string t]) 0).run Tryd.prog W = .ok (.int .i64 x) W := fun _ _ _ => by kernel_rfl
  go_enter Tryd.func73, Tryd.ntmps73
  go_wp2_with fail
  refine (must_at _ b s p ⟨#[111, 110]⟩ litOn (by decide) N1.out hs hL HA.out).mono ?_
  rintro e w1 ⟨hk1, (⟨hL1, rfl, hr1⟩ | ⟨x, hd, hth⟩)⟩
  case inr =>
    obtain ⟨pv, rfl⟩ := hth.shape
    have K1 := hide (((Kept.refl b w).alloc _).trans hk1)
    have HD := hide (D1.out x hd)
    have HH := hide hth
    clear hk1 hd hth
    go_wp2_with fail
    exact ⟨rfl, K1.out, Or.inr ⟨x, HD.out, HH.out⟩⟩
  have K1 := hide (((Kept.refl b w).alloc _).trans hk1)
  have R1 := hide hr1
  have MM1 := hide ((hk1.block w.heap.size (by simp) n1).trans M1.out)
  clear hk1 hr1
  go_wp2_with fail
  refine (word_rd _ b s q1 N2.out hs hL1 R1.out).mono ?_
  rintro e w2 ⟨hk2, (⟨hL2, rfl, hr2⟩ | ⟨x, hd, hth⟩)⟩
  case inr =>
    obtain ⟨pv, rfl⟩ := hth.shape
    have K2 := hide (K1.out.trans hk2)
    have HD := hide (D2.out x hd)
    have HH := hide hth
    clear hk2 hd hth
    go_wp2_with fail
    exact ⟨rfl, K2.out, Or.inr ⟨x, HD.out, HH.out⟩⟩
  have hres2 := (hk2.block w.heap.size (Array.getElem?_eq_some_iff.1 MM1.out).1 n1).trans MM1.out
  have hz2 : w.heap.size < w2.heap.size := (Array.getElem?_eq_some_iff.1 hres2).1
  have C2 := hide (show RuleC w b s (w2.alloc (.cells #[.int .i64 (g1.at_ : Int), .int .i64 (g2.at_ : Int), .string g2.t, .slice none 0 0, .int .i64 0, .string { data := #[] }, .slice none 0 0] 128)) q2 w2.heap.size g1.at_ g2.at_ g2.t (.slice none 0 0) [] 0 Pm.emp (.slice none 0 0) [] from
    ⟨hlt, (K1.out.trans hk2).alloc _, hr2.alloc _, hz2, (Below.heap_alloc _ _ _ hz2).trans hres2, heap_alloc_new w2 _, World.ownsRow_nil _ _ _ _, World.ownsRow_nil _ _ _ _⟩)
  clear hk2 hr2 hres2
  go_wp2_with fail
  refine (skip_rd _ b s q2 ⟨#[105, 102]⟩ litIf (by decide) N3.out hs hL2 C2.out.rd).mono ?_
  rintro e w3 ⟨hk3, (⟨hL3, rfl, hr3⟩ | ⟨x, hd, hth⟩)⟩
  case inr =>
    obtain ⟨pv, rfl⟩ := hth.shape
    have K3 := hide (C2.out.kept.trans hk3)
    have HD := hide (D3.out x hd)
    have HH := hide hth
    clear hk3 hd hth
    go_wp2_with fail
    exact ⟨rfl, K3.out, Or.inr ⟨x, HD.out, HH.out⟩⟩
  have C3 := hide (C2.out.keptBy hk3 hr3)
  clear hk3 hr3
  go_upto_if 11 with fail
  have hmf : ∀ (fn : Fn) (first cap : Array Value) (W : World), (Instr.makeFunc fn first cap).run Tryd.prog W = .ok (.func fn first cap) W := fun _ _ _ _ => rfl
  go_cut [] (fun wc => ∃ a1 n1 c1, Hid (RuleC w b s wc q4 w2.heap.size g1.at_ g2.at_ g2.t (.slice a1 n1 c1) gs4 0 Pm.emp (.slice none 0 0) []) ∧ Hid (Pm.Live s q4))
  case first =>
    cases h3
    · obtain ⟨rfl, rfl⟩ := Pm.guardL_stop N4.out
      have HL3 := hide hL3
      go_wp2_with fail
      go_meet
      case rel => exact ⟨_, _, _, C3, HL3⟩
    · obtain ⟨b0, b1, b2, b3, b4, b5, b6, bf⟩ := C3.out.boxed
      have hz3 := C3.out.size
      go_wp2_with fail
      refine (severalG_rd _ b s q3 N4.out hs hL3 C3.out.rd).mono ?_
      rintro e w4 ⟨hk4, (⟨hL4, ⟨v4, rfl, hg4⟩, hr4⟩ | ⟨x, hd, hth⟩)⟩
      case inr =>
        obtain ⟨pv, rfl⟩ := hth.shape
        have KX := hide (C3.out.kept.trans hk4)
        have HD := hide (D4.out x hd)
        have HH := hide hth
        clear hk4 hd hth
        go_wp2_with fail
        exact ⟨rfl, KX.out, Or.inr ⟨x, HD.out, HH.out⟩⟩
      obtain ⟨a4, n4, c4, rfl⟩ := own_slice hg4
      have C4 := hide (C3.out.keptBy hk4 hr4)
      have G4 := hide (ownsRow_base hg4 C3.out.kept.size)
      have HL4 := hide hL4
      clear hk4 hr4 hg4 b0 b1 b2 b3 b4 b5 b6 bf hz3
      obtain ⟨b0, b1, b2, b3, b4, b5, b6, bf⟩ := C4.out.boxed
      go_wp2_with fail
      go_meet
      case rel => exact ⟨_, _, _, C4.out.setG G4.out, HL4⟩
  case rest =>
  obtain ⟨a1, n1', c1, C4, HL4⟩ := hcut
  clear C2 C3
  go_wp2_with fail
  refine (must_at _ b s q4 ⟨#[103, 111]⟩ litGo (by decide) N5.out hs HL4.out C4.out.rd).mono ?_
  rintro e w5 ⟨hk5, (⟨hL5, rfl, hr5⟩ | ⟨x, hd, hth⟩)⟩
  case inr =>
    obtain ⟨pv, rfl⟩ := hth.shape
    have KX := hide (C4.out.kept.trans hk5)
    have HD := hide (D5.out x hd)
    have HH := hide hth
    clear hk5 hd hth
    go_wp2_with fail
    exact ⟨rfl, KX.out, Or.inr ⟨x, HD.out, HH.out⟩⟩
  have C5 := hide (C4.out.keptBy hk5 hr5)
  clear hk5 hr5
  go_wp2_with fail
  refine (goal_rd _ b s q5 N6.out hs hL5 C5.out.rd).mono ?_
  rintro e w6 ⟨hk6, (⟨hL6, rfl, hr6⟩ | ⟨x, hd, hth⟩)⟩
  case inr =>
    obtain ⟨pv, rfl⟩ := hth.shape
    have KX := hide (C5.out.kept.trans hk6)
    have HD := hide (D6.out x hd)
    have HH := hide hth
    clear hk6 hd hth
    go_wp2_with fail
    exact ⟨rfl, KX.out, Or.inr ⟨x, HD.out, HH.out⟩⟩
  have C6 := hide (C5.out.keptBy hk6 hr6)
  have hz6 := C6.out.size
  clear hk6 hr6
  obtain ⟨b0, b1, b2, b3, b4, b5, b6, bf⟩ := C6.out.boxed
  go_wp2_with fail
  have C7 := hide (C6.out.setGoal g6.at_ g6.t)
  clear b0 b1 b2 b3 b4 b5 b6 bf
  refine (skip_rd _ b s q6 ⟨#[100, 111]⟩ litDo (by decide) N7.out hs hL6 C7.out.rd).mono ?_
  rintro e w7 ⟨hk7, (⟨hL7, rfl, hr7⟩ | ⟨x, hd, hth⟩)⟩
  case inr =>
    obtain ⟨pv, rfl⟩ := hth.shape
    have KX := hide (C7.out.kept.trans hk7)
    have HD := hide (D7.out x hd)
    have HH := hide hth
    clear hk7 hd hth
    go_wp2_with fail
    exact ⟨rfl, KX.out, Or.inr ⟨x, HD.out, HH.out⟩⟩
  have C8 := hide (C7.out.keptBy hk7 hr7)
  clear hk7 hr7
  go_upto_if 23 with fail
  go_cut [] (fun wc => ∃ a2 n2 c2, Hid (RuleC w b s wc q8 w2.heap.size g1.at_ g2.at_ g2.t (.slice a1 n1' c1) gs4 g6.at_ g6.t (.slice a2 n2 c2) as8) ∧ Hid (Pm.Live s q8))
  case first =>
    cases h7
    · obtain ⟨rfl, rfl⟩ := Pm.actL_stop N8.out
      have HL7 := hide hL7
      go_wp2_with fail
      go_meet
      case rel => exact ⟨_, _, _, C8, HL7⟩
    · obtain ⟨b0, b1, b2, b3, b4, b5, b6, bf⟩ := C8.out.boxed
      have hz8 := C8.out.size
      go_wp2_with fail
      refine (severalA_rd _ b s q7 N8.out hs hL7 C8.out.rd).mono ?_
      rintro e w8 ⟨hk8, (⟨hL8, ⟨v8, rfl, hg8⟩, hr8⟩ | ⟨x, hd, hth⟩)⟩
      case inr =>
        obtain ⟨pv, rfl⟩ := hth.shape
        have KX := hide (C8.out.kept.trans hk8)
        have HD := hide (D8.out x hd)
        have HH := hide hth
        clear hk8 hd hth
        go_wp2_with fail
        exact ⟨rfl, KX.out, Or.inr ⟨x, HD.out, HH.out⟩⟩
      obtain ⟨a8, n8, c8, rfl⟩ := own_slice hg8
      have C9 := hide (C8.out.keptBy hk8 hr8)
      have G8 := hide (ownsRow_base hg8 C8.out.kept.size)
      have HL8 := hide hL8
      clear hk8 hr8 hg8 b0 b1 b2 b3 b4 b5 b6 bf hz8
      obtain ⟨b0, b1, b2, b3, b4, b5, b6, bf⟩ := C9.out.boxed
      go_wp2_with fail
      go_meet
      case rel => exact ⟨_, _, _, C9.out.setA G8.out, HL8⟩
  case rest =>
  obtain ⟨a2, n2, c2, C9, HL8⟩ := hcut
  clear C4 C5 C6 C7 C8
  go_wp2_with fail
  refine (must_at _ b s q8 ⟨#[59]⟩ litSemi (by decide) N9.out hs HL8.out C9.out.rd).mono ?_
  rintro e w9 ⟨hk9, (⟨hL9, rfl, hr9⟩ | ⟨x, hd, hth⟩)⟩
  case inr =>
    obtain ⟨pv, rfl⟩ := hth.shape
    have KX := hide (C9.out.kept.trans hk9)
    have HD := hide hd
    have HH := hide hth
    clear hk9 hd hth
    go_wp2_with fail
    exact ⟨rfl, KX.out, Or.inr ⟨x, HD.out, HH.out⟩⟩
  have C10 := hide (C9.out.keptBy hk9 hr9)
  have HL9 := hide hL9
  clear hk9 hr9 hL9
  have hz10 := C10.out.size
  obtain ⟨b0, b1, b2, b3, b4, b5, b6, bf⟩ := C10.out.boxed
  obtain ⟨r0, r1, r2, r3, r4, r5, r6, rf⟩ := C10.out.resd
  go_wp2_with fail
  have hLf := ((((((C10.out.left.set 0 (.int .i64 (g1.at_ : Int))).set 1 (.int .i64 (g2.at_ : Int))).set 2 (.string g2.t)).set 3 (.slice a1 n1' c1)).set 4 (.int .i64 (g6.at_ : Int))).set 5 (.string g6.t)).set 6 (.slice a2 n2 c2)
  refine bodyPost_ret (v := .agg #[.int .i64 (g1.at_ : Int), .int .i64 (g2.at_ : Int), .string g2.t, .slice a1 n1' c1, .int .i64 (g6.at_ : Int), .string g6.t, .slice a2 n2 c2]) (by simp [results, Tryd.results73, go_sem, r0, r1, r2, r3, r4, r5, r6]) rfl ⟨hLf.2.1, Or.inl ⟨HL9.out, ⟨_, _, _, _, _, _, rfl, hLf.2.2.2.2.1, hLf.2.2.2.2.2⟩, hLf.2.2.1⟩⟩
end Go.Proofs.YtcijookbgliglaaDoor
