import Derived.Test.YtcijookbgliglaaDoorWs
import Derived.Deep.QuietTactic
import Derived.BigQuiet
/- The walk over the document's Read. -/
namespace Go.Proofs.YtcijookbgliglaaDoor
open Go.RowKit

theorem Tryd.underlyingRules : Tryd.prog.underlying 67 = some (.slice 72) := by kernel_rfl
theorem Tryd.underlyingStates : Tryd.prog.underlying 26 = some (.slice 69) := by kernel_rfl
theorem Tryd.infoRule : (Tryd.prog.info? 72).map (fun i => (i.zero, i.size, i.bytes)) = some (some (.agg #[.string ByteArray.empty, .slice none 0 0, .string ByteArray.empty, .slice none 0 0, .int .i64 0, .int .i64 0]), 6, 96) := by kernel_rfl
theorem Tryd.infoState : (Tryd.prog.info? 69).map (fun i => (i.zero, i.size, i.bytes)) = some (some (.agg #[.string ByteArray.empty, .int .i64 0, .slice none 0 0]), 3, 48) := by kernel_rfl
theorem cell_six_new (w : World) (a b c d e f : Value) (t : TypeId) (k : Nat) (hk : k = w.heap.size) : ∀ j u, [a, b, c, d, e, f][j]? = some u → (w.alloc (.cells #[a, b, c, d, e, f] t)).cell? ((⟨k, 0, none⟩ : Addr).add j) = some u := by
  subst hk
  intro j u hj
  match j, hj with
  | 0, hj => simp at hj; subst hj; simp [Addr.add]
  | 1, hj => simp at hj; subst hj; simp [Addr.add]
  | 2, hj => simp at hj; subst hj; simp [Addr.add]
  | 3, hj => simp at hj; subst hj; simp [Addr.add]
  | 4, hj => simp at hj; subst hj; simp [Addr.add]
  | 5, hj => simp at hj; subst hj; simp [Addr.add]
  | j + 6, hj => simp at hj
theorem one6 {t t' : ByteArray} {a a' : Option Addr} {n c n' c' : Nat} {x y : Int} : ∀ u ∈ [Value.string t, .slice a n c, .string t', .slice a' n' c', .int .i64 x, .int .i64 y], u.oneCell' = true := by
  intro u hu; simp at hu; rcases hu with rfl | rfl | rfl | rfl | rfl | rfl <;> rfl
theorem one3' {t : ByteArray} {a : Option Addr} {n c : Nat} {x : Int} : ∀ u ∈ [Value.string t, .int .i64 x, .slice a n c], u.oneCell' = true := by
  intro u hu; simp at hu; rcases hu with rfl | rfl | rfl <;> rfl

theorem rule_at (w : World) (b : Nat) (s : ByteArray) (p : Pm.Pn) {r : Pm.Rl} {q : Pm.Pn} (hn : Pm.rule s p = (r, q)) (hs : s.size ≤ 300) (hto : Pm.ok s p) (hp : PenAt w b s p.g p.bad) :
    Calls Tryd.prog 33 #[.pointer (some ⟨b, 0, none⟩)] w fun e w' => ∃ a1 n1 c1 a2 n2 c2, e = .returned (.agg #[.string r.event, .slice a1 n1 c1, .string r.goal, .slice a2 n2 c2, .int .i64 (r.at_ : Int), .int .i64 (r.to_ : Int)]) ∧ Kept b w w' ∧ PenAt w' b s q.g q.bad ∧ GuardsR w' w.heap.size (.slice a1 n1 c1) r.guards ∧ ActsR w' w.heap.size (.slice a2 n2 c2) r.actions := by
  have h := rule_any w b s p hs hto hp
  rw [hn] at h
  refine h.mono ?_
  rintro e w' ⟨gv, av, rfl, h1, h2, h3, h4⟩
  obtain ⟨a1, n1, c1, rfl⟩ := own_slice h3
  obtain ⟨a2, n2, c2, rfl⟩ := own_slice h4
  exact ⟨a1, n1, c1, a2, n2, c2, rfl, h1, h2, h3, h4⟩

structure ReadIn (w0 : World) (s : ByteArray) (w : World) (p : Pm.Pn) (lv : Value) (sts : List Pm.St) : Prop where
  below : Below w0.heap.size w0 w
  pen : PenAt w w0.heap.size s p.g p.bad
  states : StatesR w (w0.heap.size + 1) lv sts

/-- A state more. -/
theorem ReadIn.add {w0 wr w5 w6 : World} {s : ByteArray} {q q5 : Pm.Pn} {lv v' rv : Value} {sts : List Pm.St} {X : Nat} {name : ByteArray} {at_ at0 : Nat} {rs : List Pm.Rl} {ys : List (Pm.St × Value)} {o : Obj}
    (J : ReadIn w0 s wr q lv sts) (I : StateIn wr w0.heap.size s w5 q5 X name at_ rv rs) (hy1 : ys.map (·.1) = sts) (hy2 : (w5.alloc o).ownsRow (w0.heap.size + 1) 69 3 lv ys.length (stCells ys)) (hy3 : ∀ y ∈ ys, RulesR (w5.alloc o) (w0.heap.size + 1) y.2 y.1.rules)
    (hg : (w5.alloc o).grownBy w6 lv.ownBlock) (ho : w6.ownsRow (w0.heap.size + 1) 69 3 v' (ys.length + 1) (stCells ys ++ [.string name, .int .i64 (at_ : Int), rv])) :
    ReadIn w0 s w6 q5 v' (sts ++ [⟨at0, name, at_, rs⟩]) := by
  have hw := J.pen.lt
  have hB : Below w0.heap.size w0 (w5.alloc o) := (J.below.trans (I.kept.belowB (Nat.le_refl _) (by omega))).alloc (by have := I.pen.lt; omega) o
  refine ⟨hB.grown hg (by have := I.pen.lt; simp; omega) (fun k e => by have := (World.ownsRow.lt hy2 k e).1; omega), ?_, ys ++ [(⟨at0, name, at_, rs⟩, rv)], by simp [hy1], ?_, ?_⟩
  · exact (I.pen.same (Below.heap_alloc _ _ _ I.pen.lt)).same (hg.block _ (by have := I.pen.lt; simp; omega) (fun e => by have := (World.ownsRow.lt hy2 _ e.symm).1; omega))
  · rw [stCells_snoc, List.length_append]; exact ho
  · intro y hy
    rcases List.mem_append.1 hy with hy | hy
    · exact (hy3 y hy).grown hy2 hg
    · simp at hy; subst hy
      exact ((I.rules.same (fun k _ h2 => Below.heap_alloc _ _ _ h2)).lower (by omega)).grown hy2 hg

theorem readIn_start {w0 w1 : World} {s : ByteArray} (g : Pm.Sg) (hb : Below (w0.alloc (.cells #[.string s, .int .u8 0, .string { data := #[] }, .int .i64 0, .int .i64 0, .int .i64 (-1)] 86)).heap.size (w0.alloc (.cells #[.string s, .int .u8 0, .string { data := #[] }, .int .i64 0, .int .i64 0, .int .i64 (-1)] 86)) w1) :
    PenAt w1 w0.heap.size s Pm.sg0 (-1) ∧ ReadIn w0 s ((((w1.setCell ⟨w0.heap.size, 1, none⟩ (.int .u8 g.k)).setCell ⟨w0.heap.size, 2, none⟩ (.string g.t)).setCell ⟨w0.heap.size, 3, none⟩ (.int .i64 (g.at_ : Int))).setCell ⟨w0.heap.size, 4, none⟩ (.int .i64 (g.to_ : Int))) ⟨g, -1⟩ (.slice none 0 0) [] := by
  have hp : PenAt w1 w0.heap.size s Pm.sg0 (-1) := (hb.block w0.heap.size (by simp)).trans (heap_alloc_new w0 _)
  have hB : Below w0.heap.size w0 w1 := ((Below.refl _ _).alloc (Nat.le_refl _) _).trans (hb.mono (by simp))
  refine ⟨hp, ⟨?_, hp.sign g, ⟨[], rfl, World.ownsRow_nil _ _ _ _, by simp⟩⟩⟩
  exact (((hB.setCell (p := ⟨w0.heap.size, 1, none⟩) (Nat.le_refl _) _).setCell (p := ⟨w0.heap.size, 2, none⟩) (Nat.le_refl _) _).setCell (p := ⟨w0.heap.size, 3, none⟩) (Nat.le_refl _) _).setCell (p := ⟨w0.heap.size, 4, none⟩) (Nat.le_refl _) _

set_option maxRecDepth 100000 in
set_option maxHeartbeats 2000000 in
theorem read_any (w : World) (s : ByteArray) (hs : s.size ≤ 300) :
    Calls Tryd.prog 14 #[.string s] w fun e w' => ∃ lv, e = .returned (.tuple #[lv, .int .i64 (Pm.readL s).2.bad]) ∧ Below w.heap.size w w' ∧ StatesR w' (w.heap.size + 1) lv (Pm.readL s).1 := by
  obtain ⟨iR, hR, hR0, hR1, hR2⟩ := info_parts Tryd.infoRule
  obtain ⟨iT, hT, hT0, hT1, hT2⟩ := info_parts Tryd.infoState
  obtain ⟨⟨all, qF⟩, hnR⟩ : ∃ n, Pm.readL s = n := ⟨_, rfl⟩
  have NR := hide hnR
  clear hnR
  go_enter Tryd.func14, Tryd.ntmps14
  go_wp2_with fail
  refine (sign_any s 0 _ (by unfold maxLen; omega) (Nat.zero_le _)).mono ?_
  rintro e w1 ⟨rfl, hb⟩
  obtain ⟨hp1, hI⟩ := readIn_start (Pm.signAt s 0) hb
  have k0 : Pm.ok s ⟨Pm.signAt s 0, -1⟩ := Pm.signAt_to_le s 0 (Nat.zero_le _)
  have hz : w.heap.size < w1.heap.size := hp1.lt
  obtain ⟨c0, c1, c2, c3, c4, c5⟩ := hp1.cells
  have hf := hp1.frozen
  have I0 := hide hI
  clear hI hp1 hb
  simp only [Sg.val]
  go_wp2_with fail
  clear c0 c1 c2 c3 c4 c5 hf hz
  go_loopg [5, 6] (s.size + 1) (fun k l again wr => ∃ (bb : Bool) (q : Pm.Pn) (sts : List Pm.St), again = .bool bb ∧ Hid (ReadIn w s wr q l sts) ∧ Pm.ok s q ∧ Hid (Pm.statesL s k bb q = (all.drop sts.length, qF)) ∧ Hid (sts ++ all.drop sts.length = all) ∧ sts.length + k ≤ 301 ∧ (bb = true → s.size < k + q.g.to_))
  case atStart => exact ⟨true, _, [], rfl, I0, k0, NR.out, rfl, by simp; omega, fun _ => by omega⟩
  case round =>
    obtain ⟨bb, q, sts, rfl, J1, kq, L1, L2, hlen, hk⟩ := hrel
    cases bb
    · clear hk
      obtain ⟨hd, rfl⟩ := Pm.statesL_stop L1.out
      have hst : sts = all := by have h := L2.out; rw [hd] at h; simpa using h
      subst hst
      clear hd L1 L2 hlen
      obtain ⟨c0, c1, c2, c3, c4, c5⟩ := J1.out.pen.cells
      go_wp2_with fail
      go_quiet (fail)
      go_wp2_with fail
      go_ret2
      rw [NR.out]
      exact ⟨_, rfl, below_drewN J1.out.below _, J1.out.states.same (fun _ _ _ => rfl)⟩
    · have hk := hk rfl
      have kq' : q.g.to_ ≤ s.size := kq
      obtain ⟨n, rfl⟩ : ∃ n, gk = n + 1 := ⟨gk - 1, by omega⟩
      obtain ⟨⟨g1, q1⟩, hn1⟩ : ∃ n, Pm.need s q Pm.wState = n := ⟨_, rfl⟩
      have k1 : Pm.ok s q1 := by have := Pm.need_ok s q Pm.wState kq; rw [hn1] at this; exact this
      obtain ⟨⟨g2, q2⟩, hn2⟩ : ∃ n, Pm.word s q1 = n := ⟨_, rfl⟩
      have k2 : Pm.ok s q2 := by have := Pm.word_ok s q1 k1; rw [hn2] at this; exact this
      obtain ⟨⟨g3, q3⟩, hn3⟩ : ∃ n, Pm.need s q2 [123] = n := ⟨_, rfl⟩
      have k3 : Pm.ok s q3 := by have := Pm.need_ok s q2 [123] k2; rw [hn3] at this; exact this
      obtain ⟨⟨rs4, q4⟩, hn4⟩ : ∃ n, Pm.rulesL s (s.size + 1) q3 = n := ⟨_, rfl⟩
      have k4 : Pm.ok s q4 := by have := Pm.rulesL_ok s (s.size + 1) q3 k3; rw [hn4] at this; exact this
      obtain ⟨⟨g5, q5⟩, hn5⟩ : ∃ n, Pm.need s q4 [125] = n := ⟨_, rfl⟩
      have k5 : Pm.ok s q5 := by have := Pm.need_ok s q4 [125] k4; rw [hn5] at this; exact this
      have hst := Pm.state_of hn1 hn2 hn3 hn4 hn5
      obtain ⟨m, hm⟩ : ∃ m, Pm.again q5 = m := ⟨_, rfl⟩
      have hlt1 : m = true → q.g.to_ < q5.g.to_ := fun e => by have := Pm.state_more s q kq; rw [hst] at this; exact this (hm.trans e)
      have L3 := hide (Pm.statesL_step L1.out hst hm)
      have N1 := hide hn1
      have N2 := hide hn2
      have N3 := hide hn3
      have N4 := hide hn4
      have N5 := hide hn5
      have NM := hide hm
      clear hn1 hn2 hn3 hn4 hn5 hst hm
      have hbl : w.heap.size < wr.heap.size := J1.out.pen.lt
      go_wp2_with fail
      refine (need_at _ w.heap.size s q ⟨#[115, 116, 97, 116, 101]⟩ litState N1.out hs kq J1.out.pen).mono ?_
      rintro e w2 ⟨rfl, hk2, hp2⟩
      go_wp2_with fail
      refine (word_at _ w.heap.size s q1 N2.out hs k1 hp2).mono ?_
      rintro e w3 ⟨rfl, hk3, hp3⟩
      have hz3 : wr.heap.size ≤ w3.heap.size := (hk2.trans hk3).size
      have S0 : StateIn wr w.heap.size s ((w3.alloc (.cells #[.int .u8 g2.k, .string g2.t, .int .i64 (g2.at_ : Int), .int .i64 (g2.to_ : Int)] 84)).alloc (.cells #[.string g2.t, .int .i64 (g2.at_ : Int), .slice none 0 0] 69)) q2 (w3.heap.size + 1) g2.t g2.at_ (.slice none 0 0) [] :=
        ⟨hbl, ((hk2.trans hk3).alloc _).alloc _, (hp3.same (Below.heap_alloc _ _ _ hp3.lt)).same (Below.heap_alloc _ _ _ (by have := hp3.lt; simp; omega)), by omega, (two_new w3 _ _).2, ⟨[], rfl, World.ownsRow_nil _ _ _ _, by simp⟩⟩
      have I1 := hide S0
      clear S0 hk2 hp2 hk3 hp3
      go_wp2_with fail
      refine (need_at _ w.heap.size s q2 ⟨#[123]⟩ litOpen N3.out hs k2 I1.out.pen).mono ?_
      rintro e w4 ⟨rfl, hk4, hp4⟩
      have I2 := hide (I1.out.keptBy hk4 hp4)
      clear hk4 hp4 I1
      go_wp2_with fail
      go_loopg [] (s.size + 1) (fun k wi => ∃ (p : Pm.Pn) (rs : List Pm.Rl) (a : Option Addr) (l c : Nat), Hid (StateIn wr w.heap.size s wi p (w3.heap.size + 1) g2.t g2.at_ (.slice a l c) rs) ∧ Pm.ok s p ∧ Hid (Pm.rulesL s k p = (rs4.drop rs.length, q4)) ∧ Hid (rs ++ rs4.drop rs.length = rs4) ∧ rs.length + k ≤ 301 ∧ (Pm.on p Pm.wOn = true → s.size < k + p.g.to_))
      case atStart => exact ⟨q3, [], _, _, _, I2, k3, N4.out, rfl, by simp; omega, fun _ => by omega⟩
      case round =>
        obtain ⟨p, rs, a, l, c, I3, kp, K1, K2, hlenR, hkR⟩ := hrel
        obtain ⟨o, ho⟩ : ∃ o, Pm.on p Pm.wOn = o := ⟨_, rfl⟩
        go_wp2_with fail
        refine (on_at _ w.heap.size s p ⟨#[111, 110]⟩ litOn ho I3.out.pen).mono ?_
        rintro e w' ⟨rfl, rfl⟩
        cases o
        · obtain ⟨hd, rfl⟩ := Pm.rulesL_no K1.out ho
          have hrs : rs = rs4 := by have h := K2.out; rw [hd] at h; simpa using h
          subst hrs
          clear hd K1 K2 hlenR hkR ho
          go_wp2_with fail
          refine (need_at _ w.heap.size s q4 ⟨#[125]⟩ litShut N5.out hs k4 I3.out.pen).mono ?_
          rintro e w5 ⟨rfl, hk5, hp5⟩
          have I4 := hide (I3.out.keptBy hk5 hp5)
          clear hk5 hp5
          obtain ⟨ys, hy1, hy2, hy3⟩ := J1.out.states.same (w' := w5) (fun k h1 h2 => I4.out.kept.block k h2 (by omega))
          have hy2' := ownsRow_alloc hy2 (.cells #[.string g2.t, .int .i64 (g2.at_ : Int), .slice a l c] 69)
          have hy3' : ∀ y ∈ ys, RulesR (w5.alloc (.cells #[.string g2.t, .int .i64 (g2.at_ : Int), .slice a l c] 69)) (w.heap.size + 1) y.2 y.1.rules := fun y hy => (hy3 y hy).same (fun _ _ h2 => Below.heap_alloc _ _ _ h2)
          have Y1 := hide hy1
          have Y2 := hide hy2'
          have Y3 := hide hy3'
          have hysl : ys.length = sts.length := by rw [← hy1]; simp
          have hyl : ys.length + (n + 1) ≤ 301 := by omega
          have hz5 : w.heap.size < w5.heap.size := I4.out.pen.lt
          clear hy1 hy2 hy3 hy2' hy3' hysl
          obtain ⟨x0, x1, x2, xf⟩ := I4.out.boxed
          by_cases h5 : q5.bad < 0
          · have hag := hide (show (q5.g.k != 0) = m by have h := NM.out; unfold Pm.again at h; simpa [h5] using h)
            go_wp2_with (at_builtin; go_must (refine wpList_append_own _ rfl _ _ 26 rfl (w.heap.size + 1) 69 iT (.agg #[.string ByteArray.empty, .int .i64 0, .slice none 0 0]) 3 48 Tryd.underlyingStates hT hT0 hT1 hT2 rfl (by decide) _ _ _ rfl Y2.out ⟨w5.heap.size, 0, none⟩ 1 1 [.string g2.t, .int .i64 (g2.at_ : Int), .slice a l c] rfl rfl (cell_three_new _ _ _ _ _ _ rfl) one3' (by unfold maxLen; omega) (by omega) (by simp; omega) ?_; intro v6 w6 ho6 hg6 _; have R6 := hide (J1.out.add (at0 := g1.at_) I4.out Y1.out Y2.out Y3.out hg6 ho6); clear ho6 hg6; obtain ⟨c0, c1, c2, c3, c4, c5⟩ := R6.out.pen.cells))
            go_roundg n
            case measure => omega
            case rel =>
              obtain ⟨t, ht1, ht2⟩ := L3.out
              have hd := Pm.drop_step ht1
              have h2 := L2.out
              refine ⟨m, q5, sts ++ [⟨g1.at_, g2.t, g2.at_, rs⟩], ?_, R6, k5, ?_, ?_, ?_, ?_⟩
              · rw [hag.out]
              · show _ = _; rw [List.length_append]; simp only [List.length_cons, List.length_nil]; rw [hd]; exact ht2
              · show _ = _; rw [List.length_append]; simp only [List.length_cons, List.length_nil]; rw [hd, List.append_assoc]; rw [ht1] at h2; exact h2
              · simp; omega
              · intro e; have := hlt1 e; omega
          · have hag := hide (show false = m by have h := NM.out; unfold Pm.again at h; simpa [h5] using h)
            go_wp2_with (at_builtin; go_must (refine wpList_append_own _ rfl _ _ 26 rfl (w.heap.size + 1) 69 iT (.agg #[.string ByteArray.empty, .int .i64 0, .slice none 0 0]) 3 48 Tryd.underlyingStates hT hT0 hT1 hT2 rfl (by decide) _ _ _ rfl Y2.out ⟨w5.heap.size, 0, none⟩ 1 1 [.string g2.t, .int .i64 (g2.at_ : Int), .slice a l c] rfl rfl (cell_three_new _ _ _ _ _ _ rfl) one3' (by unfold maxLen; omega) (by omega) (by simp; omega) ?_; intro v6 w6 ho6 hg6 _; have R6 := hide (J1.out.add (at0 := g1.at_) I4.out Y1.out Y2.out Y3.out hg6 ho6); clear ho6 hg6; obtain ⟨c0, c1, c2, c3, c4, c5⟩ := R6.out.pen.cells))
            go_roundg n
            case measure => omega
            case rel =>
              obtain ⟨t, ht1, ht2⟩ := L3.out
              have hd := Pm.drop_step ht1
              have h2 := L2.out
              refine ⟨m, q5, sts ++ [⟨g1.at_, g2.t, g2.at_, rs⟩], ?_, R6, k5, ?_, ?_, ?_, ?_⟩
              · rw [hag.out]
              · show _ = _; rw [List.length_append]; simp only [List.length_cons, List.length_nil]; rw [hd]; exact ht2
              · show _ = _; rw [List.length_append]; simp only [List.length_cons, List.length_nil]; rw [hd, List.append_assoc]; rw [ht1] at h2; exact h2
              · simp; omega
              · intro e; have := hlt1 e; omega
        · have hkR := hkR ho
          have kp' : p.g.to_ ≤ s.size := kp
          obtain ⟨nn, rfl⟩ : ∃ n, gk = n + 1 := ⟨gk - 1, by omega⟩
          obtain ⟨⟨r, p1⟩, hr⟩ : ∃ n, Pm.rule s p = n := ⟨_, rfl⟩
          have kp1 : Pm.ok s p1 := by have := Pm.rule_ok s p kp; rw [hr] at this; exact this
          have hltR : Pm.on p1 Pm.wOn = true → p.g.to_ < p1.g.to_ := fun e => by have := Pm.rule_more s p kp; rw [hr] at this; exact this e
          have K3 := hide (Pm.rulesL_yes K1.out ho hr)
          have NRl := hide hr
          clear hr ho
          go_wp2_with fail
          refine (rule_at _ w.heap.size s p NRl.out hs kp I3.out.pen).mono ?_
          rintro e w5 ⟨a1, n1, c1, a2, n2, c2, rfl, hk5, hp5, hg5, ha5⟩
          have I4 := hide (I3.out.keptBy hk5 hp5)
          have hz0 : wr.heap.size ≤ w'.heap.size := I3.out.kept.size
          have hzX := I4.out.size
          have I5 := hide ((I4.out.alloc (.cells #[.string r.event, .slice a1 n1 c1, .string r.goal, .slice a2 n2 c2, .int .i64 (r.at_ : Int), .int .i64 (r.to_ : Int)] 72)).alloc (.cells #[.string r.event, .slice a1 n1 c1, .string r.goal, .slice a2 n2 c2, .int .i64 (r.at_ : Int), .int .i64 (r.to_ : Int)] 72))
          have G5 := hide (ownsRow_base (ownsRow_alloc (ownsRow_alloc hg5 (.cells #[.string r.event, .slice a1 n1 c1, .string r.goal, .slice a2 n2 c2, .int .i64 (r.at_ : Int), .int .i64 (r.to_ : Int)] 72)) (.cells #[.string r.event, .slice a1 n1 c1, .string r.goal, .slice a2 n2 c2, .int .i64 (r.at_ : Int), .int .i64 (r.to_ : Int)] 72)) hz0)
          have A5 := hide (ownsRow_base (ownsRow_alloc (ownsRow_alloc ha5 (.cells #[.string r.event, .slice a1 n1 c1, .string r.goal, .slice a2 n2 c2, .int .i64 (r.at_ : Int), .int .i64 (r.to_ : Int)] 72)) (.cells #[.string r.event, .slice a1 n1 c1, .string r.goal, .slice a2 n2 c2, .int .i64 (r.at_ : Int), .int .i64 (r.to_ : Int)] 72)) hz0)
          clear hk5 hp5 hg5 ha5
          obtain ⟨xs, hx1, hx2, hx3⟩ := I5.out.rules
          have hxl : xs.length = rs.length := by rw [← hx1]; simp
          have hxl2 : xs.length + (nn + 1) ≤ 301 := by omega
          have X1 := hide hx1
          have X2 := hide hx2
          have X3 := hide hx3
          clear hx1 hx2 hx3
          have hz5 : wr.heap.size ≤ w5.heap.size := I4.out.kept.size
          obtain ⟨x0, x1, x2, xf⟩ := I4.out.boxed
          go_wp2_with (at_builtin; go_must (refine wpList_append_own _ rfl _ _ 67 rfl wr.heap.size 72 iR (.agg #[.string ByteArray.empty, .slice none 0 0, .string ByteArray.empty, .slice none 0 0, .int .i64 0, .int .i64 0]) 6 96 Tryd.underlyingRules hR hR0 hR1 hR2 rfl (by decide) _ _ _ rfl X2.out ⟨w5.heap.size + 1, 0, none⟩ 1 1 [.string r.event, .slice a1 n1 c1, .string r.goal, .slice a2 n2 c2, .int .i64 (r.at_ : Int), .int .i64 (r.to_ : Int)] rfl rfl (cell_six_new _ _ _ _ _ _ _ _ _ (by simp)) one6 (by unfold maxLen; omega) (by omega) (by simp; omega) ?_; intro v6 w6 ho6 hg6 _; obtain ⟨a6, m6, l6, rfl⟩ := own_slice ho6; obtain ⟨c6, f6⟩ := I5.out.storeR hg6; have I6 := hide (I5.out.addR hg6 G5.out A5.out X1.out X2.out X3.out ho6); clear ho6 hg6))
          go_roundg nn
          case measure => omega
          case rel =>
            obtain ⟨t, ht1, ht2⟩ := K3.out
            have hd := Pm.drop_step ht1
            have h2 := K2.out
            refine ⟨p1, rs ++ [r], _, _, _, I6, kp1, ?_, ?_, ?_, ?_⟩
            · show _ = _; rw [List.length_append]; simp only [List.length_cons, List.length_nil]; rw [hd]; exact ht2
            · show _ = _; rw [List.length_append]; simp only [List.length_cons, List.length_nil]; rw [hd, List.append_assoc]; rw [ht1] at h2; exact h2
            · simp; omega
            · intro e; have := hltR e; omega
end Go.Proofs.YtcijookbgliglaaDoor
