import Derived.Test.YtcijookbgliglaaDoorWp
import Derived.Deep.LoopGhost
import Derived.Deep.DeepCutAuto
/- The walk over the document's rule. -/
namespace Go.Proofs.YtcijookbgliglaaDoor
open Go.RowKit

theorem Tryd.underlyingGuards : Tryd.prog.underlying 70 = some (.slice 93) := by kernel_rfl
theorem Tryd.underlyingStrings : Tryd.prog.underlying 33 = some (.slice 9) := by kernel_rfl
theorem Tryd.infoGuard : (Tryd.prog.info? 93).map (fun i => (i.zero, i.size, i.bytes)) = some (some (.agg #[.string ByteArray.empty, .bool false, .int .i64 0]), 3, 32) := by kernel_rfl
theorem Tryd.infoString : (Tryd.prog.info? 9).map (fun i => (i.zero, i.size, i.bytes)) = some (some (.string ByteArray.empty), 1, 16) := by kernel_rfl

theorem cell_three_new (w : World) (a b c : Value) (t : TypeId) (k : Nat) (hk : k = w.heap.size) : ∀ j u, [a, b, c][j]? = some u → (w.alloc (.cells #[a, b, c] t)).cell? ((⟨k, 0, none⟩ : Addr).add j) = some u := by
  subst hk
  intro j u hj
  match j, hj with
  | 0, hj => simp at hj; subst hj; simp [Addr.add]
  | 1, hj => simp at hj; subst hj; simp [Addr.add]
  | 2, hj => simp at hj; subst hj; simp [Addr.add]
  | j + 3, hj => simp at hj
theorem cell_one_new' (w : World) (a : Value) (t : TypeId) (k : Nat) (hk : k = w.heap.size) : ∀ j u, [a][j]? = some u → (w.alloc (.cells #[a] t)).cell? ((⟨k, 0, none⟩ : Addr).add j) = some u := by
  subst hk
  intro j u hj
  match j, hj with
  | 0, hj => simp at hj; subst hj; simp [Addr.add]
  | j + 1, hj => simp at hj
theorem one3 {t : ByteArray} {n : Bool} {a : Int} : ∀ u ∈ [Value.string t, .bool n, .int .i64 a], u.oneCell' = true := by
  intro u hu; simp at hu; rcases hu with rfl | rfl | rfl <;> rfl
theorem one1 {t : ByteArray} : ∀ u ∈ [Value.string t], u.oneCell' = true := by
  intro u hu; simp at hu; subst hu; rfl

theorem ruleIn_start (w : World) (b : Nat) (s : ByteArray) (p : Pm.Pn) (hp : PenAt w b s p.g p.bad) :
    RuleIn w b s ((w.alloc (.cells #[.string { data := #[] }, .slice none 0 0, .string { data := #[] }, .slice none 0 0, .int .i64 0, .int .i64 0] 72)).alloc (.cells #[.string { data := #[] }, .slice none 0 0, .string { data := #[] }, .slice none 0 0, .int .i64 0, .int .i64 0] 72)) p Pm.emp (.slice none 0 0) [] Pm.emp (.slice none 0 0) [] 0 0 := by
  obtain ⟨m1, m2⟩ := two_new w (.cells #[.string { data := #[] }, .slice none 0 0, .string { data := #[] }, .slice none 0 0, .int .i64 0, .int .i64 0] 72) (.cells #[.string { data := #[] }, .slice none 0 0, .string { data := #[] }, .slice none 0 0, .int .i64 0, .int .i64 0] 72)
  have hB := ((Below.refl w.heap.size w).alloc (Nat.le_refl _) (.cells #[.string { data := #[] }, .slice none 0 0, .string { data := #[] }, .slice none 0 0, .int .i64 0, .int .i64 0] 72)).alloc (by simp) (.cells #[.string { data := #[] }, .slice none 0 0, .string { data := #[] }, .slice none 0 0, .int .i64 0, .int .i64 0] 72)
  exact ⟨hp.lt, Kept.of_below b hB, hp.below hB, m1, m2, World.ownsRow_nil _ _ _ _, World.ownsRow_nil _ _ _ _⟩

set_option maxRecDepth 100000 in
set_option maxHeartbeats 2000000 in
theorem rule_any (w : World) (b : Nat) (s : ByteArray) (p : Pm.Pn) (hs : s.size ≤ 300) (hto : Pm.ok s p) (hp : PenAt w b s p.g p.bad) :
    Calls Tryd.prog 33 #[.pointer (some ⟨b, 0, none⟩)] w fun e w' => ∃ gv av, e = .returned (.agg #[.string (Pm.rule s p).1.event, gv, .string (Pm.rule s p).1.goal, av, .int .i64 ((Pm.rule s p).1.at_ : Int), .int .i64 ((Pm.rule s p).1.to_ : Int)]) ∧ Kept b w w' ∧ PenAt w' b s (Pm.rule s p).2.g (Pm.rule s p).2.bad ∧ GuardsR w' w.heap.size gv (Pm.rule s p).1.guards ∧ ActsR w' w.heap.size av (Pm.rule s p).1.actions := by
  obtain ⟨⟨g1, q1⟩, hn1⟩ : ∃ n, Pm.need s p Pm.wOn = n := ⟨_, rfl⟩
  have k1 : Pm.ok s q1 := by have := Pm.need_ok s p Pm.wOn hto; rw [hn1] at this; exact this
  obtain ⟨⟨g2, q2⟩, hn2⟩ : ∃ n, Pm.word s q1 = n := ⟨_, rfl⟩
  have k2 : Pm.ok s q2 := by have := Pm.word_ok s q1 k1; rw [hn2] at this; exact this
  have N1 := hide hn1
  have N2 := hide hn2
  have I0 := hide (ruleIn_start w b s p hp)
  obtain ⟨iG, hG, hG0, hG1, hG2⟩ := info_parts Tryd.infoGuard
  obtain ⟨iS, hS, hS0, hS1, hS2⟩ := info_parts Tryd.infoString
  clear hp hn1 hn2
  go_enter Tryd.func33, Tryd.ntmps33
  go_wp2_with fail
  -- on
  refine (need_at _ b s p ⟨#[111, 110]⟩ litOn N1.out hs hto I0.out.pen).mono ?_
  rintro e w1 ⟨rfl, hk1, hp1⟩
  have I1 := hide (I0.out.keptBy hk1 hp1)
  clear hk1 hp1
  have z1 := I1.out.size
  obtain ⟨b0, b1, b2, b3, b4, b5, bf⟩ := I1.out.boxed
  go_wp2_with fail
  clear b0 b1 b2 b3 b4 b5 bf
  -- word
  have I2 := hide ((I1.out.setAt g1.at_).alloc (.cells #[.int .u8 g1.k, .string g1.t, .int .i64 (g1.at_ : Int), .int .i64 (g1.to_ : Int)] 84))
  refine (word_at _ b s q1 N2.out hs k1 I2.out.pen).mono ?_
  rintro e w2 ⟨rfl, hk2, hp2⟩
  have I3 := hide (I2.out.keptBy hk2 hp2)
  clear hk2 hp2
  have z2 := I3.out.size
  obtain ⟨b0, b1, b2, b3, b4, b5, bf⟩ := I3.out.boxed
  go_wp2_with fail
  clear b0 b1 b2 b3 b4 b5 bf
  have I4 := hide ((I3.out.setEv g2.t).alloc (.cells #[.int .u8 g2.k, .string g2.t, .int .i64 (g2.at_ : Int), .int .i64 (g2.to_ : Int)] 84))
  obtain ⟨⟨h3, q3⟩, hn3⟩ : ∃ n, Pm.skip s q2 Pm.wIf = n := ⟨_, rfl⟩
  have k3 : Pm.ok s q3 := by have := Pm.skip_ok s q2 Pm.wIf k2; rw [hn3] at this; exact this
  have N3 := hide hn3
  clear hn3
  refine (on_at _ b s q2 ⟨#[105, 102]⟩ litIf ((Pm.skip_fst s q2 Pm.wIf).symm.trans (congrArg Prod.fst N3.out)) I4.out.pen).mono ?_
  rintro e w' ⟨rfl, rfl⟩
  go_upto_if 28 with fail
  go_cut [] (fun wc => RuleIn w b s wc q3 g2.t (.slice none 0 0) [] Pm.emp (.slice none 0 0) [] g1.at_ 0)
  case first =>
    cases h3
    · have e3 : q3 = q2 := Pm.skip_noEq N3.out
      go_wp2_with fail
      go_meet
      case rel => rw [e3]; exact I4.out
    · have M3 := hide (Pm.skip_yesEq N3.out)
      go_wp2_with fail
      refine (next_at _ b s q2 M3.out hs k2 I4.out.pen).mono ?_
      rintro e w3 ⟨rfl, hk3, hp3⟩
      have I5 := hide (I4.out.keptBy hk3 hp3)
      clear hk3 hp3
      go_wp2_with fail
      go_meet
      case rel => exact I5.out
  case rest =>
    have J0 := hide hcut
    clear hcut I0 I1 I2 I3 I4
    obtain ⟨⟨gs4, q4⟩, hn4⟩ : ∃ n, Pm.guardL s (s.size + 1) h3 q3 = n := ⟨_, rfl⟩
    have k4 : Pm.ok s q4 := by have := Pm.guardL_ok s (s.size + 1) h3 q3 k3; rw [hn4] at this; exact this
    have N4 := hide hn4
    clear hn4
    go_wp2_with fail
    go_loopg [7] (s.size + 1) (fun k again wr => ∃ (bb : Bool) (q : Pm.Pn) (acc : List Pm.Gd) (gv : Value), again = .bool bb ∧ Hid (RuleIn w b s wr q g2.t gv acc Pm.emp (.slice none 0 0) [] g1.at_ 0) ∧ Pm.ok s q ∧ Hid (Pm.guardL s k bb q = (gs4.drop acc.length, q4)) ∧ Hid (acc ++ gs4.drop acc.length = gs4) ∧ acc.length + k ≤ 301 ∧ (bb = true → s.size < k + q.g.to_))
    case atStart => exact ⟨h3, q3, [], _, rfl, J0.out, k3, N4.out, rfl, by simp; omega, fun _ => by omega⟩
    case round =>
      obtain ⟨bb, q, acc, gv, rfl, J1, kq, L1, L2, hlen, hk⟩ := hrel
      cases bb
      · clear hk
        obtain ⟨hd4, rfl⟩ := Pm.guardL_stop L1.out
        have hacc : acc = gs4 := by have h := L2.out; rw [hd4] at h; simpa using h
        subst hacc
        clear hd4 L1 L2 hlen
        obtain ⟨⟨g5, q5⟩, hn5⟩ : ∃ n, Pm.need s q4 Pm.wGo = n := ⟨_, rfl⟩
        have k5 : Pm.ok s q5 := by have := Pm.need_ok s q4 Pm.wGo k4; rw [hn5] at this; exact this
        obtain ⟨⟨g6, q6⟩, hn6⟩ : ∃ n, Pm.goal1 s q5 = n := ⟨_, rfl⟩
        have k6 : Pm.ok s q6 := by have := Pm.goal1_ok s q5 k5; rw [hn6] at this; exact this
        have N5 := hide hn5
        have N6 := hide hn6
        clear hn5 hn6
        go_wp2_with fail
        refine (need_at _ b s q4 ⟨#[103, 111]⟩ litGo N5.out hs k4 J1.out.pen).mono ?_
        rintro e w3 ⟨rfl, hk3, hp3⟩
        have J2 := hide (J1.out.keptBy hk3 hp3)
        clear hk3 hp3
        go_wp2_with fail
        obtain ⟨cl, hcl⟩ : ∃ n, Pm.on q5 Pm.wClosed = n := ⟨_, rfl⟩
        refine (on_at _ b s q5 ⟨#[99, 108, 111, 115, 101, 100]⟩ litClosed hcl J2.out.pen).mono ?_
        rintro e w' ⟨rfl, rfl⟩
        go_upto_if 57 with fail
        go_cut [] (fun wc => Hid (RuleIn w b s wc q6 g2.t gv acc g6.t (.slice none 0 0) [] g1.at_ g6.at_))
        case first =>
          cases cl
          · have M6 := hide (Pm.goal1_no N6.out hcl)
            clear hcl
            go_wp2_with fail
            refine (word_at _ b s q5 M6.out hs k5 J2.out.pen).mono ?_
            rintro e w4 ⟨rfl, hk4, hp4⟩
            have J3 := hide (J2.out.keptBy hk4 hp4)
            clear hk4 hp4
            have z4 := J3.out.size
            obtain ⟨b0, b1, b2, b3, b4, b5, bf⟩ := J3.out.boxed
            go_wp2_with fail
            go_meet
            case rel => exact ((J3.out.setGoal g6.t).setTo g6.at_).alloc _
          · have M6 := hide (Pm.goal1_yes N6.out hcl)
            clear hcl
            obtain ⟨e6, m6⟩ := M6.out
            subst e6
            have M7 := hide m6
            clear m6
            go_wp2_with fail
            refine (next_at _ b s q5 M7.out hs k5 J2.out.pen).mono ?_
            rintro e w4 ⟨rfl, hk4, hp4⟩
            have J3 := hide (J2.out.keptBy hk4 hp4)
            clear hk4 hp4
            have z4 := J3.out.size
            obtain ⟨b0, b1, b2, b3, b4, b5, bf⟩ := J3.out.boxed
            go_wp2_with fail
            go_meet
            case rel => exact ((J3.out.setGoal q5.g.t).setTo q5.g.at_).alloc _
        case rest =>
          have J4 := hcut
          clear hcut J1 J2 hcl
          obtain ⟨⟨h7, q7⟩, hn7⟩ : ∃ n, Pm.skip s q6 Pm.wDo = n := ⟨_, rfl⟩
          have k7 : Pm.ok s q7 := by have := Pm.skip_ok s q6 Pm.wDo k6; rw [hn7] at this; exact this
          obtain ⟨⟨as8, q8⟩, hn8⟩ : ∃ n, Pm.actL s (s.size + 1) h7 q7 = n := ⟨_, rfl⟩
          have k8 : Pm.ok s q8 := by have := Pm.actL_ok s (s.size + 1) h7 q7 k7; rw [hn8] at this; exact this
          obtain ⟨⟨g9, q9⟩, hn9⟩ : ∃ n, Pm.need s q8 [59] = n := ⟨_, rfl⟩
          have hrule := Pm.rule_of N1.out N2.out N3.out N4.out N5.out N6.out hn7 hn8 hn9
          have NR := hide hrule
          have N7 := hide hn7
          have N8 := hide hn8
          have N9 := hide hn9
          clear hn7 hn8 hn9 hrule N1 N2 N3 N4 N5 N6
          go_wp2_with fail
          refine (on_at _ b s q6 ⟨#[100, 111]⟩ litDo ((Pm.skip_fst s q6 Pm.wDo).symm.trans (congrArg Prod.fst N7.out)) J4.out.pen).mono ?_
          rintro e w' ⟨rfl, rfl⟩
          go_upto_if 76 with fail
          go_cut [] (fun wc => Hid (RuleIn w b s wc q7 g2.t gv acc g6.t (.slice none 0 0) [] g1.at_ g6.at_))
          case first =>
            cases h7
            · have e3 : q7 = q6 := Pm.skip_noEq N7.out
              go_wp2_with fail
              go_meet
              case rel => rw [e3]; exact J4.out
            · have M3 := hide (Pm.skip_yesEq N7.out)
              go_wp2_with fail
              refine (next_at _ b s q6 M3.out hs k6 J4.out.pen).mono ?_
              rintro e w3 ⟨rfl, hk3, hp3⟩
              have I5 := hide (J4.out.keptBy hk3 hp3)
              clear hk3 hp3
              go_wp2_with fail
              go_meet
              case rel => exact I5.out
          case rest =>
            have J5 := hcut
            clear hcut J4
            go_wp2_with fail
            go_loopg [14] (s.size + 1) (fun k again wr => ∃ (bb : Bool) (q : Pm.Pn) (lst : List Pm.Ac) (av : Value), again = .bool bb ∧ Hid (RuleIn w b s wr q g2.t gv acc g6.t av lst g1.at_ g6.at_) ∧ Pm.ok s q ∧ Hid (Pm.actL s k bb q = (as8.drop lst.length, q8)) ∧ Hid (lst ++ as8.drop lst.length = as8) ∧ lst.length + k ≤ 301 ∧ (bb = true → s.size < k + q.g.to_))
            case atStart => exact ⟨h7, q7, [], _, rfl, J5, k7, N8.out, rfl, by simp; omega, fun _ => by omega⟩
            case round =>
              obtain ⟨bb, q, lst, av, rfl, J6, kq, L1, L2, hlen, hk⟩ := hrel
              cases bb
              · clear hk
                obtain ⟨hd8, rfl⟩ := Pm.actL_stop L1.out
                have hlst : lst = as8 := by have h := L2.out; rw [hd8] at h; simpa using h
                subst hlst
                clear hd8 L1 L2 hlen
                go_wp2_with fail
                refine (need_at _ b s q8 ⟨#[59]⟩ litSemi N9.out hs k8 J6.out.pen).mono ?_
                rintro e w3 ⟨rfl, hk3, hp3⟩
                have J7 := hide (J6.out.keptBy hk3 hp3)
                clear hk3 hp3
                have z7 := J7.out.size
                have hres := J7.out.resd
                obtain ⟨a1, m1, c1, rfl⟩ := own_slice J7.out.guards
                obtain ⟨a2, m2, c2, rfl⟩ := own_slice J7.out.acts
                obtain ⟨b0, b1, b2, b3, b4, b5, bf⟩ := J7.out.boxed
                obtain ⟨r0, r1, r2, r3, r4, r5, rf⟩ := hres
                go_wp2_with fail
                have hL := (((((J7.out.left.set 0 (.string g2.t)).set 1 (.slice a1 m1 c1)).set 2 (.string g6.t)).set 3 (.slice a2 m2 c2)).set 4 (.int .i64 (g1.at_ : Int))).set 5 (.int .i64 (g6.at_ : Int))
                refine bodyPost_ret (v := .agg #[.string g2.t, .slice a1 m1 c1, .string g6.t, .slice a2 m2 c2, .int .i64 (g1.at_ : Int), .int .i64 (g6.at_ : Int)]) (by simp [results, Tryd.results33, go_sem, r0, r1, r2, r3, r4, r5]) rfl ?_
                rw [NR.out]
                exact ⟨_, _, rfl, hL.2.1, hL.2.2.1, hL.2.2.2.2.1, hL.2.2.2.2.2⟩
              · have hk := hk rfl
                have kq' : q.g.to_ ≤ s.size := kq
                obtain ⟨n, rfl⟩ : ∃ n, gk = n + 1 := ⟨gk - 1, by omega⟩
                obtain ⟨⟨g, r2⟩, hm2⟩ : ∃ n, Pm.word s q = n := ⟨_, rfl⟩
                have kr2 : Pm.ok s r2 := by have := Pm.word_ok s q kq; rw [hm2] at this; exact this
                obtain ⟨⟨m, r3⟩, hm3⟩ : ∃ n, Pm.skip s r2 [44] = n := ⟨_, rfl⟩
                have kr3 : Pm.ok s r3 := by have := Pm.skip_ok s r2 [44] kr2; rw [hm3] at this; exact this
                have hg1 : Pm.act1 s q = (⟨g.t, g.at_⟩, m, r3) := by unfold Pm.act1; rw [hm2, hm3]
                have hlt1 : m = true → q.g.to_ < r3.g.to_ := fun e => by have := Pm.act1_more s q kq; rw [hg1] at this; exact this e
                have L3 := hide (Pm.actL_step L1.out hg1)
                have M2 := hide hm2
                have M3 := hide hm3
                clear hm2 hm3 hg1
                go_wp2_with fail
                refine (word_at _ b s q M2.out hs kq J6.out.pen).mono ?_
                rintro e w4 ⟨rfl, hk4, hp4⟩
                have J7 := hide (J6.out.keptBy hk4 hp4)
                clear hk4 hp4
                have z4 := J7.out.size
                obtain ⟨b0, b1, b2, b3, b4, b5, bf⟩ := J7.out.boxed
                have J8 := hide ((J7.out.alloc (.cells #[.int .u8 g.k, .string g.t, .int .i64 (g.at_ : Int), .int .i64 (g.to_ : Int)] 84)).alloc (.cells #[.string g.t] 9))
                go_wp2_with (at_builtin; go_must (refine wpList_append_own _ rfl _ _ 33 rfl w.heap.size 9 iS (.string ByteArray.empty) 1 16 Tryd.underlyingStrings hS hS0 hS1 hS2 rfl (by decide) _ _ _ rfl J8.out.acts ⟨w4.heap.size + 1, 0, none⟩ 1 1 [.string g.t] rfl rfl (cell_one_new' _ _ _ _ (by simp)) one1 (by unfold maxLen; omega) (by omega) (by simp; omega) ?_; intro v5 w5 ho5 hg5 _; obtain ⟨a5, m5, l5, rfl⟩ := own_slice ho5; obtain ⟨c5, f5⟩ := J8.out.storeA hg5; have HO5 := hide ho5; have HG5 := hide hg5; clear ho5 hg5))
                have J9 := hide (J8.out.addA (acs' := lst ++ [⟨g.t, g.at_⟩]) HG5.out (by have h := HO5.out; unfold ActsR; rw [acCells_snoc, List.length_append]; exact h))
                refine (more_at _ b s r2 M3.out hs kr2 J9.out.pen).mono ?_
                rintro e w6 ⟨rfl, hk6, hp6⟩
                have J10 := hide (J9.out.keptBy hk6 hp6)
                clear hk6 hp6
                go_wp2_with fail
                go_roundg n
                case measure => omega
                case rel =>
                  obtain ⟨t, ht1, ht2⟩ := L3.out
                  have hd := Pm.drop_step ht1
                  have h2 := L2.out
                  refine ⟨m, r3, lst ++ [⟨g.t, g.at_⟩], _, rfl, J10, kr3, ?_, ?_, ?_, ?_⟩
                  · show _ = _; rw [List.length_append]; simp only [List.length_cons, List.length_nil]; rw [hd]; exact ht2
                  · show _ = _; rw [List.length_append]; simp only [List.length_cons, List.length_nil]; rw [hd, List.append_assoc]; rw [ht1] at h2; exact h2
                  · simp; omega
                  · intro e; have := hlt1 e; omega
      · have hk := hk rfl
        have kq' : q.g.to_ ≤ s.size := kq
        obtain ⟨n, rfl⟩ : ∃ n, gk = n + 1 := ⟨gk - 1, by omega⟩
        obtain ⟨⟨nt, r1⟩, hm1⟩ : ∃ n, Pm.skip s q Pm.wNot = n := ⟨_, rfl⟩
        have kr1 : Pm.ok s r1 := by have := Pm.skip_ok s q Pm.wNot kq; rw [hm1] at this; exact this
        obtain ⟨⟨g, r2⟩, hm2⟩ : ∃ n, Pm.word s r1 = n := ⟨_, rfl⟩
        have kr2 : Pm.ok s r2 := by have := Pm.word_ok s r1 kr1; rw [hm2] at this; exact this
        obtain ⟨⟨m, r3⟩, hm3⟩ : ∃ n, Pm.skip s r2 [44] = n := ⟨_, rfl⟩
        have kr3 : Pm.ok s r3 := by have := Pm.skip_ok s r2 [44] kr2; rw [hm3] at this; exact this
        have hg1 : Pm.guard1 s q = (⟨g.t, nt, g.at_⟩, m, r3) := by unfold Pm.guard1; rw [hm1, hm2, hm3]
        have hlt1 : m = true → q.g.to_ < r3.g.to_ := fun e => by have := Pm.guard1_more s q kq; rw [hg1] at this; exact this e
        have L3 := hide (Pm.guardL_step L1.out hg1)
        have M1 := hide hm1
        have M2 := hide hm2
        have M3 := hide hm3
        clear hm1 hm2 hm3 hg1
        go_wp2_with fail
        refine (on_at _ b s q ⟨#[110, 111, 116]⟩ litNot ((Pm.skip_fst s q Pm.wNot).symm.trans (congrArg Prod.fst M1.out)) J1.out.pen).mono ?_
        rintro e w' ⟨rfl, rfl⟩
        go_upto_if 35 with fail
        go_cut [] (fun wc => Hid (RuleIn w b s wc r1 g2.t gv acc Pm.emp (.slice none 0 0) [] g1.at_ 0))
        case first =>
          cases nt
          · have e3 : r1 = q := Pm.skip_noEq M1.out
            go_wp2_with fail
            go_meet
            case rel => rw [e3]; exact J1.out
          · have M4 := hide (Pm.skip_yesEq M1.out)
            go_wp2_with fail
            refine (next_at _ b s q M4.out hs kq J1.out.pen).mono ?_
            rintro e w3 ⟨rfl, hk3, hp3⟩
            have I5 := hide (J1.out.keptBy hk3 hp3)
            clear hk3 hp3
            go_wp2_with fail
            go_meet
            case rel => exact I5.out
        case rest =>
          have J2 := hcut
          clear hcut J1
          go_wp2_with fail
          refine (word_at _ b s r1 M2.out hs kr1 J2.out.pen).mono ?_
          rintro e w4 ⟨rfl, hk4, hp4⟩
          have J3 := hide (J2.out.keptBy hk4 hp4)
          clear hk4 hp4
          have z4 := J3.out.size
          obtain ⟨b0, b1, b2, b3, b4, b5, bf⟩ := J3.out.boxed
          have J4 := hide ((J3.out.alloc (.cells #[.int .u8 g.k, .string g.t, .int .i64 (g.at_ : Int), .int .i64 (g.to_ : Int)] 84)).alloc (.cells #[.string g.t, .bool nt, .int .i64 (g.at_ : Int)] 93))
          go_wp2_with (at_builtin; go_must (refine wpList_append_own _ rfl _ _ 70 rfl w.heap.size 93 iG (.agg #[.string ByteArray.empty, .bool false, .int .i64 0]) 3 32 Tryd.underlyingGuards hG hG0 hG1 hG2 rfl (by decide) _ _ _ rfl J4.out.guards ⟨w4.heap.size + 1, 0, none⟩ 1 1 [.string g.t, .bool nt, .int .i64 (g.at_ : Int)] rfl rfl (cell_three_new _ _ _ _ _ _ (by simp)) one3 (by unfold maxLen; omega) (by omega) (by simp; omega) ?_; intro v5 w5 ho5 hg5 _; obtain ⟨a5, m5, l5, rfl⟩ := own_slice ho5; obtain ⟨c5, f5⟩ := J4.out.storeG hg5; have HO5 := hide ho5; have HG5 := hide hg5; clear ho5 hg5))
          have J5 := hide (J4.out.addG (gs' := acc ++ [⟨g.t, nt, g.at_⟩]) HG5.out (by have h := HO5.out; unfold GuardsR; rw [gdCells_snoc, List.length_append]; exact h))
          refine (more_at _ b s r2 M3.out hs kr2 J5.out.pen).mono ?_
          rintro e w6 ⟨rfl, hk6, hp6⟩
          have J6 := hide (J5.out.keptBy hk6 hp6)
          clear hk6 hp6
          go_wp2_with fail
          go_roundg n
          case measure => omega
          case rel =>
            obtain ⟨t, ht1, ht2⟩ := L3.out
            have hd := Pm.drop_step ht1
            have h2 := L2.out
            refine ⟨m, r3, acc ++ [⟨g.t, nt, g.at_⟩], _, rfl, J6, kr3, ?_, ?_, ?_, ?_⟩
            · show _ = _; rw [List.length_append]; simp only [List.length_cons, List.length_nil]; rw [hd]; exact ht2
            · show _ = _; rw [List.length_append]; simp only [List.length_cons, List.length_nil]; rw [hd, List.append_assoc]; rw [ht1] at h2; exact h2
            · simp; omega
            · intro e; have := hlt1 e; omega
end Go.Proofs.YtcijookbgliglaaDoor
