import Derived.Test.YtcijookbgliglaaDoorYi
import Derived.Deep.RegionHeld3
/- The walk over the program's state. -/
namespace Go.Proofs.YtcijookbgliglaaDoor
open Go.RowKit

theorem dead_eq {s : ByteArray} {p : Pm.Pn} {x : Nat} (hL : Pm.Live s p) (ho : Pm.on p Pm.wOn = false) (hd : Pm.dead (Pm.rule s p).2 = some x) : x = p.g.at_ := by
  have h1 : Pm.ruleS1 s p = ⟨p.g, (p.g.at_ : Int)⟩ := by
    unfold Pm.ruleS1; rw [Pm.need_no s p _ ho, Pm.fail_yes p (by rw [hL.1]; decide)]
  have e1 : Pm.dead (Pm.ruleS1 s p) = some p.g.at_ := by rw [h1]; exact Pm.dead_bad _ _
  have e2 : Pm.dead (Pm.ruleS2 s p) = some p.g.at_ := Pm.dead_word e1
  have e3 : Pm.dead (Pm.ruleS3 s p).2 = some p.g.at_ := by unfold Pm.ruleS3; rw [Pm.dead_skip e2]; exact e2
  have e4 : Pm.dead (Pm.ruleS4 s p).2 = some p.g.at_ := Pm.dead_guardL e3
  have e5 : Pm.dead (Pm.ruleS5 s p) = some p.g.at_ := Pm.dead_need e4 _
  have e6 : Pm.dead (Pm.ruleS6 s p).2 = some p.g.at_ := Pm.dead_goal1 e5
  have e7 : Pm.dead (Pm.ruleS7 s p).2 = some p.g.at_ := by unfold Pm.ruleS7; rw [Pm.dead_skip e6]; exact e6
  have e8 : Pm.dead (Pm.ruleS8 s p).2 = some p.g.at_ := Pm.dead_actL e7
  have e9 : Pm.dead (Pm.rule s p).2 = some p.g.at_ := Pm.dead_need e8 _
  rw [e9] at hd
  simp at hd
  exact hd.symm
theorem rule_not_live {s : ByteArray} {p : Pm.Pn} (hL : Pm.Live s p) (ho : Pm.on p Pm.wOn = false) : ¬ Pm.Live s (Pm.rule s p).2 := by
  intro h
  have h1 : Pm.ruleS1 s p = ⟨p.g, (p.g.at_ : Int)⟩ := by
    unfold Pm.ruleS1; rw [Pm.need_no s p _ ho, Pm.fail_yes p (by rw [hL.1]; decide)]
  have e1 : Pm.dead (Pm.ruleS1 s p) = some p.g.at_ := by rw [h1]; exact Pm.dead_bad _ _
  have e2 : Pm.dead (Pm.ruleS2 s p) = some p.g.at_ := Pm.dead_word e1
  have e3 : Pm.dead (Pm.ruleS3 s p).2 = some p.g.at_ := by unfold Pm.ruleS3; rw [Pm.dead_skip e2]; exact e2
  have e4 : Pm.dead (Pm.ruleS4 s p).2 = some p.g.at_ := Pm.dead_guardL e3
  have e5 : Pm.dead (Pm.ruleS5 s p) = some p.g.at_ := Pm.dead_need e4 _
  have e6 : Pm.dead (Pm.ruleS6 s p).2 = some p.g.at_ := Pm.dead_goal1 e5
  have e7 : Pm.dead (Pm.ruleS7 s p).2 = some p.g.at_ := by unfold Pm.ruleS7; rw [Pm.dead_skip e6]; exact e6
  have e8 : Pm.dead (Pm.ruleS8 s p).2 = some p.g.at_ := Pm.dead_actL e7
  have e9 : Pm.dead (Pm.rule s p).2 = some p.g.at_ := Pm.dead_need e8 _
  rw [h.alive] at e9
  simp at e9
theorem dead_rulesL {s : ByteArray} {n : Nat} {p : Pm.Pn} {x : Nat} (h : Pm.dead p = some x) : Pm.dead (Pm.rulesL s n p).2 = some x := by
  have := Pm.rulesL_no (s := s) (n := n) (p := p) rfl (Pm.dead_on h _)
  rw [this.2]; exact h

theorem on_excl {p : Pm.Pn} (h : Pm.on p [125] = true) : Pm.on p Pm.wOn = false := by
  unfold Pm.on at h ⊢
  simp only [Bool.and_eq_true, beq_iff_eq] at h
  rw [h.2]
  simp [Pm.wOn]
theorem shut_eq {s : ByteArray} {k : Nat} {p' r4 q4 q : Pm.Pn} {g5 : Pm.Sg} {rs rs4 : List Pm.Rl} (h1 : Pm.rulesL s k p' = (rs4.drop rs.length, q4)) (h2 : rs ++ rs4.drop rs.length = rs4) (h3 : Pm.skip s p' [125] = (true, r4)) (h5 : Pm.need s q4 [125] = (g5, q)) : q = r4 ∧ rs4 = rs := by
  have ho : Pm.on p' [125] = true := by have := Pm.skip_fst s p' [125]; rw [h3] at this; exact this.symm
  obtain ⟨e1, e2⟩ := Pm.rulesL_no h1 (on_excl ho)
  rw [e2, Pm.need_yes s p' _ ho] at h5
  rw [Pm.skip_yes s p' _ ho] at h3
  simp only [Prod.mk.injEq] at h3 h5
  refine ⟨h5.2.symm.trans h3.2, ?_⟩
  rw [e1] at h2; simpa using h2.symm
theorem rule_ok (w : World) (b : Nat) (s : ByteArray) (p : Pm.Pn) {r : Pm.Rl} {q : Pm.Pn} (hn : Pm.rule s p = (r, q)) (hs : s.size ≤ 300) (hL : Pm.Live s p) (hq : Pm.Live s q) (hp : RdAt w b s p.g) :
    Calls Tryd.prog 73 #[.pointer (some ⟨b, 0, none⟩)] w fun e w' => ∃ a1 n1 c1 a2 n2 c2, e = .returned (.agg #[.int .i64 (r.at_ : Int), .int .i64 (r.eventAt : Int), .string r.event, .slice a1 n1 c1, .int .i64 (r.to_ : Int), .string r.goal, .slice a2 n2 c2]) ∧ Kept b w w' ∧ GuardsC w' w.heap.size (.slice a1 n1 c1) r.guards ∧ ActsC w' w.heap.size (.slice a2 n2 c2) r.actions ∧ RdAt w' b s q.g := by
  refine (rule_rd w b s p hn hs hL hp).mono ?_
  rintro e w' ⟨hk, (⟨_, ⟨a1, n1, c1, a2, n2, c2, h1, h2, h3⟩, h4⟩ | ⟨x, hd, _⟩)⟩
  · exact ⟨a1, n1, c1, a2, n2, c2, h1, hk, h2, h3, h4⟩
  · rw [hq.alive] at hd; simp at hd
theorem rule_thrown (w : World) (b : Nat) (s : ByteArray) (p : Pm.Pn) {r : Pm.Rl} {q : Pm.Pn} (hn : Pm.rule s p = (r, q)) (hs : s.size ≤ 300) (hL : Pm.Live s p) (hq : ¬ Pm.Live s q) (hp : RdAt w b s p.g) :
    Calls Tryd.prog 73 #[.pointer (some ⟨b, 0, none⟩)] w fun e w' => ∃ pv x, e = .panicked [{ v := pv, recovered := false }] ∧ Kept b w w' ∧ Pm.dead q = some x ∧ Thrown s (.panicked [{ v := pv, recovered := false }]) x := by
  refine (rule_rd w b s p hn hs hL hp).mono ?_
  rintro e w' ⟨hk, (⟨h, _⟩ | ⟨x, hd, ht⟩)⟩
  · exact absurd h hq
  · obtain ⟨pv, rfl⟩ := ht.shape
    exact ⟨pv, x, rfl, hk, hd, ht⟩

set_option maxRecDepth 100000 in
set_option maxHeartbeats 2000000 in
theorem state_rd (w : World) (b : Nat) (s : ByteArray) (p : Pm.Pn) {st : Pm.St} {q : Pm.Pn} (hn : Pm.state1 s p = (st, q)) (hs : s.size ≤ 300) (hL : Pm.Live s p) (hp : RdAt w b s p.g) :
    Calls Tryd.prog 58 #[.pointer (some ⟨b, 0, none⟩)] w fun e w' => Go1 b s w q (fun e w' => ∃ a1 n1 c1, e = .returned (.agg #[.int .i64 (st.at_ : Int), .int .i64 (st.nameAt : Int), .string st.name, .slice a1 n1 c1]) ∧ RulesC w' w.heap.size (.slice a1 n1 c1) st.rules) e w' := by
  obtain ⟨iR, hR, hR0, hR1, hR2⟩ := info_parts Tryd.infoRuleC
  obtain ⟨⟨g1, q1⟩, hn1⟩ : ∃ n, Pm.need s p Pm.wState = n := ⟨_, rfl⟩
  obtain ⟨⟨g2, q2⟩, hn2⟩ : ∃ n, Pm.word s q1 = n := ⟨_, rfl⟩
  obtain ⟨⟨g3, q3⟩, hn3⟩ : ∃ n, Pm.need s q2 [123] = n := ⟨_, rfl⟩
  obtain ⟨⟨rs4, q4⟩, hn4⟩ : ∃ n, Pm.rulesL s (s.size + 1) q3 = n := ⟨_, rfl⟩
  obtain ⟨⟨g5, q5⟩, hn5⟩ : ∃ n, Pm.need s q4 [125] = n := ⟨_, rfl⟩
  have hst := Pm.state_of hn1 hn2 hn3 hn4 hn5
  rw [hn] at hst
  simp only [Prod.mk.injEq] at hst
  obtain ⟨rfl, rfl⟩ := hst
  have d4 : ∀ x, Pm.dead q4 = some x → Pm.dead q = some x := fun x h => by have h := Pm.dead_need (s := s) h [125]; rw [hn5] at h; exact h
  have d3 : ∀ x, Pm.dead q3 = some x → Pm.dead q = some x := fun x h => d4 x (by have h := dead_rulesL (s := s) (n := s.size + 1) h; rw [hn4] at h; exact h)
  have d2 : ∀ x, Pm.dead q2 = some x → Pm.dead q = some x := fun x h => d3 x (by have h := Pm.dead_need (s := s) h [123]; rw [hn3] at h; exact h)
  have d1 : ∀ x, Pm.dead q1 = some x → Pm.dead q = some x := fun x h => d2 x (by have h := Pm.dead_word (s := s) h; rw [hn2] at h; exact h)
  have N1 := hide hn1
  have N2 := hide hn2
  have N3 := hide hn3
  have N4 := hide hn4
  have N5 := hide hn5
  have D1 := hide d1
  have D2 := hide d2
  have D3 := hide d3
  have D4 := hide d4
  have hlt := hp.lt
  have n1 : ¬ w.heap.size = b := by omega
  have M1 := hide (heap_alloc_new w (.cells #[.int .i64 0, .int .i64 0, .string { data := #[] }, .slice none 0 0] 124))
  have HA := hide (hp.alloc (.cells #[.int .i64 0, .int .i64 0, .string { data := #[] }, .slice none 0 0] 124))
  clear hp hn hn1 hn2 hn3 hn4 hn5 d1 d2 d3 d4
  have hfd : ∀ (x : Int) (t : ByteArray) (W : World), (Instr.field 121 (.agg #[.int .i64 x, .string t]) 0).run Tryd.prog W = .ok (.int .i64 x) W := fun _ _ _ => by kernel_rfl
  go_enter Tryd.func58, Tryd.ntmps58
  go_wp2_with fail
  refine (must_at _ b s p ⟨#[115, 116, 97, 116, 101]⟩ litState (by decide) N1.out hs hL HA.out).mono ?_
  rintro e w1 ⟨hk1, (⟨hL1, rfl, hr1⟩ | ⟨x, hd, hth⟩)⟩
  case inr =>
    obtain ⟨pv, rfl⟩ := hth.shape
    have K1 := hide (((Kept.refl b w).alloc _).trans hk1)
    have HD := hide (D1.out x hd)
    have HH := hide hth
    clear hk1 hd hth
    go_wp2_with fail
    exact ⟨rfl, K1.out, Or.inr ⟨x, HD.out, HH.out⟩⟩
  have K1 := hide (((Kept.refl b w).alloc _).trans hk1)
  have R1 := hide hr1
  have MM1 := hide ((hk1.block w.heap.size (by simp) n1).trans M1.out)
  clear hk1 hr1
  go_wp2_with fail
  refine (word_rd _ b s q1 N2.out hs hL1 R1.out).mono ?_
  rintro e w2 ⟨hk2, (⟨hL2, rfl, hr2⟩ | ⟨x, hd, hth⟩)⟩
  case inr =>
    obtain ⟨pv, rfl⟩ := hth.shape
    have K2 := hide (K1.out.trans hk2)
    have HD := hide (D2.out x hd)
    have HH := hide hth
    clear hk2 hd hth
    go_wp2_with fail
    exact ⟨rfl, K2.out, Or.inr ⟨x, HD.out, HH.out⟩⟩
  have hres2 := (hk2.block w.heap.size (Array.getElem?_eq_some_iff.1 MM1.out).1 n1).trans MM1.out
  have hz2 : w.heap.size < w2.heap.size := (Array.getElem?_eq_some_iff.1 hres2).1
  have C2 := hide (show StateC w b s (w2.alloc (.cells #[.int .i64 (g1.at_ : Int), .int .i64 (g2.at_ : Int), .string g2.t, .slice none 0 0] 124)) q2 w2.heap.size g1.at_ g2.at_ g2.t (.slice none 0 0) [] from
    ⟨hlt, (K1.out.trans hk2).alloc _, hr2.alloc _, hz2, (Below.heap_alloc _ _ _ hz2).trans hres2, heap_alloc_new w2 _, [], rfl, World.ownsRow_nil _ _ _ _, by simp⟩)
  clear hk2 hr2 hres2
  go_wp2_with fail
  refine (must_at _ b s q2 ⟨#[123]⟩ litOpen (by decide) N3.out hs hL2 C2.out.rd).mono ?_
  rintro e w3 ⟨hk3, (⟨hL3, rfl, hr3⟩ | ⟨x, hd, hth⟩)⟩
  case inr =>
    obtain ⟨pv, rfl⟩ := hth.shape
    have K3 := hide (C2.out.kept.trans hk3)
    have HD := hide (D3.out x hd)
    have HH := hide hth
    clear hk3 hd hth
    go_wp2_with fail
    exact ⟨rfl, K3.out, Or.inr ⟨x, HD.out, HH.out⟩⟩
  have C3 := hide (C2.out.keptBy hk3 hr3)
  have HL3 := hide hL3
  clear hk3 hr3 hL3 C2
  go_wp2_with fail
  go_loopg [] (s.size + 1) (fun k wi => ∃ (p' : Pm.Pn) (rs : List Pm.Rl) (a : Option Addr) (l c : Nat), Hid (StateC w b s wi p' w2.heap.size g1.at_ g2.at_ g2.t (.slice a l c) rs) ∧ Hid (Pm.Live s p') ∧ Hid (Pm.rulesL s k p' = (rs4.drop rs.length, q4)) ∧ Hid (rs ++ rs4.drop rs.length = rs4) ∧ rs.length + k ≤ 301 ∧ (Pm.on p' Pm.wOn = true → s.size < k + p'.g.to_))
  case atStart => exact ⟨q3, [], _, _, _, C3, HL3, N4.out, rfl, by simp; omega, fun _ => by omega⟩
  case round =>
    obtain ⟨p', rs, a, l, c, C4, HL4, K1', K2', hlen, hfu⟩ := hrel
    obtain ⟨⟨sk, r4⟩, hsk⟩ : ∃ n, Pm.skip s p' [125] = n := ⟨_, rfl⟩
    go_wp2_with fail
    refine (skip_rd _ b s p' ⟨#[125]⟩ litShut (by decide) hsk hs HL4.out C4.out.rd).mono ?_
    rintro e w4 ⟨hk4, (⟨hL5, rfl, hr4⟩ | ⟨x, hd, hth⟩)⟩
    · have C5 := hide (C4.out.keptBy hk4 hr4)
      have SK := hide hsk
      clear hk4 hr4 hsk
      cases sk
      · obtain rfl := Pm.skip_noEq SK.out
        obtain ⟨⟨r, p1⟩, hr⟩ : ∃ n, Pm.rule s r4 = n := ⟨_, rfl⟩
        have RL := hide hr
        clear hr
        by_cases hlv : Pm.Live s p1
        · have hon : Pm.on r4 Pm.wOn = true := by
            cases ho : Pm.on r4 Pm.wOn
            · exact absurd (by rw [RL.out]; exact hlv) (rule_not_live hL5 ho)
            · rfl
          have hfu := hfu hon
          have hle : r4.g.to_ ≤ s.size := hL5.ok
          obtain ⟨n, rfl⟩ : ∃ n, gk = n + 1 := ⟨gk - 1, by omega⟩
          have hlt5 : Pm.on p1 Pm.wOn = true → r4.g.to_ < p1.g.to_ := fun e => by have := Pm.rule_more s r4 hL5.ok; rw [RL.out] at this; exact this e
          have K3' := hide (Pm.rulesL_yes K1'.out hon RL.out)
          have HON := hide hon
          clear hon
          obtain ⟨b0, b1, b2, b3, bf⟩ := C5.out.boxed
          have hz5 := C5.out.size
          have hzw : w.heap.size ≤ w4.drew.heap.size := C5.out.kept.size
          go_wp2_with fail
          go_region_law ((first
            | (obtain ⟨xs, hx1, hx2, hx3⟩ := (C6.out.alloc (.cells #[.int .i64 (r.at_ : Int), .int .i64 (r.eventAt : Int), .string r.event, .slice a1 n1' c1, .int .i64 (r.to_ : Int), .string r.goal, .slice a2 n2 c2] 128)).rules; have hxl : xs.length = rs.length := (by rw [← hx1]; simp); refine step_append_own (by rfl) _ _ 122 (by rfl) w.heap.size 128 iR (.agg #[.int .i64 0, .int .i64 0, .string ByteArray.empty, .slice none 0 0, .int .i64 0, .string ByteArray.empty, .slice none 0 0]) 7 104 Tryd.underlyingRulesC hR hR0 hR1 hR2 rfl (by decide) _ _ _ (by rfl) hx2 ⟨w5.heap.size, 0, none⟩ 1 1 [.int .i64 (r.at_ : Int), .int .i64 (r.eventAt : Int), .string r.event, .slice a1 n1' c1, .int .i64 (r.to_ : Int), .string r.goal, .slice a2 n2 c2] (by rfl) rfl (cell_seven_new _ _ _ _ _ _ _ _ _ _ rfl) one7 (by unfold maxLen; omega) (by omega) (by simp; omega) ?_; intro v7 w7 ho7 hg7 _; obtain ⟨a7, l7, c7, rfl⟩ := own_slice ho7; obtain ⟨f3, ff⟩ := (C6.out.alloc (.cells #[.int .i64 (r.at_ : Int), .int .i64 (r.eventAt : Int), .string r.event, .slice a1 n1' c1, .int .i64 (r.to_ : Int), .string r.goal, .slice a2 n2 c2] 128)).storeR hg7; have C7 := hide ((C6.out.alloc (.cells #[.int .i64 (r.at_ : Int), .int .i64 (r.eventAt : Int), .string r.event, .slice a1 n1' c1, .int .i64 (r.to_ : Int), .string r.goal, .slice a2 n2 c2] 128)).addR hg7 (ownsRow_alloc (ownsRow_base G6.out hzw) _) (ownsRow_alloc (ownsRow_base A6.out hzw) _) hx1 hx2 hx3 ho7); clear hx1 hx2 hx3 ho7 hg7)
            | (go_wp2_with (go_at_call 73; refine (rule_ok _ b s r4 RL.out hs hL5 hlv ?_).mono ?_; exact C5.out.rd.same rfl; rintro e w5 ⟨a1, n1', c1, a2, n2, c2, rfl, hk5, hg5, ha5, hr5⟩; have C6 := hide (C5.out.drew.keptBy hk5 hr5); have G6 := hide hg5; have A6 := hide ha5; obtain ⟨e0, e1, e2, e3, ef⟩ := C6.out.boxed; have hz6 := C6.out.size; clear hk5 hg5 ha5 hr5))))
          all_goals
            have HL7 := hide hlv
            go_wp2_with fail
            go_roundg n
            case measure => omega
            case rel =>
              obtain ⟨t, ht1, ht2⟩ := K3'.out
              have hd := Pm.drop_step ht1
              have h2 := K2'.out
              refine ⟨p1, rs ++ [r], _, _, _, C7, HL7, ?_, ?_, ?_, ?_⟩
              · show _ = _; rw [List.length_append]; simp only [List.length_cons, List.length_nil]; rw [hd]; exact ht2
              · show _ = _; rw [List.length_append]; simp only [List.length_cons, List.length_nil]; rw [hd, List.append_assoc]; rw [ht1] at h2; exact h2
              · simp; omega
              · intro e; have := hlt5 e; omega
        · obtain ⟨b0, b1, b2, b3, bf⟩ := C5.out.boxed
          have hdq : ∀ x, Pm.dead p1 = some x → Pm.dead q = some x := by
            intro x hx
            cases ho : Pm.on r4 Pm.wOn
            · have hxe := dead_eq (s := s) hL5 ho (by rw [RL.out]; exact hx)
              obtain ⟨hd4, he4⟩ := Pm.rulesL_no K1'.out ho
              have hon2 : Pm.on r4 [125] = false := by
                have := Pm.skip_fst s r4 [125]; rw [SK.out] at this; exact this.symm
              have h5 := N5.out
              rw [he4, Pm.need_no s r4 _ hon2, Pm.fail_yes r4 (by rw [hL5.1]; decide)] at h5
              simp only [Prod.mk.injEq] at h5
              rw [← h5.2, hxe]; exact Pm.dead_bad _ _
            · refine D4.out x ?_
              have hfu := hfu ho
              have hle : r4.g.to_ ≤ s.size := hL5.ok
              obtain ⟨n, rfl⟩ : ∃ n, gk = n + 1 := ⟨gk - 1, by omega⟩
              obtain ⟨t, _, ht2⟩ := Pm.rulesL_yes K1'.out ho RL.out
              have := dead_rulesL (s := s) (n := n) hx
              rw [ht2] at this; exact this
          have HDQ := hide hdq
          clear hdq
          go_wp2_with fail
          refine wp_region_any (by kernel_rfl) ?_
          try (change wpAny _ _ _ _ _ _ _ (World.drew _))
          refine wpAny_take (i := 0) (v := .pointer (some ⟨w2.heap.size, 3, none⟩)) rfl (by kernel_rfl) (by kernel_rfl) (by kernel_rfl) (fun _ _ _ h => h) (Or.inl ⟨by rfl, ?_⟩) ?_
          · intro W; go_simp
          refine wpAny_take (i := 2) (v := .pointer (some ⟨b, 0, none⟩)) rfl (by kernel_rfl) (by kernel_rfl) (by kernel_rfl) (fun _ _ _ h => h) (Or.inl ⟨by rfl, ?_⟩) ?_
          · intro W; go_simp
          refine wpAny_ready (rs := [1, 3]) (by kernel_rfl) (by simp) ?_
          refine AllReady.cons rfl (fun K hK => ?_) ?_
          · go_simp
            refine hK _ _ ?_
            clear hK K
            refine wpAny_ready (rs := [3]) (by kernel_rfl) (by simp) ?_
            refine AllReady.cons rfl (fun K hK => ?_) AllReady.nil
            go_simp
            refine (rule_thrown _ b s r4 RL.out hs hL5 hlv ?_).mono ?_
            · exact C5.out.rd.same rfl
            rintro e w5 ⟨pv, x, rfl, hk5, hd5, ht5⟩
            have K5 := hide (C5.out.drew.kept.trans hk5)
            have HD := hide (HDQ.out x hd5)
            have HH := hide ht5
            clear hk5 hd5 ht5
            go_wp2_with fail
            exact ⟨rfl, K5.out, Or.inr ⟨x, HD.out, HH.out⟩⟩
          · refine AllReady.cons rfl (fun K hK => ?_) AllReady.nil
            go_simp
            refine (rule_thrown _ b s r4 RL.out hs hL5 hlv ?_).mono ?_
            · exact C5.out.rd.same rfl
            rintro e w5 ⟨pv, x, rfl, hk5, hd5, ht5⟩
            have K5 := hide (C5.out.drew.kept.trans hk5)
            have HD := hide (HDQ.out x hd5)
            have HH := hide ht5
            clear hk5 hd5 ht5
            go_wp2_with fail
            exact ⟨rfl, K5.out, Or.inr ⟨x, HD.out, HH.out⟩⟩
      · obtain ⟨hq4, hrs⟩ := shut_eq K1'.out K2'.out SK.out N5.out
        subst hq4
        subst hrs
        have HLq := hide hL5
        obtain ⟨b0, b1, b2, b3, bf⟩ := C5.out.boxed
        obtain ⟨r0, r1, r2, r3, rf⟩ := C5.out.resd
        have hz5 := C5.out.size
        go_wp2_with fail
        have hRl := C5.out.rules
        have hKp := C5.out.kept
        have hRd := C5.out.rd
        have hx := C5.out.res
        have hx1 : ((((w4.setCell ⟨w.heap.size, 0, none⟩ (.int .i64 (g1.at_ : Int))).setCell ⟨w.heap.size, 1, none⟩ (.int .i64 (g2.at_ : Int))).setCell ⟨w.heap.size, 2, none⟩ (.string g2.t)).heap[w.heap.size]?) = some (.cells #[.int .i64 (g1.at_ : Int), .int .i64 (g2.at_ : Int), .string g2.t, .slice none 0 0] 124 (0, 0)) := by simp [World.setCell, Array.getElem?_modify, hx]
        have hx2 : (((w4.setCell ⟨w.heap.size, 0, none⟩ (.int .i64 (g1.at_ : Int))).setCell ⟨w.heap.size, 1, none⟩ (.int .i64 (g2.at_ : Int))).heap[w.heap.size]?) = some (.cells #[.int .i64 (g1.at_ : Int), .int .i64 (g2.at_ : Int), .string Pm.emp, .slice none 0 0] 124 (0, 0)) := by simp [World.setCell, Array.getElem?_modify, hx]
        have hx3 : ((w4.setCell ⟨w.heap.size, 0, none⟩ (.int .i64 (g1.at_ : Int))).heap[w.heap.size]?) = some (.cells #[.int .i64 (g1.at_ : Int), .int .i64 0, .string Pm.emp, .slice none 0 0] 124 (0, 0)) := by simp [World.setCell, Array.getElem?_modify, hx]
        have n3 : b ≠ w.heap.size := by omega
        refine bodyPost_ret (v := .agg #[.int .i64 (g1.at_ : Int), .int .i64 (g2.at_ : Int), .string g2.t, .slice a l c]) (by simp [results, Tryd.results58, go_sem, r0, r1, r2, r3]) rfl ⟨?_, Or.inl ⟨HLq.out, ⟨_, _, _, rfl, ?_⟩, ?_⟩⟩
        · exact (((hKp.setNew ⟨w.heap.size, 0, none⟩ (Nat.le_refl _) _).setNew ⟨w.heap.size, 1, none⟩ (Nat.le_refl _) _).setNew ⟨w.heap.size, 2, none⟩ (Nat.le_refl _) _).setNew ⟨w.heap.size, 3, none⟩ (Nat.le_refl _) _
        · exact (((hRl.setOther (p := ⟨w.heap.size, 0, none⟩) hx _).setOther (p := ⟨w.heap.size, 1, none⟩) hx3 _).setOther (p := ⟨w.heap.size, 2, none⟩) hx2 _).setOther (p := ⟨w.heap.size, 3, none⟩) hx1 _
        · exact (((hRd.other ⟨w.heap.size, 0, none⟩ n3 _).other ⟨w.heap.size, 1, none⟩ n3 _).other ⟨w.heap.size, 2, none⟩ n3 _).other ⟨w.heap.size, 3, none⟩ n3 _
    · obtain ⟨pv, rfl⟩ := hth.shape
      have K4 := hide (C4.out.kept.trans hk4)
      have HD := hide (show Pm.dead q = some x by
        cases sk
        · obtain rfl := Pm.skip_noEq hsk
          rw [HL4.out.alive] at hd; simp at hd
        · obtain ⟨hq4, _⟩ := shut_eq K1'.out K2'.out hsk N5.out
          rw [hq4]; exact hd)
      have HH := hide hth
      clear hk4 hd hth
      go_wp2_with fail
      exact ⟨rfl, K4.out, Or.inr ⟨x, HD.out, HH.out⟩⟩
end Go.Proofs.YtcijookbgliglaaDoor
