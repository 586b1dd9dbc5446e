import Derived.Test.YtcijookbgliglaaDoorWt
/- The walk over the document's doubled. -/
namespace Go.Proofs.YtcijookbgliglaaDoor
open Go.RowKit

set_option maxRecDepth 100000 in
set_option maxHeartbeats 2000000 in
theorem doubled_any (w : World) (base : Nat) (v : Value) (sts : List Pm.St) (h : StatesR w base v sts) :
    Calls Tryd.prog 16 #[v] w fun e w' => e = .returned (.int .i64 (Pm.out (Pm.doubledO sts))) ∧ Below w.heap.size w w' := by
  obtain ⟨a, cap, rfl, hM, -⟩ := h.at2
  have HS := hide h
  clear h
  go_enter Tryd.func16, Tryd.ntmps16
  go_wp2
  go_loopg [3] sts.length (fun gk i wr => ∃ k : Nat, k + gk = sts.length ∧ i = .int .i64 (k : Int) ∧ Hid (Below w.heap.size w wr) ∧ Hid (Pm.seekAt (Pm.stF2 sts) sts k = Pm.doubledO sts))
  case atStart => exact ⟨0, by omega, rfl, Below.refl _ _, rfl⟩
  case round =>
    obtain ⟨k, hk, rfl, HB, HR⟩ := hrel
    have hk1 : k ≤ sts.length := by omega
    have E1 := hide hk
    by_cases hlt : k < sts.length
    · have hS := HS.out.below HB.out
      obtain ⟨g, b, n, c, rfl, hcap, c0, c1, c2, hr⟩ := hS.at3 k hlt
      have HSr := hide hS
      clear hS
      obtain ⟨rfl, hrm⟩ := hr.len
      have HRr := hide hr
      clear hr
      cases hse : Pm.seen sts k sts[k].name
      · have hw0 : ¬ Pm.whereI sts sts[k].name < (k : Int) := by have := Pm.where_lt sts k hlt; rw [hse] at this; simpa using this
        have HX := hide (show Pm.stF2 sts k sts[k] = Pm.seekAt Pm.rlF2 sts[k].rules 0 by unfold Pm.stF2; rw [if_neg (by simp [hse])])
        clear hse hk
        go_wp2_with (go_at_call 24; refine (where_any _ base _ sts _ HSr.out).mono ?_; rintro e w' ⟨rfl, rfl⟩)
        clear hw0
        go_loopg [4] sts[k].rules.length (fun g2 j wr => ∃ q : Nat, q + g2 = sts[k].rules.length ∧ j = .int .i64 (q : Int) ∧ Hid (Below w.heap.size w wr) ∧ Hid (Pm.seekAt Pm.rlF2 sts[k].rules q = Pm.seekAt Pm.rlF2 sts[k].rules 0))
        case atStart => exact ⟨0, by omega, rfl, HB, rfl⟩
        case round =>
          clear c0 c1 c2 HRr HSr HB
          obtain ⟨q, hq, rfl, HB, HR2⟩ := hrel
          obtain ⟨b, n2, c, c0, c1, c2, hr⟩ := (HS.out.below HB.out).at4 k hlt
          obtain ⟨rfl, hrm2⟩ := hr.len
          have hq1 : q ≤ sts[k].rules.length := by omega
          have E2 := hide hq
          by_cases hql : q < sts[k].rules.length
          · obtain ⟨g2, b1, n1, d1, b2, n2, d2, rfl, hcap2, e0, e1, e2, e3, e4, e5, hgg, haa⟩ := hr.at3 q hql
            obtain ⟨rfl, hgm⟩ := hgg.len
            have HG := hide hgg
            clear hgg haa hr hq
            go_wp2
            go_loopg [6] sts[k].rules[q].guards.length (fun g3 x wr => ∃ m : Nat, m + g3 = sts[k].rules[q].guards.length ∧ x = .int .i64 (m : Int) ∧ Hid (Below w.heap.size w wr) ∧ Hid (GuardsR wr base (.slice b1 sts[k].rules[q].guards.length d1) sts[k].rules[q].guards) ∧ Hid (Pm.seekAt (Pm.gdF sts[k].rules[q].guards) sts[k].rules[q].guards m = Pm.twiceG sts[k].rules[q].guards))
            case atStart => exact ⟨0, by omega, rfl, HB, HG, rfl⟩
            case round =>
              clear c0 c1 c2 e0 e1 e2 e3 e4 e5 HB HG
              obtain ⟨m, hm, rfl, HB, HG, HR3⟩ := hrel
              have hm1 : m ≤ sts[k].rules[q].guards.length := by omega
              have E3 := hide hm
              by_cases hml : m < sts[k].rules[q].guards.length
              · obtain ⟨gg, rfl, hcap3, _⟩ := HG.out.at3 m hml
                clear hm
                go_wp2
                go_loopg [7] m (fun g4 y wr => ∃ t : Nat, t + g4 = m ∧ y = .int .i64 (t : Int) ∧ Hid (Below w.heap.size w wr) ∧ Hid (GuardsR wr base (.slice (some ⟨gg, 0, none⟩) sts[k].rules[q].guards.length d1) sts[k].rules[q].guards) ∧ Hid ((sts[k].rules[q].guards.take t).any (fun h => Pm.eqB sts[k].rules[q].guards[m].word h.word) = false))
                case atStart => exact ⟨0, by omega, rfl, HB, HG, by simp [Hid]⟩
                case round =>
                  clear HB HG
                  obtain ⟨t, ht, rfl, HB, HG, HR4⟩ := hrel
                  have ht1 : t ≤ m := by omega
                  have E4 := hide ht
                  by_cases htl : t < m
                  · have htg : t < sts[k].rules[q].guards.length := by omega
                    obtain ⟨f0, f1, f2⟩ := HG.out.at4 m hml
                    obtain ⟨i0, i1, i2⟩ := HG.out.at4 t htg
                    clear ht
                    cases heq : Pm.eqB sts[k].rules[q].guards[m].word sts[k].rules[q].guards[t].word
                    · have HQ := hide (show (sts[k].rules[q].guards.take (t + 1)).any (fun h => Pm.eqB sts[k].rules[q].guards[m].word h.word) = false by rw [Pm.take_any_succ _ _ _ htg, HR4.out, heq]; rfl)
                      unfold Pm.eqB at heq
                      go_wp2
                      go_quiet (fail)
                      go_wp2
                      go_roundg (m - (t + 1))
                      case measure => have := E4.out; omega
                      case rel => exact ⟨t + 1, by omega, by go_num, below_drewN HB.out _, HG.out.below (below_drewN (Below.refl _ _) _), HQ⟩
                    · have HN := hide (Pm.seekAt_yes (f := Pm.gdF sts[k].rules[q].guards) hml (by unfold Pm.gdF; rw [if_pos]; rw [List.any_eq_true]; exact ⟨sts[k].rules[q].guards[t], by rw [List.mem_take_iff_getElem]; exact ⟨t, by omega, rfl⟩, heq⟩))
                      have HN2 := hide (Pm.seekAt_yes (f := Pm.rlF2) hql (by unfold Pm.rlF2; exact HR3.out.symm.trans HN.out))
                      have HN3 := hide (Pm.seekAt_yes (f := Pm.stF2 sts) hlt (HX.out.trans (HR2.out.symm.trans HN2.out)))
                      unfold Pm.eqB at heq
                      go_wp2
                      go_quiet (fail)
                      go_wp2
                      go_ret
                      exact ⟨ret_int (by rw [← HR.out, HN3.out]; rfl), below_drewN HB.out _⟩
                  · have hte : t = m := by omega
                    subst hte
                    have HN := hide (Pm.seekAt_no (f := Pm.gdF sts[k].rules[q].guards) hml (by unfold Pm.gdF; rw [if_neg (by rw [HR4.out]; simp)]))
                    clear ht
                    go_wp2
                    go_roundg (sts[k].rules[q].guards.length - (t + 1))
                    case measure => have := E3.out; omega
                    case rel => exact ⟨t + 1, by omega, by go_num, HB, HG, HN.out.symm.trans HR3.out⟩
              · have HN := hide (Pm.seekAt_no (f := Pm.rlF2) hql (by unfold Pm.rlF2; rw [← HR3.out]; exact Pm.seekAt_end _ _ _ (by omega)))
                clear hm
                go_wp2
                go_roundg (sts[k].rules.length - (q + 1))
                case measure => have := E2.out; omega
                case rel => exact ⟨q + 1, by omega, by go_num, HB, HN.out.symm.trans HR2.out⟩
          · have HN := hide (Pm.seekAt_no (f := Pm.stF2 sts) hlt (by rw [HX.out, ← HR2.out]; exact Pm.seekAt_end _ _ _ (by omega)))
            clear hq hr
            go_wp2
            go_roundg (sts.length - (k + 1))
            case measure => have := E1.out; omega
            case rel => exact ⟨k + 1, by omega, by go_num, HB, HN.out.symm.trans HR.out⟩
      · have hw0 : Pm.whereI sts sts[k].name < (k : Int) := by have := Pm.where_lt sts k hlt; rw [hse] at this; simpa using this
        have HN := hide (Pm.seekAt_yes (f := Pm.stF2 sts) hlt (by unfold Pm.stF2; rw [if_pos hse]))
        clear hse hk
        go_wp2_with (go_at_call 24; refine (where_any _ base _ sts _ HSr.out).mono ?_; rintro e w' ⟨rfl, rfl⟩)
        go_ret
        exact ⟨ret_int (by rw [← HR.out, HN.out]; rfl), HB.out⟩
    · have HN := hide (Pm.seekAt_end (Pm.stF2 sts) sts k (by omega))
      clear hk
      go_wp2
      go_ret
      exact ⟨ret_int (by rw [← HR.out, HN.out]; rfl), HB.out⟩
end Go.Proofs.YtcijookbgliglaaDoor
