import Derived.Test.YtcijookbgliglaaDoorWx
/- The walk over the document's never. -/
namespace Go.Proofs.YtcijookbgliglaaDoor
open Go.RowKit

theorem RulesR.drewN {w : World} {base : Nat} {v : Value} {rs : List Pm.Rl} (h : RulesR w base v rs) (n : Nat) : RulesR (w.drewN n) base v rs := h.same (fun _ _ _ => rfl)

set_option maxRecDepth 100000 in
set_option maxHeartbeats 2000000 in
theorem never_any (w : World) (base : Nat) (v : Value) (sts : List Pm.St) (h : StatesR w base v sts) :
    Calls Tryd.prog 18 #[v] w fun e w' => e = .returned (.int .i64 (Pm.out (Pm.neverO sts))) ∧ Below w.heap.size w w' := by
  obtain ⟨a, cap, rfl, hM, -⟩ := h.at2
  have HS := hide h
  clear h
  go_enter Tryd.func18, Tryd.ntmps18
  go_wp2
  go_loopg [3] sts.length (fun gk i wr => ∃ k : Nat, k + gk = sts.length ∧ i = .int .i64 (k : Int) ∧ Hid (Below w.heap.size w wr) ∧ Hid (Pm.seekAt Pm.stF4 sts k = Pm.neverO sts))
  case atStart => exact ⟨0, by omega, rfl, Below.refl _ _, rfl⟩
  case round =>
    obtain ⟨k, hk, rfl, HB, HR⟩ := hrel
    have hk1 : k ≤ sts.length := by omega
    have E1 := hide hk
    clear hk
    by_cases hlt : k < sts.length
    · obtain ⟨g, b, n, c, rfl, hcap, c0, c1, c2, hr⟩ := (HS.out.below HB.out).at3 k hlt
      obtain ⟨rfl, hrm⟩ := hr.len
      have HRl := hide hr
      clear hr
      go_wp2
      clear c0 c1 c2
      go_loopg [5] sts[k].rules.length (fun g2 j wr => ∃ q : Nat, q + g2 = sts[k].rules.length ∧ j = .int .i64 (q : Int) ∧ Hid (Below w.heap.size w wr) ∧ Hid (RulesR wr base (.slice b sts[k].rules.length c) sts[k].rules) ∧ Hid (Pm.seekAt (Pm.rlF4 sts[k].rules) sts[k].rules q = Pm.seekAt (Pm.rlF4 sts[k].rules) sts[k].rules 0))
      case atStart => exact ⟨0, by omega, rfl, HB, HRl, rfl⟩
      case round =>
        clear HB HRl
        obtain ⟨q, hq, rfl, HB, HRl, HR2⟩ := hrel
        have hq1 : q ≤ sts[k].rules.length := by omega
        have E2 := hide hq
        clear hq
        by_cases hql : q < sts[k].rules.length
        · obtain ⟨g2, _, _, _, _, _, _, rfl, hcap2, -⟩ := HRl.out.at3 q hql
          go_wp2
          go_loopg [6] q (fun g3 y wr => ∃ t : Nat, t + g3 = q ∧ y = .int .i64 (t : Int) ∧ Hid (Below w.heap.size w wr) ∧ Hid (RulesR wr base (.slice (some ⟨g2, 0, none⟩) sts[k].rules.length c) sts[k].rules) ∧ Hid ((sts[k].rules.take t).any (fun r => Pm.within r sts[k].rules[q] && Pm.eqB r.event sts[k].rules[q].event) = false))
          case atStart => exact ⟨0, by omega, rfl, HB, HRl, by simp [Hid]⟩
          case round =>
            clear HB HRl
            obtain ⟨t, ht, rfl, HB, HRl, HR3⟩ := hrel
            have ht1 : t ≤ q := by omega
            have E3 := hide ht
            clear ht
            by_cases htl : t < q
            · have htg : t < sts[k].rules.length := by omega
              obtain ⟨b1, n1, x1, b1', n1', x1', e0, e1, e2, e3, e4, e5, hgt, -⟩ := HRl.out.at4 t htg
              obtain ⟨b2, n2, x2, b2', n2', x2', f0, f1, f2, f3, f4, f5, hgq, -⟩ := HRl.out.at4 q hql
              have HGt := hide hgt
              have HGq := hide hgq
              clear hgt hgq
              go_upto_region 11 with fail
              go_cut [7] (fun inn wc => inn = .bool (Pm.within sts[k].rules[t] sts[k].rules[q]) ∧ Hid (Below w.heap.size w wc) ∧ Hid (Below wr.heap.size wr wc))
              case first =>
                go_region_with (go_at_call 35; refine (within_any _ base sts[k].rules[t] sts[k].rules[q] _ _ _ _ _ _ _ _ _ _ _ _ ?_ ?_).mono ?_; exact ownsRow_same HGt.out (fun _ _ _ => rfl); exact ownsRow_same HGq.out (fun _ _ _ => rfl); rintro e w1 ⟨rfl, hb1⟩; have HB1 := hide hb1; clear hb1)
                all_goals
                  go_wp2_with fail
                  go_meet
                  case rel => exact ⟨rfl, HB.out.trans (((Below.refl _ _).drew.trans HB1.out).mono HB.out.size), (Below.refl _ _).drew.trans HB1.out⟩
              case rest =>
                obtain ⟨rfl, HB1, HB2⟩ := hcut
                have HRc := hide (HRl.out.below HB2.out)
                clear e0 e1 e2 e3 e4 e5 f0 f1 f2 f3 f4 f5 HGt HGq
                obtain ⟨_, _, _, _, _, _, e0, -⟩ := HRc.out.at4 t htg
                obtain ⟨_, _, _, _, _, _, f0, -, -, -, f4, -⟩ := HRc.out.at4 q hql
                have HQ0 := hide (Pm.take_any_succ (fun r : Pm.Rl => Pm.within r sts[k].rules[q] && Pm.eqB r.event sts[k].rules[q].event) sts[k].rules t htg)
                cases hwi : Pm.within sts[k].rules[t] sts[k].rules[q]
                · have HQ := hide (show (sts[k].rules.take (t + 1)).any (fun r => Pm.within r sts[k].rules[q] && Pm.eqB r.event sts[k].rules[q].event) = false by rw [HQ0.out, HR3.out, hwi]; rfl)
                  clear hwi
                  go_wp2
                  go_quiet (fail)
                  go_wp2
                  go_roundg (q - (t + 1))
                  case measure => have := E3.out; omega
                  case rel => exact ⟨t + 1, by omega, by go_num, below_drewN HB1.out _, HRc.out.drewN _, HQ⟩
                · cases heq : Pm.eqB sts[k].rules[t].event sts[k].rules[q].event
                  · have HQ := hide (show (sts[k].rules.take (t + 1)).any (fun r => Pm.within r sts[k].rules[q] && Pm.eqB r.event sts[k].rules[q].event) = false by rw [HQ0.out, HR3.out, hwi, heq]; rfl)
                    clear hwi
                    unfold Pm.eqB at heq
                    go_wp2
                    go_quiet (fail)
                    go_wp2
                    go_roundg (q - (t + 1))
                    case measure => have := E3.out; omega
                    case rel => exact ⟨t + 1, by omega, by go_num, below_drewN HB1.out _, HRc.out.drewN _, HQ⟩
                  · have HN := hide (Pm.seekAt_yes (f := Pm.rlF4 sts[k].rules) hql (by unfold Pm.rlF4; rw [if_pos]; rw [List.any_eq_true]; exact ⟨sts[k].rules[t], by rw [List.mem_take_iff_getElem]; exact ⟨t, by omega, rfl⟩, by rw [hwi, heq]; rfl⟩))
                    have HN3 := hide (Pm.seekAt_yes (f := Pm.stF4) hlt (HR2.out.symm.trans HN.out))
                    clear hwi
                    unfold Pm.eqB at heq
                    go_wp2
                    go_quiet (fail)
                    go_wp2
                    go_ret
                    exact ⟨ret_int (by rw [← HR.out, HN3.out]; rfl), below_drewN HB1.out _⟩
            · have hte : t = q := by omega
              subst hte
              have HN := hide (Pm.seekAt_no (f := Pm.rlF4 sts[k].rules) hql (by unfold Pm.rlF4; rw [if_neg (by rw [HR3.out]; simp)]))
              go_wp2
              go_roundg (sts[k].rules.length - (t + 1))
              case measure => have := E2.out; omega
              case rel => exact ⟨t + 1, by omega, by go_num, HB, HRl, HN.out.symm.trans HR2.out⟩
        · have HN := hide (Pm.seekAt_no (f := Pm.stF4) hlt (by unfold Pm.stF4; rw [← HR2.out]; exact Pm.seekAt_end _ _ _ (by omega)))
          go_wp2
          go_roundg (sts.length - (k + 1))
          case measure => have := E1.out; omega
          case rel => exact ⟨k + 1, by omega, by go_num, HB, HN.out.symm.trans HR.out⟩
    · have HN := hide (Pm.seekAt_end Pm.stF4 sts k (by omega))
      go_wp2
      go_ret
      exact ⟨ret_int (by rw [← HR.out, HN.out]; rfl), HB.out⟩
end Go.Proofs.YtcijookbgliglaaDoor
