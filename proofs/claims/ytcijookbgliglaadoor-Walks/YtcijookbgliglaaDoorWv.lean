import Derived.Test.YtcijookbgliglaaDoorWu
/- The walk over the document's goalless. -/
namespace Go.Proofs.YtcijookbgliglaaDoor
open Go.RowKit

set_option maxRecDepth 100000 in
set_option maxHeartbeats 2000000 in
theorem goalless_any (w : World) (base : Nat) (v : Value) (sts : List Pm.St) (h : StatesR w base v sts) :
    Calls Tryd.prog 17 #[v] w fun e w' => e = .returned (.int .i64 (Pm.out (Pm.goallessO sts))) ∧ Below w.heap.size w w' := by
  obtain ⟨a, cap, rfl, hM, -⟩ := h.at2
  have HS := hide h
  clear h
  go_enter Tryd.func17, Tryd.ntmps17
  go_wp2
  go_loopg [3] sts.length (fun gk i wr => ∃ k : Nat, k + gk = sts.length ∧ i = .int .i64 (k : Int) ∧ Hid (Below w.heap.size w wr) ∧ Hid (Pm.seekAt (Pm.stF3 sts) sts k = Pm.goallessO sts))
  case atStart => exact ⟨0, by omega, rfl, Below.refl _ _, rfl⟩
  case round =>
    obtain ⟨k, hk, rfl, HB, HR⟩ := hrel
    have hk1 : k ≤ sts.length := by omega
    have E1 := hide hk
    clear hk
    by_cases hlt : k < sts.length
    · obtain ⟨g, b, n, c, rfl, hcap, c0, c1, c2, hr⟩ := (HS.out.below HB.out).at3 k hlt
      obtain ⟨rfl, hrm⟩ := hr.len
      clear hr
      go_wp2
      go_loopg [4] sts[k].rules.length (fun g2 j wr => ∃ q : Nat, q + g2 = sts[k].rules.length ∧ j = .int .i64 (q : Int) ∧ Hid (Below w.heap.size w wr) ∧ Hid (Pm.seekAt (Pm.rlF3 sts) sts[k].rules q = Pm.seekAt (Pm.rlF3 sts) sts[k].rules 0))
      case atStart => exact ⟨0, by omega, rfl, HB, rfl⟩
      case round =>
        clear c0 c1 c2 HB
        obtain ⟨q, hq, rfl, HB, HR2⟩ := hrel
        obtain ⟨b, n2, c, c0, c1, c2, hr⟩ := (HS.out.below HB.out).at4 k hlt
        obtain ⟨rfl, hrm2⟩ := hr.len
        have hq1 : q ≤ sts[k].rules.length := by omega
        have E2 := hide hq
        clear hq
        by_cases hql : q < sts[k].rules.length
        · obtain ⟨g2, b1, n1, d1, b2, n2, d2, rfl, hcap2, e0, e1, e2, e3, e4, e5, hgg, haa⟩ := hr.at3 q hql
          clear hgg haa hr
          cases hcl : (sts[k].rules[q].goal.toList == Pm.wClosed)
          · have hcb : (sts[k].rules[q].goal.toList == [99, 108, 111, 115, 101, 100]) = false := hcl
            have hnc : ¬ sts[k].rules[q].goal.toList = [99, 108, 111, 115, 101, 100] := by unfold Pm.wClosed at hcl; simpa using hcl
            by_cases hw0 : Pm.whereI sts sts[k].rules[q].goal < 0
            · have HN := hide (Pm.seekAt_yes (f := Pm.rlF3 sts) hql (by unfold Pm.rlF3; rw [if_pos (by rw [hcl]; simp [hw0])]))
              have HN3 := hide (Pm.seekAt_yes (f := Pm.stF3 sts) hlt (HR2.out.symm.trans HN.out))
              clear hcl
              go_wp2_with (go_at_call 24; refine (where_any _ base _ sts _ ((HS.out.below HB.out).same (fun _ _ h2 => Below.heap_alloc _ _ _ h2))).mono ?_; rintro e w' ⟨rfl, rfl⟩)
              go_ret
              exact ⟨ret_int (by rw [← HR.out, HN3.out]; rfl), HB.out.alloc HB.out.size _⟩
            · have HN := hide (Pm.seekAt_no (f := Pm.rlF3 sts) hql (by unfold Pm.rlF3; rw [if_neg (by simp [hw0])]))
              clear hcl
              go_wp2_with (go_at_call 24; refine (where_any _ base _ sts _ ((HS.out.below HB.out).same (fun _ _ h2 => Below.heap_alloc _ _ _ h2))).mono ?_; rintro e w' ⟨rfl, rfl⟩)
              go_roundg (sts[k].rules.length - (q + 1))
              case measure => have := E2.out; omega
              case rel => exact ⟨q + 1, by omega, by go_num, HB.out.alloc HB.out.size _, HN.out.symm.trans HR2.out⟩
          · have hcb : (sts[k].rules[q].goal.toList == [99, 108, 111, 115, 101, 100]) = true := hcl
            have hnc : sts[k].rules[q].goal.toList = [99, 108, 111, 115, 101, 100] := by unfold Pm.wClosed at hcl; simpa using hcl
            have HN := hide (Pm.seekAt_no (f := Pm.rlF3 sts) hql (by unfold Pm.rlF3; rw [if_neg (by simp [hcl])]))
            clear hcl
            go_wp2_with (go_at_call 24; refine (where_any _ base _ sts _ ((HS.out.below HB.out).same (fun _ _ h2 => Below.heap_alloc _ _ _ h2))).mono ?_; rintro e w' ⟨rfl, rfl⟩)
            go_roundg (sts[k].rules.length - (q + 1))
            case measure => have := E2.out; omega
            case rel => exact ⟨q + 1, by omega, by go_num, HB.out.alloc HB.out.size _, HN.out.symm.trans HR2.out⟩
        · have HN := hide (Pm.seekAt_no (f := Pm.stF3 sts) hlt (by unfold Pm.stF3; rw [← HR2.out]; exact Pm.seekAt_end _ _ _ (by omega)))
          clear hr
          go_wp2
          go_roundg (sts.length - (k + 1))
          case measure => have := E1.out; omega
          case rel => exact ⟨k + 1, by omega, by go_num, HB, HN.out.symm.trans HR.out⟩
    · have HN := hide (Pm.seekAt_end (Pm.stF3 sts) sts k (by omega))
      go_wp2
      go_ret
      exact ⟨ret_int (by rw [← HR.out, HN.out]; rfl), HB.out⟩
end Go.Proofs.YtcijookbgliglaaDoor
