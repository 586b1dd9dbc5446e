import Derived.Test.YtcijookbgliglaaDoorWz
import Derived.Test.YtcijookbgliglaaDoorP
/- The walk over the document's Compile. -/
namespace Go.Proofs.YtcijookbgliglaaDoor
open Go.RowKit

theorem many_at (w : World) (base : Nat) (v : Value) (s : ByteArray) (sts : List Pm.St) {o : Option Int} (hs : s.size ≤ 300) (hbg : ∀ x ∈ sts, Pm.back s x.nameAt - 4 = (x.at_ : Int) ∧ x.nameAt ≤ s.size) (ho : Pm.manyO sts = o) (h : StatesR w base v sts) :
    Calls Tryd.prog 15 #[.string s, v] w fun e w' => e = .returned (.int .i64 (Pm.out o)) ∧ w' = w := by
  have e : Pm.manyAt (bgI s) sts 0 0 = o := by
    rw [← ho]; exact Pm.manyF_congr _ _ _ (fun x hx => (hbg x (by simpa using hx)).1)
  rw [← e]
  exact many_any w base v s sts hs (fun x hx => (hbg x hx).2) h

set_option maxRecDepth 100000 in
set_option maxHeartbeats 2000000 in
theorem refCompile_any (w : World) (s : ByteArray) :
    Calls Tryd.prog 7 #[.string s] w fun e w' => ∃ lv, e = .returned (.tuple #[lv, .int .i64 (Pm.answer s).1, .int .i64 (Pm.answer s).2]) ∧ Below w.heap.size w w' ∧ ((Pm.answer s).1 = 0 → StatesR w' (w.heap.size + 1) lv (Pm.readL s).1) := by
  by_cases hs : 300 < s.size
  · have HA := hide (show Pm.answer s = (2, 0) by unfold Pm.answer; rw [if_pos hs])
    go_enter Tryd.func7, Tryd.ntmps7
    go_wp2_with fail
    go_ret3
    rw [HA.out]
    exact ⟨_, rfl, Below.refl _ _, fun h => by simp at h⟩
  · have hs3 : s.size ≤ 300 := by omega
    by_cases hb : 0 ≤ (Pm.readL s).2.bad
    · have HA := hide (show Pm.answer s = (3, (Pm.readL s).2.bad) by unfold Pm.answer; rw [if_neg hs, if_pos hb])
      go_enter Tryd.func7, Tryd.ntmps7
      go_wp2_with fail
      refine (read_any _ s hs3).mono ?_
      rintro e w1 ⟨lv, rfl, hB, hS⟩
      go_wp2_with fail
      go_ret3
      rw [HA.out]
      exact ⟨_, rfl, hB, fun h => by simp at h⟩
    · have HV := hide (show Pm.answer s = Pm.verdict (Pm.readL s).1 by unfold Pm.answer; rw [if_neg hs, if_neg hb])
      have hbg := Pm.readL_begin s (by omega)
      have hln := Pm.readL_len s
      obtain ⟨⟨sts, qF⟩, hR⟩ : ∃ n, Pm.readL s = n := ⟨_, rfl⟩
      have RR := hide hR
      have hread := read_any w s hs3
      rw [hR] at hbg hln hb hread HV ⊢
      have hlen1 : 0 < sts.length := hln.1
      have hlen2 : sts.length ≤ 301 := by have := hln.2; simp at this; omega
      clear hln hR
      have HBG := hide hbg
      have HRD := hide hread
      clear hbg hread
      go_enter Tryd.func7, Tryd.ntmps7
      go_wp2_with fail
      refine HRD.out.mono ?_
      rintro e w1 ⟨lv, rfl, hB, hS⟩
      simp only at hS hb ⊢
      have SR := hide hS
      have BR := hide hB
      clear hS hB
      go_wp2_with fail
      obtain ⟨o1, ho1⟩ : ∃ n, Pm.manyO sts = n := ⟨_, rfl⟩
      refine (many_at _ _ _ s sts hs3 HBG.out ho1 SR.out).mono ?_
      rintro e w' ⟨rfl, rfl⟩
      cases o1 with
      | some p1 =>
        have HA := hide (show Pm.verdict sts = (4, p1) by unfold Pm.verdict; rw [ho1])
        have hp := Pm.many_nn sts p1 ho1
        clear ho1
        simp only [Pm.out, Option.getD_some]
        go_wp2_with fail
        go_ret3
        rw [HV.out, HA.out]
        exact ⟨_, rfl, BR.out, fun h => by simp at h⟩
      | none =>
        have O1 := hide ho1
        clear ho1
        simp only [Pm.out, Option.getD_none]
        go_wp2_with fail
        obtain ⟨o2, ho2⟩ : ∃ n, Pm.doubledO sts = n := ⟨_, rfl⟩
        refine (doubled_any _ _ _ sts SR.out).mono ?_
        rw [ho2]
        rintro e w2 ⟨rfl, hb2⟩
        have SR2 := hide (StatesR.below SR.out hb2)
        have BR2 := hide (Below.trans BR.out (hb2.mono (Below.size BR.out)))
        clear hb2
        cases o2 with
        | some p2 =>
          have HA := hide (show Pm.verdict sts = (5, p2) by unfold Pm.verdict; rw [O1.out, ho2])
          have hp := Pm.doubled_nn sts p2 ho2
          clear ho2
          simp only [Pm.out, Option.getD_some]
          go_wp2_with fail
          go_ret3
          rw [HV.out, HA.out]
          exact ⟨_, rfl, BR2.out, fun h => by simp at h⟩
        | none =>
          have O2 := hide ho2
          clear ho2
          simp only [Pm.out, Option.getD_none]
          go_wp2_with fail
          obtain ⟨o3, ho3⟩ : ∃ n, Pm.goallessO sts = n := ⟨_, rfl⟩
          refine (goalless_any _ _ _ sts SR2.out).mono ?_
          rw [ho3]
          rintro e w3 ⟨rfl, hb3⟩
          have SR3 := hide (StatesR.below SR2.out hb3)
          have BR3 := hide (Below.trans BR2.out (hb3.mono (Below.size BR2.out)))
          clear hb3
          cases o3 with
          | some p3 =>
            have HA := hide (show Pm.verdict sts = (6, p3) by unfold Pm.verdict; rw [O1.out, O2.out, ho3])
            have hp := Pm.goalless_nn sts p3 ho3
            clear ho3
            simp only [Pm.out, Option.getD_some]
            go_wp2_with fail
            go_ret3
            rw [HV.out, HA.out]
            exact ⟨_, rfl, BR3.out, fun h => by simp at h⟩
          | none =>
            have O3 := hide ho3
            clear ho3
            simp only [Pm.out, Option.getD_none]
            go_wp2_with fail
            obtain ⟨o4, ho4⟩ : ∃ n, Pm.neverO sts = n := ⟨_, rfl⟩
            refine (never_any _ _ _ sts SR3.out).mono ?_
            rw [ho4]
            rintro e w4 ⟨rfl, hb4⟩
            have SR4 := hide (StatesR.below SR3.out hb4)
            have BR4 := hide (Below.trans BR3.out (hb4.mono (Below.size BR3.out)))
            clear hb4
            cases o4 with
            | some p4 =>
              have HA := hide (show Pm.verdict sts = (7, p4) by unfold Pm.verdict; rw [O1.out, O2.out, O3.out, ho4])
              have hp := Pm.never_nn sts p4 ho4
              clear ho4
              simp only [Pm.out, Option.getD_some]
              go_wp2_with fail
              go_ret3
              rw [HV.out, HA.out]
              exact ⟨_, rfl, BR4.out, fun h => by simp at h⟩
            | none =>
              have O4 := hide ho4
              clear ho4
              simp only [Pm.out, Option.getD_none]
              go_wp2_with fail
              obtain ⟨o5, ho5⟩ : ∃ n, Pm.lostO sts = n := ⟨_, rfl⟩
              refine (lost_any _ _ _ sts hlen1 hlen2 SR4.out).mono ?_
              rw [ho5]
              rintro e w5 ⟨rfl, hb5⟩
              have SR5 := hide (StatesR.below SR4.out hb5)
              have BR5 := hide (Below.trans BR4.out (hb5.mono (Below.size BR4.out)))
              clear hb5
              cases o5 with
              | some p5 =>
                have HA := hide (show Pm.verdict sts = (8, p5) by unfold Pm.verdict; rw [O1.out, O2.out, O3.out, O4.out, ho5])
                have hp := Pm.lost_nn sts p5 ho5
                clear ho5
                simp only [Pm.out, Option.getD_some]
                go_wp2_with fail
                go_ret3
                rw [HV.out, HA.out]
                exact ⟨_, rfl, BR5.out, fun h => by simp at h⟩
              | none =>
                have O5 := hide ho5
                clear ho5
                simp only [Pm.out, Option.getD_none]
                go_wp2_with fail
                have HA := hide (show Pm.verdict sts = (0, 0) by unfold Pm.verdict; rw [O1.out, O2.out, O3.out, O4.out, O5.out])
                go_ret3
                rw [HV.out, HA.out]
                exact ⟨_, rfl, BR5.out, fun _ => SR5.out⟩
end Go.Proofs.YtcijookbgliglaaDoor
