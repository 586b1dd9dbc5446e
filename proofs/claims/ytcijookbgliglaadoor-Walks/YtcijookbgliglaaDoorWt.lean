import Derived.Test.YtcijookbgliglaaDoorWq
/- The walks over the document's begins and many. -/
namespace Go.Proofs.YtcijookbgliglaaDoor
open Go.RowKit

set_option maxHeartbeats 400000 in
theorem begins_any (w : World) (s : ByteArray) (at_ : Nat) (hs : s.size ≤ 300) (ha : at_ ≤ s.size) :
    Calls Tryd.prog 34 #[.string s, .int .i64 (at_ : Int)] w fun e w' => e = .returned (.int .i64 (Pm.back s at_ - 4)) ∧ w' = w := by
  go_enter Tryd.func34, Tryd.ntmps34
  go_wp2
  go_loop [5] (fun i => ∃ k : Nat, k ≤ at_ ∧ i = .int .i64 ((k : Int) - 1) ∧ Hid (Pm.back s k = Pm.back s at_)) (fun i => (intOf i + 1).toNat)
  case atStart => exact ⟨at_, by omega, rfl, rfl⟩
  case round =>
    obtain ⟨k, hk, rfl, HR⟩ := hrel
    by_cases h0 : k = 0
    · subst h0
      have HB := hide (Pm.back_zero s)
      go_wp2_with (go_at_call 51; refine (small_any _ _).mono ?_; rintro e w' ⟨rfl, rfl⟩)
      go_ret
      exact ⟨ret_int (by rw [← HR.out, HB.out]; rfl), rfl⟩
    · obtain ⟨j, rfl⟩ : ∃ j, k = j + 1 := ⟨k - 1, by omega⟩
      have hj : j < s.size := by omega
      have ej : ((j + 1 : Nat) : Int) - 1 = (j : Int) := by omega
      rw [ej]
      cases hb : Pm.isSm s[j]
      · have HB := hide (Pm.back_no s j hj hb)
        go_wp2_with (go_at_call 51; refine (small_any _ _).mono ?_; rintro e w' ⟨rfl, rfl⟩)
        go_round
        case rel => exact ⟨j, by omega, rfl, HB.out.symm.trans HR.out⟩
        case measure => simp [intOf]
      · have HB := hide (Pm.back_yes s j hj hb)
        go_wp2_with (go_at_call 51; refine (small_any _ _).mono ?_; rintro e w' ⟨rfl, rfl⟩)
        go_ret
        exact ⟨ret_int (by rw [← HR.out, HB.out]), rfl⟩

def bgI (s : ByteArray) (x : Pm.St) : Int := Pm.back s x.nameAt - 4

set_option maxHeartbeats 1000000 in
theorem many_any (w : World) (base : Nat) (v : Value) (s : ByteArray) (sts : List Pm.St) (hs : s.size ≤ 300) (hat : ∀ x ∈ sts, x.nameAt ≤ s.size) (h : StatesR w base v sts) :
    Calls Tryd.prog 15 #[.string s, v] w fun e w' => e = .returned (.int .i64 (Pm.out (Pm.manyAt (bgI s) sts 0 0))) ∧ w' = w := by
  obtain ⟨a, cap, rfl, hM, hcs⟩ := h.at2
  have HA := hide hcs
  have HT := hide hat
  clear hcs h hat
  go_enter Tryd.func15, Tryd.ntmps15
  go_wp2
  go_loop [5, 6] (fun n i => ∃ nn k : Nat, k ≤ sts.length ∧ nn ≤ 24 ∧ n = .int .i64 (nn : Int) ∧ i = .int .i64 (k : Int) ∧ Hid (Pm.manyAt (bgI s) sts k nn = Pm.manyAt (bgI s) sts 0 0)) (fun _ i => sts.length - (intOf i).toNat)
  case atStart => exact ⟨0, 0, by omega, by omega, rfl, rfl, rfl⟩
  case round =>
    obtain ⟨nn, k, hk, hnn, rfl, rfl, HR⟩ := hrel
    by_cases hlt : k < sts.length
    · obtain ⟨g, b, n, c, rfl, hcap, c0, c1, c2, hr⟩ := HA.out k hlt
      by_cases h8 : 8 ≤ k
      · have HN := hide (Pm.manyAt_st (bgI s) sts k nn hlt h8)
        have ht := HT.out sts[k] (List.getElem_mem hlt)
        go_wp2_with (go_at_call 34; refine (begins_any _ _ _ hs ht).mono ?_; rintro e w' ⟨rfl, rfl⟩)
        go_ret
        exact ⟨ret_int (by rw [← HR.out, HN.out]; rfl), rfl⟩
      · obtain ⟨a2, cap2, hv2, hM2, hcs2⟩ := hr.at2
        simp only [Value.slice.injEq] at hv2
        obtain ⟨rfl, rfl, rfl⟩ := hv2
        have HA2 := hide hcs2
        clear hcs2 hr
        go_wp2
        go_loop [5, 7] (fun n j => ∃ q : Nat, q ≤ sts[k].rules.length ∧ nn + q ≤ 24 ∧ n = .int .i64 ((nn + q : Nat) : Int) ∧ j = .int .i64 (q : Int)) (fun _ j => sts[k].rules.length - (intOf j).toNat)
        case atStart => exact ⟨0, by omega, by omega, rfl, rfl⟩
        case round =>
          obtain ⟨q, hq, hnq, rfl, rfl⟩ := hrel
          by_cases hql : q < sts[k].rules.length
          · obtain ⟨g2, b1, n1, d1, b2, n2, d2, rfl, hcap2, e0, e1, e2, e3, e4, e5, hgg, haa⟩ := HA2.out q hql
            by_cases h24 : nn + q = 24
            · have HN := hide (Pm.manyAt_rl (bgI s) sts k nn q hlt h8 hql h24)
              have h24' : (24 : Int) < ((nn + q : Nat) : Int) + 1 := by omega
              clear h24
              go_wp2
              go_ret
              exact ⟨ret_int (by rw [← HR.out, HN.out]; rfl), rfl⟩
            · have h24' : ¬ (24 : Int) < ((nn + q : Nat) : Int) + 1 := by omega
              go_wp2
              go_round
              case rel => exact ⟨q + 1, by omega, by omega, by go_num, by go_num⟩
              case measure => simp [intOf]; omega
          · have HN := hide (Pm.manyAt_no (bgI s) sts k nn hlt h8 (by omega))
            have hqe : q = sts[k].rules.length := by omega
            have HQ := hide hqe
            clear hqe
            go_wp2
            go_round
            case rel => exact ⟨nn + q, k + 1, by omega, hnq, rfl, by go_num, by rw [HQ.out]; exact HN.out.symm.trans HR.out⟩
            case measure => simp [intOf]; omega
    · have HN := hide (Pm.manyAt_end (bgI s) sts k nn (by omega))
      go_wp2
      go_ret
      exact ⟨ret_int (by rw [← HR.out, HN.out]; rfl), rfl⟩
end Go.Proofs.YtcijookbgliglaaDoor
