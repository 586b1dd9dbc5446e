import Derived.Test.YtcijookbgliglaaDoorZG
import Derived.Test.YtcijookbgliglaaDoorTa
/- Lists of texts wherever they lie; whether a condition is met. -/
namespace Go.Proofs.YtcijookbgliglaaDoor
open Go.RowKit

set_option maxRecDepth 100000 in
set_option maxHeartbeats 1000000 in
theorem indexS_any (w : World) (v : Value) (l : List ByteArray) (x : ByteArray) (h : StrsA w v l) :
    Calls Tryd.prog 81 #[v, .string x] w fun e w' => ∃ r : Int, e = .returned (.int .i64 r) ∧ decide (0 ≤ r) = Pm.has l x ∧ w' = w := by
  have hc0 := h
  obtain ⟨a, c, rfl, hlc, hcm, -⟩ := hc0
  have HS := hide h
  clear h
  go_enter Tryd.func81, Tryd.ntmps81
  go_wp2
  go_loopg [8] l.length (fun gk i wr => ∃ k : Nat, k + gk = l.length ∧ i = .int .i64 (k : Int) ∧ wr = w ∧ Hid (Pm.has (l.take k) x = false))
  case atStart => exact ⟨0, by omega, rfl, rfl, by simp [Hid, Pm.has]⟩
  case round =>
    obtain ⟨k, hk, rfl, rfl, HR⟩ := hrel
    have hk1 : k ≤ l.length := by omega
    have E1 := hide hk
    clear hk
    by_cases hlt : k < l.length
    · obtain ⟨a', c', hv, _, _, hcell⟩ := HS.out
      simp only [Value.slice.injEq] at hv
      obtain ⟨rfl, _, rfl⟩ := hv
      obtain ⟨b, o, rfl, d0⟩ := hcell k hlt
      clear hcell
      by_cases hq : x.toList = l[k].toList
      · have HN := hide (show Pm.has l x = true by
          unfold Pm.has; rw [List.any_eq_true]; exact ⟨l[k], List.getElem_mem hlt, by simp [Pm.eqB, hq]⟩)
        have hq1 : (x.toList == l[k].toList) = true := by simpa using hq
        clear hq
        go_wp2
        go_ret
        exact ⟨_, rfl, by rw [HN.out]; simp, rfl⟩
      · have HN := hide (show Pm.has (l.take (k + 1)) x = false by
          have := HR.out
          unfold Pm.has at this ⊢
          rw [List.take_succ_eq_append_getElem hlt, List.any_append, this]
          simp [Pm.eqB]; exact fun e => hq e.symm)
        have hq1 : (x.toList == l[k].toList) = false := by simpa using hq
        clear hq
        go_wp2
        go_roundg (l.length - (k + 1))
        case measure => have := E1.out; omega
        case rel => exact ⟨k + 1, by omega, by go_num, rfl, HN⟩
    · have HN := hide (show Pm.has l x = false by
        have h1 := HR.out
        rw [List.take_of_length_le (by omega)] at h1
        exact h1)
      go_wp2
      go_ret
      exact ⟨_, rfl, by rw [HN.out]; rfl, rfl⟩

set_option maxHeartbeats 400000 in
theorem containsS_any (w : World) (v : Value) (l : List ByteArray) (x : ByteArray) (h : StrsA w v l) :
    Calls Tryd.prog 66 #[v, .string x] w fun e w' => e = .returned (.bool (Pm.has l x)) ∧ w' = w := by
  have HC := hide (indexS_any w v l x h)
  obtain ⟨a, c, rfl, -⟩ := h
  go_enter Tryd.func66, Tryd.ntmps66
  go_wp2_with fail
  refine HC.out.mono ?_
  rintro e w1 ⟨r, rfl, hr, rfl⟩
  have HR := hide hr
  clear hr
  go_wp2_with fail
  go_ret
  exact ⟨ret_bool HR.out, rfl⟩

set_option maxHeartbeats 400000 in
theorem met_any (w : World) (g : Pm.Gd) (v : Value) (l : List ByteArray) (h : StrsA w v l) :
    Calls Tryd.prog 56 #[.agg #[.string g.word, .bool g.not], v] w fun e w' => e = .returned (.bool (Pm.met l g)) ∧ Below w.heap.size w w' := by
  have HS := hide h
  obtain ⟨a, c, rfl, -⟩ := h
  have HB := hide ((Below.refl w.heap.size w).alloc (Nat.le_refl _) (.cells #[.string g.word, .bool g.not] 134))
  go_enter Tryd.func56, Tryd.ntmps56
  go_wp2_with fail
  go_region_with (go_at_call 66; refine (containsS_any _ _ l g.word ?_).mono ?_; exact HS.out.below (B := w.heap.size) (below_drewN HB.out _) (Nat.le_refl _); rintro e w1 ⟨rfl, rfl⟩)
  all_goals
    go_wp2_with fail
    go_ret
    exact ⟨rfl, below_drewN HB.out _⟩
end Go.Proofs.YtcijookbgliglaaDoor
