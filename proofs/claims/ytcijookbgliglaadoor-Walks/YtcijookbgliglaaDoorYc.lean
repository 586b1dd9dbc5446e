import Derived.Test.YtcijookbgliglaaDoorYb
import Derived.Test.YtcijookbgliglaaDoorP
/- The walks over the program's signs: isEnd, isWord. -/
namespace Go.Proofs.YtcijookbgliglaaDoor
open Go.RowKit

set_option maxHeartbeats 400000 in
theorem isEnd_any (a : Nat) (t : ByteArray) (w : World) :
    Calls Tryd.prog 59 #[.agg #[.int .i64 (a : Int), .string t]] w fun e w' => e = .returned (.bool t.toList.isEmpty) ∧ w' = w.alloc (.cells #[.int .i64 (a : Int), .string t] 121) := by
  go_enter Tryd.func59, Tryd.ntmps59
  go_wp2
  go_ret
  exact ⟨rfl, rfl⟩

theorem toList_cons (t : ByteArray) (h : 0 < t.size) : ∃ r, t.toList = t[0] :: r := by
  obtain ⟨r, hr⟩ := Pm.extract_toList t 0 t.size h (Nat.le_refl _)
  refine ⟨r, ?_⟩
  rw [← hr]
  simp
def isWd (t : ByteArray) : Bool := !(Pm.kept t) && (match t.toList with | [] => false | c :: _ => Pm.isSm c)

set_option maxRecDepth 100000 in
set_option maxHeartbeats 1000000 in
theorem isWord_any (a : Nat) (t : ByteArray) (w : World) (hsz : t.size ≤ 300) :
    Calls Tryd.prog 84 #[.agg #[.int .i64 (a : Int), .string t]] w fun e w' => e = .returned (.bool (isWd t)) ∧ Below w.heap.size w w' := by
  by_cases e0 : (t.toList == [115, 116, 97, 116, 101]) = true
  · have HK := hide (show isWd t = false by unfold isWd; rw [Pm.kept_mem (l := Pm.wState) (by decide) (by simpa [Pm.wState] using e0)]; rfl)
    go_enter Tryd.func84, Tryd.ntmps84
    go_wp2
    go_ret
    exact ⟨ret_bool HK.out.symm, (Below.refl _ _).alloc (Nat.le_refl _) _⟩
  replace e0 : (t.toList == [115, 116, 97, 116, 101]) = false := by simpa using e0
  by_cases e1 : (t.toList == [111, 110]) = true
  · have HK := hide (show isWd t = false by unfold isWd; rw [Pm.kept_mem (l := Pm.wOn) (by decide) (by simpa [Pm.wOn] using e1)]; rfl)
    go_enter Tryd.func84, Tryd.ntmps84
    go_wp2
    go_ret
    exact ⟨ret_bool HK.out.symm, (Below.refl _ _).alloc (Nat.le_refl _) _⟩
  replace e1 : (t.toList == [111, 110]) = false := by simpa using e1
  by_cases e2 : (t.toList == [105, 102]) = true
  · have HK := hide (show isWd t = false by unfold isWd; rw [Pm.kept_mem (l := Pm.wIf) (by decide) (by simpa [Pm.wIf] using e2)]; rfl)
    go_enter Tryd.func84, Tryd.ntmps84
    go_wp2
    go_ret
    exact ⟨ret_bool HK.out.symm, (Below.refl _ _).alloc (Nat.le_refl _) _⟩
  replace e2 : (t.toList == [105, 102]) = false := by simpa using e2
  by_cases e3 : (t.toList == [110, 111, 116]) = true
  · have HK := hide (show isWd t = false by unfold isWd; rw [Pm.kept_mem (l := Pm.wNot) (by decide) (by simpa [Pm.wNot] using e3)]; rfl)
    go_enter Tryd.func84, Tryd.ntmps84
    go_wp2
    go_ret
    exact ⟨ret_bool HK.out.symm, (Below.refl _ _).alloc (Nat.le_refl _) _⟩
  replace e3 : (t.toList == [110, 111, 116]) = false := by simpa using e3
  by_cases e4 : (t.toList == [103, 111]) = true
  · have HK := hide (show isWd t = false by unfold isWd; rw [Pm.kept_mem (l := Pm.wGo) (by decide) (by simpa [Pm.wGo] using e4)]; rfl)
    go_enter Tryd.func84, Tryd.ntmps84
    go_wp2
    go_ret
    exact ⟨ret_bool HK.out.symm, (Below.refl _ _).alloc (Nat.le_refl _) _⟩
  replace e4 : (t.toList == [103, 111]) = false := by simpa using e4
  by_cases e5 : (t.toList == [100, 111]) = true
  · have HK := hide (show isWd t = false by unfold isWd; rw [Pm.kept_mem (l := Pm.wDo) (by decide) (by simpa [Pm.wDo] using e5)]; rfl)
    go_enter Tryd.func84, Tryd.ntmps84
    go_wp2
    go_ret
    exact ⟨ret_bool HK.out.symm, (Below.refl _ _).alloc (Nat.le_refl _) _⟩
  replace e5 : (t.toList == [100, 111]) = false := by simpa using e5
  by_cases e6 : (t.toList == [99, 108, 111, 115, 101, 100]) = true
  · have HK := hide (show isWd t = false by unfold isWd; rw [Pm.kept_mem (l := Pm.wClosed) (by decide) (by simpa [Pm.wClosed] using e6)]; rfl)
    go_enter Tryd.func84, Tryd.ntmps84
    go_wp2
    go_ret
    exact ⟨ret_bool HK.out.symm, (Below.refl _ _).alloc (Nat.le_refl _) _⟩
  replace e6 : (t.toList == [99, 108, 111, 115, 101, 100]) = false := by simpa using e6
  have hkp : Pm.kept t = false := by
    unfold Pm.kept Pm.keptFrom Pm.keptL
    simp only [List.drop_zero, List.any_cons, List.any_nil, Bool.or_false, Pm.wState, Pm.wOn, Pm.wIf, Pm.wNot, Pm.wGo, Pm.wDo, Pm.wClosed]
    have hc : ∀ x y : List UInt8, (x == y) = (y == x) := fun x y => by rw [Bool.eq_iff_iff]; simp only [beq_iff_eq]; exact ⟨fun h => h.symm, fun h => h.symm⟩
    rw [hc _ t.toList, hc _ t.toList, hc _ t.toList, hc _ t.toList, hc _ t.toList, hc _ t.toList, hc _ t.toList, e0, e1, e2, e3, e4, e5, e6]
    rfl
  by_cases h0 : 0 < t.size
  · obtain ⟨r, hr⟩ := toList_cons t h0
    have HK := hide (show isWd t = Pm.isSm t[0] by unfold isWd; rw [hkp, hr]; rfl)
    have hem : t.toList.isEmpty = false := by rw [hr]; rfl
    clear hkp hr
    go_enter Tryd.func84, Tryd.ntmps84
    go_wp2_with (first | (go_at_call 59; refine (isEnd_any _ _ _).mono ?_; rintro e w1 ⟨rfl, rfl⟩) | (go_at_call 68; refine (isLetter_any _ _).mono ?_; rintro e w' ⟨rfl, rfl⟩))
    go_ret
    exact ⟨ret_bool HK.out.symm, two_below _ _ _⟩
  · have hz : t.toList = [] := List.eq_nil_of_length_eq_zero (by rw [Pm.toList_length]; omega)
    have HK := hide (show isWd t = false by unfold isWd; rw [hkp, hz]; rfl)
    have hem : t.toList.isEmpty = true := by rw [hz]; rfl
    clear hkp hz
    go_enter Tryd.func84, Tryd.ntmps84
    go_wp2_with (first | (go_at_call 59; refine (isEnd_any _ _ _).mono ?_; rintro e w1 ⟨rfl, rfl⟩) | (go_at_call 68; refine (isLetter_any _ _).mono ?_; rintro e w' ⟨rfl, rfl⟩))
    go_ret
    exact ⟨ret_bool HK.out.symm, two_below _ _ _⟩
end Go.Proofs.YtcijookbgliglaaDoor
