import Derived.Test.YtcijookbgliglaaDoorProg
import Derived.WalkKit
import Derived.WalkSpells
import Derived.WalkLawsBesides
import Derived.Test.YtcijookbgliglaaDoorP
/- The walks over the document's signs: small, kept, sign. -/
namespace Go.Proofs.YtcijookbgliglaaDoor
open Go.RowKit

set_option maxHeartbeats 400000 in
theorem small_any (c : UInt8) (w : World) :
    Calls Tryd.prog 51 #[.int .u8 (c.toNat : Int)] w fun e w' => e = .returned (.bool (Pm.isSm c)) ∧ w' = w := by
  go_enter Tryd.func51, Tryd.ntmps51
  go_wp2
  · go_ret
    refine ⟨?_, rfl⟩
    have h : 97 ≤ (c.toNat : Int) := by assumption
    simp [Pm.isSm, h]
  · go_ret
    refine ⟨?_, rfl⟩
    have h : ¬ 97 ≤ (c.toNat : Int) := by omega
    simp [Pm.isSm, h]

theorem kyes {x : ByteArray} {k : Nat} {l : List UInt8} (HR : Hid (Pm.keptFrom k x = Pm.kept x)) (e : Pm.keptL[k]? = some l) (h : (l == x.toList) = true) : Pm.kept x = true :=
  HR.out.symm.trans (Pm.keptFrom_yes x k l e h)
theorem kno {x : ByteArray} {k : Nat} {l : List UInt8} (HR : Hid (Pm.keptFrom k x = Pm.kept x)) (e : Pm.keptL[k]? = some l) (h : (l == x.toList) = false) : Pm.keptFrom (k + 1) x = Pm.kept x :=
  (Pm.keptFrom_no x k l e h).trans HR.out

set_option maxHeartbeats 400000 in
theorem kept_any (x : ByteArray) (w : World) :
    Calls Tryd.prog 52 #[.string x] w fun e w' => e = .returned (.bool (Pm.kept x)) ∧ Below w.heap.size w w' := by
  go_enter Tryd.func52, Tryd.ntmps52
  go_wp2
  go_loop [2, 4] (fun r i => ∃ k : Nat, k ≤ 7 ∧ i = .int .i64 k ∧ r = .bool false ∧ Pm.keptFrom k x = Pm.kept x) (fun _ i => 7 - (intOf i).toNat)
  case atStart => exact ⟨0, by omega, rfl, rfl, rfl⟩
  case round =>
    obtain ⟨k, hk, rfl, rfl, hr⟩ := hrel
    have HR : Hid (Pm.keptFrom k x = Pm.kept x) := hr
    clear hr
    have hc : k = 0 ∨ k = 1 ∨ k = 2 ∨ k = 3 ∨ k = 4 ∨ k = 5 ∨ k = 6 ∨ k = 7 := by omega
    have fin : ∀ b : Bool, b = Pm.kept x → Ending.returned (.bool b) = .returned (.bool (Pm.kept x)) := fun b h => by rw [h]
    rcases hc with rfl | rfl | rfl | rfl | rfl | rfl | rfl | rfl
    case inr.inr.inr.inr.inr.inr.inr =>
      go_wp2
      go_ret
      exact ⟨fin _ ((Pm.keptFrom_end x).symm.trans HR.out), (Below.refl _ _).alloc (Nat.le_refl _) _⟩
    all_goals
      go_wp2
      · go_ret
        exact ⟨fin _ (kyes HR rfl ‹_›).symm, (Below.refl _ _).alloc (Nat.le_refl _) _⟩
      · go_round
        case rel => exact ⟨_, by omega, by go_num, rfl, kno HR rfl ‹_›⟩
        case measure => simp [intOf]
end Go.Proofs.YtcijookbgliglaaDoor
