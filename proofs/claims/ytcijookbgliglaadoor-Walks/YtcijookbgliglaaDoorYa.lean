import Derived.Test.YtcijookbgliglaaDoorXa
import Derived.Lib.Bytealg
/- The walks over the program's bytes. -/
namespace Go.Proofs.YtcijookbgliglaaDoor
open Go.RowKit

set_option maxHeartbeats 400000 in
theorem isLetter_any (c : UInt8) (w : World) :
    Calls Tryd.prog 68 #[.int .u8 (c.toNat : Int)] w fun e w' => e = .returned (.bool (Pm.isSm c)) ∧ w' = w := by
  go_enter Tryd.func68, Tryd.ntmps68
  go_wp2
  · go_ret
    refine ⟨?_, rfl⟩
    have h : 97 ≤ (c.toNat : Int) := by assumption
    simp [Pm.isSm, h]
  · go_ret
    refine ⟨?_, rfl⟩
    have h : ¬ 97 ≤ (c.toNat : Int) := by omega
    simp [Pm.isSm, h]

set_option maxHeartbeats 400000 in
theorem isBlank_any (c : UInt8) (w : World) :
    Calls Tryd.prog 67 #[.int .u8 (c.toNat : Int)] w fun e w' => e = .returned (.bool (Pm.isBl c)) ∧ w' = w := by
  by_cases h : (c.toNat : Int) = 32
  · have h1 : ((c.toNat : Int) == 32) = true := by simp [h]
    clear h
    go_enter Tryd.func67, Tryd.ntmps67
    go_wp2
    go_ret
    exact ⟨ret_bool (by simp [Pm.isBl, h1]), rfl⟩
  · have h1 : ((c.toNat : Int) == 32) = false := by simp [h]
    clear h
    go_enter Tryd.func67, Tryd.ntmps67
    go_wp2
    go_ret
    exact ⟨ret_bool (by simp [Pm.isBl, h1]), rfl⟩

theorem index4 (c : UInt8) : decide (0 ≤ Lib.indexByte [123, 125, 44, 59] c) = Pm.is4 c := by
  have h : ∀ k : UInt8, ((c.toNat : Int) == (k.toNat : Int)) = (k == c) := by
    intro k
    rw [Bool.eq_iff_iff]
    simp only [beq_iff_eq]
    constructor
    · intro e; exact (UInt8.toNat_inj.1 (by omega)).symm
    · intro e; rw [e]
  have h1 := h 123
  have h2 := h 125
  have h3 := h 44
  have h4 := h 59
  have e1 : Pm.is4 c = (((123 : UInt8) == c) || ((125 : UInt8) == c) || ((44 : UInt8) == c) || ((59 : UInt8) == c)) := by
    unfold Pm.is4
    rw [← h1, ← h2, ← h3, ← h4]
    rfl
  rw [e1]
  clear h h1 h2 h3 h4 e1
  cases q1 : ((123 : UInt8) == c)
  · cases q2 : ((125 : UInt8) == c)
    · cases q3 : ((44 : UInt8) == c)
      · cases q4 : ((59 : UInt8) == c)
        · rw [Lib.indexByte, Lib.indexByte, Lib.indexByte, Lib.indexByte, Lib.indexByte, q1, q2, q3, q4]; rfl
        · rw [Lib.indexByte, Lib.indexByte, Lib.indexByte, Lib.indexByte, Lib.indexByte, q1, q2, q3, q4]; rfl
      · rw [Lib.indexByte, Lib.indexByte, Lib.indexByte, q1, q2, q3]; rfl
    · rw [Lib.indexByte, Lib.indexByte, q1, q2]; rfl
  · rw [Lib.indexByte, q1]; rfl

set_option maxHeartbeats 1000000 in
set_option maxRecDepth 100000 in
theorem indexByte_any (c : UInt8) (w : World) :
    Calls Tryd.prog 69 #[.string ⟨#[123, 125, 44, 59]⟩, .int .u8 (c.toNat : Int)] w fun e w' => e = .returned (.int .i64 (Lib.indexByte [123, 125, 44, 59] c)) ∧ w' = w := by
  have hx : ∀ W : World, (callFunc 90 #[.string ⟨#[123, 125, 44, 59]⟩, .int .u8 (c.toNat : Int)]).run Tryd.prog W = .ok (.value (.int .i64 (Lib.indexByte [123, 125, 44, 59] c))) W := by
    intro W
    rw [run_callFunc_extern (fn := Tryd.f90) (e := Extern.BytealgIndexByte.indexByte) (by kernel_rfl) (by kernel_rfl) (by kernel_rfl) (by kernel_rfl) (by kernel_rfl), Lib.run_indexByteString]
    simp [Result.andThen]
  go_enter Tryd.func69, Tryd.ntmps69
  go_wp2
  go_ret
  exact ⟨rfl, rfl⟩
end Go.Proofs.YtcijookbgliglaaDoor
