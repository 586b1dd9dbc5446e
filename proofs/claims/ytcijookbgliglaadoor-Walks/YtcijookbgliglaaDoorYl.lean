import Derived.Test.YtcijookbgliglaaDoorYk
import Derived.Defers
import Derived.Recover
/- The walks over the program's begin and the closure that catches. -/
namespace Go.Proofs.YtcijookbgliglaaDoor
open Go.RowKit

set_option maxRecDepth 100000 in
set_option maxHeartbeats 1000000 in
theorem begin_rd (w : World) (s : ByteArray) (hs : s.size ≤ 300) :
    Calls Tryd.prog 41 #[.string s] w fun e w' => Below w.heap.size w w' ∧ (((Pm.signAt s 0).k = 63 ∧ e = stray (Pm.signAt s 0).at_) ∨ ((Pm.signAt s 0).k ≠ 63 ∧ e = .returned (.pointer (some ⟨w.heap.size, 0, none⟩)) ∧ RdAt w' w.heap.size s (Pm.signAt s 0))) := by
  have hr : RdAt (w.alloc (.cells #[.string s, .int .i64 0, .string { data := #[] }, .int .i64 0] 137)) w.heap.size s Pm.sg0 := heap_alloc_new w _
  have HR := hide hr
  clear hr
  go_enter Tryd.func41, Tryd.ntmps41
  go_wp2_with fail
  refine (advance_any _ w.heap.size s Pm.sg0 hs (Nat.zero_le _) HR.out).mono ?_
  rintro e w1 ⟨hk, h⟩
  have hB : Below w.heap.size w w1 := ((Below.refl _ _).alloc (Nat.le_refl _) _).trans (hk.belowB (Nat.le_refl _) (by simp))
  have HB := hide hB
  clear hB hk
  rcases h with ⟨h63, rfl⟩ | ⟨h63, rfl, hr⟩
  · have H63 := hide h63
    clear h63
    unfold stray
    go_wp2_with fail
    exact ⟨rfl, HB.out, Or.inl ⟨H63.out, rfl⟩⟩
  · have H63 := hide h63
    have HR1 := hide hr
    clear h63 hr
    go_wp2_with fail
    go_ret
    exact ⟨HB.out, Or.inr ⟨H63.out, rfl, HR1.out⟩⟩

set_option maxRecDepth 100000 in
set_option maxHeartbeats 1000000 in
theorem catch_stray (p t : Addr) (x y : Int) (older : List PanicEntry) (w : World) (hc : w.cell? p = some (.int .i64 y)) (hz : w.frozen? p = false) :
    CallsD Tryd.prog 40 #[.pointer (some p), .pointer (some t)] (.panicking ({ v := .iface 110 (.int .i64 x), recovered := false } :: older)) w fun e u' w' =>
      e = .returned (.tuple #[]) ∧ u' = .panicking ({ v := .iface 110 (.int .i64 x), recovered := true } :: older) ∧ w' = w.setCell p (.int .i64 x) := by
  have hta : ∀ W : World, (Instr.typeAssert (.iface 110 (.int .i64 x)) 20 110 true).run Tryd.prog W = .ok (.tuple #[.int .i64 x, .bool true]) W := fun _ => by kernel_rfl
  refine callsD_of_wpS Tryd.func40 rfl fun c₀ cs hu => ?_
  apply wpS_seq
  apply wpS_region
  simp [wpOpsS, go_sem, recoverD, hu, Tryd.ntmps40, Exit.thenS]
  refine wpS_of_wp ?_
  rw [show (#[Value.pointer (some p), Value.pointer (some t)] ++ (Array.replicate 12 undef).setIfInBounds 2 (Value.iface 110 (Value.int IntKind.i64 x)) : Array Value) = #[Value.pointer (some p), Value.pointer (some t), undef, undef, Value.iface 110 (Value.int IntKind.i64 x), undef, undef, undef, undef, undef, undef, undef, undef, undef] from rfl]
  go_wp2
  simp [bodyPostS, results, Tryd.results40]

set_option maxRecDepth 100000 in
set_option maxHeartbeats 1000000 in
theorem catch_short (pb tb : Nat) (s : ByteArray) (y : Int) (older : List PanicEntry) (w : World) (hc : w.cell? ⟨pb, 0, none⟩ = some (.int .i64 y)) (hz : w.frozen? ⟨pb, 0, none⟩ = false) (ht : w.cell? ⟨tb, 0, none⟩ = some (.string s)) (htl : tb < w.heap.size) (hpl : pb < w.heap.size) :
    CallsD Tryd.prog 40 #[.pointer (some ⟨pb, 0, none⟩), .pointer (some ⟨tb, 0, none⟩)] (.panicking ({ v := .iface 112 (.agg #[]), recovered := false } :: older)) w fun e u' w' =>
      e = .returned (.tuple #[]) ∧ u' = .panicking ({ v := .iface 112 (.agg #[]), recovered := true } :: older) ∧ w' = (w.setCell ⟨pb, 0, none⟩ (.int .i64 (s.size : Int))).alloc (.cells #[] 112) := by
  have hta : ∀ W : World, (Instr.typeAssert (.iface 112 (.agg #[])) 20 110 true).run Tryd.prog W = .ok (.tuple #[.int .i64 0, .bool false]) W := fun _ => by kernel_rfl
  have htb : ∀ W : World, (Instr.typeAssert (.iface 112 (.agg #[])) 20 112 true).run Tryd.prog W = .ok (.tuple #[.agg #[], .bool true]) W := fun _ => by kernel_rfl
  refine callsD_of_wpS Tryd.func40 rfl fun c₀ cs hu => ?_
  apply wpS_seq
  apply wpS_region
  simp [wpOpsS, go_sem, recoverD, hu, Tryd.ntmps40, Exit.thenS]
  refine wpS_of_wp ?_
  rw [show (#[Value.pointer (some ⟨pb, 0, none⟩), Value.pointer (some ⟨tb, 0, none⟩)] ++ (Array.replicate 12 undef).setIfInBounds 2 (Value.iface 112 (Value.agg #[])) : Array Value) = #[Value.pointer (some ⟨pb, 0, none⟩), Value.pointer (some ⟨tb, 0, none⟩), undef, undef, Value.iface 112 (Value.agg #[]), undef, undef, undef, undef, undef, undef, undef, undef, undef] from rfl]
  go_wp2
  simp [bodyPostS, results, Tryd.results40]

set_option maxRecDepth 100000 in
set_option maxHeartbeats 1000000 in
theorem catch_idle (p t : Addr) (w : World) :
    CallsD Tryd.prog 40 #[.pointer (some p), .pointer (some t)] .returning w fun e u' w' => e = .returned (.tuple #[]) ∧ u' = .returning ∧ w' = w := by
  have hta : ∀ W : World, (Instr.typeAssert .nilIface 20 110 true).run Tryd.prog W = .ok (.tuple #[.int .i64 0, .bool false]) W := fun _ => by kernel_rfl
  have htb : ∀ W : World, (Instr.typeAssert .nilIface 20 112 true).run Tryd.prog W = .ok (.tuple #[.agg #[], .bool false]) W := fun _ => by kernel_rfl
  refine callsD_of_wpS Tryd.func40 rfl fun c₀ cs hu => ?_
  apply wpS_seq
  apply wpS_region
  simp [wpOpsS, go_sem, recoverD, hu, Tryd.ntmps40, Exit.thenS]
  refine wpS_of_wp ?_
  rw [show (#[Value.pointer (some p), Value.pointer (some t)] ++ (Array.replicate 12 undef).setIfInBounds 2 Value.nilIface : Array Value) = #[Value.pointer (some p), Value.pointer (some t), undef, undef, Value.nilIface, undef, undef, undef, undef, undef, undef, undef, undef, undef] from rfl]
  go_wp2
  cases c₀
  simp_all [bodyPostS, results, Tryd.results40]
end Go.Proofs.YtcijookbgliglaaDoor
