import Derived.Test.YtcijookbgliglaaDoorWv
/- The walk over the document's within. -/
namespace Go.Proofs.YtcijookbgliglaaDoor
open Go.RowKit

def rlV (r : Pm.Rl) (gv av : Value) : Value := .agg #[.string r.event, gv, .string r.goal, av, .int .i64 (r.at_ : Int), .int .i64 (r.to_ : Int)]

theorem two_below (w : World) (o1 o2 : Obj) : Below w.heap.size w ((w.alloc o1).alloc o2) := ((Below.refl _ _).alloc (Nat.le_refl _) _).alloc (by simp) _
theorem blk6 {w : World} {k : Nat} {a b c d e f : Value} {T : TypeId} (h : w.heap[k]? = some (.cells #[a, b, c, d, e, f] T (0, 0))) :
    w.cell? ⟨k, 0, none⟩ = some a ∧ w.cell? ⟨k, 1, none⟩ = some b ∧ w.cell? ⟨k, 2, none⟩ = some c ∧ w.cell? ⟨k, 3, none⟩ = some d ∧ w.cell? ⟨k, 4, none⟩ = some e ∧ w.cell? ⟨k, 5, none⟩ = some f := by
  simp [World.cell?, h]

set_option maxRecDepth 100000 in
set_option maxHeartbeats 2000000 in
theorem within_any (w : World) (base : Nat) (r1 r2 : Pm.Rl) (a1 a2 b1 b2 : Option Addr) (n1 n2 m1 m2 c1 c2 d1 d2 : Nat) (h1 : GuardsR w base (.slice a1 n1 c1) r1.guards) (h2 : GuardsR w base (.slice a2 n2 c2) r2.guards) :
    Calls Tryd.prog 35 #[.agg #[.string r1.event, .slice a1 n1 c1, .string r1.goal, .slice b1 m1 d1, .int .i64 (r1.at_ : Int), .int .i64 (r1.to_ : Int)], .agg #[.string r2.event, .slice a2 n2 c2, .string r2.goal, .slice b2 m2 d2, .int .i64 (r2.at_ : Int), .int .i64 (r2.to_ : Int)]] w fun e w' => e = .returned (.bool (Pm.within r1 r2)) ∧ Below w.heap.size w w' := by
  obtain ⟨rfl, hM1⟩ := h1.len
  obtain ⟨rfl, hM2⟩ := h2.len
  have H1 := hide h1
  have H2 := hide h2
  clear h1 h2
  go_enter Tryd.func35, Tryd.ntmps35
  go_wp2
  go_loopg [5] r1.guards.length (fun gk i wr => ∃ k : Nat, k + gk = r1.guards.length ∧ i = .int .i64 (k : Int) ∧ Hid (∃ nd, wr = ((w.alloc (.cells #[.string r1.event, .slice a1 r1.guards.length c1, .string r1.goal, .slice b1 m1 d1, .int .i64 (r1.at_ : Int), .int .i64 (r1.to_ : Int)] 72)).alloc (.cells #[.string r2.event, .slice a2 r2.guards.length c2, .string r2.goal, .slice b2 m2 d2, .int .i64 (r2.at_ : Int), .int .i64 (r2.to_ : Int)] 72)).drewN nd) ∧ Hid ((r1.guards.take k).all (fun g => Pm.gdIn g r2.guards) = true))
  case atStart => exact ⟨0, by omega, rfl, ⟨0, rfl⟩, by simp [Hid]⟩
  case round =>
    obtain ⟨k, hk, rfl, HW, HR⟩ := hrel
    have hk1 : k ≤ r1.guards.length := by omega
    have E1 := hide hk
    clear hk
    obtain ⟨nd, rfl⟩ := HW.out
    clear HW
    by_cases hlt : k < r1.guards.length
    · go_wp2
      go_loopg [6, 7] r2.guards.length (fun g2 okv y wr => ∃ t : Nat, t + g2 = r2.guards.length ∧ y = .int .i64 (t : Int) ∧ okv = .bool ((r2.guards.take t).any (fun h => Pm.eqB r1.guards[k].word h.word && (r1.guards[k].not == h.not))) ∧ Hid (∃ nd, wr = ((w.alloc (.cells #[.string r1.event, .slice a1 r1.guards.length c1, .string r1.goal, .slice b1 m1 d1, .int .i64 (r1.at_ : Int), .int .i64 (r1.to_ : Int)] 72)).alloc (.cells #[.string r2.event, .slice a2 r2.guards.length c2, .string r2.goal, .slice b2 m2 d2, .int .i64 (r2.at_ : Int), .int .i64 (r2.to_ : Int)] 72)).drewN nd))
      case atStart => exact ⟨0, by omega, rfl, by simp, ⟨nd, rfl⟩⟩
      case round =>
        obtain ⟨t, ht, rfl, rfl, HW⟩ := hrel
        have ht1 : t ≤ r2.guards.length := by omega
        have E2 := hide ht
        clear ht
        obtain ⟨nd2, rfl⟩ := HW.out
        clear HW
        generalize hok : (r2.guards.take t).any (fun h => Pm.eqB r1.guards[k].word h.word && (r1.guards[k].not == h.not)) = okb
        have HO := hide hok
        clear hok
        by_cases htl : t < r2.guards.length
        · obtain ⟨ga, rfl, hca, f0, f1, f2⟩ := H1.out.at3 k hlt
          obtain ⟨gb, rfl, hcb, i0, i1, i2⟩ := H2.out.at3 t htl
          have hga : ga < w.heap.size := World.block_lt_of_cell? w _ f0
          have hgb : gb < w.heap.size := World.block_lt_of_cell? w _ i0
          have HQ0 := hide (Pm.take_any_succ (fun h : Pm.Gd => Pm.eqB r1.guards[k].word h.word && (r1.guards[k].not == h.not)) r2.guards t htl)
          cases okb
          · cases heq : Pm.eqB r1.guards[k].word r2.guards[t].word
            · have HQ := hide (show (r2.guards.take (t + 1)).any (fun h => Pm.eqB r1.guards[k].word h.word && (r1.guards[k].not == h.not)) = false by rw [HQ0.out, HO.out, heq]; rfl)
              unfold Pm.eqB at heq
              go_wp2
              go_quiet (fail)
              go_wp2
              go_roundg (r2.guards.length - (t + 1))
              case measure => have := E2.out; omega
              case rel => exact ⟨t + 1, by omega, by go_num, by rw [HQ.out], ⟨_, rfl⟩⟩
            · have HQ := hide (show (r2.guards.take (t + 1)).any (fun h => Pm.eqB r1.guards[k].word h.word && (r1.guards[k].not == h.not)) = (r1.guards[k].not == r2.guards[t].not) by rw [HQ0.out, HO.out, heq]; simp)
              unfold Pm.eqB at heq
              go_wp2
              go_quiet (fail)
              go_wp2
              go_roundg (r2.guards.length - (t + 1))
              case measure => have := E2.out; omega
              case rel => exact ⟨t + 1, by omega, by go_num, by rw [HQ.out], ⟨_, rfl⟩⟩
          · have HQ := hide (show (r2.guards.take (t + 1)).any (fun h => Pm.eqB r1.guards[k].word h.word && (r1.guards[k].not == h.not)) = true by rw [HQ0.out, HO.out]; rfl)
            go_wp2
            go_quiet (fail)
            go_wp2
            go_roundg (r2.guards.length - (t + 1))
            case measure => have := E2.out; omega
            case rel => exact ⟨t + 1, by omega, by go_num, by rw [HQ.out], ⟨_, rfl⟩⟩
        · have HA := hide (show Pm.gdIn r1.guards[k] r2.guards = okb by unfold Pm.gdIn; rw [← HO.out, List.take_of_length_le (by omega)])
          cases okb
          · go_wp2
            go_ret
            refine ⟨ret_bool ?_, below_drewN (two_below _ _ _) _⟩
            unfold Pm.within
            symm
            rw [List.all_eq_false]
            exact ⟨r1.guards[k], List.getElem_mem hlt, by rw [HA.out]; simp⟩
          · go_wp2
            go_roundg (r1.guards.length - (k + 1))
            case measure => have := E1.out; omega
            case rel => exact ⟨k + 1, by omega, by go_num, ⟨_, rfl⟩, by show _ = _; rw [Pm.take_all_succ _ _ _ hlt, HR.out, HA.out]; rfl⟩
    · go_wp2
      go_ret
      exact ⟨ret_bool (by unfold Pm.within; rw [List.take_of_length_le (by omega)] at HR; exact HR.out.symm), below_drewN (two_below _ _ _) _⟩
end Go.Proofs.YtcijookbgliglaaDoor
