import Derived.Test.YtcijookbgliglaaDoorZA
/- The walk over the program's noState. -/
namespace Go.Proofs.YtcijookbgliglaaDoor
open Go.RowKit

theorem blk7 {w : World} {k : Nat} {a b c d e f g : Value} {T : TypeId} (h : w.heap[k]? = some (.cells #[a, b, c, d, e, f, g] T (0, 0))) :
    w.cell? ⟨k, 0, none⟩ = some a ∧ w.cell? ⟨k, 1, none⟩ = some b ∧ w.cell? ⟨k, 2, none⟩ = some c ∧ w.cell? ⟨k, 3, none⟩ = some d ∧ w.cell? ⟨k, 4, none⟩ = some e ∧ w.cell? ⟨k, 5, none⟩ = some f ∧ w.cell? ⟨k, 6, none⟩ = some g := by
  simp [World.cell?, h]

set_option maxRecDepth 100000 in
set_option maxHeartbeats 2000000 in
theorem noState_any (w : World) (base : Nat) (a : Option Addr) (n c : Nat) (sts : List Pm.St) (h : StatesC w base (.slice a n c) sts) :
    Calls Tryd.prog 46 #[.slice a n c] w fun e w' => e = .returned (placeV (Pm.goallessO sts)) ∧ Below w.heap.size w w' := by
  obtain ⟨rfl, hM⟩ := h.len
  have HS := hide h
  clear h
  go_enter Tryd.func46, Tryd.ntmps46
  go_wp2
  go_loopg [12] sts.length (fun gk i wr => ∃ k : Nat, k + gk = sts.length ∧ i = .int .i64 (k : Int) ∧ Hid (Below w.heap.size w wr) ∧ Hid (Pm.seekAt (Pm.stF3 sts) sts k = Pm.goallessO sts))
  case atStart => exact ⟨0, by omega, rfl, Below.refl _ _, rfl⟩
  case round =>
    obtain ⟨k, hk, rfl, HB, HR⟩ := hrel
    have hk1 : k ≤ sts.length := by omega
    have E1 := hide hk
    clear hk
    by_cases hlt : k < sts.length
    · obtain ⟨g, rfl, hgl, hcap⟩ := HS.out.isAt k hlt
      obtain ⟨b, n', c', c0, c1, c2, c3, hr⟩ := (HS.out.below HB.out).at4 k hlt
      obtain ⟨rfl, hrm⟩ := hr.len
      have HBA := hide (HB.out.alloc HB.out.size (.cells #[.int .i64 (sts[k].at_ : Int), .int .i64 (sts[k].nameAt : Int), .string sts[k].name, .slice b sts[k].rules.length c'] 124))
      have HRl := hide (hr.same (w' := wr.alloc (.cells #[.int .i64 (sts[k].at_ : Int), .int .i64 (sts[k].nameAt : Int), .string sts[k].name, .slice b sts[k].rules.length c'] 124)) (fun _ _ h2 => Below.heap_alloc _ _ _ h2))
      clear hr
      go_wp2
      go_loopg [19] sts[k].rules.length (fun g2 j wi => ∃ q : Nat, q + g2 = sts[k].rules.length ∧ j = .int .i64 (q : Int) ∧ Hid (Below w.heap.size w wi) ∧ Hid (RulesC wi base (.slice b sts[k].rules.length c') sts[k].rules) ∧ Hid (Pm.seekAt (Pm.rlF3 sts) sts[k].rules q = Pm.stF3 sts k sts[k]))
      case atStart => exact ⟨0, by omega, rfl, HBA, HRl, rfl⟩
      case round =>
        clear HRl HBA c0 c1 c2 c3
        obtain ⟨q, hq, rfl, HB1, HRc, HR2⟩ := hrel
        have hq1 : q ≤ sts[k].rules.length := by omega
        have E2 := hide hq
        clear hq
        by_cases hql : q < sts[k].rules.length
        · obtain ⟨g2, rfl, hg2, hcap2⟩ := HRc.out.isAt q hql
          obtain ⟨b1, n1, d1, b2, n2, d2, e0, e1, e2, e3, e4, e5, e6, -, -⟩ := HRc.out.at4 q hql
          have HBB := hide (HB1.out.alloc HB1.out.size (.cells #[.int .i64 (sts[k].rules[q].at_ : Int), .int .i64 (sts[k].rules[q].eventAt : Int), .string sts[k].rules[q].event, .slice b1 n1 d1, .int .i64 (sts[k].rules[q].to_ : Int), .string sts[k].rules[q].goal, .slice b2 n2 d2] 128))
          have HRA := hide (HRc.out.below ((Below.refl _ _).alloc (Nat.le_refl _) (.cells #[.int .i64 (sts[k].rules[q].at_ : Int), .int .i64 (sts[k].rules[q].eventAt : Int), .string sts[k].rules[q].event, .slice b1 n1 d1, .int .i64 (sts[k].rules[q].to_ : Int), .string sts[k].rules[q].goal, .slice b2 n2 d2] 128)))
          go_wp2_with fail
          refine (find_any _ base _ _ _ sts sts[k].rules[q].goal (HS.out.below HBB.out)).mono ?_
          rintro e w2 ⟨rfl, hb2⟩
          have HB3 := hide (HBB.out.trans (hb2.mono (by have := HBB.out.size; simpa using this)))
          have HR3 := hide (HRA.out.below hb2)
          obtain ⟨p0, p1, p2, p3, p4, p5, p6⟩ := blk7 ((hb2.block wr.heap.size (by simp)).trans (heap_alloc_new wr (.cells #[.int .i64 (sts[k].rules[q].at_ : Int), .int .i64 (sts[k].rules[q].eventAt : Int), .string sts[k].rules[q].event, .slice b1 n1 d1, .int .i64 (sts[k].rules[q].to_ : Int), .string sts[k].rules[q].goal, .slice b2 n2 d2] 128)))
          clear hb2 e0 e1 e2 e3 e4 e5 e6
          cases hth : decide (0 ≤ Pm.whereI sts sts[k].rules[q].goal)
          · have hlo : Pm.whereI sts sts[k].rules[q].goal < 0 := by have := of_decide_eq_false hth; omega
            by_cases hcl : sts[k].rules[q].goal.toList = Pm.wClosed
            · have HN := hide (Pm.seekAt_no (f := Pm.rlF3 sts) hql (by unfold Pm.rlF3; rw [if_neg (by simp [hcl])]))
              have hcl1 : sts[k].rules[q].goal.toList = [99, 108, 111, 115, 101, 100] := hcl
              have hcl2 : (sts[k].rules[q].goal.toList == [99, 108, 111, 115, 101, 100]) = true := by rw [hcl1]; rfl
              clear hth hlo hcl
              go_wp2
              go_roundg (sts[k].rules.length - (q + 1))
              case measure => have := E2.out; omega
              case rel => exact ⟨q + 1, by omega, by go_num, HB3, HR3, HN.out.symm.trans HR2.out⟩
            · have HN := hide (Pm.seekAt_yes (f := Pm.rlF3 sts) hql (by unfold Pm.rlF3; rw [if_pos (by simp [hcl, hlo])]))
              have HN3 := hide (Pm.seekAt_yes (f := Pm.stF3 sts) hlt (HR2.out.symm.trans HN.out))
              have hcl1 : ¬ sts[k].rules[q].goal.toList = [99, 108, 111, 115, 101, 100] := hcl
              have hcl2 : (sts[k].rules[q].goal.toList == [99, 108, 111, 115, 101, 100]) = false := by simpa using hcl1
              clear hth hlo hcl
              go_wp2
              go_ret2
              refine ⟨?_, HB3.out⟩
              rw [← HR.out, HN3.out]; rfl
          · have hhi : 0 ≤ Pm.whereI sts sts[k].rules[q].goal := of_decide_eq_true hth
            have HN := hide (Pm.seekAt_no (f := Pm.rlF3 sts) hql (by unfold Pm.rlF3; rw [if_neg (by simp; intro _; omega)]))
            clear hth hhi
            go_wp2
            go_roundg (sts[k].rules.length - (q + 1))
            case measure => have := E2.out; omega
            case rel => exact ⟨q + 1, by omega, by go_num, HB3, HR3, HN.out.symm.trans HR2.out⟩
        · have HN := hide (Pm.seekAt_no (f := Pm.stF3 sts) hlt (by rw [← HR2.out]; exact Pm.seekAt_end _ _ _ (by omega)))
          go_wp2
          go_roundg (sts.length - (k + 1))
          case measure => have := E1.out; omega
          case rel => exact ⟨k + 1, by omega, by go_num, HB1, HN.out.symm.trans HR.out⟩
    · have HN := hide (Pm.seekAt_end (Pm.stF3 sts) sts k (by omega))
      go_wp2
      go_ret2
      refine ⟨?_, HB.out⟩
      rw [← HR.out, HN.out]; rfl
end Go.Proofs.YtcijookbgliglaaDoor

/- The walk over the program's hasAllOf. -/
namespace Go.Proofs.YtcijookbgliglaaDoor
open Go.RowKit

theorem any_sameC (l : List Pm.Gd) (g : Pm.Gd) : l.any (sameC g.word g.not) = Pm.gdIn g l := by
  unfold Pm.gdIn
  induction l with
  | nil => rfl
  | cons h t ih =>
    simp only [List.any_cons, ih, sameC, Pm.eqB_comm h.word g.word]
    cases h.not <;> cases g.not <;> rfl
theorem take_all_succ {α : Type} (f : α → Bool) (l : List α) (k : Nat) (h : k < l.length) : (l.take (k + 1)).all f = ((l.take k).all f && f l[k]) := by
  rw [List.take_succ_eq_append_getElem h, List.all_append]
  simp

/-- A rule as a value that is handed over. -/
def ruleV (r : Pm.Rl) (vg va : Value) : Value := .agg #[.int .i64 (r.at_ : Int), .int .i64 (r.eventAt : Int), .string r.event, vg, .int .i64 (r.to_ : Int), .string r.goal, va]
def ruleX (r : Pm.Rl) (vg va : Value) : Array Value := #[.int .i64 (r.at_ : Int), .int .i64 (r.eventAt : Int), .string r.event, vg, .int .i64 (r.to_ : Int), .string r.goal, va]

set_option maxRecDepth 100000 in
set_option maxHeartbeats 2000000 in
theorem hasAll_any (w : World) (base : Nat) (r p : Pm.Rl) (a1 a2 a3 a4 : Option Addr) (n1 c1 n2 c2 n3 c3 n4 c4 : Nat) (h1 : GuardsC w base (.slice a1 n1 c1) r.guards) (h2 : GuardsC w base (.slice a3 n3 c3) p.guards) :
    Calls Tryd.prog 63 #[ruleV r (.slice a1 n1 c1) (.slice a2 n2 c2), ruleV p (.slice a3 n3 c3) (.slice a4 n4 c4)] w fun e w' => e = .returned (.bool (Pm.within p r && Pm.eqB p.event r.event)) ∧ Below w.heap.size w w' := by
  have hmf : ∀ (fn : Fn) (first cap : Array Value) (W : World), (Instr.makeFunc fn first cap).run Tryd.prog W = .ok (.func fn first cap) W := fun _ _ _ _ => rfl
  obtain ⟨rfl, hM1⟩ := h1.len
  obtain ⟨rfl, hM2⟩ := h2.len
  have hbb : Below w.heap.size w ((w.alloc (.cells (ruleX r (.slice a1 r.guards.length c1) (.slice a2 n2 c2)) 128)).alloc (.cells (ruleX p (.slice a3 p.guards.length c3) (.slice a4 n4 c4)) 128)) := ((Below.refl _ _).alloc (Nat.le_refl _) _).alloc (by simp) _
  have HG1 := hide (h1.below hbb)
  have HG2 := hide (h2.below hbb)
  have HBB := hide hbb
  have hx1 : ((w.alloc (.cells (ruleX r (.slice a1 r.guards.length c1) (.slice a2 n2 c2)) 128)).alloc (.cells (ruleX p (.slice a3 p.guards.length c3) (.slice a4 n4 c4)) 128)).heap[w.heap.size]? = some (.cells (ruleX r (.slice a1 r.guards.length c1) (.slice a2 n2 c2)) 128 (0, 0)) := (Below.heap_alloc _ _ _ (by simp)).trans (heap_alloc_new w _)
  have HX1 := hide hx1
  clear h1 h2 hbb hx1
  by_cases hev : p.event.toList = r.event.toList
  · have hev2 : (p.event.toList == r.event.toList) = true := by simpa using hev
    have HE := hide (show Pm.eqB p.event r.event = true by simp [Pm.eqB, hev])
    unfold ruleV
    go_enter Tryd.func63, Tryd.ntmps63
    go_wp2
    go_loopg [17] p.guards.length (fun gk i wr => ∃ k : Nat, k + gk = p.guards.length ∧ i = .int .i64 (k : Int) ∧ Hid (Below (w.heap.size + 2) ((w.alloc (.cells (ruleX r (.slice a1 r.guards.length c1) (.slice a2 n2 c2)) 128)).alloc (.cells (ruleX p (.slice a3 p.guards.length c3) (.slice a4 n4 c4)) 128)) wr) ∧ Hid ((p.guards.take k).all (fun g => Pm.gdIn g r.guards) = true))
    case atStart => exact ⟨0, by omega, rfl, Below.refl _ _, by simp [Hid]⟩
    case round =>
      obtain ⟨k, hk, rfl, HB, HR⟩ := hrel
      have hk1 : k ≤ p.guards.length := by omega
      have E1 := hide hk
      have hsz : w.heap.size + 2 ≤ wr.heap.size := by have := HB.out.size; simpa using this
      clear hk
      by_cases hlt : k < p.guards.length
      · obtain ⟨g, rfl, hgl, hcap⟩ := HG2.out.isAt k hlt
        have hg2 := HG2.out.below (HB.out.mono (by simp))
        have hg1 := HG1.out.below (HB.out.mono (by simp))
        obtain ⟨d0, d1, d2⟩ := hg2.at4 k hlt
        have HT := hide (hg1.below ((Below.refl _ _).alloc (Nat.le_refl _) (.cells #[.int .i64 (p.guards[k].at_ : Int), .string p.guards[k].word, .bool p.guards[k].not] 157)))
        obtain ⟨q0, q1, q2, -⟩ := blk3 (heap_alloc_new wr (.cells #[.int .i64 (p.guards[k].at_ : Int), .string p.guards[k].word, .bool p.guards[k].not] 157))
        obtain ⟨f0, f1, f2, f3, f4, f5, f6⟩ := blk7 ((Below.heap_alloc wr (.cells #[.int .i64 (p.guards[k].at_ : Int), .string p.guards[k].word, .bool p.guards[k].not] 157) w.heap.size (by omega)).trans ((HB.out.block w.heap.size (by omega)).trans HX1.out))
        have Q0 := hide q0
        have Q1 := hide q1
        have Q2 := hide q2
        clear q0 q1 q2 hg1 hg2
        go_wp2_with fail
        refine (containsB_any _ base _ _ _ r.guards _ p.guards[k].word p.guards[k].not wr.heap.size Q0.out Q1.out Q2.out HT.out).mono ?_
        rintro e w1 ⟨rfl, hb1⟩
        have HB1 := hide ((HB.out.alloc hsz (.cells #[.int .i64 (p.guards[k].at_ : Int), .string p.guards[k].word, .bool p.guards[k].not] 157)).trans (hb1.mono (by simp; omega)))
        rw [any_sameC]
        clear hb1 d0 d1 d2 f0 f1 f2 f3 f4 f5 f6
        cases hq : Pm.gdIn p.guards[k] r.guards
        · have HN := hide (show Pm.within p r = false by unfold Pm.within; rw [List.all_eq_false]; exact ⟨p.guards[k], List.getElem_mem hlt, by rw [hq]; simp⟩)
          clear hq
          go_wp2
          go_ret
          exact ⟨ret_bool (by rw [HN.out]; rfl), HBB.out.trans (HB1.out.mono (by omega))⟩
        · have HN := hide (show (p.guards.take (k + 1)).all (fun g => Pm.gdIn g r.guards) = true by rw [take_all_succ _ _ _ hlt, HR.out, hq]; rfl)
          clear hq
          go_wp2
          go_roundg (p.guards.length - (k + 1))
          case measure => have := E1.out; omega
          case rel => exact ⟨k + 1, by omega, by go_num, HB1, HN⟩
      · have HN := hide (show Pm.within p r = true by unfold Pm.within; rw [← HR.out, List.take_of_length_le (by omega)])
        go_wp2
        go_ret
        exact ⟨ret_bool (by rw [HN.out, HE.out]; rfl), HBB.out.trans (HB.out.mono (by omega))⟩
  · have hev2 : (p.event.toList == r.event.toList) = false := by simpa using hev
    have HE := hide (show Pm.eqB p.event r.event = false by simp [Pm.eqB, hev])
    unfold ruleV
    go_enter Tryd.func63, Tryd.ntmps63
    go_wp2
    go_ret
    exact ⟨ret_bool (by rw [HE.out]; cases Pm.within p r <;> rfl), HBB.out⟩
end Go.Proofs.YtcijookbgliglaaDoor

/- The walks over the searches among rules. -/
namespace Go.Proofs.YtcijookbgliglaaDoor
open Go.RowKit

def takes (r p : Pm.Rl) : Bool := Pm.within p r && Pm.eqB p.event r.event

set_option maxRecDepth 100000 in
set_option maxHeartbeats 1000000 in
theorem indexR_any (w : World) (base : Nat) (a : Option Addr) (n c : Nat) (rs : List Pm.Rl) (r : Pm.Rl) (a1 a2 : Option Addr) (n1 c1 n2 c2 : Nat) (h1 : GuardsC w base (.slice a1 n1 c1) r.guards) (h : RulesC w base (.slice a n c) rs) :
    Calls Tryd.prog 78 #[.slice a n c, .func (Fn.func 63) #[ruleV r (.slice a1 n1 c1) (.slice a2 n2 c2)] #[]] w fun e w' => ∃ x : Int, e = .returned (.int .i64 x) ∧ decide (0 ≤ x) = rs.any (takes r) ∧ Below w.heap.size w w' := by
  obtain ⟨rfl, hM⟩ := h.len
  have HS := hide h
  have HG := hide h1
  clear h h1
  go_enter Tryd.func78, Tryd.ntmps78
  go_wp2
  go_loopg [8] rs.length (fun gk i wr => ∃ k : Nat, k + gk = rs.length ∧ i = .int .i64 (k : Int) ∧ Hid (Below w.heap.size w wr) ∧ Hid ((rs.take k).any (takes r) = false))
  case atStart => exact ⟨0, by omega, rfl, Below.refl _ _, by simp [Hid]⟩
  case round =>
    obtain ⟨k, hk, rfl, HB, HR⟩ := hrel
    have hk1 : k ≤ rs.length := by omega
    have E1 := hide hk
    clear hk
    by_cases hlt : k < rs.length
    · obtain ⟨g, rfl, _, hcap⟩ := HS.out.isAt k hlt
      obtain ⟨b1, m1, d1, b2, m2, d2, e0, e1, e2, e3, e4, e5, e6, hgg, -⟩ := (HS.out.below HB.out).at4 k hlt
      have HGG := hide hgg
      clear hgg
      go_wp2_with fail
      refine (hasAll_any _ base r rs[k] _ _ _ _ _ _ _ _ _ _ _ _ (HG.out.below HB.out) HGG.out).mono ?_
      rintro e w1 ⟨rfl, hb1⟩
      have HB1 := hide (HB.out.trans (hb1.mono HB.out.size))
      clear hb1 e0 e1 e2 e3 e4 e5 e6
      cases hq : (Pm.within rs[k] r && Pm.eqB rs[k].event r.event)
      · have HN := hide (show (rs.take (k + 1)).any (takes r) = false by rw [Pm.take_any_succ _ _ _ hlt, HR.out]; unfold takes; rw [hq]; rfl)
        clear hq
        go_wp2
        go_roundg (rs.length - (k + 1))
        case measure => have := E1.out; omega
        case rel => exact ⟨k + 1, by omega, by go_num, HB1, HN⟩
      · have HN := hide (show rs.any (takes r) = true by rw [List.any_eq_true]; exact ⟨rs[k], List.getElem_mem hlt, hq⟩)
        clear hq
        go_wp2
        go_ret
        exact ⟨_, rfl, by rw [HN.out]; simp, HB1.out⟩
    · have HN := hide (show rs.any (takes r) = false by rw [← HR.out, List.take_of_length_le (by omega)])
      go_wp2
      go_ret
      exact ⟨_, rfl, by rw [HN.out]; rfl, HB.out⟩

set_option maxHeartbeats 400000 in
theorem containsR_any (w : World) (base : Nat) (a : Option Addr) (n c : Nat) (rs : List Pm.Rl) (r : Pm.Rl) (a1 a2 : Option Addr) (n1 c1 n2 c2 : Nat) (h1 : GuardsC w base (.slice a1 n1 c1) r.guards) (h : RulesC w base (.slice a n c) rs) :
    Calls Tryd.prog 62 #[.slice a n c, .func (Fn.func 63) #[ruleV r (.slice a1 n1 c1) (.slice a2 n2 c2)] #[]] w fun e w' => e = .returned (.bool (rs.any (takes r))) ∧ Below w.heap.size w w' := by
  have HX := hide (indexR_any w base a n c rs r a1 a2 n1 c1 n2 c2 h1 h)
  clear h h1
  go_enter Tryd.func62, Tryd.ntmps62
  go_wp2_with fail
  refine HX.out.mono ?_
  rintro e w1 ⟨x, rfl, hr, hb⟩
  have HH := hide hr
  have HB := hide hb
  clear hr hb
  go_wp2_with fail
  go_ret
  exact ⟨ret_bool HH.out, HB.out⟩
end Go.Proofs.YtcijookbgliglaaDoor

/- The walk over the program's neverTaken. -/
namespace Go.Proofs.YtcijookbgliglaaDoor
open Go.RowKit

set_option maxRecDepth 100000 in
set_option maxHeartbeats 2000000 in
theorem neverTaken_any (w : World) (base : Nat) (a : Option Addr) (n c : Nat) (sts : List Pm.St) (h : StatesC w base (.slice a n c) sts) :
    Calls Tryd.prog 47 #[.slice a n c] w fun e w' => e = .returned (placeV (Pm.neverO sts)) ∧ Below w.heap.size w w' := by
  have hmf : ∀ (fn : Fn) (first cap : Array Value) (W : World), (Instr.makeFunc fn first cap).run Tryd.prog W = .ok (.func fn first cap) W := fun _ _ _ _ => rfl
  obtain ⟨rfl, hM⟩ := h.len
  have HS := hide h
  clear h
  go_enter Tryd.func47, Tryd.ntmps47
  go_wp2
  go_loopg [10] sts.length (fun gk i wr => ∃ k : Nat, k + gk = sts.length ∧ i = .int .i64 (k : Int) ∧ Hid (Below w.heap.size w wr) ∧ Hid (Pm.seekAt Pm.stF4 sts k = Pm.neverO sts))
  case atStart => exact ⟨0, by omega, rfl, Below.refl _ _, rfl⟩
  case round =>
    obtain ⟨k, hk, rfl, HB, HR⟩ := hrel
    have hk1 : k ≤ sts.length := by omega
    have E1 := hide hk
    clear hk
    by_cases hlt : k < sts.length
    · obtain ⟨g, rfl, hgl, hcap⟩ := HS.out.isAt k hlt
      obtain ⟨b, n', c', c0, c1, c2, c3, hr⟩ := (HS.out.below HB.out).at4 k hlt
      obtain ⟨rfl, hrm⟩ := hr.len
      have hszw := HB.out.size
      have HBA := hide (HB.out.alloc HB.out.size (.cells #[.int .i64 (sts[k].at_ : Int), .int .i64 (sts[k].nameAt : Int), .string sts[k].name, .slice b sts[k].rules.length c'] 124))
      have HRl := hide (hr.same (w' := wr.alloc (.cells #[.int .i64 (sts[k].at_ : Int), .int .i64 (sts[k].nameAt : Int), .string sts[k].name, .slice b sts[k].rules.length c'] 124)) (fun _ _ h2 => Below.heap_alloc _ _ _ h2))
      have HX := hide (heap_alloc_new wr (.cells #[.int .i64 (sts[k].at_ : Int), .int .i64 (sts[k].nameAt : Int), .string sts[k].name, .slice b sts[k].rules.length c'] 124))
      obtain ⟨s5, hs5⟩ : ∃ s5, wr.heap.size = s5 := ⟨_, rfl⟩
      clear hr
      go_wp2
      go_loopg [17] sts[k].rules.length (fun g2 j wi => ∃ q : Nat, q + g2 = sts[k].rules.length ∧ j = .int .i64 (q : Int) ∧ Hid (Below w.heap.size w wi) ∧ Hid (RulesC wi base (.slice b sts[k].rules.length c') sts[k].rules) ∧ Hid (s5 < wi.heap.size ∧ wi.heap[s5]? = some (.cells #[.int .i64 (sts[k].at_ : Int), .int .i64 (sts[k].nameAt : Int), .string sts[k].name, .slice b sts[k].rules.length c'] 124 (0, 0))) ∧ Hid (Pm.seekAt (Pm.rlF4 sts[k].rules) sts[k].rules q = Pm.stF4 k sts[k]))
      case atStart => exact ⟨0, by omega, rfl, HBA, HRl, ⟨by simp; omega, by rw [← hs5]; exact HX.out⟩, rfl⟩
      case round =>
        clear HRl HBA HX c0 c1 c2 c3
        obtain ⟨q, hq, rfl, HB1, HRc, HX, HR2⟩ := hrel
        have hq1 : q ≤ sts[k].rules.length := by omega
        have E2 := hide hq
        clear hq
        by_cases hql : q < sts[k].rules.length
        · obtain ⟨g2, rfl, hg2, hcap2⟩ := HRc.out.isAt q hql
          obtain ⟨b1, n1, d1, b2, n2, d2, e0, e1, e2, e3, e4, e5, e6, hgg, -⟩ := HRc.out.at4 q hql
          have HBB := hide (HB1.out.alloc HB1.out.size (.cells #[.int .i64 (sts[k].rules[q].at_ : Int), .int .i64 (sts[k].rules[q].eventAt : Int), .string sts[k].rules[q].event, .slice b1 n1 d1, .int .i64 (sts[k].rules[q].to_ : Int), .string sts[k].rules[q].goal, .slice b2 n2 d2] 128))
          have HBn := hide ((Below.refl wr.heap.size wr).alloc (Nat.le_refl _) (.cells #[.int .i64 (sts[k].rules[q].at_ : Int), .int .i64 (sts[k].rules[q].eventAt : Int), .string sts[k].rules[q].event, .slice b1 n1 d1, .int .i64 (sts[k].rules[q].to_ : Int), .string sts[k].rules[q].goal, .slice b2 n2 d2] 128))
          have HRA := hide (HRc.out.below HBn.out)
          have HTA := hide (HRA.out.take hq1)
          have HGA := hide (hgg.below HBn.out)
          have hxs := HX.out.1
          obtain ⟨y0, y1, y2, y3, -⟩ := blk4 HX.out.2
          obtain ⟨p0, p1, p2, p3, p4, p5, p6⟩ := blk7 (heap_alloc_new wr (.cells #[.int .i64 (sts[k].rules[q].at_ : Int), .int .i64 (sts[k].rules[q].eventAt : Int), .string sts[k].rules[q].event, .slice b1 n1 d1, .int .i64 (sts[k].rules[q].to_ : Int), .string sts[k].rules[q].goal, .slice b2 n2 d2] 128))
          clear hgg
          go_upto_region 7 with fail
          go_cut [28] (fun y wc => y = .bool ((sts[k].rules.take q).any (takes sts[k].rules[q])) ∧ Hid (Below (wr.heap.size + 1) (wr.alloc (.cells #[.int .i64 (sts[k].rules[q].at_ : Int), .int .i64 (sts[k].rules[q].eventAt : Int), .string sts[k].rules[q].event, .slice b1 n1 d1, .int .i64 (sts[k].rules[q].to_ : Int), .string sts[k].rules[q].goal, .slice b2 n2 d2] 128)) wc))
          case first =>
            go_region_with (go_at_call 62; refine (containsR_any _ base _ _ _ (sts[k].rules.take q) sts[k].rules[q] _ _ _ _ _ _ ?_ ?_).mono ?_; exact ownsRow_same HGA.out (fun _ _ _ => rfl); exact HTA.out.same (fun _ _ _ => rfl); rintro e w1 ⟨rfl, hb1⟩; have HB1 := hide hb1; clear hb1)
            all_goals
              go_wp2_with fail
              go_meet
              case rel => exact ⟨rfl, ((Below.refl _ _).drew.trans HB1.out).mono (by simp)⟩
          case rest =>
            obtain ⟨rfl, HB2⟩ := hcut
            have HB3 := hide (HBB.out.trans (HB2.out.mono (by have := HB1.out.size; omega)))
            have HR3 := hide (HRA.out.same (w' := wc) (fun j _ h2 => HB2.out.block j (by simpa using h2)))
            have HX3 := hide (show s5 < wc.heap.size ∧ wc.heap[s5]? = some (.cells #[.int .i64 (sts[k].at_ : Int), .int .i64 (sts[k].nameAt : Int), .string sts[k].name, .slice (some ⟨g2, 0, none⟩) sts[k].rules.length c'] 124 (0, 0)) from ⟨by have := HB2.out.size; simp at this; omega, (HB2.out.block s5 (by omega)).trans ((HBn.out.block s5 HX.out.1).trans HX.out.2)⟩)
            clear y0 y1 y2 y3 p0 p1 p2 p3 p4 p5 p6 e0 e1 e2 e3 e4 e5 e6
            obtain ⟨p0, p1, p2, p3, p4, p5, p6⟩ := blk7 ((HB2.out.block wr.heap.size (by omega)).trans (heap_alloc_new wr (.cells #[.int .i64 (sts[k].rules[q].at_ : Int), .int .i64 (sts[k].rules[q].eventAt : Int), .string sts[k].rules[q].event, .slice b1 n1 d1, .int .i64 (sts[k].rules[q].to_ : Int), .string sts[k].rules[q].goal, .slice b2 n2 d2] 128)))
            cases htk : (sts[k].rules.take q).any (takes sts[k].rules[q])
            · have HN := hide (Pm.seekAt_no (f := Pm.rlF4 sts[k].rules) hql (by unfold Pm.rlF4; exact if_neg (by intro h'; rw [show (sts[k].rules.take q).any (fun p => Pm.within p sts[k].rules[q] && Pm.eqB p.event sts[k].rules[q].event) = false from htk] at h'; cases h')))
              clear htk
              go_wp2
              go_roundg (sts[k].rules.length - (q + 1))
              case measure => have := E2.out; omega
              case rel => exact ⟨q + 1, by omega, by go_num, HB3, HR3, HX3, HN.out.symm.trans HR2.out⟩
            · have HN := hide (Pm.seekAt_yes (f := Pm.rlF4 sts[k].rules) hql (by unfold Pm.rlF4; exact if_pos htk))
              have HN3 := hide (Pm.seekAt_yes (f := Pm.stF4) hlt (HR2.out.symm.trans HN.out))
              clear htk
              go_wp2
              go_ret2
              refine ⟨?_, HB3.out⟩
              rw [← HR.out, HN3.out]; rfl
        · have HN := hide (Pm.seekAt_no (f := Pm.stF4) hlt (by rw [← HR2.out]; exact Pm.seekAt_end _ _ _ (by omega)))
          go_wp2
          go_roundg (sts.length - (k + 1))
          case measure => have := E1.out; omega
          case rel => exact ⟨k + 1, by omega, by go_num, HB1, HN.out.symm.trans HR.out⟩
    · have HN := hide (Pm.seekAt_end Pm.stF4 sts k (by omega))
      go_wp2
      go_ret2
      refine ⟨?_, HB.out⟩
      rw [← HR.out, HN.out]; rfl
end Go.Proofs.YtcijookbgliglaaDoor
