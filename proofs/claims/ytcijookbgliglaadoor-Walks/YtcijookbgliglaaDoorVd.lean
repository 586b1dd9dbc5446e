import Derived.Test.YtcijookbgliglaaDoorVc
/- The walks over the program's Clone and Step. -/
namespace Go.Proofs.YtcijookbgliglaaDoor
open Go.RowKit

theorem one1L (l : List ByteArray) : ∀ u ∈ l.map Value.string, u.oneCell' = true := by
  intro u hu
  obtain ⟨s, _, rfl⟩ := List.mem_map.1 hu
  rfl
set_option maxRecDepth 100000 in
set_option maxHeartbeats 1000000 in
theorem cloneS_any (w : World) (base : Nat) (a : Option Addr) (n c : Nat) (acs : List Pm.Ac) (h : ActsR w base (.slice a n c) acs) (hl : acs.length ≤ 301) :
    Calls Tryd.prog 39 #[.slice a n c] w fun e w' => ∃ v, e = .returned v ∧ NewS w' w.heap.size v (acs.map (·.word)) ∧ Below w.heap.size w w' := by
  obtain ⟨rfl, hM, -⟩ := own_len h
  obtain ⟨iS, hS, hS0, hS1, hS2⟩ := info_parts Tryd.infoString
  rcases own_shape h with ⟨hv, hn⟩ | ⟨g, cap, hv, hb, hg, h1, h2⟩
  · simp only [Value.slice.injEq] at hv
    obtain ⟨rfl, hz, rfl⟩ := hv
    have hacs : acs = [] := by cases acs with | nil => rfl | cons _ _ => simp at hz
    subst hacs
    have heq : ∀ W : World, (binOp BinOp.eql 33 (.slice none 0 0) (.slice none 0 0)).run Tryd.prog W = .ok (.bool true) W := fun _ => by kernel_rfl
    go_enter Tryd.func39, Tryd.ntmps39
    go_wp2
    go_ret
    exact ⟨_, rfl, NewS.nil _ _, Below.refl _ _⟩
  · simp only [Value.slice.injEq] at hv
    obtain ⟨rfl, -, rfl⟩ := hv
    have hcs : ∀ j u, ((acs.map (·.word)).map Value.string)[j]? = some u → (w.alloc (.cells #[] 9)).cell? ((⟨g, 0, none⟩ : Addr).add j) = some u := by
      intro j u hu
      rw [← acCells_words] at hu
      have h3 := own_cell h hu
      have h4 : (w.alloc (.cells #[] 9)).cell? ⟨g, j, none⟩ = w.cell? ⟨g, j, none⟩ := World.cell?_of_block (w := w) (Below.heap_alloc _ _ _ hg)
      by_cases hj : j = 0
      · subst hj; simpa [Addr.add] using h4.trans h3
      · simpa [Addr.add, hj] using h4.trans h3
    have hown : (w.alloc (.cells #[] 9)).ownsRow w.heap.size 9 1 (.slice (some ⟨w.heap.size, 0, none⟩) 0 0) 0 [] := ⟨rfl, .inr ⟨w.heap.size, 0, #[], rfl, Nat.le_refl _, heap_alloc_new w _, Nat.le_refl _, by unfold maxLen; omega, rfl, rfl⟩⟩
    have HCS := hide hcs
    have HOW := hide hown
    have HBB := hide ((Below.refl w.heap.size w).alloc (Nat.le_refl _) (.cells #[] 9))
    have heq : ∀ W : World, (binOp BinOp.eql 33 (.slice (some ⟨g, 0, none⟩) acs.length c) (.slice none 0 0)).run Tryd.prog W = .ok (.bool false) W := fun _ => by kernel_rfl
    clear hcs hown h
    go_enter Tryd.func39, Tryd.ntmps39
    go_wp2_with (at_builtin; go_must (refine wpList_append_own _ rfl _ _ 33 rfl w.heap.size 9 iS (.string ByteArray.empty) 1 16 Tryd.underlyingStrings hS hS0 hS1 hS2 rfl (by decide) _ _ _ rfl HOW.out ⟨g, 0, none⟩ acs.length c ((acs.map (·.word)).map Value.string) rfl (by simp) HCS.out (one1L _) (by unfold maxLen; omega) (by omega) (by simp) ?_; intro v5 w5 ho5 hg5 _; obtain ⟨a5, m5, l5, rfl⟩ := own_slice ho5; have HO5 := hide ho5; have HG5 := hide hg5; clear ho5 hg5))
    go_ret
    refine ⟨_, rfl, ?_, ?_⟩
    · have := HO5.out
      unfold NewS
      simpa using this
    · exact HBB.out.grown HG5.out (by simp) (fun k e => Nat.le_of_eq (Option.some.inj e))

/-- A machine whose rules have few parts. -/
def FewM (sts : List Pm.St) : Prop := ∀ st ∈ sts, ∀ r ∈ st.rules, r.actions.length ≤ 301
theorem step1_some {sts : List Pm.St} {row : Nat} (h : row < sts.length) (ev : ByteArray) (hs : List ByteArray) : Pm.step1 sts row ev hs = match ((askedAt sts row ev).find? fun e => Pm.allMet hs e.2) with
    | none => ⟨-1, sts.length, [Pm.alertW]⟩
    | some x => ⟨(x.1 : Int), Pm.goalTo sts x.2.goal, x.2.actions.map (·.word)⟩ := by
  unfold Pm.step1 askedAt
  rw [List.getElem?_eq_getElem h]
  simp only
  rw [asked_first]
  cases Pm.firstAt (Pm.fits hs ev) 0 sts[row].rules <;> rfl

set_option maxRecDepth 100000 in
set_option maxHeartbeats 4000000 in
theorem stepW_any (w : World) (b X base row : Nat) (sts : List Pm.St) (ev : ByteArray) (v : Value) (hs : List ByteArray) (hev : ev.size ≤ maxLen) (hf : FewM sts) (hw : WalkAt w b X row) (hm : MachAt w X base sts) (hr : row ≤ sts.length) (hh : StrsA w v hs) :
    Calls Tryd.prog 21 #[.pointer (some ⟨b, 0, none⟩), .string ev, v] w fun e w' => ∃ v', e = .returned (.tuple #[.int .i64 (Pm.step1 sts row ev hs).rule, v']) ∧ NewS w' w.heap.size v' (Pm.step1 sts row ev hs).acts ∧ Kept b w w' ∧ WalkAt w' b X (Pm.step1 sts row ev hs).row := by
  have HC := hide (closed_any w b X base row sts hw hm hr)
  obtain ⟨a1, a2, c1, c2, hX, x0, x1, x2, -, hl, -⟩ := hm.parts
  obtain ⟨q0, q1, hb, hfz⟩ := hw.cells
  have HW := hide hw
  have HM := hide hm
  have HH := hide hh
  have HF := hide hf
  obtain ⟨va, vc, rfl, -⟩ := hh
  clear hw hm hf
  go_enter Tryd.func21, Tryd.ntmps21
  go_wp2_with fail
  refine HC.out.mono ?_
  rintro e w1 ⟨rfl, hb1⟩
  have HB1 := hide hb1
  by_cases hq : row = sts.length
  · have HN := hide (Pm.step1_shut (sts := sts) (row := row) (List.getElem?_eq_none (by omega)) ev hs)
    rw [show decide (row = sts.length) = true by simp [hq]]
    clear hq hb1
    go_wp2_with fail
    go_ret2
    rw [HN.out]
    exact ⟨_, rfl, NewS.nil _ _, Kept.of_below _ HB1.out, HW.out.below HB1.out⟩
  · rw [show decide (row = sts.length) = false by simp [hq]]
    have hlt : row < sts.length := by omega
    have HL := hide hlt
    have HST := hide (step1_some hlt ev hs)
    clear hq hlt
    go_wp2_with fail
    refine (rules_any w1 b X base row sts ev hev (HW.out.below HB1.out) (HM.out.below HB1.out) hr).mono ?_
    rintro e w2 ⟨hb2, ra, rn, rc, rfl, hS⟩
    have HB2 := hide (HB1.out.trans (hb2.mono HB1.out.size))
    have HS := hide (hS.below hb2)
    clear hb2 hS hb1
    go_wp2_with fail
    refine (first_any w2 base sts ra rn rc (askedAt sts row ev) _ hs HS.out (HH.out.below HB2.out (Nat.le_refl _))).mono ?_
    rintro e w3 ⟨hb3, hF⟩
    have HB3 := hide (HB2.out.trans (hb3.mono HB2.out.size))
    have hz3 := HB3.out.size
    have HB4 := hide (show ∀ o, Below w.heap.size w (w3.alloc o) from fun o => HB3.out.alloc hz3 o)
    have q0' := fun o => ((HB4.out o).cell (p := ⟨b, 0, none⟩) hb).trans q0
    have q1' := fun o => ((HB4.out o).cell (p := ⟨b, 1, none⟩) hb).trans q1
    have x2' := fun o => ((HB4.out o).cell (p := ⟨X, 2, none⟩) hX).trans x2
    have qf' := fun o => ((HB4.out o).frozen (p := ⟨b, 1, none⟩) hb).trans (hfz 1)
    have hX' : X < w3.heap.size := by omega
    have hb' : b < w3.heap.size := by omega
    cases hfd : ((askedAt sts row ev).find? fun e => Pm.allMet hs e.2) with
    | none =>
      rw [hfd] at hF
      obtain rfl := hF
      rw [hfd] at HST
      have HW3 := hide (HW.out.below HB3.out)
      have HK3 := hide (Kept.of_below b HB3.out)
      clear hb3 hfd HB4
      go_wp2
      go_ret2
      rw [HST.out]
      refine ⟨_, rfl, ?_, (((HK3.out.setCell 1 _).alloc _).alloc _), ?_⟩
      · exact ⟨rfl, .inr ⟨w3.heap.size + 1, 1, #[.string Pm.alertW], rfl, by omega, by have := (two_new (w3.setCell ⟨b, 1, none⟩ (.int .i64 (sts.length : Int))) (.cells #[.int .i64 0, .slice none 0 0, .int .i64 0, .slice none 0 0] 100) (.cells #[.string Pm.alertW] 9)).2; simp [World.setCell] at this ⊢; exact this, Nat.le_refl _, by unfold maxLen; omega, rfl, rfl⟩⟩
      · exact (HW3.out.set sts.length).below (two_below _ _ _)
    | some x =>
      rw [hfd] at hF
      obtain ⟨b1, m1, d1, b2, m2, d2, rfl, hA⟩ := hF
      rw [hfd] at HST
      have HW3 := hide (HW.out.below HB3.out)
      have HK3 := hide (Kept.of_below b HB3.out)
      have HA3 := hide (show ActsR w3 base (.slice b2 m2 d2) x.2.actions from ownsRow_same hA (fun k _ h2 => hb3.block k h2))
      have HFa := hide (show x.2.actions.length ≤ 301 by
        have h1 := List.mem_of_find?_eq_some hfd
        unfold askedAt at h1
        rw [List.getElem?_eq_getElem HL.out] at h1
        unfold askedE at h1
        obtain ⟨p, hp, rfl⟩ := List.mem_map.1 h1
        have h2 := List.mem_zipIdx (List.mem_filter.1 hp).1
        simp at h2
        exact HF.out _ (List.getElem_mem HL.out) _ (by rw [h2.2]; exact List.getElem_mem _))
      have hgo := goalOf_to sts x.2.goal
      rw [hgo]
      clear hb3 hfd hA HB4 hgo
      have qf3 := (HB3.out.frozen (p := ⟨b, 1, none⟩) hb).trans (hfz 1)
      have HAA := hide (ownsRow_alloc (ownsRow_set_other (p := ⟨b, 1, none⟩) HA3.out HW3.out (by decide) (.int .i64 (Pm.goalTo sts x.2.goal : Int))) (.cells #[.int .i64 (x.1 : Int), .slice b1 m1 d1, .int .i64 (Pm.goalTo sts x.2.goal : Int), .slice b2 m2 d2] 100))
      have HKA := hide ((HK3.out.setCell 1 (.int .i64 (Pm.goalTo sts x.2.goal : Int))).alloc (.cells #[.int .i64 (x.1 : Int), .slice b1 m1 d1, .int .i64 (Pm.goalTo sts x.2.goal : Int), .slice b2 m2 d2] 100))
      have HWA := hide ((HW3.out.set (Pm.goalTo sts x.2.goal)).below ((Below.refl _ _).alloc (Nat.le_refl _) (.cells #[.int .i64 (x.1 : Int), .slice b1 m1 d1, .int .i64 (Pm.goalTo sts x.2.goal : Int), .slice b2 m2 d2] 100)))
      have HNA := hide (heap_alloc_new (w3.setCell ⟨b, 1, none⟩ (.int .i64 (Pm.goalTo sts x.2.goal : Int))) (.cells #[.int .i64 (x.1 : Int), .slice b1 m1 d1, .int .i64 (Pm.goalTo sts x.2.goal : Int), .slice b2 m2 d2] 100))
      have hsz : (w3.setCell ⟨b, 1, none⟩ (.int .i64 (Pm.goalTo sts x.2.goal : Int))).heap.size = w3.heap.size := by simp [World.setCell]
      rw [hsz] at HNA
      go_wp2_with fail
      go_region_with (go_at_call 39; refine (cloneS_any _ base _ _ _ x.2.actions ?_ HFa.out).mono ?_; exact ownsRow_same HAA.out (fun _ _ _ => rfl); rintro e w5 ⟨v5, rfl, hn5, hb5⟩; obtain ⟨y0, y1, y2, y3, yf⟩ := blk4 ((hb5.block w3.heap.size (by simp [hsz])).trans HNA.out); have HN5 := hide hn5; have HB5 := hide hb5; obtain ⟨va5, vn5, vc5, rfl⟩ := own_slice hn5; clear hn5 hb5)
      all_goals
        go_wp2_with fail
        go_ret2
        rw [HST.out]
        refine ⟨_, rfl, HN5.out.base (by simp [hsz]; omega), HKA.out.trans (Kept.of_below b ((Below.refl _ _).drew.trans HB5.out)), HWA.out.below ((Below.refl _ _).drew.trans HB5.out)⟩
end Go.Proofs.YtcijookbgliglaaDoor
