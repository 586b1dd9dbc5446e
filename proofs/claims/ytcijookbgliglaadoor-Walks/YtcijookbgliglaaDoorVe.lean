import Derived.Test.YtcijookbgliglaaDoorVd
/- Lists of what happens; the walks over the law's happenings and texts. -/
namespace Go.Proofs.YtcijookbgliglaaDoor
open Go.RowKit

def hapC (ys : List (ByteArray × Value)) : List Value := ys.flatMap fun y => [.string y.1, y.2]
theorem hapC_snoc (ys : List (ByteArray × Value)) (y : ByteArray × Value) : hapC (ys ++ [y]) = hapC ys ++ [.string y.1, y.2] := by simp [hapC]
/-- What is put together for a walk, so far. -/
def HapsC (T : TypeId) (w0 w : World) (base : Nat) (v : Value) (l : List Hp) : Prop :=
  ∃ ys : List (ByteArray × Value), ys.length = l.length ∧ w.ownsRow base T 2 v ys.length (hapC ys) ∧ ∀ (j : Nat) (h1 : j < ys.length) (h2 : j < l.length), ys[j].1 = l[j].1 ∧ StrsA w0 ys[j].2 l[j].2
theorem HapsC.haps {T : TypeId} {w0 w : World} {base : Nat} {v : Value} {l : List Hp} (h : HapsC T w0 w base v l) (hb : Below w0.heap.size w0 w) (hz : ∀ (j : Nat) (hj : j < l.length), l[j].1.size ≤ maxLen) : HapsA w v l := by
  obtain ⟨ys, h1, h2, h3⟩ := h
  obtain ⟨a, n, c, rfl⟩ := own_slice h2
  obtain ⟨e1, e2, e3⟩ := own_len h2
  subst e1
  have hc : c ≤ 9223372036854775807 ∧ ys.length ≤ c := by
    rcases own_shape h2 with ⟨hv, hn⟩ | ⟨g, cap, hv, _, _, m1, m2⟩
    · simp only [Value.slice.injEq] at hv
      obtain ⟨_, _, rfl⟩ := hv
      exact ⟨by omega, by omega⟩
    · simp only [Value.slice.injEq] at hv
      obtain ⟨_, _, rfl⟩ := hv
      exact ⟨by unfold maxLen at m2; omega, m1⟩
  refine ⟨a, c, by rw [h1], by omega, hc.1, fun i hi => ?_⟩
  obtain ⟨g, rfl, _, _, _⟩ := e3 (by omega)
  have hi' : i < ys.length := by omega
  obtain ⟨f1, f2⟩ := h3 i hi' hi
  have hfl := flat_get (fun y : ByteArray × Value => [.string y.1, y.2]) 2 (fun _ => rfl) ys i
  refine ⟨g, 0, ys[i].2, rfl, ?_, ?_, f2.below hb (Nat.le_refl _), hz i hi⟩
  · rw [← f1, Nat.zero_add]
    exact own_cell h2 (by have := hfl 0 hi' (by omega); simpa [hapC] using this)
  · rw [Nat.zero_add]
    exact own_cell h2 (by have := hfl 1 hi' (by omega); simpa [hapC] using this)
theorem one2H {s : ByteArray} {a : Option Addr} {n c : Nat} : ∀ u ∈ [Value.string s, .slice a n c], u.oneCell' = true := by
  intro u hu; simp at hu; rcases hu with rfl | rfl <;> rfl
theorem Tryd.underlyingHaps : Tryd.prog.underlying 39 = some (.slice 63) := by kernel_rfl
theorem Tryd.infoHap : (Tryd.prog.info? 63).map (fun i => (i.zero, i.size, i.bytes)) = some (some (.agg #[.string ByteArray.empty, .slice none 0 0]), 2, 40) := by kernel_rfl

set_option maxRecDepth 100000 in
set_option maxHeartbeats 2000000 in
theorem happenings_any (w : World) (v : Value) (l : List Hp) (h : HapsA w v l) (hlen : l.length * 40 ≤ 140737488355328) :
    Calls Tryd.prog 10 #[v] w fun e w' => ∃ v', e = .returned v' ∧ HapsA w' v' l ∧ Below w.heap.size w w' := by
  have HS := hide h
  obtain ⟨a, c, rfl, hlc, hcm, hcell⟩ := h
  have HZ := hide (show ∀ (j : Nat) (hj : j < l.length), l[j].1.size ≤ maxLen from fun j hj => by obtain ⟨_, _, _, _, _, _, _, hz⟩ := hcell j hj; exact hz)
  obtain ⟨iT, hT, hT0, hT1, hT2⟩ := info_parts Tryd.infoHap
  clear hcell
  go_enter Tryd.func10, Tryd.ntmps10
  go_wp2
  go_loopg [3, 4] l.length (fun gk s i wr => ∃ (k : Nat) (sa : Option Addr) (sn sc : Nat), k + gk = l.length ∧ i = .int .i64 (k : Int) ∧ s = .slice sa sn sc ∧ Hid (Below w.heap.size w wr) ∧ Hid (HapsC 63 w wr w.heap.size (.slice sa sn sc) (l.take k)))
  case atStart => exact ⟨0, none, 0, 0, by omega, rfl, rfl, Below.refl _ _, [], rfl, World.ownsRow_nil _ _ _ _, fun j h1 => by simp at h1⟩
  case round =>
    obtain ⟨k, sa, sn, sc, hk, rfl, rfl, HB, HR⟩ := hrel
    have hk1 : k ≤ l.length := by omega
    have E1 := hide hk
    clear hk
    by_cases hlt : k < l.length
    · obtain ⟨a', c', hv, _, _, hcell⟩ := HS.out.below HB.out (Nat.le_refl _)
      simp only [Value.slice.injEq] at hv
      obtain ⟨rfl, _, rfl⟩ := hv
      obtain ⟨b, o, hv, rfl, d0, d1, hst, hz⟩ := hcell k hlt
      have hst0 : StrsA w hv l[k].2 := by
        obtain ⟨a9, c9, h9, _, _, hc9⟩ := HS.out
        simp only [Value.slice.injEq] at h9
        obtain ⟨rfl, _, rfl⟩ := h9
        obtain ⟨b9, o9, hv9, h9, _, h10, h11, _⟩ := hc9 k hlt
        simp only [Option.some.injEq, Addr.mk.injEq] at h9
        obtain ⟨rfl, rfl, _⟩ := h9
        have hbl := World.block_lt_of_cell? w _ h10
        have := (HB.out.cell (p := ⟨b, o + k * 2 + 1, none⟩) hbl).trans h10
        rw [this] at d1
        simp at d1
        rw [← d1]; exact h11
      have HST := hide hst0
      obtain ⟨ha, hc, rfl, -⟩ := hst
      obtain ⟨ys, hy1, hy2, hy3⟩ := HR.out
      have hyl : ys.length = k := by rw [hy1, List.length_take]; omega
      have hsz := HB.out.size
      have HY := hide hy2
      have HY3 := hide hy3
      clear hcell hst0 hy2 hy3
      go_wp2_with fail
      go_region_law ((have JB := ownsRow_same (w' := wr.drew.alloc (.cells #[.string l[k].1, .slice ha l[k].2.length hc] 63)) HY.out (fun j _ h2 => Below.heap_alloc _ _ _ h2); refine step_append_own (by rfl) _ _ 39 (by rfl) w.heap.size 63 iT (.agg #[.string ByteArray.empty, .slice none 0 0]) 2 40 Tryd.underlyingHaps hT hT0 hT1 hT2 rfl (by decide) _ _ _ (by rfl) JB ⟨wr.heap.size, 0, none⟩ 1 1 [.string l[k].1, .slice ha l[k].2.length hc] (by rfl) rfl (cell_two_new' _ _ _ _ _ rfl) one2H (by unfold maxLen; omega) (by omega) (by simp; omega) ?_; intro v7 w7 ho7 hg7 _; obtain ⟨a7, l7, c7, rfl⟩ := own_slice ho7; have hrow : ∀ kk, (Value.slice sa sn sc).ownBlock = some kk → w.heap.size ≤ kk := (fun kk e' => (World.ownsRow.lt JB kk e').1); have HB7 := hide (((HB.out.trans (Below.refl _ _).drew).alloc (by simpa using hsz) (.cells #[.string l[k].1, .slice ha l[k].2.length hc] 63)).grown hg7 (by simp; omega) hrow); have HO7 := hide ho7; clear ho7 hg7 JB hrow))
      all_goals
        go_wp2_with fail
        go_roundg (l.length - (k + 1))
        case measure => have := E1.out; omega
        case rel =>
          refine ⟨k + 1, a7, l7, c7, by omega, by go_num, rfl, HB7, ys ++ [(l[k].1, .slice ha l[k].2.length hc)], ?_, ?_, ?_⟩
          · rw [List.length_append, hyl, List.length_take]; simp; omega
          · rw [hapC_snoc, List.length_append]; exact HO7.out
          · intro j h1 h2
            rw [List.getElem_take]
            by_cases hj : j < ys.length
            · rw [List.getElem_append_left hj]
              have := HY3.out j hj (by rw [List.length_take]; omega)
              rw [List.getElem_take] at this
              exact this
            · have : j = k := by rw [List.length_append] at h1; simp at h1; omega
              subst this
              rw [List.getElem_append_right (by omega)]
              simp only [hyl, Nat.sub_self, List.getElem_cons_zero]
              exact ⟨trivial, HST.out⟩
    · have hkk : k = l.length := by omega
      subst hkk
      go_wp2
      go_ret
      refine ⟨_, rfl, ?_, HB.out⟩
      have := HR.out
      rw [List.take_length] at this
      exact this.haps HB.out HZ.out

set_option maxRecDepth 100000 in
set_option maxHeartbeats 1000000 in
/-- Two lists of the same texts are alike. -/
theorem texts_same (w : World) (v1 v2 : Value) (l : List ByteArray) (h1 : StrsA w v1 l) (h2 : StrsA w v2 l) :
    Calls Tryd.prog 12 #[v1, v2] w fun e w' => e = .returned (.bool true) ∧ Below w.heap.size w w' := by
  have HS1 := hide h1
  have HS2 := hide h2
  obtain ⟨a1, c1, rfl, hc1, hm1, -⟩ := h1
  obtain ⟨a2, c2, rfl, hc2, hm2, -⟩ := h2
  go_enter Tryd.func12, Tryd.ntmps12
  go_wp2
  go_loopg [5] l.length (fun gk i wr => ∃ k : Nat, k + gk = l.length ∧ i = .int .i64 (k : Int) ∧ Hid (Below w.heap.size w wr))
  case atStart => exact ⟨0, by omega, rfl, Below.refl _ _⟩
  case round =>
    obtain ⟨k, hk, rfl, HB⟩ := hrel
    have hk1 : k ≤ l.length := by omega
    have E1 := hide hk
    clear hk
    by_cases hlt : k < l.length
    · obtain ⟨a1', c1', hv1, _, _, hcell1⟩ := HS1.out.below HB.out (Nat.le_refl _)
      simp only [Value.slice.injEq] at hv1
      obtain ⟨rfl, _, rfl⟩ := hv1
      obtain ⟨b1, o1, rfl, d1⟩ := hcell1 k hlt
      obtain ⟨a2', c2', hv2, _, _, hcell2⟩ := HS2.out.below HB.out (Nat.le_refl _)
      simp only [Value.slice.injEq] at hv2
      obtain ⟨rfl, _, rfl⟩ := hv2
      obtain ⟨b2, o2, rfl, d2⟩ := hcell2 k hlt
      clear hcell1 hcell2
      go_wp2_with fail
      go_quiet (fail)
      go_wp2_with fail
      go_roundg (l.length - (k + 1))
      case measure => have := E1.out; omega
      case rel => exact ⟨k + 1, by omega, by go_num, below_drewN HB.out _⟩
    · go_wp2
      go_ret
      exact ⟨rfl, HB.out⟩
end Go.Proofs.YtcijookbgliglaaDoor
