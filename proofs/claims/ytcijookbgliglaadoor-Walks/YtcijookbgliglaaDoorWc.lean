import Derived.Test.YtcijookbgliglaaDoorWo
import Derived.Deep.RegionWith
import Derived.Test.YtcijookbgliglaaDoorP
/- The walks over the document's pen: on, fail, next, need, word, more. -/
namespace Go.Proofs.YtcijookbgliglaaDoor
open Go.RowKit

theorem hide {p : Prop} (h : p) : Hid p := h
theorem ret_bool {a b : Bool} (h : a = b) : Ending.returned (.bool a) = .returned (.bool b) := by rw [h]

set_option maxHeartbeats 400000 in
theorem on_any (w : World) (b : Nat) (s : ByteArray) (p : Pm.Pn) (t : ByteArray) (hp : PenAt w b s p.g p.bad) :
    Calls Tryd.prog 32 #[.pointer (some ⟨b, 0, none⟩), .string t] w fun e w' => e = .returned (.bool (Pm.on p t.toList)) ∧ w' = w := by
  obtain ⟨c0, c1, c2, c3, c4, c5⟩ := hp.cells
  clear hp
  by_cases h0 : p.bad < 0
  · by_cases h1 : p.g.k = 107
    · have h1 : (p.g.k == 107) = true := by simp [h1]
      go_enter Tryd.func32, Tryd.ntmps32
      go_wp2
      go_ret
      exact ⟨by simp [Pm.on, h0, h1], rfl⟩
    · have h1 : (p.g.k == 107) = false := by simp [h1]
      go_enter Tryd.func32, Tryd.ntmps32
      go_wp2
      go_ret
      exact ⟨by simp [Pm.on, h1], rfl⟩
  · go_enter Tryd.func32, Tryd.ntmps32
    go_wp2
    go_ret
    exact ⟨ret_bool (Pm.on_no p _ (by omega)).symm, rfl⟩

set_option maxHeartbeats 400000 in
theorem fail_any (w : World) (b : Nat) (s : ByteArray) (p : Pm.Pn) (hp : PenAt w b s p.g p.bad) :
    Calls Tryd.prog 53 #[.pointer (some ⟨b, 0, none⟩)] w fun e w' => e = .returned (.tuple #[]) ∧ Kept b w w' ∧ PenAt w' b s (Pm.fail p).g (Pm.fail p).bad := by
  obtain ⟨c0, c1, c2, c3, c4, c5⟩ := hp.cells
  have hf := hp.frozen
  have HP : Hid (PenAt w b s p.g p.bad) := hp
  clear hp
  by_cases h0 : p.bad < 0
  · go_enter Tryd.func53, Tryd.ntmps53
    go_wp2
    go_end0
    refine ⟨rfl, (Kept.refl _ _).setCell _ _, ?_⟩
    rw [Pm.fail_yes p h0]
    exact HP.out.bad _
  · go_enter Tryd.func53, Tryd.ntmps53
    go_wp2
    go_end0
    refine ⟨rfl, Kept.refl _ _, ?_⟩
    rw [Pm.fail_no p (by omega)]
    exact HP.out

set_option maxHeartbeats 400000 in
theorem next_any (w : World) (b : Nat) (s : ByteArray) (p : Pm.Pn) (hs : s.size ≤ maxLen) (hto : p.g.to_ ≤ s.size) (hp : PenAt w b s p.g p.bad) :
    Calls Tryd.prog 54 #[.pointer (some ⟨b, 0, none⟩)] w fun e w' => e = .returned (Sg.val p.g) ∧ Kept b w w' ∧ PenAt w' b s (Pm.next s p).g (Pm.next s p).bad := by
  obtain ⟨c0, c1, c2, c3, c4, c5⟩ := hp.cells
  have hf := hp.frozen
  have hlt := hp.lt
  have n1 : ¬ w.heap.size = b := by omega
  have n2 : ¬ w.heap.size + 1 = b := by omega
  have n3 : ¬ b = w.heap.size := by omega
  have n4 : ¬ b = w.heap.size + 1 := by omega
  have HP : Hid (PenAt w b s p.g p.bad) := hp
  clear hp
  by_cases h0 : p.bad < 0
  · go_enter Tryd.func54, Tryd.ntmps54
    go_wp2
    go_region_with (go_at_call 29; refine (sign_any _ _ _ hs hto).mono ?_; rintro e w1 ⟨rfl, hb⟩; have hB : Below w.heap.size w w1 := ((((Below.refl _ _).alloc (Nat.le_refl _) _).alloc (by simp) _).drew).trans (hb.mono (by simp; omega)); obtain ⟨d0, d1, d2, d3, d4, d5⟩ := (HP.out.below hB).cells; have hf' := (HP.out.below hB).frozen; obtain ⟨m1, m2⟩ := two_new w (.cells #[.int .u8 0, .string { data := #[] }, .int .i64 0, .int .i64 0] 84) (.cells #[.int .u8 p.g.k, .string p.g.t, .int .i64 (p.g.at_ : Int), .int .i64 (p.g.to_ : Int)] 84); obtain ⟨r0, r1, r2, r3, rf⟩ := blk4 ((hb.block w.heap.size (by simp; omega)).trans m1); obtain ⟨t0, t1, t2, t3, tf⟩ := blk4 ((hb.block (w.heap.size + 1) (by simp)).trans m2); clear hb m1 m2; simp only [Sg.val])
    all_goals go_wp2
    all_goals
      refine bodyPost_ret (v := .agg #[.int .u8 p.g.k, .string p.g.t, .int .i64 (p.g.at_ : Int), .int .i64 (p.g.to_ : Int)]) (by simp [results, Tryd.results54, go_sem, r0, r1, r2, r3]) rfl ⟨rfl, ?_, ?_⟩
      · exact ((Kept.of_below b hB).set4 1 2 3 4 _ _ _ _).new4 w.heap.size (Nat.le_refl _) _ _ _ _
      · rw [Pm.next_yes s p h0]
        exact ((HP.out.below hB).sign _).other4 w.heap.size n3 _ _ _ _
  · go_enter Tryd.func54, Tryd.ntmps54
    go_wp2
    refine bodyPost_ret (v := .agg #[.int .u8 p.g.k, .string p.g.t, .int .i64 (p.g.at_ : Int), .int .i64 (p.g.to_ : Int)]) (by simp [results, Tryd.results54, go_sem]) rfl ⟨rfl, ?_, ?_⟩
    · exact Kept.of_below _ (((Below.refl _ _).alloc (Nat.le_refl _) _).alloc (by simp) _)
    · rw [Pm.next_no s p (by omega)]
      exact HP.out.below (((Below.refl _ _).alloc (Nat.le_refl _) _).alloc (by simp) _)

set_option maxHeartbeats 400000 in
theorem need_any (w : World) (b : Nat) (s : ByteArray) (p : Pm.Pn) (t : ByteArray) (hs : s.size ≤ maxLen) (hto : p.g.to_ ≤ s.size) (hp : PenAt w b s p.g p.bad) :
    Calls Tryd.prog 30 #[.pointer (some ⟨b, 0, none⟩), .string t] w fun e w' => e = .returned (Sg.val (Pm.need s p t.toList).1) ∧ Kept b w w' ∧ PenAt w' b s (Pm.need s p t.toList).2.g (Pm.need s p t.toList).2.bad := by
  have hlt := hp.lt
  have n1 : ¬ w.heap.size = b := by omega
  have n3 : ¬ b = w.heap.size := by omega
  have m1 := heap_alloc_new w (.cells #[.int .u8 0, .string { data := #[] }, .int .i64 0, .int .i64 0] 84)
  have hA : Below w.heap.size w (w.alloc (.cells #[.int .u8 0, .string { data := #[] }, .int .i64 0, .int .i64 0] 84)) := (Below.refl _ _).alloc (Nat.le_refl _) _
  have HP := hide (hp.below hA)
  have HM := hide m1
  clear m1 hp
  cases ho : Pm.on p t.toList
  · have HN := hide (Pm.need_no s p t.toList ho)
    go_enter Tryd.func30, Tryd.ntmps30
    go_wp2_with (first | (go_at_call 32; refine (on_any _ b s p t HP.out).mono ?_; rintro e w' ⟨rfl, rfl⟩) | (go_at_call 53; refine (fail_any _ b s p HP.out).mono ?_; rintro e w1 ⟨rfl, hk, hp1⟩; obtain ⟨r0, r1, r2, r3, rf⟩ := blk4 ((hk.block w.heap.size (by simp) n1).trans HM.out); have HK := hide hk; have HP1 := hide hp1; clear hk hp1))
    refine bodyPost_ret (v := .agg #[.int .u8 0, .string { data := #[] }, .int .i64 0, .int .i64 0]) (by simp [results, Tryd.results30, go_sem, r0, r1, r2, r3]) rfl ⟨?_, ?_, ?_⟩
    · rw [HN.out]; rfl
    · exact ((Kept.of_below b hA).trans HK.out).new4 w.heap.size (Nat.le_refl _) _ _ _ _
    · rw [HN.out]; exact HP1.out.other4 w.heap.size n3 _ _ _ _
  · have HN := hide (Pm.need_yes s p t.toList ho)
    go_enter Tryd.func30, Tryd.ntmps30
    go_wp2_with (first | (go_at_call 32; refine (on_any _ b s p t HP.out).mono ?_; rintro e w' ⟨rfl, rfl⟩) | (go_at_call 54; refine (next_any _ b s p hs hto HP.out).mono ?_; rintro e w1 ⟨rfl, hk, hp1⟩; obtain ⟨r0, r1, r2, r3, rf⟩ := blk4 ((hk.block w.heap.size (by simp) n1).trans HM.out); have HK := hide hk; have HP1 := hide hp1; clear hk hp1; simp only [Sg.val]))
    refine bodyPost_ret (v := .agg #[.int .u8 p.g.k, .string p.g.t, .int .i64 (p.g.at_ : Int), .int .i64 (p.g.to_ : Int)]) (by simp [results, Tryd.results30, go_sem, r0, r1, r2, r3]) rfl ⟨?_, ?_, ?_⟩
    · rw [HN.out]; rfl
    · exact ((Kept.of_below b hA).trans HK.out).new4 w.heap.size (Nat.le_refl _) _ _ _ _
    · rw [HN.out]; exact HP1.out.other4 w.heap.size n3 _ _ _ _

end Go.Proofs.YtcijookbgliglaaDoor
