import Derived.Test.YtcijookbgliglaaDoorWc
/- The walks over the document's pen: word, more. -/
namespace Go.Proofs.YtcijookbgliglaaDoor
open Go.RowKit

set_option maxHeartbeats 400000 in
theorem word_any (w : World) (b : Nat) (s : ByteArray) (p : Pm.Pn) (hs : s.size ≤ maxLen) (hto : p.g.to_ ≤ s.size) (hp : PenAt w b s p.g p.bad) :
    Calls Tryd.prog 31 #[.pointer (some ⟨b, 0, none⟩)] w fun e w' => e = .returned (Sg.val (Pm.word s p).1) ∧ Kept b w w' ∧ PenAt w' b s (Pm.word s p).2.g (Pm.word s p).2.bad := by
  have hlt := hp.lt
  have n1 : ¬ w.heap.size = b := by omega
  have n3 : ¬ b = w.heap.size := by omega
  have m1 := heap_alloc_new w (.cells #[.int .u8 0, .string { data := #[] }, .int .i64 0, .int .i64 0] 84)
  have hA : Below w.heap.size w (w.alloc (.cells #[.int .u8 0, .string { data := #[] }, .int .i64 0, .int .i64 0] 84)) := (Below.refl _ _).alloc (Nat.le_refl _) _
  obtain ⟨c0, c1, c2, c3, c4, c5⟩ := hp.cells
  have HP := hide (hp.below hA)
  have HM := hide m1
  clear m1 hp
  by_cases h0 : p.bad < 0
  · by_cases h1 : p.g.k = 119
    · have HN := hide (Pm.word_yes s p (by simp [Pm.isW, h0, h1]))
      have h1b : (p.g.k != 119) = false := by simp [h1]
      clear h1
      go_enter Tryd.func31, Tryd.ntmps31
      go_wp2_with (go_at_call 54; refine (next_any _ b s p hs hto HP.out).mono ?_; rintro e w1 ⟨rfl, hk, hp1⟩; obtain ⟨r0, r1, r2, r3, rf⟩ := blk4 ((hk.block w.heap.size (by simp) n1).trans HM.out); have HK := hide hk; have HP1 := hide hp1; clear hk hp1; simp only [Sg.val])
      refine bodyPost_ret (v := .agg #[.int .u8 p.g.k, .string p.g.t, .int .i64 (p.g.at_ : Int), .int .i64 (p.g.to_ : Int)]) (by simp [results, Tryd.results31, go_sem, r0, r1, r2, r3]) rfl ⟨?_, ?_, ?_⟩
      · rw [HN.out]; rfl
      · exact ((Kept.of_below b hA).trans HK.out).new4 w.heap.size (Nat.le_refl _) _ _ _ _
      · rw [HN.out]; exact HP1.out.other4 w.heap.size n3 _ _ _ _
    · have HN := hide (Pm.word_no s p (by simp [Pm.isW, h1]))
      have h1b : (p.g.k != 119) = true := by simp [h1]
      clear h1
      go_enter Tryd.func31, Tryd.ntmps31
      go_wp2_with (go_at_call 53; refine (fail_any _ b s p HP.out).mono ?_; rintro e w1 ⟨rfl, hk, hp1⟩; obtain ⟨r0, r1, r2, r3, rf⟩ := blk4 ((hk.block w.heap.size (by simp) n1).trans HM.out); have HK := hide hk; have HP1 := hide hp1; clear hk hp1)
      refine bodyPost_ret (v := .agg #[.int .u8 0, .string { data := #[] }, .int .i64 0, .int .i64 0]) (by simp [results, Tryd.results31, go_sem, r0, r1, r2, r3]) rfl ⟨?_, ?_, ?_⟩
      · rw [HN.out]; rfl
      · exact ((Kept.of_below b hA).trans HK.out).new4 w.heap.size (Nat.le_refl _) _ _ _ _
      · rw [HN.out]; exact HP1.out.other4 w.heap.size n3 _ _ _ _
  · have HN := hide (Pm.word_no s p (by simp [Pm.isW, h0]))
    go_enter Tryd.func31, Tryd.ntmps31
    go_wp2_with (go_at_call 53; refine (fail_any _ b s p HP.out).mono ?_; rintro e w1 ⟨rfl, hk, hp1⟩; obtain ⟨r0, r1, r2, r3, rf⟩ := blk4 ((hk.block w.heap.size (by simp) n1).trans HM.out); have HK := hide hk; have HP1 := hide hp1; clear hk hp1)
    refine bodyPost_ret (v := .agg #[.int .u8 0, .string { data := #[] }, .int .i64 0, .int .i64 0]) (by simp [results, Tryd.results31, go_sem, r0, r1, r2, r3]) rfl ⟨?_, ?_, ?_⟩
    · rw [HN.out]; rfl
    · exact ((Kept.of_below b hA).trans HK.out).new4 w.heap.size (Nat.le_refl _) _ _ _ _
    · rw [HN.out]; exact HP1.out.other4 w.heap.size n3 _ _ _ _

set_option maxHeartbeats 400000 in
theorem more_any (w : World) (b : Nat) (s : ByteArray) (p : Pm.Pn) (hs : s.size ≤ maxLen) (hto : p.g.to_ ≤ s.size) (hp : PenAt w b s p.g p.bad) :
    Calls Tryd.prog 55 #[.pointer (some ⟨b, 0, none⟩)] w fun e w' => e = .returned (.bool (Pm.more s p).1) ∧ Kept b w w' ∧ PenAt w' b s (Pm.more s p).2.g (Pm.more s p).2.bad := by
  have HP := hide hp
  clear hp
  cases ho : Pm.on p [44]
  · have HN := hide (Pm.more_no s p ho)
    go_enter Tryd.func55, Tryd.ntmps55
    go_wp2_with (first | (go_at_call 32; refine (on_any _ b s p _ HP.out).mono ?_; rintro e w' ⟨rfl, rfl⟩) | (go_at_call 54; refine (next_any _ b s p hs hto HP.out).mono ?_; rintro e w1 ⟨rfl, hk, hp1⟩; have HK := hide hk; have HP1 := hide hp1; clear hk hp1))
    go_ret
    rw [HN.out]
    exact ⟨rfl, Kept.refl _ _, HP.out⟩
  · have HN := hide (Pm.more_yes s p ho)
    go_enter Tryd.func55, Tryd.ntmps55
    go_wp2_with (first | (go_at_call 32; refine (on_any _ b s p _ HP.out).mono ?_; rintro e w' ⟨rfl, rfl⟩) | (go_at_call 54; refine (next_any _ b s p hs hto HP.out).mono ?_; rintro e w1 ⟨rfl, hk, hp1⟩; have HK := hide hk; have HP1 := hide hp1; clear hk hp1))
    go_ret
    rw [HN.out]
    exact ⟨rfl, HK.out, HP1.out⟩

end Go.Proofs.YtcijookbgliglaaDoor
